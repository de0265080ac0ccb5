/-
  OWN TEXT: what Up and Down of package float return, for every float.
-/
import Derived.Test.YtpfgboinjjobpaaFn
namespace Go.Proofs.Ytpfgboinjjobpaa
open Go.ChangeShapes Go.WideShapes Go.ChangeAt Go.RowKit
attribute [local go_sem] frombits_call tobits_call run_neg
/-- the least word above -/
def upF (x : Nat) : Nat :=
  if Fl.nan x then x else if x = 9218868437227405312 then x else if Fl.rg x = 0 then 1 else if 9223372036854775808 ≤ x then x - 1 else x + 1
theorem upF_lt {x : Nat} (hx : x < 18446744073709551616) : upF x < 18446744073709551616 := by
  unfold upF
  by_cases h1 : Fl.nan x = true
  · rw [if_pos h1]; exact hx
  · rw [if_neg h1]
    have h2 := Fl.nan_le (Bool.eq_false_iff.2 h1)
    have h3 := Fl.sg_key hx
    repeat' split
    all_goals omega
theorem up_tests {x : Nat} (hx : x < 18446744073709551616) (hn : Fl.nan x = false) :
    Fl.ltF 9218868437227405311 x = decide (x = 9218868437227405312) ∧ Fl.eqF x 0 = decide (Fl.rg x = 0) ∧ Fl.ltF x 0 = decide (9223372036854775808 < x) := by
  have hk := Fl.sg_key hx
  have hl := Fl.nan_le hn
  unfold Fl.ltF Fl.eqF
  rw [hn, show Fl.nan 9218868437227405311 = false from by decide, show Fl.key 9218868437227405311 = 9218868437227405311 from by decide, show Fl.nan 0 = false from by decide, show Fl.key 0 = 0 from by decide]
  simp only [Bool.not_false, Bool.true_and, decide_eq_decide]
  refine ⟨?_, ?_, ?_⟩ <;> omega
theorem up_any (x : Nat) (w : World) (hx : x < 18446744073709551616) : Calls Try.prog 40 #[.float .f64 x] w fun e w' => e = .returned (.float .f64 (upF x)) ∧ w' = w := by
  cases hn : Fl.nan x
  · obtain ⟨t1, t2, t3⟩ := up_tests hx hn
    have g1 := Fl.o_gt x 9218868437227405311
    have g2 := Fl.o_eq x 0
    have g3 := Fl.o_lt x 0
    rw [t1] at g1; rw [t2] at g2; rw [t3] at g3
    have hb : Fl.bitsF x = x := by simp [Fl.bitsF, hn]
    have hl := Fl.nan_le hn
    have hk := Fl.sg_key hx
    clear t1 t2 t3
    by_cases c1 : x = 9218868437227405312
    · have H1 : Hid (upF x = x) := by show upF x = x; simp [upF, c1]
      simp only [c1, decide_true] at g1
      rw [← c1] at g1
      clear c1 g2 g3 hl hk
      go_enter Try.func40, Try.ntmps40
      go_wp2_with (first | (go_at_call 52; refine (isNone_any _ _).mono ?_; rintro e w' ⟨rfl, rfl⟩) | (go_at_call 54; refine (bits_any _ _).mono ?_; rintro e w' ⟨rfl, rfl⟩) | (go_at_call 53; refine (from_any _ _).mono ?_; rintro e w' ⟨rfl, rfl⟩))
      go_ret
      exact ⟨rf H1.out.symm, rfl⟩
    · simp only [c1, decide_false] at g1
      by_cases c2 : Fl.rg x = 0
      · have H1 : Hid (upF x = 1) := by show upF x = 1; simp [upF, hn, c1, c2]
        simp only [c2, decide_true] at g2
        clear c1 c2 g3 hl hk
        go_enter Try.func40, Try.ntmps40
        go_wp2_with (first | (go_at_call 52; refine (isNone_any _ _).mono ?_; rintro e w' ⟨rfl, rfl⟩) | (go_at_call 54; refine (bits_any _ _).mono ?_; rintro e w' ⟨rfl, rfl⟩) | (go_at_call 53; refine (from_any _ _).mono ?_; rintro e w' ⟨rfl, rfl⟩))
        go_ret
        exact ⟨rf H1.out.symm, rfl⟩
      · simp only [c2, decide_false] at g2
        by_cases c3 : 9223372036854775808 < x
        · have H1 : Hid (upF x = x - 1) := by show upF x = x - 1; simp [upF, hn, c1, c2]; omega
          simp only [c3, decide_true] at g3
          clear c1 c2 hl hk
          go_enter Try.func40, Try.ntmps40
          go_wp2_with (first | (go_at_call 52; refine (isNone_any _ _).mono ?_; rintro e w' ⟨rfl, rfl⟩) | (go_at_call 54; refine (bits_any _ _).mono ?_; rintro e w' ⟨rfl, rfl⟩) | (go_at_call 53; refine (from_any _ _).mono ?_; rintro e w' ⟨rfl, rfl⟩))
          go_ret
          exact ⟨rf H1.out.symm, rfl⟩
        · simp only [c3, decide_false] at g3
          have H1 : Hid (upF x = x + 1) := by show upF x = x + 1; simp [upF, hn, c1, c2]; omega
          clear c1 c2 hk
          go_enter Try.func40, Try.ntmps40
          go_wp2_with (first | (go_at_call 52; refine (isNone_any _ _).mono ?_; rintro e w' ⟨rfl, rfl⟩) | (go_at_call 54; refine (bits_any _ _).mono ?_; rintro e w' ⟨rfl, rfl⟩) | (go_at_call 53; refine (from_any _ _).mono ?_; rintro e w' ⟨rfl, rfl⟩))
          go_ret
          exact ⟨rf H1.out.symm, rfl⟩
  · have H1 : Hid (upF x = x) := by show upF x = x; simp [upF, hn]
    go_enter Try.func40, Try.ntmps40
    go_wp2_with (first | (go_at_call 52; refine (isNone_any _ _).mono ?_; rintro e w' ⟨rfl, rfl⟩))
    go_ret
    exact ⟨rf H1.out.symm, rfl⟩
/-- the greatest word below -/
def downF (x : Nat) : Nat := Fl.ng (upF (Fl.ng x))
end Go.Proofs.Ytpfgboinjjobpaa
