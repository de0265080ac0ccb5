/-
  OWN TEXT: what Up and Down of the reference return, for every float.
-/
import Derived.Test.YtldkohoemiahiaaDoorFnUp
import Derived.Test.YtldkohoemiahiaaDoorFnSame
namespace Go.Proofs.YtldkohoemiahiaaDoor
open Go.ChangeShapes Go.WideShapes Go.ChangeAt Go.RowKit
set_option linter.unusedVariables false
attribute [local go_sem] frombits_call tobits_call run_neg
theorem gt_nought {x : Nat} (hx : x < 18446744073709551616) (hn : Fl.nan x = false) (hz : ¬ Fl.rg x = 0) : Fl.ltF 0 x = decide (x < 9223372036854775808) := by
  have hk := Fl.sg_key hx
  have hl := Fl.nan_le hn
  unfold Fl.ltF
  rw [hn, show Fl.nan 0 = false from by decide, show Fl.key 0 = 0 from by decide]
  simp only [Bool.not_false, Bool.true_and, decide_eq_decide]
  omega
theorem rup_any (x : Nat) (w : World) (hx : x < 18446744073709551616) : Calls Tryd.prog 9 #[.float .f64 x] w fun e w' => e = .returned (.float .f64 (upF x)) ∧ w' = w := by
  cases hn : Fl.nan x
  · obtain ⟨t1, t2, t3⟩ := up_tests hx hn
    have g1 := Fl.o_gt x 9218868437227405311
    have g2 := Fl.o_eq x 0
    have g3 := Fl.o_gt x 0
    rw [t1] at g1; rw [t2] at g2
    have hl := Fl.nan_le hn
    have hk := Fl.sg_key hx
    clear t1 t2 t3
    by_cases c1 : x = 9218868437227405312
    · have H1 : Hid (upF x = x) := by show upF x = x; simp [upF, c1]
      simp only [c1, decide_true] at g1
      rw [← c1] at g1
      clear c1 g2 g3 hl hk
      go_enter Tryd.func9, Tryd.ntmps9
      go_wp2_with (first | (go_at_call 19; refine (none_any _ _).mono ?_; rintro e w' ⟨rfl, rfl⟩))
      go_ret
      exact ⟨rf H1.out.symm, rfl⟩
    · simp only [c1, decide_false] at g1
      by_cases c2 : Fl.rg x = 0
      · have H1 : Hid (upF x = 1) := by show upF x = 1; simp [upF, hn, c1, c2]
        simp only [c2, decide_true] at g2
        clear c1 c2 g3 hl hk
        go_enter Tryd.func9, Tryd.ntmps9
        go_wp2_with (first | (go_at_call 19; refine (none_any _ _).mono ?_; rintro e w' ⟨rfl, rfl⟩))
        go_ret
        exact ⟨rf H1.out.symm, rfl⟩
      · rw [gt_nought hx hn c2] at g3
        simp only [c2, decide_false] at g2
        by_cases c3 : x < 9223372036854775808
        · simp only [c3, decide_true] at g3
          have H1 : Hid (upF x = x + 1) := by show upF x = x + 1; simp [upF, hn, c1, c2]; omega
          clear c1 c2 hk
          go_enter Tryd.func9, Tryd.ntmps9
          go_wp2_with (first | (go_at_call 19; refine (none_any _ _).mono ?_; rintro e w' ⟨rfl, rfl⟩))
          go_ret
          exact ⟨rf H1.out.symm, rfl⟩
        · simp only [c3, decide_false] at g3
          have hx0 : (1 : Int) ≤ (x : Int) := by omega
          have H1 : Hid (upF x = x - 1) := by show upF x = x - 1; simp [upF, hn, c1, c2]; omega
          clear c1 c2 hl hk
          go_enter Tryd.func9, Tryd.ntmps9
          go_wp2_with (first | (go_at_call 19; refine (none_any _ _).mono ?_; rintro e w' ⟨rfl, rfl⟩))
          go_ret
          exact ⟨rf H1.out.symm, rfl⟩
  · have H1 : Hid (upF x = x) := by show upF x = x; simp [upF, hn]
    go_enter Tryd.func9, Tryd.ntmps9
    go_wp2_with (first | (go_at_call 19; refine (none_any _ _).mono ?_; rintro e w' ⟨rfl, rfl⟩))
    go_ret
    exact ⟨rf H1.out.symm, rfl⟩
theorem rdown_any (x : Nat) (w : World) (hx : x < 18446744073709551616) : Calls Tryd.prog 11 #[.float .f64 x] w fun e w' => e = .returned (.float .f64 (downF x)) ∧ w' = w := by
  have h1 := Fl.neg_eq hx
  have h2 := Fl.neg_eq (upF_lt (Fl.ng_lt hx))
  have hl := Fl.ng_lt hx
  go_enter Tryd.func11, Tryd.ntmps11
  go_wp2_with (go_at_call 9; refine (rup_any _ _ (by assumption)).mono ?_; rintro e w' ⟨rfl, rfl⟩)
  go_ret
  exact ⟨rfl, rfl⟩
end Go.Proofs.YtldkohoemiahiaaDoor
