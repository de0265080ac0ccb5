/-
  OWN TEXT: what Same of package float and math.Signbit return, for every float.
-/
import Derived.Test.YtjfkdmddfeeheaaJFnToFnStairs
namespace Go.Proofs.Ytjfkdmddfeeheaa
open Go.ChangeShapes Go.WideShapes Go.ChangeAt Go.RowKit
attribute [local go_sem] frombits_call tobits_call run_neg
theorem sameB_bits (x y : Nat) : ((Fl.bitsF x : Int) == Fl.bitsF y) = Fl.sameB x y := by
  rw [Bool.eq_iff_iff]
  unfold Fl.sameB Fl.bitsF
  cases h1 : Fl.nan x <;> cases h2 : Fl.nan y <;> simp
  · omega
  · intro e; have : x = 9221120237041090560 := by omega
    subst this; simp [Fl.nan, Fl.rg] at h1
  · intro e; have : y = 9221120237041090560 := by omega
    subst this; simp [Fl.nan, Fl.rg] at h2
theorem same_any (x y : Nat) (w : World) : Calls Try.prog 102 #[.float .f64 x, .float .f64 y] w fun e w' => e = .returned (.bool (Fl.sameB x y)) ∧ w' = w := by
  go_enter Try.func102, Try.ntmps102
  go_wp2_with (go_at_call 118; refine (bits_any _ _).mono ?_; rintro e w' ⟨rfl, rfl⟩)
  go_ret
  exact ⟨rb (sameB_bits x y), rfl⟩
theorem signbit_any (x : Nat) (w : World) (hx : x < 18446744073709551616) : Calls Try.prog 106 #[.float .f64 x] w fun e w' => e = .returned (.bool (Fl.sg x)) ∧ w' = w := by
  go_enter Try.func106, Try.ntmps106
  go_wp2
  go_ret
  refine ⟨rb ?_, rfl⟩
  show decide (wrap64 (x : Int) < 0) = Fl.sg x
  rw [Fl.sg_lt hx, decide_eq_decide]
  unfold wrap64
  omega
end Go.Proofs.Ytjfkdmddfeeheaa
/-
  OWN TEXT: what Same, Minus, Signed and the reference of layer 1 return, for every float.
-/
namespace Go.Proofs.Ytjfkdmddfeeheaa
open Go.ChangeShapes Go.WideShapes Go.ChangeAt Go.RowKit
attribute [local go_sem] frombits_call tobits_call run_neg
theorem none_any (x : Nat) (w : World) : Calls Try.prog 50 #[.float .f64 x] w fun e w' => e = .returned (.bool (Fl.nan x)) ∧ w' = w := by
  go_enter Try.func50, Try.ntmps50
  go_wp2
  go_ret
  exact ⟨rb (by rw [Fl.o_ne, Fl.eqF_self]; simp), rfl⟩
theorem rsame_any (x y : Nat) (w : World) : Calls Try.prog 23 #[.float .f64 x, .float .f64 y] w fun e w' => e = .returned (.bool (Fl.sameB x y)) ∧ w' = w := by
  cases h1 : Fl.nan x <;> cases h2 : Fl.nan y
  all_goals
    go_enter Try.func23, Try.ntmps23
    go_wp2_with (go_at_call 50; refine (none_any _ _).mono ?_; rintro e w' ⟨rfl, rfl⟩)
    go_ret
    refine ⟨rb ?_, rfl⟩
    simp [Fl.sameB, h1, h2]
  rw [Bool.eq_iff_iff]; simp; omega
theorem endless_any (x : Nat) (w : World) : Calls Try.prog 80 #[.float .f64 x] w fun e w' => e = .returned (.bool (decide (Fl.rg x = 9218868437227405312))) ∧ w' = w := by
  have k1 : Fl.ltF 9218868437227405311 x = (!Fl.nan x && decide (9218868437227405311 < Fl.key x)) := by
    unfold Fl.ltF; rw [show Fl.nan 9218868437227405311 = false from by decide, show Fl.key 9218868437227405311 = 9218868437227405311 from by decide]; simp
  have k2 : Fl.ltF x 18442240474082181119 = (!Fl.nan x && decide (Fl.key x < -9218868437227405311)) := by
    unfold Fl.ltF; rw [show Fl.nan 18442240474082181119 = false from by decide, show Fl.key 18442240474082181119 = -9218868437227405311 from by decide]; simp
  have e : ∀ a b : Bool, Fl.ltF 9218868437227405311 x = a → Fl.ltF x 18442240474082181119 = b → (a || b) = decide (Fl.rg x = 9218868437227405312) := by
    intro a b ha hb
    rw [← ha, ← hb, k1, k2]
    rw [Bool.eq_iff_iff]
    have hk := Fl.key_cases x
    simp only [Fl.nan, Bool.or_eq_true, Bool.and_eq_true, Bool.not_eq_true', decide_eq_true_eq, decide_eq_false_iff_not]
    omega
  cases h1 : Fl.ltF 9218868437227405311 x <;> cases h2 : Fl.ltF x 18442240474082181119
  all_goals
    have g1 := Fl.o_gt x 9218868437227405311
    have g2 := Fl.o_lt x 18442240474082181119
    rw [h1] at g1
    rw [h2] at g2
    go_enter Try.func80, Try.ntmps80
    go_wp2
    go_ret
    exact ⟨rb (e _ _ h1 h2), rfl⟩
theorem rfinite_any (x : Nat) (w : World) : Calls Try.prog 49 #[.float .f64 x] w fun e w' => e = .returned (.bool (Fl.finB x)) ∧ w' = w := by
  cases h1 : Fl.nan x <;> cases h2 : decide (Fl.rg x = 9218868437227405312)
  all_goals
    go_enter Try.func49, Try.ntmps49
    go_wp2_with (first | (go_at_call 50; refine (none_any _ _).mono ?_; rintro e w' ⟨rfl, rfl⟩) | (go_at_call 80; refine (endless_any _ _).mono ?_; rintro e w' ⟨rfl, rfl⟩))
    go_ret
    refine ⟨rb ?_, rfl⟩
    rw [Bool.eq_iff_iff]
    simp [Fl.finB, Fl.nan] at *
    try omega
/-- a with b's sign, as the reference has it -/
def rsignedF (x y : Nat) : Nat := if Fl.minusB x != Fl.minusB y && !Fl.nan x then Fl.ng x else x
/-- a with b's sign, as the program has it -/
def signedF (x y : Nat) : Nat := if Fl.minusB y then Fl.ng (Fl.rg x) else Fl.rg x
theorem same_signed (x y : Nat) (hx : x < 18446744073709551616) : Fl.sameB (signedF x y) (rsignedF x y) = true := by
  have hl := Fl.rg_lt x
  have hs := Fl.sg_lt hx
  have e1 : Fl.nan (signedF x y) = Fl.nan x := by unfold signedF; split <;> simp [Fl.nan_ng, Fl.nan_rg]
  have e2 : Fl.nan (rsignedF x y) = Fl.nan x := by unfold rsignedF; split <;> simp [Fl.nan_ng]
  unfold Fl.sameB
  rw [e1, e2]
  cases hn : Fl.nan x
  · simp only [Bool.false_and, Bool.not_false, Bool.true_and, Bool.false_or, decide_eq_true_eq]
    unfold signedF rsignedF
    rw [show Fl.minusB x = decide (9223372036854775808 ≤ x) by simp [Fl.minusB, hn, hs]]
    have hr : Fl.rg x = if 9223372036854775808 ≤ x then x - 9223372036854775808 else x := by unfold Fl.rg; split <;> omega
    rw [hr, hn]
    unfold Fl.ng
    cases Fl.minusB y <;> by_cases h : 9223372036854775808 ≤ x <;> simp [h] <;> omega
  · rfl
end Go.Proofs.Ytjfkdmddfeeheaa
