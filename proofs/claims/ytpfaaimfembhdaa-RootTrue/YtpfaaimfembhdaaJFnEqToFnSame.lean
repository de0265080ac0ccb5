/-
  OWN TEXT: what Same of package float and math.Signbit return, for every float.
-/
import Derived.Test.YtpfaaimfembhdaaJFnToFnStairs
namespace Go.Proofs.Ytpfaaimfembhdaa
open Go.ChangeShapes Go.WideShapes Go.ChangeAt Go.RowKit
attribute [local go_sem] frombits_call tobits_call run_neg
theorem sameB_bits (x y : Nat) : ((Fl.bitsF x : Int) == Fl.bitsF y) = Fl.sameB x y := by
  rw [Bool.eq_iff_iff]
  unfold Fl.sameB Fl.bitsF
  cases h1 : Fl.nan x <;> cases h2 : Fl.nan y <;> simp
  · omega
  · intro e; have : x = 9221120237041090560 := by omega
    subst this; simp [Fl.nan, Fl.rg] at h1
  · intro e; have : y = 9221120237041090560 := by omega
    subst this; simp [Fl.nan, Fl.rg] at h2
end Go.Proofs.Ytpfaaimfembhdaa
/-
  OWN TEXT: what Same, Minus, Signed and the reference of layer 1 return, for every float.
-/
namespace Go.Proofs.Ytpfaaimfembhdaa
open Go.ChangeShapes Go.WideShapes Go.ChangeAt Go.RowKit
attribute [local go_sem] frombits_call tobits_call run_neg
theorem none_any (x : Nat) (w : World) : Calls Try.prog 84 #[.float .f64 x] w fun e w' => e = .returned (.bool (Fl.nan x)) ∧ w' = w := by
  go_enter Try.func84, Try.ntmps84
  go_wp2
  go_ret
  exact ⟨rb (by rw [Fl.o_ne, Fl.eqF_self]; simp), rfl⟩
theorem minus_any (x : Nat) (w : World) (hx : x < 18446744073709551616) : Calls Try.prog 59 #[.float .f64 x] w fun e w' => e = .returned (.bool (Fl.minusB x)) ∧ w' = w := by
  go_enter Try.func59, Try.ntmps59
  go_wp2_with (go_at_call 72; refine (bits_any _ _).mono ?_; rintro e w' ⟨rfl, rfl⟩)
  go_ret
  exact ⟨rb (by
    show (bits BinOp.and IntKind.u64 (↑(Fl.bitsF x)) 9223372036854775808 != 0) = _
    rw [Fl.sign_bits (Fl.bitsF_lt hx)]
    unfold Fl.minusB Fl.bitsF
    cases h : Fl.nan x <;> simp; decide), rfl⟩
theorem rsame_any (x y : Nat) (w : World) : Calls Try.prog 65 #[.float .f64 x, .float .f64 y] w fun e w' => e = .returned (.bool (Fl.sameB x y)) ∧ w' = w := by
  cases h1 : Fl.nan x <;> cases h2 : Fl.nan y
  all_goals
    go_enter Try.func65, Try.ntmps65
    go_wp2_with (go_at_call 84; refine (none_any _ _).mono ?_; rintro e w' ⟨rfl, rfl⟩)
    go_ret
    refine ⟨rb ?_, rfl⟩
    simp [Fl.sameB, h1, h2]
  rw [Bool.eq_iff_iff]; simp; omega
/-- a with b's sign, as the reference has it -/
def rsignedF (x y : Nat) : Nat := if Fl.minusB x != Fl.minusB y && !Fl.nan x then Fl.ng x else x
/-- a with b's sign, as the program has it -/
def signedF (x y : Nat) : Nat := if Fl.minusB y then Fl.ng (Fl.rg x) else Fl.rg x
theorem signed_any (x y : Nat) (w : World) (hx : x < 18446744073709551616) (hy : y < 18446744073709551616) : Calls Try.prog 44 #[.float .f64 x, .float .f64 y] w fun e w' => e = .returned (.float .f64 (signedF x y)) ∧ w' = w := by
  have hn := Fl.neg_eq (x := Fl.rg x) (by have := Fl.rg_lt x; omega)
  cases h2 : Fl.minusB y
  all_goals
    go_enter Try.func44, Try.ntmps44
    go_wp2_with (first | (go_at_call 43; refine (abs_any _ _ (by assumption)).mono ?_; rintro e w' ⟨rfl, rfl⟩) | (go_at_call 59; refine (minus_any _ _ (by assumption)).mono ?_; rintro e w' ⟨rfl, rfl⟩))
    go_ret
    exact ⟨rf (by simp [signedF, h2]), rfl⟩
theorem same_signed (x y : Nat) (hx : x < 18446744073709551616) : Fl.sameB (signedF x y) (rsignedF x y) = true := by
  have hl := Fl.rg_lt x
  have hs := Fl.sg_lt hx
  have e1 : Fl.nan (signedF x y) = Fl.nan x := by unfold signedF; split <;> simp [Fl.nan_ng, Fl.nan_rg]
  have e2 : Fl.nan (rsignedF x y) = Fl.nan x := by unfold rsignedF; split <;> simp [Fl.nan_ng]
  unfold Fl.sameB
  rw [e1, e2]
  cases hn : Fl.nan x
  · simp only [Bool.false_and, Bool.not_false, Bool.true_and, Bool.false_or, decide_eq_true_eq]
    unfold signedF rsignedF
    rw [show Fl.minusB x = decide (9223372036854775808 ≤ x) by simp [Fl.minusB, hn, hs]]
    have hr : Fl.rg x = if 9223372036854775808 ≤ x then x - 9223372036854775808 else x := by unfold Fl.rg; split <;> omega
    rw [hr, hn]
    unfold Fl.ng
    cases Fl.minusB y <;> by_cases h : 9223372036854775808 ≤ x <;> simp [h] <;> omega
  · rfl
end Go.Proofs.Ytpfaaimfembhdaa
