/-
  OWN TEXT: what Same, Minus, Signed and the reference of layer 1 return, for every float.
-/
import Derived.Test.YtmbjgakehghdjaaJak
import Derived.Test.YtmbjgakehghdjaaJah
import Derived.Test.YtmbjgakehghdjaaJaj
import Derived.Laws.Cover3
import Derived.Test.YtmbjgakehghdjaaJae
namespace Go.Proofs.Ytmbjgakehghdjaa
open Go.ChangeShapes Go.WideShapes Go.ChangeAt Go.RowKit
attribute [local go_sem] frombits_call tobits_call run_neg
theorem none_any (x : Nat) (w : World) : Calls Try.prog 83 #[.float .f64 x] w fun e w' => e = .returned (.bool (Fl.nan x)) ∧ w' = w := by
  go_enter Try.func83, Try.ntmps83
  go_wp2
  go_ret
  exact ⟨rb (by rw [Fl.o_ne, Fl.eqF_self]; simp), rfl⟩
theorem rsame_any (x y : Nat) (w : World) : Calls Try.prog 80 #[.float .f64 x, .float .f64 y] w fun e w' => e = .returned (.bool (Fl.sameB x y)) ∧ w' = w := by
  cases h1 : Fl.nan x <;> cases h2 : Fl.nan y
  all_goals
    go_enter Try.func80, Try.ntmps80
    go_wp2_with (go_at_call 83; refine (none_any _ _).mono ?_; rintro e w' ⟨rfl, rfl⟩)
    go_ret
    refine ⟨rb ?_, rfl⟩
    simp [Fl.sameB, h1, h2]
  rw [Bool.eq_iff_iff]; simp; omega
/-- a with b's sign, as the reference has it -/
def rsignedF (x y : Nat) : Nat := if Fl.minusB x != Fl.minusB y && !Fl.nan x then Fl.ng x else x
/-- a with b's sign, as the program has it -/
def signedF (x y : Nat) : Nat := if Fl.minusB y then Fl.ng (Fl.rg x) else Fl.rg x
theorem same_signed (x y : Nat) (hx : x < 18446744073709551616) : Fl.sameB (signedF x y) (rsignedF x y) = true := by
  have hl := Fl.rg_lt x
  have hs := Fl.sg_lt hx
  have e1 : Fl.nan (signedF x y) = Fl.nan x := by unfold signedF; split <;> simp [Fl.nan_ng, Fl.nan_rg]
  have e2 : Fl.nan (rsignedF x y) = Fl.nan x := by unfold rsignedF; split <;> simp [Fl.nan_ng]
  unfold Fl.sameB
  rw [e1, e2]
  cases hn : Fl.nan x
  · simp only [Bool.false_and, Bool.not_false, Bool.true_and, Bool.false_or, decide_eq_true_eq]
    unfold signedF rsignedF
    rw [show Fl.minusB x = decide (9223372036854775808 ≤ x) by simp [Fl.minusB, hn, hs]]
    have hr : Fl.rg x = if 9223372036854775808 ≤ x then x - 9223372036854775808 else x := by unfold Fl.rg; split <;> omega
    rw [hr, hn]
    unfold Fl.ng
    cases Fl.minusB y <;> by_cases h : 9223372036854775808 ≤ x <;> simp [h] <;> omega
  · rfl
end Go.Proofs.Ytmbjgakehghdjaa
/-
  OWN TEXT: the root of a float (math.Sqrt); math.Inf(1), math.NaN.
-/
namespace Go.Proofs.Ytmbjgakehghdjaa
open Go.ChangeShapes Go.WideShapes Go.ChangeAt Go.RowKit
set_option linter.unusedVariables false
attribute [local go_sem] frombits_call tobits_call run_neg
theorem sqrt_lt {x r : Nat} (h : Ieee.double.sqrt x = some r) : r < 18446744073709551616 := by
  unfold Ieee.Format.sqrt at h
  cases e : (Ieee.double.read x).root (Ieee.double.fractionBits + 2) with
  | none => rw [e] at h; cases h
  | some d =>
    rw [e] at h
    have hr : Ieee.double.write d = r := Option.some.inj h
    cases d with
    | number s m i =>
      obtain ⟨q, hq, hw⟩ := Fl.write_num s m i
      rw [hw] at hr
      rw [← hr]; exact Fl.wd_lt _ _ (by omega)
    | infinity s => rw [← hr]; cases s <;> decide
    | nan s t =>
      exfalso
      unfold Ieee.Datum.root at e
      split at e <;> (try (split at e)) <;> (try (split at e)) <;> cases e
theorem nan6 (w : World) : Calls Try.prog 10 #[] w fun e w' => e = .returned (.float .f64 9221120237041090561) ∧ w' = w := by
  go_enter Try.func10, Try.ntmps10
  go_wp2
  go_ret
  exact ⟨rfl, rfl⟩
end Go.Proofs.Ytmbjgakehghdjaa
/-
  OWN TEXT: two complex numbers are the same (eddyref02.Same, eddylaw06.same).
-/
namespace Go.Proofs.Ytmbjgakehghdjaa
open Go.ChangeShapes Go.WideShapes Go.ChangeAt Go.RowKit
set_option linter.unusedVariables false
attribute [local go_sem] frombits_call tobits_call run_neg
theorem rsame2_any (a b c d : Nat) (w : World) : Calls Try.prog 70 #[.complex .f64 a b, .complex .f64 c d] w fun e w' => e = .returned (.bool (Fl.sameB a c && Fl.sameB b d)) ∧ w' = w := by
  have FA : Hid (∀ wz, Calls Try.prog 80 #[.float .f64 a, .float .f64 c] wz fun e w' => e = .returned (.bool (Fl.sameB a c)) ∧ w' = wz) := fun wz => rsame_any a c wz
  have FB : Hid (∀ wz, Calls Try.prog 80 #[.float .f64 b, .float .f64 d] wz fun e w' => e = .returned (.bool (Fl.sameB b d)) ∧ w' = wz) := fun wz => rsame_any b d wz
  generalize Fl.sameB a c = x at *
  generalize Fl.sameB b d = y at *
  cases x
  · go_enter Try.func70, Try.ntmps70
    go_wp2_with fail
    refine (FA.out _).mono ?_
    rintro e' w ⟨rfl, rfl⟩
    go_wp2
    go_ret
    exact ⟨rfl, rfl⟩
  · go_enter Try.func70, Try.ntmps70
    go_wp2_with fail
    refine (FA.out _).mono ?_
    rintro e' w ⟨rfl, rfl⟩
    go_wp2_with fail
    refine (FB.out _).mono ?_
    rintro e' w ⟨rfl, rfl⟩
    go_wp2
    go_ret
    exact ⟨by cases y <;> rfl, rfl⟩
end Go.Proofs.Ytmbjgakehghdjaa
