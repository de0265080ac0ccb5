/-
  OWN TEXT: what Whole of the reference returns, for every float.
-/
import Derived.Test.YtmbjgakehghdjaaJam
import Derived.Test.YtmbjgakehghdjaaJag
namespace Go.Proofs.Ytmbjgakehghdjaa
open Go.ChangeShapes Go.WideShapes Go.ChangeAt Go.RowKit
set_option linter.unusedVariables false
attribute [local go_sem] frombits_call tobits_call run_neg
/-- whether it is too great for a part behind the point -/
theorem great_tests (x : Nat) (hx : x < 18446744073709551616) (hn : Fl.nan x = false) :
    Fl.leF 4841369599423283200 x = (!Fl.sg x && decide (4841369599423283200 ≤ Fl.rg x)) ∧ Fl.leF x 14064741636278059008 = (Fl.sg x && decide (4841369599423283200 ≤ Fl.rg x)) ∧ (¬ Fl.rg x = 0 → Fl.ltF x 0 = Fl.sg x) := by
  have hl := Fl.nan_le hn
  have hk := Fl.key_wd (Fl.sg x) (Fl.rg x) (by omega)
  rw [Fl.wd_self hx] at hk
  unfold Fl.leF Fl.ltF
  rw [hn, hk, show Fl.nan 4841369599423283200 = false from by decide, show Fl.nan 14064741636278059008 = false from by decide, show Fl.nan 0 = false from by decide, show Fl.key 4841369599423283200 = 4841369599423283200 from by decide, show Fl.key 14064741636278059008 = -4841369599423283200 from by decide, show Fl.key 0 = 0 from by decide]
  cases Fl.sg x
  · simp only [Bool.not_false, Bool.true_and, Bool.false_and, Bool.false_eq_true, if_false, decide_eq_false_iff_not, decide_eq_decide]
    refine ⟨?_, ?_, ?_⟩ <;> omega
  · simp only [Bool.not_false, Bool.not_true, Bool.true_and, Bool.false_and, if_true, decide_eq_false_iff_not, decide_eq_decide, decide_eq_true_eq]
    refine ⟨?_, ?_, ?_⟩ <;> omega
/-- what is not changed by being made whole -/
theorem wh_stay (x c : Nat) (hc : c = 1074) (hx : x < 18446744073709551616) (hn : Fl.nan x = false) (h : Fl.rg x = 0 ∨ 4841369599423283200 ≤ Fl.rg x) : Fl.whF x = x := by
  by_cases hi : Fl.rg x < 9218868437227405312
  · rw [Fl.whF_fin c hc hi]
    rcases h with h | h
    · rw [h, show Fl.vl 0 = 0 by decide, show Fl.rne 0 c = 0 by unfold Fl.rne; simp, Nat.zero_mul, show Fl.rq 0 0 = 0 from rfl]
      have := Fl.wd_self hx
      rw [h] at this
      exact this
    · have hv := Fl.vl_big (r := Fl.rg x) (by omega)
      obtain ⟨j, hj⟩ : ∃ j, Fl.rg x / 4503599627370496 - 1 = j + c := ⟨Fl.rg x / 4503599627370496 - 1 - c, by omega⟩
      rw [hj, Nat.pow_add, ← Nat.mul_assoc] at hv
      rw [hv, Fl.rne_exact, ← hv, Fl.rq_vl _ (by omega)]
      exact Fl.wd_self hx
  · have hl := Fl.nan_le hn
    have e : Fl.rg x = 9218868437227405312 := by omega
    unfold Fl.whF
    rw [Fl.read_inf e]
    show Ieee.double.write (.infinity (Fl.sg x)) = x
    have := Fl.wd_self hx
    rw [e] at this
    rw [← this, Fl.sg_wd _ _ (by omega)]
    cases Fl.sg x <;> rfl
theorem rsigned_pos (r x : Nat) (hr : r ≤ 9218868437227405312) (hn : Fl.nan x = false) : rsignedF (Fl.wd false r) x = Fl.wd (Fl.sg x) r := by
  have n1 : Fl.nan (Fl.wd false r) = false := by unfold Fl.nan; rw [Fl.rg_wd _ _ (by omega)]; exact decide_eq_false (by omega)
  have s1 : Fl.sg (Fl.wd false r) = false := Fl.sg_wd _ _ (by omega)
  have e1 : Fl.ng (Fl.wd false r) = Fl.wd true r := by
    rw [Fl.wd_false]
    unfold Fl.ng Fl.wd
    rw [if_pos (by omega), if_pos rfl, Nat.add_comm]
  unfold rsignedF Fl.minusB
  rw [n1, hn, s1, e1]
  cases Fl.sg x
  · rw [if_neg (by decide)]
  · rw [if_pos (by decide)]
end Go.Proofs.Ytmbjgakehghdjaa
/-
  OWN TEXT: the reference's float made whole (eddyref01.Whole), for every float.
-/
namespace Go.Proofs.Ytmbjgakehghdjaa
open Go.ChangeShapes Go.WideShapes Go.ChangeAt Go.RowKit
set_option linter.unusedVariables false
theorem same_self (z : Nat) : Fl.sameB z z = true := by unfold Fl.sameB; simp
end Go.Proofs.Ytmbjgakehghdjaa
/-
  OWN TEXT: the reference's quarters, sines, cosines (eddyref05.Quarter, Turn), for every float.
-/
namespace Go.Proofs.Ytmbjgakehghdjaa
open Go.ChangeShapes Go.WideShapes Go.ChangeAt Go.RowKit
set_option linter.unusedVariables false
attribute [local go_sem] frombits_call tobits_call run_neg
def lesQ (x m a b c : Nat) : Nat → Nat → Prop
  | 0, y => y = x
  | 1, y => ∃ p, opR .mul m a p ∧ opR .sub x p y
  | 2, y => ∃ p d q, opR .mul m a p ∧ opR .sub x p d ∧ opR .mul m b q ∧ opR .sub d q y
  | _, y => lesR x m a b c y
end Go.Proofs.Ytmbjgakehghdjaa
