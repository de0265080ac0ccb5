/-
  OWN TEXT: the reference's quarters, sines, cosines (eddyref05.Quarter, Turn), for every float.
-/
import Derived.Test.YtpfaaimfembhdaaJAnA
import Derived.Test.YtpfaaimfembhdaaJRfIToRfW
namespace Go.Proofs.Ytpfaaimfembhdaa
open Go.ChangeShapes Go.WideShapes Go.ChangeAt Go.RowKit
set_option linter.unusedVariables false
attribute [local go_sem] frombits_call tobits_call run_neg
def lesQ (x m a b c : Nat) : Nat → Nat → Prop
  | 0, y => y = x
  | 1, y => ∃ p, opR .mul m a p ∧ opR .sub x p y
  | 2, y => ∃ p d q, opR .mul m a p ∧ opR .sub x p d ∧ opR .mul m b q ∧ opR .sub d q y
  | _, y => lesR x m a b c y
end Go.Proofs.Ytpfaaimfembhdaa
/-
  OWN TEXT: the reference's cosine, quarter, turn (eddyref05.cosine, Quarter, Turn), for every float.
-/
namespace Go.Proofs.Ytpfaaimfembhdaa
open Go.ChangeShapes Go.WideShapes Go.ChangeAt Go.RowKit
set_option linter.unusedVariables false
attribute [local go_sem] frombits_call tobits_call run_neg
theorem mod4 (q : Int) (h1 : -4194304 ≤ q) (h2 : q ≤ 4194304) : q.tmod 4 = (if q.tmod 4 < 0 then q % 4 - 4 else q % 4) ∧ -4 < q.tmod 4 ∧ q.tmod 4 < 4 := by
  have a := Int.tmod_eq_emod (a := q) (b := 4)
  have b := Int.emod_nonneg q (b := 4) (by decide)
  have c := Int.emod_lt_of_pos q (b := 4) (by decide)
  have d := Int.lt_tmod_of_pos q (b := 4) (by decide)
  have e := Int.tmod_lt_of_pos q (b := 4) (by decide)
  refine ⟨?_, by omega, by omega⟩
  rw [a]
  split <;> split <;> omega
end Go.Proofs.Ytpfaaimfembhdaa
