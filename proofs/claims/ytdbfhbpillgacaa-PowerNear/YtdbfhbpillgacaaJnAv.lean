/-
  OWN TEXT: the reference's float made whole (eddyref01.Whole), for every float.
-/
import Derived.Test.YtdbfhbpillgacaaJnAu
import Derived.Test.YtdbfhbpillgacaaJnAh
namespace Go.Proofs.Ytdbfhbpillgacaa
open Go.ChangeShapes Go.WideShapes Go.ChangeAt Go.RowKit
set_option linter.unusedVariables false
theorem same_self (z : Nat) : Fl.sameB z z = true := by unfold Fl.sameB; simp
end Go.Proofs.Ytdbfhbpillgacaa
/-
  OWN TEXT: the reference's quarters, sines, cosines (eddyref05.Quarter, Turn), for every float.
-/
namespace Go.Proofs.Ytdbfhbpillgacaa
open Go.ChangeShapes Go.WideShapes Go.ChangeAt Go.RowKit
set_option linter.unusedVariables false
attribute [local go_sem] frombits_call tobits_call run_neg
def lesQ (x m a b c : Nat) : Nat → Nat → Prop
  | 0, y => y = x
  | 1, y => ∃ p, opR .mul m a p ∧ opR .sub x p y
  | 2, y => ∃ p d q, opR .mul m a p ∧ opR .sub x p d ∧ opR .mul m b q ∧ opR .sub d q y
  | _, y => lesR x m a b c y
end Go.Proofs.Ytdbfhbpillgacaa
