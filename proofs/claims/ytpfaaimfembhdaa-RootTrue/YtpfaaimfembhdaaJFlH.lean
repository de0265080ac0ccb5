/-
  OWN TEXT: a small whole number as a float.
-/
import Derived.Test.YtpfaaimfembhdaaJFnToFnStairs
import Derived.Test.YtpfaaimfembhdaaJFlCToFlG
namespace Go.Proofs.Ytpfaaimfembhdaa
open Go.ChangeShapes Go.WideShapes Go.ChangeAt Go.RowKit
set_option linter.unusedVariables false
/-- a small whole number as a float -/
theorem float_of_nat (N c : Nat) (hc : c = 1074) : floatOfInt .f64 (N : Int) = Fl.wd false (Fl.rq (N * 2 ^ c) 0) := by
  have h := Fl.nearest_eq false N c 0
  rw [show (-1074 + (c : Int) - ((0 : Nat) : Int)) = 0 by omega] at h
  rw [← h]
  unfold floatOfInt FloatKind.nearest
  rw [decide_eq_false (by omega), show ((N : Int)).natAbs = N from rfl]
  rfl

end Go.Proofs.Ytpfaaimfembhdaa
