/-
  OWN TEXT: package parts: signs turned (parts.turned, Conj, Neg, Mirror, Times), for every number.
-/
import Derived.Test.YtpfaaimfembhdaaJFnEqToFnSame
import Derived.Test.YtpfaaimfembhdaaJFlCToFlG
namespace Go.Proofs.Ytpfaaimfembhdaa
open Go.ChangeShapes Go.WideShapes Go.ChangeAt Go.RowKit
set_option linter.unusedVariables false
attribute [local go_sem] frombits_call tobits_call run_neg
theorem xor_sign {x : Nat} (h : x < 18446744073709551616) : bits .xor .u64 (x : Int) 9223372036854775808 = ((Fl.ng x : Nat) : Int) := by
  have e := u64_xor_nat x 9223372036854775808 h (by omega)
  rw [show ((9223372036854775808 : Nat) : Int) = 9223372036854775808 from rfl] at e
  rw [e, ← Fl.neg_eq h]
  rfl
end Go.Proofs.Ytpfaaimfembhdaa
