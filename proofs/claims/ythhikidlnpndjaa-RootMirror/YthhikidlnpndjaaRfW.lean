/-
  OWN TEXT: the reference's float made whole (eddyref01.Whole), for every float.
-/
import Derived.Test.YthhikidlnpndjaaRfJ
namespace Go.Proofs.Ythhikidlnpndjaa
open Go.ChangeShapes Go.WideShapes Go.ChangeAt Go.RowKit
set_option linter.unusedVariables false
theorem same_self (z : Nat) : Fl.sameB z z = true := by unfold Fl.sameB; simp
end Go.Proofs.Ythhikidlnpndjaa
