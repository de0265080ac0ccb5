/-
 OWN TEXT: package parts: signs turned (parts.turned, Conj, Neg, Mirror, Times), for every number.
-/
import Derived.Test.YtnjkdfhhlcoaaaaGreatJFnEqToFnSame
import Derived.Test.YtnjkdfhhlcoaaaaGreatJFlCToFlG
namespace Go.Proofs.YtnjkdfhhlcoaaaaGreat
open Go.ChangeShapes Go.WideShapes Go.ChangeAt Go.RowKit
set_option linter.unusedVariables false
attribute [local go_sem] frombits_call tobits_call run_neg
end Go.Proofs.YtnjkdfhhlcoaaaaGreat

