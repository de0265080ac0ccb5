/-
 OWN TEXT: the program's logarithm (elem.Log), for every float.
-/
import Derived.Test.YtnjkdfhhlcoaaaaGreatJEqBToEqE
import Derived.Test.YtnjkdfhhlcoaaaaGreatJEoBToRoV
namespace Go.Proofs.YtnjkdfhhlcoaaaaGreat
open Go.ChangeShapes Go.WideShapes Go.ChangeAt Go.RowKit
set_option linter.unusedVariables false
attribute [local go_sem] frombits_call tobits_call run_neg
end Go.Proofs.YtnjkdfhhlcoaaaaGreat

/-
 OWN TEXT: package elem's logarithm (elem.Log), for every float, and that it is a word.
-/
namespace Go.Proofs.YtnjkdfhhlcoaaaaGreat
open Go.ChangeShapes Go.WideShapes Go.ChangeAt Go.RowKit
set_option linter.unusedVariables false
attribute [local go_sem] frombits_call tobits_call run_neg
end Go.Proofs.YtnjkdfhhlcoaaaaGreat

