/-
 OWN TEXT: the exponential, and that less 1, for every float: what they come to.
-/
import Derived.Test.YtnjkdfhhlcoaaaaGreatJEqAToAnA
import Derived.Test.YtnjkdfhhlcoaaaaGreatJFnLdexpToEoE
import Derived.Test.YtnjkdfhhlcoaaaaGreatJEoA
import Derived.Test.YtnjkdfhhlcoaaaaGreatJFnEqToFnSame
namespace Go.Proofs.YtnjkdfhhlcoaaaaGreat
open Go.ChangeShapes Go.WideShapes Go.ChangeAt Go.RowKit
set_option linter.unusedVariables false
attribute [local go_sem] frombits_call tobits_call run_neg
end Go.Proofs.YtnjkdfhhlcoaaaaGreat

/-
 OWN TEXT: the program's rising sum (elem.rising), for every float.
-/
namespace Go.Proofs.YtnjkdfhhlcoaaaaGreat
open Go.ChangeShapes Go.WideShapes Go.ChangeAt Go.RowKit
set_option linter.unusedVariables false
attribute [local go_sem] frombits_call tobits_call run_neg
end Go.Proofs.YtnjkdfhhlcoaaaaGreat

/-
 OWN TEXT: the program's odd sum and its two floats (elem.odd, elem.Two), for every float.
-/
namespace Go.Proofs.YtnjkdfhhlcoaaaaGreat
open Go.ChangeShapes Go.WideShapes Go.ChangeAt Go.RowKit
set_option linter.unusedVariables false
attribute [local go_sem] frombits_call tobits_call run_neg
end Go.Proofs.YtnjkdfhhlcoaaaaGreat

/-
 OWN TEXT: the program's rising sum, exponential, and that less 1 (elem.rising, elem.folds, elem.Exp, elem.Less), for every float.
-/
namespace Go.Proofs.YtnjkdfhhlcoaaaaGreat
open Go.ChangeShapes Go.WideShapes Go.ChangeAt Go.RowKit
set_option linter.unusedVariables false
attribute [local go_sem] frombits_call tobits_call run_neg
end Go.Proofs.YtnjkdfhhlcoaaaaGreat

/-
 OWN TEXT: half the sum and half the difference of exponentials, for every float: what they come to, and the program's (elem.Cosh, elem.Sinh).
-/
namespace Go.Proofs.YtnjkdfhhlcoaaaaGreat
open Go.ChangeShapes Go.WideShapes Go.ChangeAt Go.RowKit
set_option linter.unusedVariables false
attribute [local go_sem] frombits_call tobits_call run_neg
end Go.Proofs.YtnjkdfhhlcoaaaaGreat

