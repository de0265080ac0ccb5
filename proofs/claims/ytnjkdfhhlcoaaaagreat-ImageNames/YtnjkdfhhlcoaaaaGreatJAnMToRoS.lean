/-
 OWN TEXT: floats with their signs turned: products, differences, whole numbers; that no rest of a quarter is nought.
-/
import Derived.Test.YtnjkdfhhlcoaaaaGreatJEqAToAnA
import Derived.Test.YtnjkdfhhlcoaaaaGreatJFnLdexpToEoE
import Derived.Test.YtnjkdfhhlcoaaaaGreatJFnEqToFnSame
import Derived.Laws.Cover3
namespace Go.Proofs.YtnjkdfhhlcoaaaaGreat.Fl
set_option linter.unusedVariables false
end Go.Proofs.YtnjkdfhhlcoaaaaGreat.Fl
namespace Go.Proofs.YtnjkdfhhlcoaaaaGreat
open Go.ChangeShapes Go.WideShapes Go.ChangeAt Go.RowKit
set_option linter.unusedVariables false
end Go.Proofs.YtnjkdfhhlcoaaaaGreat

/-
 OWN TEXT: sums and products either way round; lengths do not hang on signs, nor on the order of the parts.
-/
namespace Go.Proofs.YtnjkdfhhlcoaaaaGreat
open Go.ChangeShapes Go.WideShapes Go.ChangeAt Go.RowKit
set_option linter.unusedVariables false
end Go.Proofs.YtnjkdfhhlcoaaaaGreat

/-
 OWN TEXT: the root of a float (math.Sqrt); math.Inf(1), math.NaN.
-/
namespace Go.Proofs.YtnjkdfhhlcoaaaaGreat
open Go.ChangeShapes Go.WideShapes Go.ChangeAt Go.RowKit
set_option linter.unusedVariables false
attribute [local go_sem] frombits_call tobits_call run_neg
end Go.Proofs.YtnjkdfhhlcoaaaaGreat

