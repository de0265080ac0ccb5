/-
 OWN TEXT: the reference's quarters, sines, cosines (eddyref05.Quarter, Turn), for every float.
-/
import Derived.Test.YtnjkdfhhlcoaaaaGreatJEqAToAnA
import Derived.Test.YtnjkdfhhlcoaaaaGreatJRpBToRfW
namespace Go.Proofs.YtnjkdfhhlcoaaaaGreat
open Go.ChangeShapes Go.WideShapes Go.ChangeAt Go.RowKit
set_option linter.unusedVariables false
attribute [local go_sem] frombits_call tobits_call run_neg
end Go.Proofs.YtnjkdfhhlcoaaaaGreat

/-
 OWN TEXT: the reference's cosine, quarter, turn (eddyref05.cosine, Quarter, Turn), for every float.
-/
namespace Go.Proofs.YtnjkdfhhlcoaaaaGreat
open Go.ChangeShapes Go.WideShapes Go.ChangeAt Go.RowKit
set_option linter.unusedVariables false
attribute [local go_sem] frombits_call tobits_call run_neg
end Go.Proofs.YtnjkdfhhlcoaaaaGreat

