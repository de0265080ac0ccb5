/-
 OWN TEXT: the reference's quarters, sines, cosines (eddyref05.Quarter, Turn), for every float.
-/
import Derived.Test.YtfgfofedacehiaaGreatJFnWholeToAnA
import Derived.Test.YtfgfofedacehiaaGreatJRpBToRfW
namespace Go.Proofs.YtfgfofedacehiaaGreat
open Go.ChangeShapes Go.WideShapes Go.ChangeAt Go.RowKit
set_option linter.unusedVariables false
attribute [local go_sem] frombits_call tobits_call run_neg
end Go.Proofs.YtfgfofedacehiaaGreat

/-
 OWN TEXT: the reference's cosine, quarter, turn (eddyref05.cosine, Quarter, Turn), for every float.
-/
namespace Go.Proofs.YtfgfofedacehiaaGreat
open Go.ChangeShapes Go.WideShapes Go.ChangeAt Go.RowKit
set_option linter.unusedVariables false
attribute [local go_sem] frombits_call tobits_call run_neg
end Go.Proofs.YtfgfofedacehiaaGreat

