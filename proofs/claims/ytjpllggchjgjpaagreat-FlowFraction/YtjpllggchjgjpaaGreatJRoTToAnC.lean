/-
 OWN TEXT: sums and products either way round; lengths do not hang on signs, nor on the order of the parts.
-/
import Derived.Test.YtjpllggchjgjpaaGreatJFnLdexpToRoA
import Derived.Test.YtjpllggchjgjpaaGreatJPoAToAnM
import Derived.Test.YtjpllggchjgjpaaGreatJEoEToFnSame
import Derived.Laws.Cover3
import Derived.Test.YtjpllggchjgjpaaGreatJEoA
import Derived.Test.YtjpllggchjgjpaaGreatJFnToFnStairs
import Derived.Test.YtjpllggchjgjpaaGreatJFlCToFlG
import Derived.Test.YtjpllggchjgjpaaGreatJEqEToEoC
import Derived.Test.YtjpllggchjgjpaaGreatJFnWholeToEqA
import Derived.Test.YtjpllggchjgjpaaGreatJAnA
namespace Go.Proofs.YtjpllggchjgjpaaGreat
open Go.ChangeShapes Go.WideShapes Go.ChangeAt Go.RowKit
set_option linter.unusedVariables false
end Go.Proofs.YtjpllggchjgjpaaGreat

/-
 OWN TEXT: the root of a float (math.Sqrt); math.Inf(1), math.NaN.
-/
namespace Go.Proofs.YtjpllggchjgjpaaGreat
open Go.ChangeShapes Go.WideShapes Go.ChangeAt Go.RowKit
set_option linter.unusedVariables false
attribute [local go_sem] frombits_call tobits_call run_neg
end Go.Proofs.YtjpllggchjgjpaaGreat

/-
 OWN TEXT: two complex numbers are the same (eddyref02.Same, eddylaw06.same).
-/
namespace Go.Proofs.YtjpllggchjgjpaaGreat
open Go.ChangeShapes Go.WideShapes Go.ChangeAt Go.RowKit
set_option linter.unusedVariables false
attribute [local go_sem] frombits_call tobits_call run_neg
end Go.Proofs.YtjpllggchjgjpaaGreat

/-
 OWN TEXT: a small whole number as a float.
-/
namespace Go.Proofs.YtjpllggchjgjpaaGreat
open Go.ChangeShapes Go.WideShapes Go.ChangeAt Go.RowKit
set_option linter.unusedVariables false
end Go.Proofs.YtjpllggchjgjpaaGreat

/-
 OWN TEXT: a float made whole, in numbers.
-/
namespace Go.Proofs.YtjpllggchjgjpaaGreat.Fl
set_option linter.unusedVariables false
end Go.Proofs.YtjpllggchjgjpaaGreat.Fl
namespace Go.Proofs.YtjpllggchjgjpaaGreat
set_option linter.unusedVariables false
open Go.ChangeShapes Go.WideShapes Go.ChangeAt Go.RowKit
end Go.Proofs.YtjpllggchjgjpaaGreat

/-
 OWN TEXT: what Whole of the reference returns, for every float.
-/
namespace Go.Proofs.YtjpllggchjgjpaaGreat
open Go.ChangeShapes Go.WideShapes Go.ChangeAt Go.RowKit
set_option linter.unusedVariables false
attribute [local go_sem] frombits_call tobits_call run_neg
end Go.Proofs.YtjpllggchjgjpaaGreat

/-
 OWN TEXT: the reference's float made whole (eddyref01.Whole), for every float.
-/
namespace Go.Proofs.YtjpllggchjgjpaaGreat
open Go.ChangeShapes Go.WideShapes Go.ChangeAt Go.RowKit
set_option linter.unusedVariables false
end Go.Proofs.YtjpllggchjgjpaaGreat

/-
 OWN TEXT: the reference's quarters, sines, cosines (eddyref05.Quarter, Turn), for every float.
-/
namespace Go.Proofs.YtjpllggchjgjpaaGreat
open Go.ChangeShapes Go.WideShapes Go.ChangeAt Go.RowKit
set_option linter.unusedVariables false
attribute [local go_sem] frombits_call tobits_call run_neg
end Go.Proofs.YtjpllggchjgjpaaGreat

/-
 OWN TEXT: the reference's cosine, quarter, turn (eddyref05.cosine, Quarter, Turn), for every float.
-/
namespace Go.Proofs.YtjpllggchjgjpaaGreat
open Go.ChangeShapes Go.WideShapes Go.ChangeAt Go.RowKit
set_option linter.unusedVariables false
attribute [local go_sem] frombits_call tobits_call run_neg
end Go.Proofs.YtjpllggchjgjpaaGreat

