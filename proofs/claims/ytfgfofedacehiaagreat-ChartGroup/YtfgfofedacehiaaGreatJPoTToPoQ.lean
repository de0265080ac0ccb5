/-
 OWN TEXT: package power, as it landed: sines, cosines, their hyperbolic ones, logarithms, sheets, for every number.
-/
import Derived.Test.YtfgfofedacehiaaGreatJEoBToRoV
import Derived.Test.YtfgfofedacehiaaGreatJAnPToEpL
import Derived.Laws.Rows
import Derived.Test.YtfgfofedacehiaaGreatJBhL
import Derived.Test.YtfgfofedacehiaaGreatJRpA
namespace Go.Proofs.YtfgfofedacehiaaGreat
open Go.ChangeShapes Go.WideShapes Go.ChangeAt Go.RowKit
set_option linter.unusedVariables false
attribute [local go_sem] frombits_call tobits_call run_neg
theorem run_store_func {P : Program} {w : World} {a : Addr} {m : Mode} (f : Fn) (x y : Array Value) : (store a (.func f x y) m).run P w = stored P w a (.func f x y) m := run_store P w a _ m rfl
attribute [local go_sem] run_store_func
end Go.Proofs.YtfgfofedacehiaaGreat

/-
 OWN TEXT: package power, as it landed: logarithms, sines, cosines, their hyperbolic ones, sheets, for every number.
-/
namespace Go.Proofs.YtfgfofedacehiaaGreat
open Go.ChangeShapes Go.WideShapes Go.ChangeAt Go.RowKit
set_option linter.unusedVariables false
attribute [local go_sem] frombits_call tobits_call run_neg
end Go.Proofs.YtfgfofedacehiaaGreat

/-
 OWN TEXT: package power, as it landed: exponentials and powers, for every number.
-/
namespace Go.Proofs.YtfgfofedacehiaaGreat
open Go.ChangeShapes Go.WideShapes Go.ChangeAt Go.RowKit
set_option linter.unusedVariables false
attribute [local go_sem] frombits_call tobits_call run_neg
end Go.Proofs.YtfgfofedacehiaaGreat

