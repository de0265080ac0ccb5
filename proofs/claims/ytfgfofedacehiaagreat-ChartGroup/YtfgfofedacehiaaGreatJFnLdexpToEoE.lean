/-
 OWN TEXT: what math.Ldexp and Scale of package float return: the word nearest to the float times the power of two.
-/
import Derived.Test.YtfgfofedacehiaaGreatJFnToFnStairs
import Derived.Test.YtfgfofedacehiaaGreatJFlCToFlG
import Derived.Test.YtfgfofedacehiaaGreatJFnWholeToAnA
import Derived.Test.YtfgfofedacehiaaGreatJEoA
namespace Go.Proofs.YtfgfofedacehiaaGreat
open Go.ChangeShapes Go.WideShapes Go.ChangeAt Go.RowKit
set_option linter.unusedVariables false
attribute [local go_sem] frombits_call tobits_call run_neg
end Go.Proofs.YtfgfofedacehiaaGreat

/-
 OWN TEXT: what math.Frexp and Parts of package float return, for every float.
-/
namespace Go.Proofs.YtfgfofedacehiaaGreat
open Go.ChangeShapes Go.WideShapes Go.ChangeAt Go.RowKit
set_option linter.unusedVariables false
attribute [local go_sem] frombits_call tobits_call run_neg
end Go.Proofs.YtfgfofedacehiaaGreat

/-
 OWN TEXT: lengths, roots, polar forms, units of complex numbers: what the chapter's steps come to.
-/
namespace Go.Proofs.YtfgfofedacehiaaGreat
open Go.ChangeShapes Go.WideShapes Go.ChangeAt Go.RowKit
set_option linter.unusedVariables false
end Go.Proofs.YtfgfofedacehiaaGreat

/-
 OWN TEXT: the reference's rising sum (eddyref04.Rising), for every float.
-/
namespace Go.Proofs.YtfgfofedacehiaaGreat
open Go.ChangeShapes Go.WideShapes Go.ChangeAt Go.RowKit
set_option linter.unusedVariables false
attribute [local go_sem] frombits_call tobits_call run_neg
end Go.Proofs.YtfgfofedacehiaaGreat

