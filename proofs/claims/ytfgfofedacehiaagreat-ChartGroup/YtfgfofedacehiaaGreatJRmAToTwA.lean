/-
 OWN TEXT: plain laws on floats: square roots, rounded: where they lie; the root of a square, rounded, is the number.
-/
import Derived.Test.YtfgfofedacehiaaGreatJFlCToFlG
import Derived.Test.YtfgfofedacehiaaGreatJFnWholeToAnA
import Derived.Test.YtfgfofedacehiaaGreatJEqCToBhM
import Derived.Test.YtfgfofedacehiaaGreatJFnLdexpToEoE
set_option linter.unusedVariables false
namespace Go.Proofs.YtfgfofedacehiaaGreat.Fl
end Go.Proofs.YtfgfofedacehiaaGreat.Fl

/-
 OWN TEXT: plain laws on floats: a square, rounded, lies between the middles; so its root, rounded, is the number.
-/
set_option linter.unusedVariables false
namespace Go.Proofs.YtfgfofedacehiaaGreat.Fl
end Go.Proofs.YtfgfofedacehiaaGreat.Fl

/-
 OWN TEXT: plain laws on floats times powers of two: parts and their power are the float; times a power of two is exact where it is neither too great nor too small.
-/
set_option linter.unusedVariables false
namespace Go.Proofs.YtfgfofedacehiaaGreat
end Go.Proofs.YtfgfofedacehiaaGreat

