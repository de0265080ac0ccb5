/-
 OWN TEXT: sines and cosines of fit floats, as they come out, are at most 1 without their signs.
-/
import Derived.Test.YtfgfofedacehiaaGreatJAnMToRoS
import Derived.Test.YtfgfofedacehiaaGreatJRmCToRmF
set_option linter.unusedVariables false
set_option exponentiation.threshold 3000
namespace Go.Proofs.YtfgfofedacehiaaGreat
theorem v20 : Fl.vl 4697254411347427328 = 4722366482869645213696 * 2 ^ 1022 := by decide +kernel
end Go.Proofs.YtfgfofedacehiaaGreat

