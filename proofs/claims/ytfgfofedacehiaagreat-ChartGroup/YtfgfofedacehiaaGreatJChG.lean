/-
 OWN TEXT: the test of life of layer 18, by the evaluator.
-/
import Derived.Test.YtfgfofedacehiaaGreatJXxAToXxH
import Derived.Test.YtfgfofedacehiaaGreatJEoA
namespace Go.Proofs.YtfgfofedacehiaaGreat
set_option maxRecDepth 1000000
theorem awake18_ev (w : World) : Calls Tryz.prog 6 #[] w fun e w' => e = .returned (.bool true) ∧ Bw w w' :=
 xevaluated exF_ok plainX mixedX (by decide) kpF hsF 100000 40 (args := []) (v := .bool true) rfl rfl (by decide +kernel) w (fun g l h => by cases h) (fun g l h => by cases h)
end Go.Proofs.YtfgfofedacehiaaGreat

