/-
  OWN TEXT: the test of life of layer 10, by the evaluator.
-/
import Derived.Test.YtmbjgakehghdjaaXxA
import Derived.Test.YtmbjgakehghdjaaXxH
namespace Go.Proofs.Ytmbjgakehghdjaa
set_option maxRecDepth 1000000
theorem alive10_ev (w : World) (hw : RoOk w) : Calls Try.prog 17 #[] w fun e w' => e = .returned (.bool true) ∧ Go.RowKit.Below w.heap.size w w' :=
  xevaluated exF_ok plainX mixedX (by decide) kpF hsF 100000 40 (args := []) (v := .bool true) rfl rfl (by decide +kernel) w hw
end Go.Proofs.Ytmbjgakehghdjaa
