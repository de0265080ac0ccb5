/-
  OWN TEXT: the test of life of layer 9, by the evaluator.
-/
import Derived.Test.YtggphakliiodeaaGreatDoorXxA
import Derived.Test.YtggphakliiodeaaGreatDoorXxH
namespace Go.Proofs.YtggphakliiodeaaGreatDoor
set_option maxRecDepth 1000000
theorem awake9_ev (w : World) (hw : RoOk w) : Calls Tryz.prog 4 #[] w fun e w' => e = .returned (.bool true) ∧ Go.RowKit.Below w.heap.size w w' :=
  xevaluated exF_ok plainX mixedX (by decide) kpF hsF 100000 40 (args := []) (v := .bool true) rfl rfl (by decide +kernel) w hw
end Go.Proofs.YtggphakliiodeaaGreatDoor
