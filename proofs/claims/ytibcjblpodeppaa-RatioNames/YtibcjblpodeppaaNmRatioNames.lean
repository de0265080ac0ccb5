/-
  OWN TEXT: eddylaw10.RatioNames, by the evaluator.
-/
import Derived.Test.YtibcjblpodeppaaXxA
import Derived.Test.YtibcjblpodeppaaXxH
namespace Go.Proofs.Ytibcjblpodeppaa
set_option maxRecDepth 1000000
theorem ratioNames_ev (w : World) (hw : RoOk w) : Calls Try.prog 3 #[] w fun e w' => e = .returned (.bool true) ∧ Go.RowKit.Below w.heap.size w w' :=
  xevaluated exF_ok plainX mixedX (by decide) kpF hsF 100000 40 (args := []) (v := .bool true) rfl rfl (by decide +kernel) w hw
end Go.Proofs.Ytibcjblpodeppaa
