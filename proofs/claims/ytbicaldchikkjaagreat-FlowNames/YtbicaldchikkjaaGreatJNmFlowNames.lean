/-
  OWN TEXT: eddylaw16.FlowNames, by the evaluator; calls that look at the bits of no number are known by contracts.
-/
import Derived.Test.YtbicaldchikkjaaGreatJXxAToXxH
import Derived.Test.YtbicaldchikkjaaGreatJNnA
namespace Go.Proofs.YtbicaldchikkjaaGreat
set_option maxRecDepth 1000000
theorem flowNames_run : ((xcallN knNaN Tryz.prog exF kpF hsF 100000 40 3 [] ⟨roTab.length, m0⟩ (fun v M => some (v, M)) (fun _ _ => none)).any fun x => eq3 (.bool true) x.1) = true := by decide +kernel
theorem flowNames_ev (w : World) (hw : RoOk w) (hx : RoX w) : Calls Tryz.prog 3 #[] w fun e w' => e = .returned (.bool true) ∧ Go.RowKit.Below w.heap.size w w' :=
  xevaluatedN knNaN_ok exF_ok plainX mixedX (by decide) kpF hsF 100000 40 (args := []) (v := .bool true) rfl rfl flowNames_run w hw hx
end Go.Proofs.YtbicaldchikkjaaGreat
