/-
  OWN TEXT: eddylaw13.CountNames, by the evaluator, with calls of package box known by a table (typed by gen/tab13.py).
-/
import Derived.Test.YtgaigfmboomnkaaGreatKtR3
namespace Go.Proofs.YtgaigfmboomnkaaGreat
set_option maxRecDepth 1000000
theorem countNames_run : ((xcallN kn2 Tryz.prog exF kpF hsF 100000 60 3 [] ⟨roTab.length, m0⟩ (fun v M => some (v, M)) (fun _ _ => none)).any fun x => eq3 (.bool true) x.1) = true := by decide +kernel
theorem countNames_ev (w : World) (hw : RoOk w) (hx : RoX w) : Calls Tryz.prog 3 #[] w fun e w' => e = .returned (.bool true) ∧ Go.RowKit.Below w.heap.size w w' :=
  xevaluatedN kn2_ok exF_ok plainX mixedX (by decide) kpF hsF 100000 60 (args := []) (v := .bool true) rfl rfl countNames_run w hw hx
end Go.Proofs.YtgaigfmboomnkaaGreat
