/-
  OWN TEXT: eddylaw13.CountNames, by the evaluator, with calls of package box known by a table (typed by gen/tab13.py).
-/
import Derived.Test.YtgaigfmboomnkaaGreatKtR1
import Derived.Test.YtgaigfmboomnkaaGreatKtR2
import Derived.Test.YtgaigfmboomnkaaGreatKtR3
import Derived.Test.YtgaigfmboomnkaaGreatKtR4
import Derived.Test.YtgaigfmboomnkaaGreatKtR5
import Derived.Test.YtgaigfmboomnkaaGreatKtR6
import Derived.Test.YtgaigfmboomnkaaGreatKtR7
import Derived.Test.YtgaigfmboomnkaaGreatKtR8
namespace Go.Proofs.YtgaigfmboomnkaaGreat
set_option maxRecDepth 1000000
def tbA : List (List (List Rw)) := [tb0, tb1, tb2, tb3, tb4, tb5, tb6, tb7, tb8, tb9, tb10, tb11, tb12, tb13, tb14, tb15, tb16, tb17, tb18, tb19, tb20, tb21, tb22, tb23]
theorem tbA_ok : ∀ q ∈ tbA, allR q (fun b => allR b rowB) = true := by
  intro q hq
  unfold tbA at hq
  simp only [List.mem_cons, List.not_mem_nil, or_false] at hq
  rcases hq with rfl | rfl | rfl | rfl | rfl | rfl | rfl | rfl | rfl | rfl | rfl | rfl | rfl | rfl | rfl | rfl | rfl | rfl | rfl | rfl | rfl | rfl | rfl | rfl
  · exact tb0_ok
  · exact tb1_ok
  · exact tb2_ok
  · exact tb3_ok
  · exact tb4_ok
  · exact tb5_ok
  · exact tb6_ok
  · exact tb7_ok
  · exact tb8_ok
  · exact tb9_ok
  · exact tb10_ok
  · exact tb11_ok
  · exact tb12_ok
  · exact tb13_ok
  · exact tb14_ok
  · exact tb15_ok
  · exact tb16_ok
  · exact tb17_ok
  · exact tb18_ok
  · exact tb19_ok
  · exact tb20_ok
  · exact tb21_ok
  · exact tb22_ok
  · exact tb23_ok
theorem countNames_run : ((xcallN (fun f args _ => knT tbA f args) Tryz.prog exF kpF hsF 100000 60 3 [] ⟨roTab.length, m0⟩ (fun v M => some (v, M)) (fun _ _ => none)).any fun x => eq3 (.bool true) x.1) = true := by decide +kernel
theorem countNames_ev (w : World) (hw : RoOk w) (hx : RoX w) : Calls Tryz.prog 3 #[] w fun e w' => e = .returned (.bool true) ∧ Go.RowKit.Below w.heap.size w w' :=
  xevaluatedN (knT_ok tbA_ok rfl) exF_ok plainX mixedX (by decide) kpF hsF 100000 60 (args := []) (v := .bool true) rfl rfl countNames_run w hw hx
end Go.Proofs.YtgaigfmboomnkaaGreat
