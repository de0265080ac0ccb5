/-
  OWN TEXT: the test of life of layer 8, by the evaluator.
-/
import Derived.Test.YtpfgboinjjobpaaXvM
import Derived.Test.YtpfgboinjjobpaaRows
import Derived.WalkKit
namespace Go.Proofs.Ytpfgboinjjobpaa
set_option maxRecDepth 100000
theorem plainX : Plain Try.prog := plain_of (by decide +kernel)
theorem mixedX : Try.prog.follows .mixedOrders = true := by kernel_rfl
theorem alive8_ev (w : World) : Calls Try.prog 4 #[] w fun e w' => e = .returned (.bool true) ∧ Go.RowKit.Below w.heap.size w w' :=
  evaluatedF plainX mixedX (noKnown_ok _) 100000 20 (args := []) (v := .bool true) rfl rfl (by decide +kernel) w
end Go.Proofs.Ytpfgboinjjobpaa
