/-
  OWN TEXT: what Up and Down of the reference return, for every float.
-/
import Derived.Test.YtgnbmilmipbaoaaDoorFnUp
import Derived.Test.YtgnbmilmipbaoaaDoorFnSame
namespace Go.Proofs.YtgnbmilmipbaoaaDoor
open Go.ChangeShapes Go.WideShapes Go.ChangeAt Go.RowKit
set_option linter.unusedVariables false
attribute [local go_sem] frombits_call tobits_call run_neg
theorem gt_nought {x : Nat} (hx : x < 18446744073709551616) (hn : Fl.nan x = false) (hz : ¬ Fl.rg x = 0) : Fl.ltF 0 x = decide (x < 9223372036854775808) := by
  have hk := Fl.sg_key hx
  have hl := Fl.nan_le hn
  unfold Fl.ltF
  rw [hn, show Fl.nan 0 = false from by decide, show Fl.key 0 = 0 from by decide]
  simp only [Bool.not_false, Bool.true_and, decide_eq_decide]
  omega
end Go.Proofs.YtgnbmilmipbaoaaDoor
