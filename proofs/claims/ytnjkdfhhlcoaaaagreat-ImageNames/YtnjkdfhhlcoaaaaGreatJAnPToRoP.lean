/-
 OWN TEXT: package angle's wrapped angles (eddy/angle.wrapped, Wrap), for every float.
-/
import Derived.Test.YtnjkdfhhlcoaaaaGreatJApAToApC
import Derived.Test.YtnjkdfhhlcoaaaaGreatJEoBToRoV
import Derived.Test.YtnjkdfhhlcoaaaaGreatJAnMToRoS
import Derived.Test.YtnjkdfhhlcoaaaaGreatJRpBToRfW
namespace Go.Proofs.YtnjkdfhhlcoaaaaGreat
open Go.ChangeShapes Go.WideShapes Go.ChangeAt Go.RowKit
set_option linter.unusedVariables false
attribute [local go_sem] frombits_call tobits_call run_neg
end Go.Proofs.YtnjkdfhhlcoaaaaGreat

/-
 OWN TEXT: package roots, as it landed: squares, orders, lengths, for every number.
-/
namespace Go.Proofs.YtnjkdfhhlcoaaaaGreat
open Go.ChangeShapes Go.WideShapes Go.ChangeAt Go.RowKit
set_option linter.unusedVariables false
attribute [local go_sem] frombits_call tobits_call run_neg
end Go.Proofs.YtnjkdfhhlcoaaaaGreat

/-
 OWN TEXT: package roots, as it landed: roots, polar forms, places, units, nearness, for every number.
-/
namespace Go.Proofs.YtnjkdfhhlcoaaaaGreat
open Go.ChangeShapes Go.WideShapes Go.ChangeAt Go.RowKit
set_option linter.unusedVariables false
attribute [local go_sem] frombits_call tobits_call run_neg
theorem csum_run {op : BinOp} (hop : op = .add ∨ op = .sub) {a b c d x y : Nat} {P : Program} {w w1 w2 : World} (e1 : ∀ t, (binOp op t (.float .f64 a) (.float .f64 c)).run P w = .ok (.float .f64 x) w1) (e2 : ∀ t, (binOp op t (.float .f64 b) (.float .f64 d)).run P w1 = .ok (.float .f64 y) w2) (t : TypeId) : (binOp op t (.complex .f64 a b) (.complex .f64 c d)).run P w = .ok (.complex .f64 x y) w2 := by
 rcases hop with rfl | rfl
 ·
  have k1 : (Op.floatArith .add .f64 a c).run P w = .ok (.float .f64 x) w1 := e1 0
  have k2 : (Op.floatArith .add .f64 b d).run P w1 = .ok (.float .f64 y) w2 := e2 0
  simp [binOp, Op.complexOp, Op.Complex.arith, k1, k2]
 ·
  have k1 : (Op.floatArith .sub .f64 a c).run P w = .ok (.float .f64 x) w1 := e1 0
  have k2 : (Op.floatArith .sub .f64 b d).run P w1 = .ok (.float .f64 y) w2 := e2 0
  simp [binOp, Op.complexOp, Op.Complex.arith, k1, k2]
end Go.Proofs.YtnjkdfhhlcoaaaaGreat

