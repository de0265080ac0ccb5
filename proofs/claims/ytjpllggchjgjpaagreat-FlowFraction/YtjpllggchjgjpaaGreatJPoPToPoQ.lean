/-
 OWN TEXT: package power, as it landed: logarithms, sines, cosines, their hyperbolic ones, sheets, for every number.
-/
import Derived.Test.YtjpllggchjgjpaaGreatJPoTToRpA
namespace Go.Proofs.YtjpllggchjgjpaaGreat
open Go.ChangeShapes Go.WideShapes Go.ChangeAt Go.RowKit
set_option linter.unusedVariables false
attribute [local go_sem] frombits_call tobits_call run_neg
end Go.Proofs.YtjpllggchjgjpaaGreat

/-
 OWN TEXT: package power, as it landed: exponentials and powers, for every number.
-/
namespace Go.Proofs.YtjpllggchjgjpaaGreat
open Go.ChangeShapes Go.WideShapes Go.ChangeAt Go.RowKit
set_option linter.unusedVariables false
attribute [local go_sem] frombits_call tobits_call run_neg
theorem pscale_any (a b s : Nat) (w : World) : Calls Tryz.prog 66 #[.complex .f64 a b, .float .f64 s] w fun e w' => ∃ x y, e = .returned (.complex .f64 x y) ∧ opR .mul a s x ∧ opR .mul b s y ∧ Bw w w' := by
 obtain ⟨x, w1, h1, e1, b1⟩ := op_run .mul isMul a s w
 obtain ⟨y, w2, h2, e2, b2⟩ := op_run .mul isMul b s w1
 have H1 : Hid (opR .mul a s x) := h1
 have H2 : Hid (opR .mul b s y) := h2
 have G := bw_trans b1 b2
 clear h1 h2 b1 b2
 go_enter Tryz.func66, Tryz.ntmps66
 go_wp2
 go_ret
 exact ⟨_, _, rfl, H1.out, H2.out, G⟩
theorem pmul_any (p q r s : Nat) (w : World) : Calls Tryz.prog 98 #[.complex .f64 p q, .complex .f64 r s] w fun e w' => ∃ x y, e = .returned (.complex .f64 x y) ∧ cmuR p q r s x y ∧ Bw w w' := by
 obtain ⟨a, w1, h1, e1, b1⟩ := op_run .mul isMul p r w
 obtain ⟨b, w2, h2, e2, b2⟩ := op_run .mul isMul q s w1
 obtain ⟨x, w3, h3, e3, b3⟩ := op_run .sub isSub a b w2
 obtain ⟨c, w4, h4, e4, b4⟩ := op_run .mul isMul p s w3
 obtain ⟨d, w5, h5, e5, b5⟩ := op_run .mul isMul q r w4
 obtain ⟨y, w6, h6, e6, b6⟩ := op_run .add isAdd c d w5
 have HM : Hid (cmuR p q r s x y) := ⟨a, b, c, d, h1, h2, h3, h4, h5, h6⟩
 have G := bw_trans (bw_trans (bw_trans (bw_trans (bw_trans b1 b2) b3) b4) b5) b6
 clear h1 h2 h3 h4 h5 h6 b1 b2 b3 b4 b5 b6
 go_enter Tryz.func98, Tryz.ntmps98
 go_wp2
 go_ret
 exact ⟨_, _, rfl, HM.out, G⟩
end Go.Proofs.YtjpllggchjgjpaaGreat

