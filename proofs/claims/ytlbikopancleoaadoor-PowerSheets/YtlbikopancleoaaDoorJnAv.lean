/-
  OWN TEXT: the reference's float made whole (eddyref01.Whole), for every float.
-/
import Derived.Test.YtlbikopancleoaaDoorJnAu
import Derived.Test.YtlbikopancleoaaDoorJnAh
namespace Go.Proofs.YtlbikopancleoaaDoor
open Go.ChangeShapes Go.WideShapes Go.ChangeAt Go.RowKit
set_option linter.unusedVariables false
theorem same_self (z : Nat) : Fl.sameB z z = true := by unfold Fl.sameB; simp
end Go.Proofs.YtlbikopancleoaaDoor
/-
  OWN TEXT: the reference's quarters, sines, cosines (eddyref05.Quarter, Turn), for every float.
-/
namespace Go.Proofs.YtlbikopancleoaaDoor
open Go.ChangeShapes Go.WideShapes Go.ChangeAt Go.RowKit
set_option linter.unusedVariables false
attribute [local go_sem] frombits_call tobits_call run_neg
theorem rnone_any (w : World) : Calls Tryd.prog 54 #[] w fun e w' => e = .returned (.float .f64 9221120237041090561) ∧ w' = w := by
  go_enter Tryd.func54, Tryd.ntmps54
  go_wp2_with go_in
  go_ret
  exact ⟨rfl, rfl⟩
theorem rhigh_any (w : World) : Calls Tryd.prog 14 #[] w fun e w' => e = .returned (.float .f64 4614256656552045848) ∧ w' = w := by
  go_enter Tryd.func14, Tryd.ntmps14
  go_wp2_with go_in
  go_ret
  exact ⟨rfl, rfl⟩
theorem rlow_any (w : World) : Calls Tryd.prog 56 #[] w fun e w' => e = .returned (.float .f64 4368955796522032135) ∧ w' = w := by
  go_enter Tryd.func56, Tryd.ntmps56
  go_wp2_with go_in
  go_ret
  exact ⟨rfl, rfl⟩
theorem rbits_t (n : Nat) (w : World) : Calls Tryd.prog 26 #[.int .u64 (n : Int)] w fun e w' => e = .returned (.float .f64 n) ∧ w' = w := by
  go_enter Tryd.func26, Tryd.ntmps26
  go_wp2
  go_ret
  exact ⟨rfl, rfl⟩
def lesQ (x m a b c : Nat) : Nat → Nat → Prop
  | 0, y => y = x
  | 1, y => ∃ p, opR .mul m a p ∧ opR .sub x p y
  | 2, y => ∃ p d q, opR .mul m a p ∧ opR .sub x p d ∧ opR .mul m b q ∧ opR .sub d q y
  | _, y => lesR x m a b c y
end Go.Proofs.YtlbikopancleoaaDoor
