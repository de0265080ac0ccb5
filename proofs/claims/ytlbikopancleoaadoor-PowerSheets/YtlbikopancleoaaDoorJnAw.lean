/-
  OWN TEXT: the reference's cosine, quarter, turn (eddyref05.cosine, Quarter, Turn), for every float.
-/
import Derived.Test.YtlbikopancleoaaDoorJnAv
import Derived.Test.YtlbikopancleoaaDoorJnAe
namespace Go.Proofs.YtlbikopancleoaaDoor
open Go.ChangeShapes Go.WideShapes Go.ChangeAt Go.RowKit
set_option linter.unusedVariables false
attribute [local go_sem] frombits_call tobits_call run_neg
theorem mod4 (q : Int) (h1 : -4194304 ≤ q) (h2 : q ≤ 4194304) : q.tmod 4 = (if q.tmod 4 < 0 then q % 4 - 4 else q % 4) ∧ -4 < q.tmod 4 ∧ q.tmod 4 < 4 := by
  have a := Int.tmod_eq_emod (a := q) (b := 4)
  have b := Int.emod_nonneg q (b := 4) (by decide)
  have c := Int.emod_lt_of_pos q (b := 4) (by decide)
  have d := Int.lt_tmod_of_pos q (b := 4) (by decide)
  have e := Int.tmod_lt_of_pos q (b := 4) (by decide)
  refine ⟨?_, by omega, by omega⟩
  rw [a]
  split <;> split <;> omega
end Go.Proofs.YtlbikopancleoaaDoor
/-
  OWN TEXT: package angle's sine, cosine, pieces of quarters (eddy/angle.sine, cosine, fit, without), for every float.
-/
namespace Go.Proofs.YtlbikopancleoaaDoor
open Go.ChangeShapes Go.WideShapes Go.ChangeAt Go.RowKit
set_option linter.unusedVariables false
attribute [local go_sem] frombits_call tobits_call run_neg
theorem pi_any (w : World) : Calls Tryd.prog 10 #[] w fun e w' => e = .returned (.tuple #[.float .f64 4614256656552045848, .float .f64 4368955796522032135]) ∧ w' = w := by
  go_enter Tryd.func10, Tryd.ntmps10
  go_wp2_with go_in
  go_ret2
  exact ⟨rfl, rfl⟩
theorem nan5_any (w : World) : Calls Tryd.prog 29 #[] w fun e w' => e = .returned (.float .f64 9221120237041090561) ∧ w' = w := by
  go_enter Tryd.func29, Tryd.ntmps29
  go_wp2_with go_in
  go_ret
  exact ⟨rfl, rfl⟩
theorem tw_sin : ∀ i : Nat, i < 9 → floatBits .add .f64 (floatOfInt .f64 (2 * (9 - (i : Int)))) 4607182418800017408 = some (floatOfInt .f64 (2 * (9 - (i : Int)) + 1)) ∧ floatBits .mul .f64 (floatOfInt .f64 (2 * (9 - (i : Int)))) (floatOfInt .f64 (2 * (9 - (i : Int)) + 1)) = some (floatOfInt .f64 (2 * (9 - (i : Int)) * (2 * (9 - (i : Int)) + 1))) := by decide +kernel
theorem tw_cos : ∀ i : Nat, i < 9 → floatBits .sub .f64 (floatOfInt .f64 (2 * (9 - (i : Int)))) 4607182418800017408 = some (floatOfInt .f64 (2 * (9 - (i : Int)) - 1)) ∧ floatBits .mul .f64 (floatOfInt .f64 (2 * (9 - (i : Int)) - 1)) (floatOfInt .f64 (2 * (9 - (i : Int)))) = some (floatOfInt .f64 ((2 * (9 - (i : Int)) - 1) * (2 * (9 - (i : Int))))) := by decide +kernel

end Go.Proofs.YtlbikopancleoaaDoor
