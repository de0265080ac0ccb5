/-
  OWN TEXT: package angle's sine, cosine, pieces of quarters (eddy/angle.sine, cosine, fit, without), for every float.
-/
import Derived.Test.YthhikidlnpndjaaAnC
import Derived.Test.YthhikidlnpndjaaFnWhole
namespace Go.Proofs.Ythhikidlnpndjaa
open Go.ChangeShapes Go.WideShapes Go.ChangeAt Go.RowKit
set_option linter.unusedVariables false
attribute [local go_sem] frombits_call tobits_call run_neg
theorem nan5_any (w : World) : Calls Try.prog 25 #[] w fun e w' => e = .returned (.float .f64 9221120237041090561) ∧ w' = w := by
  go_enter Try.func25, Try.ntmps25
  go_wp2_with go_in
  go_ret
  exact ⟨rfl, rfl⟩
theorem tw_sin : ∀ i : Nat, i < 9 → floatBits .add .f64 (floatOfInt .f64 (2 * (9 - (i : Int)))) 4607182418800017408 = some (floatOfInt .f64 (2 * (9 - (i : Int)) + 1)) ∧ floatBits .mul .f64 (floatOfInt .f64 (2 * (9 - (i : Int)))) (floatOfInt .f64 (2 * (9 - (i : Int)) + 1)) = some (floatOfInt .f64 (2 * (9 - (i : Int)) * (2 * (9 - (i : Int)) + 1))) := by decide +kernel
theorem tw_cos : ∀ i : Nat, i < 9 → floatBits .sub .f64 (floatOfInt .f64 (2 * (9 - (i : Int)))) 4607182418800017408 = some (floatOfInt .f64 (2 * (9 - (i : Int)) - 1)) ∧ floatBits .mul .f64 (floatOfInt .f64 (2 * (9 - (i : Int)) - 1)) (floatOfInt .f64 (2 * (9 - (i : Int)))) = some (floatOfInt .f64 ((2 * (9 - (i : Int)) - 1) * (2 * (9 - (i : Int))))) := by decide +kernel

end Go.Proofs.Ythhikidlnpndjaa
