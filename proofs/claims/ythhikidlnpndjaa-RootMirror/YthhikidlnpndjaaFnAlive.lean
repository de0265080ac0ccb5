/-
  OWN TEXT: eddylaw01.alive returns true.
-/
import Derived.Test.YthhikidlnpndjaaFnUp
namespace Go.Proofs.Ythhikidlnpndjaa
open Go.ChangeShapes Go.WideShapes Go.ChangeAt Go.RowKit
attribute [local go_sem] frombits_call tobits_call run_neg
theorem parts_alive (w : World) : Calls Try.prog 40 #[.float .f64 4622945017495814144] w fun e w' => e = .returned (.tuple #[.float .f64 4604930618986332160, .int .i64 4]) ∧ w' = w := by
  have c1 : (FloatKind.f64.format.order 4622945017495814144 0 == some .eq) = false := by decide +kernel
  have c2 : (FloatKind.f64.format.order 4622945017495814144 9218868437227405311 == some .gt) = false := by decide +kernel
  have c3 : (FloatKind.f64.format.order 4622945017495814144 18442240474082181119 == some .lt) = false := by decide +kernel
  have c4 : (FloatKind.f64.format.order 4622945017495814144 4622945017495814144 != some .eq) = false := by decide +kernel
  have c5 : (FloatKind.f64.format.order 4622945017495814144 4503599627370496 == some .lt) = false := by decide +kernel
  have b2 : Fl.rg 4622945017495814144 = 4622945017495814144 := by decide
  have d1 : bits .andNot .u64 4622945017495814144 9218868437227405312 = 2251799813685248 := by decide +kernel
  have d2 : bits .or .u64 2251799813685248 4602678819172646912 = 4604930618986332160 := by decide +kernel
  have d3 : bits .and .u64 1026 2047 = 1026 := by decide +kernel
  go_enter Try.func40, Try.ntmps40
  go_wp2_with (first | (go_at_call 15; refine (abs_any _ _ (by decide)).mono ?_; rintro e w' ⟨rfl, rfl⟩) | go_in)
  go_ret2
  exact ⟨rfl, rfl⟩
end Go.Proofs.Ythhikidlnpndjaa
