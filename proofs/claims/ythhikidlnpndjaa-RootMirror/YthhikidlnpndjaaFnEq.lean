/-
  OWN TEXT: what Same of package float and math.Signbit return, for every float.
-/
import Derived.Test.YthhikidlnpndjaaFn
namespace Go.Proofs.Ythhikidlnpndjaa
open Go.ChangeShapes Go.WideShapes Go.ChangeAt Go.RowKit
attribute [local go_sem] frombits_call tobits_call run_neg
theorem sameB_bits (x y : Nat) : ((Fl.bitsF x : Int) == Fl.bitsF y) = Fl.sameB x y := by
  rw [Bool.eq_iff_iff]
  unfold Fl.sameB Fl.bitsF
  cases h1 : Fl.nan x <;> cases h2 : Fl.nan y <;> simp
  · omega
  · intro e; have : x = 9221120237041090560 := by omega
    subst this; simp [Fl.nan, Fl.rg] at h1
  · intro e; have : y = 9221120237041090560 := by omega
    subst this; simp [Fl.nan, Fl.rg] at h2
theorem signbit_any (x : Nat) (w : World) (hx : x < 18446744073709551616) : Calls Try.prog 14 #[.float .f64 x] w fun e w' => e = .returned (.bool (Fl.sg x)) ∧ w' = w := by
  go_enter Try.func14, Try.ntmps14
  go_wp2
  go_ret
  refine ⟨rb ?_, rfl⟩
  show decide (wrap64 (x : Int) < 0) = Fl.sg x
  rw [Fl.sg_lt hx, decide_eq_decide]
  unfold wrap64
  omega
end Go.Proofs.Ythhikidlnpndjaa
