/-
 OWN TEXT: what Same of package float and math.Signbit return, for every float.
-/
import Derived.Test.YtfgfofedacehiaaGreatJFnToFnStairs
namespace Go.Proofs.YtfgfofedacehiaaGreat
open Go.ChangeShapes Go.WideShapes Go.ChangeAt Go.RowKit
attribute [local go_sem] frombits_call tobits_call run_neg
theorem sameB_bits (x y : Nat) : ((Fl.bitsF x : Int) == Fl.bitsF y) = Fl.sameB x y := by
 rw [Bool.eq_iff_iff]
 unfold Fl.sameB Fl.bitsF
 cases h1 : Fl.nan x <;> cases h2 : Fl.nan y <;> simp
 · omega
 ·
  intro e; have : x = 9221120237041090560 := by omega
  subst this; simp [Fl.nan, Fl.rg] at h1
 ·
  intro e; have : y = 9221120237041090560 := by omega
  subst this; simp [Fl.nan, Fl.rg] at h2
theorem same_any (x y : Nat) (w : World) : Calls Tryz.prog 60 #[.float .f64 x, .float .f64 y] w fun e w' => e = .returned (.bool (Fl.sameB x y)) ∧ w' = w := by
 go_enter Tryz.func60, Tryz.ntmps60
 go_wp2_with (go_at_call 85; refine (bits_any _ _).mono ?_; rintro e w' ⟨rfl, rfl⟩)
 go_ret
 exact ⟨rb (sameB_bits x y), rfl⟩
end Go.Proofs.YtfgfofedacehiaaGreat

/-
 OWN TEXT: what Same, Minus, Signed and the reference of layer 1 return, for every float.
-/
namespace Go.Proofs.YtfgfofedacehiaaGreat
open Go.ChangeShapes Go.WideShapes Go.ChangeAt Go.RowKit
attribute [local go_sem] frombits_call tobits_call run_neg
end Go.Proofs.YtfgfofedacehiaaGreat

