/-
  OWN TEXT: what Same of package float and math.Signbit return, for every float.
-/
import Derived.Test.YtgnbmilmipbaoaaDoorFn
namespace Go.Proofs.YtgnbmilmipbaoaaDoor
open Go.ChangeShapes Go.WideShapes Go.ChangeAt Go.RowKit
attribute [local go_sem] frombits_call tobits_call run_neg
theorem sameB_bits (x y : Nat) : ((Fl.bitsF x : Int) == Fl.bitsF y) = Fl.sameB x y := by
  rw [Bool.eq_iff_iff]
  unfold Fl.sameB Fl.bitsF
  cases h1 : Fl.nan x <;> cases h2 : Fl.nan y <;> simp
  · omega
  · intro e; have : x = 9221120237041090560 := by omega
    subst this; simp [Fl.nan, Fl.rg] at h1
  · intro e; have : y = 9221120237041090560 := by omega
    subst this; simp [Fl.nan, Fl.rg] at h2
end Go.Proofs.YtgnbmilmipbaoaaDoor
