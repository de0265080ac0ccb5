/-
  OWN TEXT: the law FloatNear, over the library's table.
-/
import Derived.Test.YtgnbmilmipbaoaaDoorRfJ
import Derived.Test.YtgnbmilmipbaoaaDoorRfH
import Derived.Test.YtgnbmilmipbaoaaDoorRfA
namespace Go.Proofs.YtgnbmilmipbaoaaDoor
open Go.ChangeShapes Go.WideShapes Go.ChangeAt Go.RowKit
open Bg
set_option linter.unusedVariables false
attribute [local go_sem] frombits_call tobits_call run_neg
theorem same_self (z : Nat) : Fl.sameB z z = true := by unfold Fl.sameB; simp
/-- what both answer of a float made whole -/
theorem rwhole_any (x : Nat) (w : World) (hx : x < 18446744073709551616) : Calls Tryd.prog 28 #[.float .f64 x] w fun e w' => e = .returned (.float .f64 (if Fl.nan x then x else Fl.whF x)) ∧ w' = w := by
  cases hn : Fl.nan x
  · rw [if_neg (by decide)]
    by_cases c : Fl.rg x = 0 ∨ 4841369599423283200 ≤ Fl.rg x
    · rw [wh_stay x 1074 rfl hx hn c]
      exact rwhole_stay x w hx (Or.inr c)
    · exact rwhole_small x w hx (by omega) (by omega)
  · rw [if_pos rfl]
    exact rwhole_stay x w hx (Or.inl hn)
theorem whole_any (x : Nat) (w : World) (hx : x < 18446744073709551616) : Calls Tryd.prog 35 #[.float .f64 x] w fun e w' => ∃ z, e = .returned (.float .f64 z) ∧ Fl.sameB z (if Fl.nan x then x else Fl.whF x) = true ∧ Grown w w' := by
  cases hn : Fl.nan x
  · rw [if_neg (by decide)]
    refine (whole_num x w hn).mono ?_
    rintro e w' ⟨rfl, rfl⟩
    exact ⟨_, rfl, same_self _, Grown.refl _⟩
  · rw [if_pos rfl]
    refine (whole_nan x w hx hn).mono ?_
    rintro e w' ⟨z, rfl, nz, _, hg⟩
    exact ⟨z, rfl, by unfold Fl.sameB; rw [nz, hn]; rfl, hg⟩
end Go.Proofs.YtgnbmilmipbaoaaDoor
