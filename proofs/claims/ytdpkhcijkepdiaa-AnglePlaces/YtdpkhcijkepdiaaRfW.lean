/-
  OWN TEXT: the reference's float made whole (eddyref01.Whole), for every float.
-/
import Derived.Test.YtdpkhcijkepdiaaRfJ
namespace Go.Proofs.Ytdpkhcijkepdiaa
open Go.ChangeShapes Go.WideShapes Go.ChangeAt Go.RowKit
set_option linter.unusedVariables false
theorem same_self (z : Nat) : Fl.sameB z z = true := by unfold Fl.sameB; simp
/-- what both answer of a float made whole -/
theorem rwhole_any (x : Nat) (w : World) (hx : x < 18446744073709551616) : Calls Try.prog 33 #[.float .f64 x] w fun e w' => e = .returned (.float .f64 (if Fl.nan x then x else Fl.whF x)) ∧ w' = w := by
  cases hn : Fl.nan x
  · rw [if_neg (by decide)]
    by_cases c : Fl.rg x = 0 ∨ 4841369599423283200 ≤ Fl.rg x
    · rw [wh_stay x 1074 rfl hx hn c]
      exact rwhole_stay x w hx (Or.inr c)
    · exact rwhole_small x w hx (by omega) (by omega)
  · rw [if_pos rfl]
    exact rwhole_stay x w hx (Or.inl hn)
end Go.Proofs.Ytdpkhcijkepdiaa
