/-
  OWN TEXT: two complex numbers are the same (eddyref02.Same, eddylaw06.same).
-/
import Derived.Test.YtpfaaimfembhdaaJFnEqToFnSame
import Derived.Test.YtpfaaimfembhdaaJEoA
namespace Go.Proofs.Ytpfaaimfembhdaa
open Go.ChangeShapes Go.WideShapes Go.ChangeAt Go.RowKit
set_option linter.unusedVariables false
attribute [local go_sem] frombits_call tobits_call run_neg
theorem rsame2_any (a b c d : Nat) (w : World) : Calls Try.prog 49 #[.complex .f64 a b, .complex .f64 c d] w fun e w' => e = .returned (.bool (Fl.sameB a c && Fl.sameB b d)) ∧ w' = w := by
  have FA : Hid (∀ wz, Calls Try.prog 65 #[.float .f64 a, .float .f64 c] wz fun e w' => e = .returned (.bool (Fl.sameB a c)) ∧ w' = wz) := fun wz => rsame_any a c wz
  have FB : Hid (∀ wz, Calls Try.prog 65 #[.float .f64 b, .float .f64 d] wz fun e w' => e = .returned (.bool (Fl.sameB b d)) ∧ w' = wz) := fun wz => rsame_any b d wz
  generalize Fl.sameB a c = x at *
  generalize Fl.sameB b d = y at *
  cases x
  · go_enter Try.func49, Try.ntmps49
    go_wp2_with fail
    refine (FA.out _).mono ?_
    rintro e' w ⟨rfl, rfl⟩
    go_wp2
    go_ret
    exact ⟨rfl, rfl⟩
  · go_enter Try.func49, Try.ntmps49
    go_wp2_with fail
    refine (FA.out _).mono ?_
    rintro e' w ⟨rfl, rfl⟩
    go_wp2_with fail
    refine (FB.out _).mono ?_
    rintro e' w ⟨rfl, rfl⟩
    go_wp2
    go_ret
    exact ⟨by cases y <;> rfl, rfl⟩
theorem same6_yes {a b c d : Nat} (h1 : simR a c) (h2 : simR b d) (w : World) : Calls Try.prog 21 #[.complex .f64 a b, .complex .f64 c d] w fun e w' => e = .returned (.bool true) ∧ w' = w := by
  have S : Hid (∀ wz, Calls Try.prog 49 #[.complex .f64 a b, .complex .f64 c d] wz fun e w' => e = .returned (.bool true) ∧ w' = wz) := fun wz => by
    have k := rsame2_any a b c d wz
    rw [h1.same, h2.same] at k
    exact k
  go_enter Try.func21, Try.ntmps21
  go_wp2_with fail
  refine (S.out _).mono ?_
  rintro e' w ⟨rfl, rfl⟩
  go_wp2
  go_ret
  exact ⟨rfl, rfl⟩
end Go.Proofs.Ytpfaaimfembhdaa
