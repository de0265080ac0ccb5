/-
  OWN TEXT: package elem's logarithm (elem.Log), for every float, and that it is a word.
-/
import Derived.Test.YtdbfhbpillgacaaEpB
namespace Go.Proofs.Ytdbfhbpillgacaa
open Go.ChangeShapes Go.WideShapes Go.ChangeAt Go.RowKit
set_option linter.unusedVariables false
attribute [local go_sem] frombits_call tobits_call run_neg
theorem logP_lt {m : Nat} {e : Int} {y : Nat} (h : logP m e y) : y < 18446744073709551616 := by
  obtain ⟨_, _, _, _, _, _, _, _, _, _, _, _, _, _, h⟩ := h
  exact h.1
theorem logF_lt {x y : Nat} (h : logF x y) : y < 18446744073709551616 := by
  unfold logF at h
  by_cases c : Fl.ltF (paF x) 4604544271217802189 = true
  · rw [if_pos c] at h
    obtain ⟨m, _, h⟩ := h
    exact logP_lt h
  · rw [if_neg c] at h; exact logP_lt h
set_option maxHeartbeats 4000000 in
theorem log_word_any (x : Nat) (w : World) (hx : x < 18446744073709551616) : Calls Try.prog 14 #[.float .f64 x] w fun e w' => ∃ y, e = .returned (.float .f64 y) ∧ logR x y ∧ y < 18446744073709551616 ∧ Bw w w' := by
  have g1 := Fl.o_lt x 0
  have g2 := Fl.o_eq x 0
  rcases log_cases x hx with h | ⟨h, h1⟩ | ⟨h, h1, h2⟩ | ⟨h, h1, h2, h3⟩ | ⟨h1, h2, h3⟩
  · have HL : Hid (logR x x) := Or.inl ⟨Or.inl h, h⟩
    have k1 : Fl.ltF x 0 = false := by unfold Fl.ltF; rw [h]; rfl
    have k2 : Fl.eqF x 0 = false := by unfold Fl.eqF; rw [h]; rfl
    have k3 : Fl.finB x = false := by have := Fl.nan_lt h; unfold Fl.finB; exact decide_eq_false (by omega)
    have FI : Hid (∀ wz, Calls Try.prog 39 #[.float .f64 x] wz fun e w' => e = .returned (.bool false) ∧ w' = wz) := fun wz => by have h := finite_any x wz hx; rw [k3] at h; exact h
    rw [k1] at g1
    rw [k2] at g2
    clear h k1 k2 k3
    go_enter Try.func14, Try.ntmps14
    go_wp2_with (go_at_call 39; refine (FI.out _).mono ?_; rintro e w ⟨rfl, rfl⟩)
    go_ret
    exact ⟨_, rfl, HL.out, by first | exact hx | decide, Bw.refl _⟩
  · have HL : Hid (logR x 9221120237041090561) := Or.inl ⟨Or.inr h1, by decide⟩
    rw [h1] at g1
    clear g2
    go_enter Try.func14, Try.ntmps14
    go_wp2_with (go_at_call 9; refine (nan_ret _).mono ?_; rintro e w ⟨rfl, rfl⟩)
    go_ret
    exact ⟨_, rfl, HL.out, by first | exact hx | decide, Bw.refl _⟩
  · have HL : Hid (logR x 18442240474082181120) := Or.inr (Or.inl ⟨h, h2, rfl⟩)
    obtain ⟨t1, t2, t3⟩ := up_tests hx h
    rw [t2, decide_eq_true h2] at g2
    rw [h1] at g1
    clear t1 t2 t3 h2
    go_enter Try.func14, Try.ntmps14
    go_wp2_with (go_at_call 10; refine (inf_ret _).mono ?_; rintro e w ⟨rfl, rfl⟩)
    go_ret
    exact ⟨_, rfl, HL.out, by first | exact hx | decide, Bw.refl _⟩
  · have HL : Hid (logR x x) := Or.inr (Or.inr (Or.inl ⟨h3, rfl⟩))
    obtain ⟨t1, t2, t3⟩ := up_tests hx h
    have k3 : Fl.finB x = false := by rw [h3]; decide
    have FI : Hid (∀ wz, Calls Try.prog 39 #[.float .f64 x] wz fun e w' => e = .returned (.bool false) ∧ w' = wz) := fun wz => by have h := finite_any x wz hx; rw [k3] at h; exact h
    rw [t2, decide_eq_false h2] at g2
    rw [h1] at g1
    clear t1 t2 t3 h2 h3 k3
    go_enter Try.func14, Try.ntmps14
    go_wp2_with (go_at_call 39; refine (FI.out _).mono ?_; rintro e w ⟨rfl, rfl⟩)
    go_ret
    exact ⟨_, rfl, HL.out, by first | exact hx | decide, Bw.refl _⟩
  · refine (log_fin x w hx h1 h2 h3).mono ?_
    rintro e w' ⟨y, rfl, hy, hg⟩
    exact ⟨y, rfl, Or.inr (Or.inr (Or.inr ⟨h1, h2, h3, hy⟩)), logF_lt hy, hg⟩
end Go.Proofs.Ytdbfhbpillgacaa
