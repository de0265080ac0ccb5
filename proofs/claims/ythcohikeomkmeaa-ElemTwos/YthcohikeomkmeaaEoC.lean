/-
  OWN TEXT: the reference's logarithm for every float, and that of 1 and x (eddyref04.Log, eddyref04.More).
-/
import Derived.Test.YthcohikeomkmeaaEoB
namespace Go.Proofs.Ythcohikeomkmeaa
open Go.ChangeShapes Go.WideShapes Go.ChangeAt Go.RowKit
set_option linter.unusedVariables false
attribute [local go_sem] frombits_call tobits_call run_neg
/-- what the logarithm of x is: y -/
def logR (x y : Nat) : Prop :=
  ((Fl.nan x = true ∨ Fl.ltF x 0 = true) ∧ Fl.nan y = true) ∨
  (Fl.nan x = false ∧ Fl.rg x = 0 ∧ y = 18442240474082181120) ∨
  (x = 9218868437227405312 ∧ y = x) ∨
  (Fl.rg x < 9218868437227405312 ∧ ¬ Fl.rg x = 0 ∧ Fl.sg x = false ∧ logF x y)
theorem nan_ret (w : World) : Calls Try.prog 7 #[] w fun e w' => e = .returned (.float .f64 9221120237041090561) ∧ w' = w := by
  go_enter Try.func7, Try.ntmps7
  go_wp2
  go_ret
  exact ⟨rfl, rfl⟩
theorem inf_ret (w : World) : Calls Try.prog 6 #[.int .i64 (-1)] w fun e w' => e = .returned (.float .f64 18442240474082181120) ∧ w' = w := by
  go_enter Try.func6, Try.ntmps6
  go_wp2
  go_ret
  exact ⟨rfl, rfl⟩
theorem log_cases (x : Nat) (hx : x < 18446744073709551616) : Fl.nan x = true ∨ (Fl.nan x = false ∧ Fl.ltF x 0 = true) ∨ (Fl.nan x = false ∧ Fl.ltF x 0 = false ∧ Fl.rg x = 0) ∨ (Fl.nan x = false ∧ Fl.ltF x 0 = false ∧ ¬ Fl.rg x = 0 ∧ x = 9218868437227405312) ∨ (Fl.rg x < 9218868437227405312 ∧ ¬ Fl.rg x = 0 ∧ Fl.sg x = false) := by
  cases hn : Fl.nan x
  · obtain ⟨t1, t2, t3⟩ := up_tests hx hn
    have hl := Fl.nan_le hn
    have hk := Fl.sg_key hx
    cases hlt : Fl.ltF x 0
    · rw [t3, decide_eq_false_iff_not] at hlt
      by_cases z : Fl.rg x = 0
      · exact Or.inr (Or.inr (Or.inl ⟨rfl, rfl, z⟩))
      · by_cases i : x = 9218868437227405312
        · exact Or.inr (Or.inr (Or.inr (Or.inl ⟨rfl, rfl, z, i⟩)))
        · have hsg := Fl.sg_lt hx
          refine Or.inr (Or.inr (Or.inr (Or.inr ⟨?_, z, ?_⟩)))
          · have : Fl.rg x = x % 9223372036854775808 := rfl
            omega
          · rw [hsg]
            have : Fl.rg x = x % 9223372036854775808 := rfl
            exact decide_eq_false (by omega)
    · exact Or.inr (Or.inl ⟨rfl, rfl⟩)
  · exact Or.inl rfl
set_option maxHeartbeats 4000000 in
theorem rlog_any (x : Nat) (w : World) (hx : x < 18446744073709551616) : Calls Try.prog 22 #[.float .f64 x] w fun e w' => ∃ y, e = .returned (.float .f64 y) ∧ logR x y ∧ Bw w w' := by
  have g0 := Fl.o_ne x x
  rw [Fl.eqF_self, Bool.not_not] at g0
  have g1 := Fl.o_lt x 0
  rcases log_cases x hx with h | ⟨h, h1⟩ | ⟨h, h1, h2⟩ | ⟨h, h1, h2, h3⟩ | ⟨h1, h2, h3⟩
  · have HL : Hid (logR x 9221120237041090561) := Or.inl ⟨Or.inl h, by decide⟩
    rw [h] at g0
    go_enter Try.func22, Try.ntmps22
    go_wp2_with (go_at_call 7; refine (nan_ret _).mono ?_; rintro e w ⟨rfl, rfl⟩)
    go_ret
    exact ⟨_, rfl, HL.out, Bw.refl _⟩
  · have HL : Hid (logR x 9221120237041090561) := Or.inl ⟨Or.inr h1, by decide⟩
    rw [h] at g0
    rw [h1] at g1
    go_enter Try.func22, Try.ntmps22
    go_wp2_with (go_at_call 7; refine (nan_ret _).mono ?_; rintro e w ⟨rfl, rfl⟩)
    go_ret
    exact ⟨_, rfl, HL.out, Bw.refl _⟩
  · have HL : Hid (logR x 18442240474082181120) := Or.inr (Or.inl ⟨h, h2, rfl⟩)
    obtain ⟨t1, t2, t3⟩ := up_tests hx h
    have g2 := Fl.o_eq x 0
    rw [t2, decide_eq_true h2] at g2
    rw [h] at g0
    rw [h1] at g1
    clear t1 t2 t3 h2
    go_enter Try.func22, Try.ntmps22
    go_wp2_with (go_at_call 6; refine (inf_ret _).mono ?_; rintro e w ⟨rfl, rfl⟩)
    go_ret
    exact ⟨_, rfl, HL.out, Bw.refl _⟩
  · have HL : Hid (logR x x) := Or.inr (Or.inr (Or.inl ⟨h3, rfl⟩))
    obtain ⟨t1, t2, t3⟩ := up_tests hx h
    have g2 := Fl.o_eq x 0
    have g3 := Fl.o_gt x 9218868437227405311
    rw [t2, decide_eq_false h2] at g2
    rw [t1, decide_eq_true h3] at g3
    rw [h] at g0
    rw [h1] at g1
    clear t1 t2 t3 h2 h3
    go_enter Try.func22, Try.ntmps22
    go_wp2
    go_ret
    exact ⟨_, rfl, HL.out, Bw.refl _⟩
  · refine (rlog_fin x w hx h1 h2 h3).mono ?_
    rintro e w' ⟨y, rfl, hy, hg⟩
    exact ⟨y, rfl, Or.inr (Or.inr (Or.inr ⟨h1, h2, h3, hy⟩)), hg⟩
/-- one number has one logarithm -/
theorem logR.sim {x y y' : Nat} (h : logR x y) (k : logR x y') : simR y y' := by
  have zl : ∀ x : Nat, Fl.rg x = 0 → Fl.nan x = false ∧ Fl.ltF x 0 = false := by
    intro x hz
    have hn : Fl.nan x = false := by unfold Fl.nan; exact decide_eq_false (by omega)
    refine ⟨hn, ?_⟩
    unfold Fl.ltF
    have : Fl.key x = 0 := by unfold Fl.key; rw [hz]; split <;> rfl
    rw [this, show Fl.key 0 = 0 by decide, hn]
    rfl
  have inl : ∀ x : Nat, x = 9218868437227405312 → Fl.nan x = false ∧ Fl.ltF x 0 = false ∧ ¬ Fl.rg x = 0 := by
    intro x hz
    subst hz
    decide
  have fin : ∀ x : Nat, Fl.rg x < 9218868437227405312 → Fl.sg x = false → Fl.nan x = false ∧ Fl.ltF x 0 = false := by
    intro x h1 h2
    have hn : Fl.nan x = false := by unfold Fl.nan; exact decide_eq_false (by omega)
    refine ⟨hn, ?_⟩
    unfold Fl.ltF Fl.key
    rw [hn, h2, if_neg (by decide), show Fl.sg 0 = false by decide, show Fl.rg 0 = 0 by decide]
    simp
  rcases h with ⟨h1, h2⟩ | ⟨h1, h2, h3⟩ | ⟨h1, h2⟩ | ⟨h1, h2, h3, h4⟩
  · rcases k with ⟨k1, k2⟩ | ⟨k1, k2, k3⟩ | ⟨k1, k2⟩ | ⟨k1, k2, k3, k4⟩
    · exact Or.inr ⟨h2, k2⟩
    · obtain ⟨a, b⟩ := zl x k2; rw [a, b] at h1; rcases h1 with h1 | h1 <;> cases h1
    · obtain ⟨a, b, _⟩ := inl x k1; rw [a, b] at h1; rcases h1 with h1 | h1 <;> cases h1
    · obtain ⟨a, b⟩ := fin x k1 k3; rw [a, b] at h1; rcases h1 with h1 | h1 <;> cases h1
  · rcases k with ⟨k1, k2⟩ | ⟨k1, k2, k3⟩ | ⟨k1, k2⟩ | ⟨k1, k2, k3, k4⟩
    · obtain ⟨a, b⟩ := zl x h2; rw [a, b] at k1; rcases k1 with k1 | k1 <;> cases k1
    · exact Or.inl (h3.trans k3.symm)
    · exact absurd h2 (inl x k1).2.2
    · exact absurd h2 k2
  · rcases k with ⟨k1, k2⟩ | ⟨k1, k2, k3⟩ | ⟨k1, k2⟩ | ⟨k1, k2, k3, k4⟩
    · obtain ⟨a, b, _⟩ := inl x h1; rw [a, b] at k1; rcases k1 with k1 | k1 <;> cases k1
    · exact absurd k2 (inl x h1).2.2
    · exact Or.inl (h2.trans k2.symm)
    · subst h1; exact absurd k1 (by decide)
  · rcases k with ⟨k1, k2⟩ | ⟨k1, k2, k3⟩ | ⟨k1, k2⟩ | ⟨k1, k2, k3, k4⟩
    · obtain ⟨a, b⟩ := fin x h1 h3; rw [a, b] at k1; rcases k1 with k1 | k1 <;> cases k1
    · exact absurd k2 h2
    · subst k1; exact absurd h1 (by decide)
    · exact h4.sim k4
end Go.Proofs.Ythcohikeomkmeaa
