/-
  OWN TEXT: the reference's logarithm of 1 and x (eddyref04.More), for every float.
-/
import Derived.Test.YtdbfhbpillgacaaJnAp
namespace Go.Proofs.Ytdbfhbpillgacaa
open Go.ChangeShapes Go.WideShapes Go.ChangeAt Go.RowKit
set_option linter.unusedVariables false
attribute [local go_sem] frombits_call tobits_call run_neg
/-- what the logarithm of 1 and x is: y -/
def moreR (x y : Nat) : Prop :=
  if (Fl.nan x || Fl.ltF x 13830554455654793216) = true then Fl.nan y = true
  else if Fl.eqF x 13830554455654793216 = true then y = 18442240474082181120
  else if Fl.ltF 9218868437227405311 x = true then y = x
  else if (Fl.leF 13821547256400052224 x && Fl.leF x 4600427019358961664) = true then ∃ b f, opR .add 4611686018427387904 x b ∧ opR .quo x b f ∧ oddR f y
  else ∃ s, opR .add 4607182418800017408 x s ∧ logR s y
theorem moreR.sim {x y y' : Nat} (h : moreR x y) (k : moreR x y') : simR y y' := by
  unfold moreR at h k
  by_cases c1 : (Fl.nan x || Fl.ltF x 13830554455654793216) = true
  · rw [if_pos c1] at h k
    exact Or.inr ⟨h, k⟩
  · rw [if_neg c1] at h k
    by_cases c2 : Fl.eqF x 13830554455654793216 = true
    · rw [if_pos c2] at h k
      exact Or.inl (h.trans k.symm)
    · rw [if_neg c2] at h k
      by_cases c3 : Fl.ltF 9218868437227405311 x = true
      · rw [if_pos c3] at h k
        exact Or.inl (h.trans k.symm)
      · rw [if_neg c3] at h k
        by_cases c4 : (Fl.leF 13821547256400052224 x && Fl.leF x 4600427019358961664) = true
        · rw [if_pos c4] at h k
          obtain ⟨b, f, h1, h2, h3⟩ := h
          obtain ⟨b', f', k1, k2, k3⟩ := k
          exact h3.sim k3 (h2.sim (Or.inr (Or.inr (Or.inr rfl))) k2 (simR.refl _) (h1.sim (Or.inl rfl) k1 (simR.refl _) (simR.refl _)))
        · rw [if_neg c4] at h k
          obtain ⟨s, h1, h2⟩ := h
          obtain ⟨s', k1, k2⟩ := k
          rcases h1.sim (Or.inl rfl) k1 (simR.refl _) (simR.refl _) with e | ⟨e1, e2⟩
          · subst e; exact h2.sim k2
          · have n1 : ∀ s y, Fl.nan s = true → logR s y → Fl.nan y = true := by
              intro s y hs hl
              rcases hl with ⟨_, h⟩ | ⟨h, _⟩ | ⟨h, _⟩ | ⟨h, _⟩
              · exact h
              · rw [hs] at h; cases h
              · subst h; exact absurd hs (by decide)
              · have := Fl.nan_lt hs; omega
            exact Or.inr ⟨n1 s y e1 h2, n1 s' y' e2 k2⟩
end Go.Proofs.Ytdbfhbpillgacaa
