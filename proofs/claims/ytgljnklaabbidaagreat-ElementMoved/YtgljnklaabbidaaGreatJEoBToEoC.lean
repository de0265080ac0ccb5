/-
  OWN TEXT: the reference's logarithm (eddyref04.Log), for every float.
-/
import Derived.Test.YtgljnklaabbidaaGreatJEoA
import Derived.Test.YtgljnklaabbidaaGreatJRfBToRfC
namespace Go.Proofs.YtgljnklaabbidaaGreat
open Go.ChangeShapes Go.WideShapes Go.ChangeAt Go.RowKit
set_option linter.unusedVariables false
attribute [local go_sem] frombits_call tobits_call run_neg
/-- the logarithm of a finite number above nought: of its parts m and e -/
def logP (m : Nat) (e : Int) (y : Nat) : Prop := ∃ a b f o nh nl t, opR .sub m 4607182418800017408 a ∧ opR .add m 4607182418800017408 b ∧ opR .quo a b f ∧ oddR f o ∧
  opR .mul (floatOfInt .f64 e) 4604418534311723008 nh ∧ opR .mul (floatOfInt .f64 e) 4461442080421002358 nl ∧ opR .add nl o t ∧ opR .add nh t y
def logF (x y : Nat) : Prop := if Fl.ltF (paF x) 4604544271217802189 = true then ∃ m, opR .mul 4611686018427387904 (paF x) m ∧ logP m (paE x - 1) y else logP (paF x) (paE x) y
theorem logP.sim {m m' : Nat} {e : Int} {y y' : Nat} (h : logP m e y) (k : logP m' e y') (hm : simR m m') : simR y y' := by
  obtain ⟨a, b, f, o, nh, nl, t, h1, h2, h3, h4, h5, h6, h7, h8⟩ := h
  obtain ⟨a', b', f', o', nh', nl', t', k1, k2, k3, k4, k5, k6, k7, k8⟩ := k
  have ad : isOp .add := Or.inl rfl
  have su : isOp .sub := Or.inr (Or.inl rfl)
  have mu : isOp .mul := Or.inr (Or.inr (Or.inl rfl))
  have qu : isOp .quo := Or.inr (Or.inr (Or.inr rfl))
  have ea := h1.sim su k1 hm (simR.refl _)
  have eb := h2.sim ad k2 hm (simR.refl _)
  have ef := h3.sim qu k3 ea eb
  have eo := h4.sim k4 ef
  have eh := h5.sim mu k5 (simR.refl _) (simR.refl _)
  have el := h6.sim mu k6 (simR.refl _) (simR.refl _)
  have et := h7.sim ad k7 el eo
  exact h8.sim ad k8 eh et
theorem logF.sim {x y y' : Nat} (h : logF x y) (k : logF x y') : simR y y' := by
  unfold logF at h k
  by_cases c : Fl.ltF (paF x) 4604544271217802189 = true
  · rw [if_pos c] at h k
    obtain ⟨m, h1, h2⟩ := h
    obtain ⟨m', k1, k2⟩ := k
    exact h2.sim k2 (h1.sim (Or.inr (Or.inr (Or.inl rfl))) k1 (simR.refl _) (simR.refl _))
  · rw [if_neg c] at h k
    exact h.sim k (simR.refl _)
end Go.Proofs.YtgljnklaabbidaaGreat
/-
  OWN TEXT: the reference's logarithm for every float, and that of 1 and x (eddyref04.Log, eddyref04.More).
-/
namespace Go.Proofs.YtgljnklaabbidaaGreat
open Go.ChangeShapes Go.WideShapes Go.ChangeAt Go.RowKit
set_option linter.unusedVariables false
attribute [local go_sem] frombits_call tobits_call run_neg
/-- what the logarithm of x is: y -/
def logR (x y : Nat) : Prop :=
  ((Fl.nan x = true ∨ Fl.ltF x 0 = true) ∧ Fl.nan y = true) ∨
  (Fl.nan x = false ∧ Fl.rg x = 0 ∧ y = 18442240474082181120) ∨
  (x = 9218868437227405312 ∧ y = x) ∨
  (Fl.rg x < 9218868437227405312 ∧ ¬ Fl.rg x = 0 ∧ Fl.sg x = false ∧ logF x y)
theorem nan_ret (w : World) : Calls Tryz.prog 92 #[] w fun e w' => e = .returned (.float .f64 9221120237041090561) ∧ w' = w := by
  go_enter Tryz.func92, Tryz.ntmps92
  go_wp2
  go_ret
  exact ⟨rfl, rfl⟩
theorem inf_ret (w : World) : Calls Tryz.prog 84 #[.int .i64 (-1)] w fun e w' => e = .returned (.float .f64 18442240474082181120) ∧ w' = w := by
  go_enter Tryz.func84, Tryz.ntmps84
  go_wp2
  go_ret
  exact ⟨rfl, rfl⟩
theorem log_cases (x : Nat) (hx : x < 18446744073709551616) : Fl.nan x = true ∨ (Fl.nan x = false ∧ Fl.ltF x 0 = true) ∨ (Fl.nan x = false ∧ Fl.ltF x 0 = false ∧ Fl.rg x = 0) ∨ (Fl.nan x = false ∧ Fl.ltF x 0 = false ∧ ¬ Fl.rg x = 0 ∧ x = 9218868437227405312) ∨ (Fl.rg x < 9218868437227405312 ∧ ¬ Fl.rg x = 0 ∧ Fl.sg x = false) := by
  cases hn : Fl.nan x
  · obtain ⟨t1, t2, t3⟩ := up_tests hx hn
    have hl := Fl.nan_le hn
    have hk := Fl.sg_key hx
    cases hlt : Fl.ltF x 0
    · rw [t3, decide_eq_false_iff_not] at hlt
      by_cases z : Fl.rg x = 0
      · exact Or.inr (Or.inr (Or.inl ⟨rfl, rfl, z⟩))
      · by_cases i : x = 9218868437227405312
        · exact Or.inr (Or.inr (Or.inr (Or.inl ⟨rfl, rfl, z, i⟩)))
        · have hsg := Fl.sg_lt hx
          refine Or.inr (Or.inr (Or.inr (Or.inr ⟨?_, z, ?_⟩)))
          · have : Fl.rg x = x % 9223372036854775808 := rfl
            omega
          · rw [hsg]
            have : Fl.rg x = x % 9223372036854775808 := rfl
            exact decide_eq_false (by omega)
    · exact Or.inr (Or.inl ⟨rfl, rfl⟩)
  · exact Or.inl rfl
/-- one number has one logarithm -/
theorem logR.sim {x y y' : Nat} (h : logR x y) (k : logR x y') : simR y y' := by
  have zl : ∀ x : Nat, Fl.rg x = 0 → Fl.nan x = false ∧ Fl.ltF x 0 = false := by
    intro x hz
    have hn : Fl.nan x = false := by unfold Fl.nan; exact decide_eq_false (by omega)
    refine ⟨hn, ?_⟩
    unfold Fl.ltF
    have : Fl.key x = 0 := by unfold Fl.key; rw [hz]; split <;> rfl
    rw [this, show Fl.key 0 = 0 by decide, hn]
    rfl
  have inl : ∀ x : Nat, x = 9218868437227405312 → Fl.nan x = false ∧ Fl.ltF x 0 = false ∧ ¬ Fl.rg x = 0 := by
    intro x hz
    subst hz
    decide
  have fin : ∀ x : Nat, Fl.rg x < 9218868437227405312 → Fl.sg x = false → Fl.nan x = false ∧ Fl.ltF x 0 = false := by
    intro x h1 h2
    have hn : Fl.nan x = false := by unfold Fl.nan; exact decide_eq_false (by omega)
    refine ⟨hn, ?_⟩
    unfold Fl.ltF Fl.key
    rw [hn, h2, if_neg (by decide), show Fl.sg 0 = false by decide, show Fl.rg 0 = 0 by decide]
    simp
  rcases h with ⟨h1, h2⟩ | ⟨h1, h2, h3⟩ | ⟨h1, h2⟩ | ⟨h1, h2, h3, h4⟩
  · rcases k with ⟨k1, k2⟩ | ⟨k1, k2, k3⟩ | ⟨k1, k2⟩ | ⟨k1, k2, k3, k4⟩
    · exact Or.inr ⟨h2, k2⟩
    · obtain ⟨a, b⟩ := zl x k2; rw [a, b] at h1; rcases h1 with h1 | h1 <;> cases h1
    · obtain ⟨a, b, _⟩ := inl x k1; rw [a, b] at h1; rcases h1 with h1 | h1 <;> cases h1
    · obtain ⟨a, b⟩ := fin x k1 k3; rw [a, b] at h1; rcases h1 with h1 | h1 <;> cases h1
  · rcases k with ⟨k1, k2⟩ | ⟨k1, k2, k3⟩ | ⟨k1, k2⟩ | ⟨k1, k2, k3, k4⟩
    · obtain ⟨a, b⟩ := zl x h2; rw [a, b] at k1; rcases k1 with k1 | k1 <;> cases k1
    · exact Or.inl (h3.trans k3.symm)
    · exact absurd h2 (inl x k1).2.2
    · exact absurd h2 k2
  · rcases k with ⟨k1, k2⟩ | ⟨k1, k2, k3⟩ | ⟨k1, k2⟩ | ⟨k1, k2, k3, k4⟩
    · obtain ⟨a, b, _⟩ := inl x h1; rw [a, b] at k1; rcases k1 with k1 | k1 <;> cases k1
    · exact absurd k2 (inl x h1).2.2
    · exact Or.inl (h2.trans k2.symm)
    · subst h1; exact absurd k1 (by decide)
  · rcases k with ⟨k1, k2⟩ | ⟨k1, k2, k3⟩ | ⟨k1, k2⟩ | ⟨k1, k2, k3, k4⟩
    · obtain ⟨a, b⟩ := fin x h1 h3; rw [a, b] at k1; rcases k1 with k1 | k1 <;> cases k1
    · exact absurd k2 h2
    · subst k1; exact absurd h1 (by decide)
    · exact h4.sim k4
end Go.Proofs.YtgljnklaabbidaaGreat
