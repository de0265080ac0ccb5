/-
 OWN TEXT: lengths, roots, polar forms, units of complex numbers: what the chapter's steps come to.
-/
import Derived.Test.YtfgfofedacehiaaGreatJAnA
import Derived.Test.YtfgfofedacehiaaGreatJFnLdexpToFnParts
namespace Go.Proofs.YtfgfofedacehiaaGreat
open Go.ChangeShapes Go.WideShapes Go.ChangeAt Go.RowKit
set_option linter.unusedVariables false
/-- y is the root of x -/
def sqtR (x y : Nat) : Prop := y < 18446744073709551616 ∧ (Ieee.double.sqrt x = some y ∨ (Ieee.double.sqrt x = none ∧ Fl.nan y = true))
theorem sqt_none {x : Nat} (h : Fl.nan x = true) : Ieee.double.sqrt x = none := by
 unfold Ieee.Format.sqrt
 rw [Fl.read_nan (Fl.nan_lt h)]
 rfl
theorem sqtR.sim {x x' y y' : Nat} (h : sqtR x y) (k : sqtR x' y') (e : simR x x') : simR y y' := by
 rcases e with e | ⟨e1, e2⟩
 ·
  subst e
  rcases h.2 with a | ⟨a1, a2⟩
  ·
   rcases k.2 with b | ⟨b1, b2⟩
   · rw [a] at b; exact Or.inl (Option.some.inj b)
   · rw [a] at b1; cases b1
  ·
   rcases k.2 with b | ⟨b1, b2⟩
   · rw [a1] at b; cases b
   · exact Or.inr ⟨a2, b2⟩
 ·
  rcases h.2 with a | ⟨a1, a2⟩
  · rw [sqt_none e1] at a; cases a
  ·
   rcases k.2 with b | ⟨b1, b2⟩
   · rw [sqt_none e2] at b; cases b
   · exact Or.inr ⟨a2, b2⟩
def sqaR (a b r : Nat) : Prop := ∃ p q, opR .mul a a p ∧ opR .mul b b q ∧ opR .add p q r
theorem sqaR.sim {a b a' b' r r' : Nat} (h : sqaR a b r) (k : sqaR a' b' r') (e1 : simR a a') (e2 : simR b b') : simR r r' := by
 obtain ⟨p, q, h1, h2, h3⟩ := h
 obtain ⟨p', q', k1, k2, k3⟩ := k
 exact h3.sim isAdd k3 (h1.sim isMul k1 e1 e1) (h2.sim isMul k2 e2 e2)
def togR (u v r : Nat) : Prop := ∃ s, sqaR u v s ∧ sqtR s r
theorem togR.sim {a b a' b' r r' : Nat} (h : togR a b r) (k : togR a' b' r') (e1 : simR a a') (e2 : simR b b') : simR r r' := by
 obtain ⟨s, h1, h2⟩ := h
 obtain ⟨s', k1, k2⟩ := k
 exact h2.sim k2 (h1.sim k1 e1 e2)
theorem tog_lt {u v r : Nat} (h : togR u v r) : r < 18446744073709551616 := by obtain ⟨_, _, h⟩ := h; exact h.1
/-- the greater part without its sign, and the lesser one -/
def bigF (a b : Nat) : Nat := if Fl.ltF (Fl.rg a) (Fl.rg b) = true then Fl.rg b else Fl.rg a
def smaF (a b : Nat) : Nat := if Fl.ltF (Fl.rg a) (Fl.rg b) = true then Fl.rg a else Fl.rg b
theorem big_lt (a b : Nat) : bigF a b < 9223372036854775808 := by unfold bigF; split; exact Fl.rg_lt _; exact Fl.rg_lt _
theorem sc_sim {t t' : Nat} (n : Int) (h : simR t t') : simR (scF t n) (scF t' n) := by
 rcases h with e | ⟨e1, e2⟩
 · rw [e]; exact simR.refl _
 · rw [scF_stay (Or.inr (Nat.le_of_lt (Fl.nan_lt e1))), scF_stay (Or.inr (Nat.le_of_lt (Fl.nan_lt e2)))]; exact Or.inr ⟨e1, e2⟩
/-- the length of a number whose parts are finite -/
def lenP (a b r : Nat) : Prop := ∃ l, togR (scF (bigF a b) (-paE (bigF a b))) (scF (smaF a b) (-paE (bigF a b))) l ∧ r = scF l (paE (bigF a b))
def lenR (a b r : Nat) : Prop := r < 18446744073709551616 ∧
 if Fl.rg a = 9218868437227405312 ∨ Fl.rg b = 9218868437227405312 then r = 9218868437227405312 else if Fl.nan a = true ∨ Fl.nan b = true then Fl.nan r = true else if bigF a b = 0 then r = 0 else lenP a b r
theorem lenR.sim {a b r r' : Nat} (h : lenR a b r) (k : lenR a b r') : simR r r' := by
 obtain ⟨_, h⟩ := h
 obtain ⟨_, k⟩ := k
 by_cases c1 : Fl.rg a = 9218868437227405312 ∨ Fl.rg b = 9218868437227405312
 · rw [if_pos c1] at h k; exact Or.inl (h.trans k.symm)
 ·
  rw [if_neg c1] at h k
  by_cases c2 : Fl.nan a = true ∨ Fl.nan b = true
  · rw [if_pos c2] at h k; exact Or.inr ⟨h, k⟩
  ·
   rw [if_neg c2] at h k
   by_cases c3 : bigF a b = 0
   · rw [if_pos c3] at h k; exact Or.inl (h.trans k.symm)
   ·
    rw [if_neg c3] at h k
    obtain ⟨l, h1, h2⟩ := h
    obtain ⟨l', k1, k2⟩ := k
    rw [h2, k2]
    exact sc_sim _ (h1.sim k1 (simR.refl _) (simR.refl _))
/-- the root of a number whose parts are finite, not both nought; of halves of its order -/
def rooP (a b re im : Nat) : Prop := ∃ l s0 h t d, togR (scF (Fl.rg a) (-(2 * (paE (bigF a b) / 2)))) (scF (Fl.rg b) (-(2 * (paE (bigF a b) / 2)))) l ∧
 opR .add (scF (Fl.rg a) (-(2 * (paE (bigF a b) / 2)))) l s0 ∧ opR .quo s0 4611686018427387904 h ∧ sqtR h t ∧ opR .mul 4611686018427387904 (scF t (paE (bigF a b) / 2)) d ∧
 if Fl.leF 0 a = true then re = scF t (paE (bigF a b) / 2) ∧ opR .quo b d im else opR .quo (Fl.rg b) d re ∧ im = Fl.wd (Fl.sg b) (Fl.rg (scF t (paE (bigF a b) / 2)))
theorem cp_sim {b s s' : Nat} (hb : b = b) (h : simR s s') : simR (Fl.wd (Fl.sg b) (Fl.rg s)) (Fl.wd (Fl.sg b) (Fl.rg s')) := by
 rcases h with e | ⟨e1, e2⟩
 · rw [e]; exact simR.refl _
 ·
  refine Or.inr ⟨?_, ?_⟩
  · unfold Fl.nan; rw [Fl.rg_wd _ _ (Fl.rg_lt _)]; exact e1
  · unfold Fl.nan; rw [Fl.rg_wd _ _ (Fl.rg_lt _)]; exact e2
theorem rooP.sim {a b re im re' im' : Nat} (h : rooP a b re im) (k : rooP a b re' im') : simR re re' ∧ simR im im' := by
 obtain ⟨l, s0, q, t, d, h1, h2, h3, h4, h5, h6⟩ := h
 obtain ⟨l', s0', q', t', d', k1, k2, k3, k4, k5, k6⟩ := k
 have el := h1.sim k1 (simR.refl _) (simR.refl _)
 have e0 := h2.sim isAdd k2 (simR.refl _) el
 have eq := h3.sim isQuo k3 e0 (simR.refl _)
 have et := h4.sim k4 eq
 have es := sc_sim (paE (bigF a b) / 2) et
 have ed := h5.sim isMul k5 (simR.refl _) es
 by_cases c : Fl.leF 0 a = true
 ·
  rw [if_pos c] at h6 k6
  refine ⟨?_, h6.2.sim isQuo k6.2 (simR.refl _) ed⟩
  rw [h6.1, k6.1]; exact es
 ·
  rw [if_neg c] at h6 k6
  refine ⟨h6.1.sim isQuo k6.1 (simR.refl _) ed, ?_⟩
  rw [h6.2, k6.2]; exact cp_sim rfl es
def rooR (a b re im : Nat) : Prop :=
 if Fl.rg b = 9218868437227405312 then re = 9218868437227405312 ∧ im = b
 else if Fl.rg a = 9218868437227405312 ∧ Fl.nan b = true then if Fl.sg a = false then re = 9218868437227405312 ∧ Fl.nan im = true else Fl.nan re = true ∧ im = 9218868437227405312
 else if Fl.rg a = 9218868437227405312 then if Fl.sg a = false then re = 9218868437227405312 ∧ im = Fl.wd (Fl.sg b) 0 else re = 0 ∧ im = Fl.wd (Fl.sg b) 9218868437227405312
 else if Fl.nan a = true ∨ Fl.nan b = true then Fl.nan re = true ∧ Fl.nan im = true
 else if Fl.rg a = 0 ∧ Fl.rg b = 0 then re = 0 ∧ im = b
 else rooP a b re im
theorem rooR.sim {a b re im re' im' : Nat} (h : rooR a b re im) (k : rooR a b re' im') : simR re re' ∧ simR im im' := by
 unfold rooR at h k
 by_cases c1 : Fl.rg b = 9218868437227405312
 · rw [if_pos c1] at h k; exact ⟨Or.inl (h.1.trans k.1.symm), Or.inl (h.2.trans k.2.symm)⟩
 ·
  rw [if_neg c1] at h k
  by_cases c2 : Fl.rg a = 9218868437227405312 ∧ Fl.nan b = true
  ·
   rw [if_pos c2] at h k
   by_cases s : Fl.sg a = false
   · rw [if_pos s] at h k; exact ⟨Or.inl (h.1.trans k.1.symm), Or.inr ⟨h.2, k.2⟩⟩
   · rw [if_neg s] at h k; exact ⟨Or.inr ⟨h.1, k.1⟩, Or.inl (h.2.trans k.2.symm)⟩
  ·
   rw [if_neg c2] at h k
   by_cases c3 : Fl.rg a = 9218868437227405312
   ·
    rw [if_pos c3] at h k
    by_cases s : Fl.sg a = false
    · rw [if_pos s] at h k; exact ⟨Or.inl (h.1.trans k.1.symm), Or.inl (h.2.trans k.2.symm)⟩
    · rw [if_neg s] at h k; exact ⟨Or.inl (h.1.trans k.1.symm), Or.inl (h.2.trans k.2.symm)⟩
   ·
    rw [if_neg c3] at h k
    by_cases c4 : Fl.nan a = true ∨ Fl.nan b = true
    · rw [if_pos c4] at h k; exact ⟨Or.inr ⟨h.1, k.1⟩, Or.inr ⟨h.2, k.2⟩⟩
    ·
     rw [if_neg c4] at h k
     by_cases c5 : Fl.rg a = 0 ∧ Fl.rg b = 0
     · rw [if_pos c5] at h k; exact ⟨Or.inl (h.1.trans k.1.symm), Or.inl (h.2.trans k.2.symm)⟩
     · rw [if_neg c5] at h k; exact h.sim k
/-- the place of a length and an angle -/
def plaR (l t re im : Nat) : Prop := ∃ s c, turR t s c ∧ opR .mul l c re ∧ opR .mul l s im
theorem plaR.sim {l t re im re' im' : Nat} (ht : t < 18446744073709551616) (h : plaR l t re im) (k : plaR l t re' im') : simR re re' ∧ simR im im' := by
 obtain ⟨s, c, h1, h2, h3⟩ := h
 obtain ⟨s', c', k1, k2, k3⟩ := k
 obtain ⟨e1, e2⟩ := h1.sim ht k1
 exact ⟨h2.sim isMul k2 (simR.refl _) e2, h3.sim isMul k3 (simR.refl _) e1⟩
/-- the number of the length 1 -/
def uniR (a b re im : Nat) (ok : Bool) : Prop := if (Fl.finB a && Fl.finB b && !decide (bigF a b = 0)) = true then ok = true ∧ ∃ l, togR (scF a (-paE (bigF a b))) (scF b (-paE (bigF a b))) l ∧ opR .quo (scF a (-paE (bigF a b))) l re ∧ opR .quo (scF b (-paE (bigF a b))) l im else ok = false ∧ re = 0 ∧ im = 0
theorem uniR.sim {a b re im re' im' : Nat} {o o' : Bool} (h : uniR a b re im o) (k : uniR a b re' im' o') : simR re re' ∧ simR im im' ∧ o = o' := by
 unfold uniR at h k
 by_cases c : (Fl.finB a && Fl.finB b && !decide (bigF a b = 0)) = true
 ·
  rw [if_pos c] at h k
  obtain ⟨h0, l, h1, h2, h3⟩ := h
  obtain ⟨k0, l', k1, k2, k3⟩ := k
  have el := h1.sim k1 (simR.refl _) (simR.refl _)
  exact ⟨h2.sim isQuo k2 (simR.refl _) el, h3.sim isQuo k3 (simR.refl _) el, h0.trans k0.symm⟩
 ·
  rw [if_neg c] at h k
  exact ⟨Or.inl (h.2.1.trans k.2.1.symm), Or.inl (h.2.2.trans k.2.2.symm), h.1.trans k.1.symm⟩
/-- near one another -/
def neaR (a b c d most : Nat) (r : Bool) : Prop := ∃ x y l, opR .sub a c x ∧ opR .sub b d y ∧ lenR x y l ∧ r = Fl.leF l most
end Go.Proofs.YtfgfofedacehiaaGreat

