/-
 OWN TEXT: exponentials, logarithms, powers, sines of complex numbers: what the chapter's steps come to.
-/
import Derived.Test.YtfgfofedacehiaaGreatJRoA
import Derived.Test.YtfgfofedacehiaaGreatJEoEToEqE
import Derived.Test.YtfgfofedacehiaaGreatJLsAToEoC
import Derived.Test.YtfgfofedacehiaaGreatJAnA
namespace Go.Proofs.YtfgfofedacehiaaGreat
open Go.ChangeShapes Go.WideShapes Go.ChangeAt Go.RowKit
set_option linter.unusedVariables false
/-- the exponential of a complex number -/
def cexR (a b re im : Nat) : Prop := ∃ e, expR a e ∧ if Fl.eqF b 0 = true then re = e ∧ im = b else ∃ s c, turR b s c ∧ opR .mul e c re ∧ opR .mul e s im
theorem turR_sim {x x' a b a' b' : Nat} (hx : x < 18446744073709551616) (h : turR x a b) (k : turR x' a' b') (e : simR x x') : simR a a' ∧ simR b b' := by
 rcases e with e | ⟨e1, e2⟩
 · subst e; exact h.sim hx k
 ·
  have nf : ∀ y : Nat, Fl.nan y = true → ¬ fitB y = true := by
   intro y hy hf
   unfold fitB Fl.leF at hf
   rw [Fl.nan_rg, hy] at hf
   cases hf
  obtain ⟨_, _, h⟩ := h
  obtain ⟨_, _, k⟩ := k
  rw [if_neg (nf _ e1)] at h
  rw [if_neg (nf _ e2)] at k
  exact ⟨Or.inr ⟨h.1, k.1⟩, Or.inr ⟨h.2, k.2⟩⟩
theorem expR_sim {x x' y y' : Nat} (hx : x < 18446744073709551616) (h : expR x y) (k : expR x' y') (e : simR x x') : simR y y' := by
 rcases e with e | ⟨e1, e2⟩
 · subst e; exact h.sim hx k
 ·
  have a := h.2
  have b := k.2
  rw [if_pos e1] at a
  rw [if_pos e2] at b
  exact Or.inr ⟨a, b⟩
theorem eqF_sim {b b' z : Nat} (e : simR b b') : Fl.eqF b z = Fl.eqF b' z := by
 rcases e with e | ⟨e1, e2⟩
 · rw [e]
 · unfold Fl.eqF; rw [e1, e2]; rfl
theorem cexR.sim {a b a' b' re im re' im' : Nat} (ha : a < 18446744073709551616) (hb : b < 18446744073709551616) (h : cexR a b re im) (k : cexR a' b' re' im') (e1 : simR a a') (e2 : simR b b') : simR re re' ∧ simR im im' := by
 obtain ⟨e, h1, h2⟩ := h
 obtain ⟨e', k1, k2⟩ := k
 have ee := expR_sim ha h1 k1 e1
 rw [← eqF_sim e2] at k2
 by_cases c : Fl.eqF b 0 = true
 ·
  rw [if_pos c] at h2 k2
  rw [h2.1, h2.2, k2.1, k2.2]; exact ⟨ee, e2⟩
 ·
  rw [if_neg c] at h2 k2
  obtain ⟨s, c, a1, a2, a3⟩ := h2
  obtain ⟨s', c', b1, b2, b3⟩ := k2
  obtain ⟨t1, t2⟩ := turR_sim hb a1 b1 e2
  exact ⟨a2.sim isMul b2 ee t2, a3.sim isMul b3 ee t1⟩
/-- the logarithm of a complex number -/
def cloR (a b re im : Nat) : Prop := ∃ l, lenR a b l ∧ logR l re ∧ offR b a im ∧ im < 18446744073709551616
theorem logR_sim {x x' y y' : Nat} (h : logR x y) (k : logR x' y') (e : simR x x') : simR y y' := by
 rcases e with e | ⟨e1, e2⟩
 · subst e; exact h.sim k
 ·
  have n1 : ∀ s y, Fl.nan s = true → logR s y → Fl.nan y = true := by
   intro s y hs hl
   rcases hl with ⟨_, h⟩ | ⟨h, _⟩ | ⟨h, _⟩ | ⟨h, _⟩
   · exact h
   · rw [hs] at h; cases h
   · subst h; exact absurd hs (by decide)
   · have := Fl.nan_lt hs; omega
  exact Or.inr ⟨n1 _ _ e1 h, n1 _ _ e2 k⟩
theorem cloR.sim {a b re im re' im' : Nat} (h : cloR a b re im) (k : cloR a b re' im') : simR re re' ∧ simR im im' := by
 obtain ⟨l, h1, h2, h3, _⟩ := h
 obtain ⟨l', k1, k2, k3, _⟩ := k
 exact ⟨logR_sim h2 k2 (h1.sim k1), h3.sim k3⟩
/-- a to a real power -/
def creR (a b p re im : Nat) : Prop := if Fl.eqF p 0 = true then re = 4607182418800017408 ∧ im = 0 else ∃ x y u v, cloR a b x y ∧ opR .mul x p u ∧ opR .mul y p v ∧ cexR u v re im
theorem creR.sim {a b p re im re' im' : Nat} (h : creR a b p re im) (k : creR a b p re' im') : simR re re' ∧ simR im im' := by
 unfold creR at h k
 by_cases c : Fl.eqF p 0 = true
 · rw [if_pos c] at h k; exact ⟨Or.inl (h.1.trans k.1.symm), Or.inl (h.2.trans k.2.symm)⟩
 ·
  rw [if_neg c] at h k
  obtain ⟨x, y, u, v, h1, h2, h3, h4⟩ := h
  obtain ⟨x', y', u', v', k1, k2, k3, k4⟩ := k
  obtain ⟨e1, e2⟩ := h1.sim k1
  exact h4.sim h2.1 h3.1 k4 (h2.sim isMul k2 e1 (simR.refl _)) (h3.sim isMul k3 e2 (simR.refl _))
/-- a product of complex numbers -/
def cmuR (p q r s re im : Nat) : Prop := ∃ a b c d, opR .mul p r a ∧ opR .mul q s b ∧ opR .sub a b re ∧ opR .mul p s c ∧ opR .mul q r d ∧ opR .add c d im
theorem cmuR.sim {p q r s r' s' re im re' im' : Nat} (h : cmuR p q r s re im) (k : cmuR p q r' s' re' im') (e1 : simR r r') (e2 : simR s s') : simR re re' ∧ simR im im' := by
 obtain ⟨a, b, c, d, h1, h2, h3, h4, h5, h6⟩ := h
 obtain ⟨a', b', c', d', k1, k2, k3, k4, k5, k6⟩ := k
 exact ⟨h3.sim isSub k3 (h1.sim isMul k1 (simR.refl _) e1) (h2.sim isMul k2 (simR.refl _) e2), h6.sim isAdd k6 (h4.sim isMul k4 (simR.refl _) e2) (h5.sim isMul k5 (simR.refl _) e1)⟩
theorem cmu_lt {p q r s re im : Nat} (h : cmuR p q r s re im) : re < 18446744073709551616 ∧ im < 18446744073709551616 := by
 obtain ⟨_, _, _, _, _, _, h3, _, _, h6⟩ := h
 exact ⟨h3.1, h6.1⟩
/-- a to a complex power -/
def cpoR (a b p q re im : Nat) : Prop := if (Fl.eqF p 0 && Fl.eqF q 0) = true then re = 4607182418800017408 ∧ im = 0 else ∃ x y u v, cloR a b x y ∧ cmuR p q x y u v ∧ cexR u v re im
theorem cpoR.sim {a b p q re im re' im' : Nat} (h : cpoR a b p q re im) (k : cpoR a b p q re' im') : simR re re' ∧ simR im im' := by
 unfold cpoR at h k
 by_cases c : (Fl.eqF p 0 && Fl.eqF q 0) = true
 · rw [if_pos c] at h k; exact ⟨Or.inl (h.1.trans k.1.symm), Or.inl (h.2.trans k.2.symm)⟩
 ·
  rw [if_neg c] at h k
  obtain ⟨x, y, u, v, h1, h2, h3⟩ := h
  obtain ⟨x', y', u', v', k1, k2, k3⟩ := k
  obtain ⟨e1, e2⟩ := h1.sim k1
  obtain ⟨f1, f2⟩ := h2.sim k2 e1 e2
  exact h3.sim (cmu_lt h2).1 (cmu_lt h2).2 k3 f1 f2
/-- sine, cosine, and the hyperbolic ones: products of what the parts come to (x turned, y hyperbolic) -/
def cpart (x y s c ch sh : Nat) : Prop := turR x s c ∧ coshR y ch ∧ sinhR y sh
theorem cpart.sim {x y s c ch sh s' c' ch' sh' : Nat} (hx : x < 18446744073709551616) (hy : y < 18446744073709551616) (h : cpart x y s c ch sh) (k : cpart x y s' c' ch' sh') : simR s s' ∧ simR c c' ∧ simR ch ch' ∧ simR sh sh' := by
 obtain ⟨h1, h2, h3⟩ := h
 obtain ⟨k1, k2, k3⟩ := k
 obtain ⟨a, b⟩ := h1.sim hx k1
 exact ⟨a, b, h2.sim hy k2, h3.sim hy k3⟩
def csiR (a b re im : Nat) : Prop := ∃ s c ch sh, cpart a b s c ch sh ∧ opR .mul s ch re ∧ opR .mul c sh im
def ccoR (a b re im : Nat) : Prop := ∃ s c ch sh m, cpart a b s c ch sh ∧ opR .mul c ch re ∧ opR .mul s sh m ∧ im = Fl.ng m
def cshR (a b re im : Nat) : Prop := ∃ s c ch sh, cpart b a s c ch sh ∧ opR .mul sh c re ∧ opR .mul ch s im
def cchR (a b re im : Nat) : Prop := ∃ s c ch sh, cpart b a s c ch sh ∧ opR .mul ch c re ∧ opR .mul sh s im
theorem csiR.sim {a b re im re' im' : Nat} (ha : a < 18446744073709551616) (hb : b < 18446744073709551616) (h : csiR a b re im) (k : csiR a b re' im') : simR re re' ∧ simR im im' := by
 obtain ⟨s, c, ch, sh, h1, h2, h3⟩ := h
 obtain ⟨s', c', ch', sh', k1, k2, k3⟩ := k
 obtain ⟨e1, e2, e3, e4⟩ := h1.sim ha hb k1
 exact ⟨h2.sim isMul k2 e1 e3, h3.sim isMul k3 e2 e4⟩
theorem ccoR.sim {a b re im re' im' : Nat} (ha : a < 18446744073709551616) (hb : b < 18446744073709551616) (h : ccoR a b re im) (k : ccoR a b re' im') : simR re re' ∧ simR im im' := by
 obtain ⟨s, c, ch, sh, m, h1, h2, h3, h4⟩ := h
 obtain ⟨s', c', ch', sh', m', k1, k2, k3, k4⟩ := k
 obtain ⟨e1, e2, e3, e4⟩ := h1.sim ha hb k1
 refine ⟨h2.sim isMul k2 e2 e3, ?_⟩
 rw [h4, k4]; exact ng_sim (h3.sim isMul k3 e1 e4)
theorem cshR.sim {a b re im re' im' : Nat} (ha : a < 18446744073709551616) (hb : b < 18446744073709551616) (h : cshR a b re im) (k : cshR a b re' im') : simR re re' ∧ simR im im' := by
 obtain ⟨s, c, ch, sh, h1, h2, h3⟩ := h
 obtain ⟨s', c', ch', sh', k1, k2, k3⟩ := k
 obtain ⟨e1, e2, e3, e4⟩ := h1.sim hb ha k1
 exact ⟨h2.sim isMul k2 e4 e2, h3.sim isMul k3 e3 e1⟩
theorem cchR.sim {a b re im re' im' : Nat} (ha : a < 18446744073709551616) (hb : b < 18446744073709551616) (h : cchR a b re im) (k : cchR a b re' im') : simR re re' ∧ simR im im' := by
 obtain ⟨s, c, ch, sh, h1, h2, h3⟩ := h
 obtain ⟨s', c', ch', sh', k1, k2, k3⟩ := k
 obtain ⟨e1, e2, e3, e4⟩ := h1.sim hb ha k1
 exact ⟨h2.sim isMul k2 e3 e2, h3.sim isMul k3 e4 e1⟩
/-- the logarithm on another sheet -/
def sheR (a b : Nat) (n : Int) (re im : Nat) (o : Bool) : Prop := ∃ x y, cloR a b x y ∧ if (Fl.finB x && Fl.finB y && !decide (n < -1048576) && !decide (1048576 < n)) = true then o = true ∧ re = x ∧ ∃ t, opR .mul (floatOfInt .f64 n) 4618760256179416344 t ∧ opR .add y t im else o = false ∧ re = 0 ∧ im = 0
theorem fin_sim {x x' : Nat} (e : simR x x') : Fl.finB x = Fl.finB x' := by
 rcases e with e | ⟨e1, e2⟩
 · rw [e]
 ·
  have a := Fl.nan_lt e1
  have b := Fl.nan_lt e2
  unfold Fl.finB
  rw [decide_eq_false (by omega), decide_eq_false (by omega)]
theorem sheR.sim {a b : Nat} {n : Int} {re im re' im' : Nat} {o o' : Bool} (h : sheR a b n re im o) (k : sheR a b n re' im' o') : simR re re' ∧ simR im im' ∧ o = o' := by
 obtain ⟨x, y, h1, h2⟩ := h
 obtain ⟨x', y', k1, k2⟩ := k
 obtain ⟨e1, e2⟩ := h1.sim k1
 rw [← fin_sim e1, ← fin_sim e2] at k2
 by_cases c : (Fl.finB x && Fl.finB y && !decide (n < -1048576) && !decide (1048576 < n)) = true
 ·
  rw [if_pos c] at h2 k2
  obtain ⟨a1, a2, t, a3, a4⟩ := h2
  obtain ⟨b1, b2, t', b3, b4⟩ := k2
  refine ⟨?_, a4.sim isAdd b4 e2 (a3.sim isMul b3 (simR.refl _) (simR.refl _)), a1.trans b1.symm⟩
  rw [a2, b2]; exact e1
 ·
  rw [if_neg c] at h2 k2
  exact ⟨Or.inl (h2.2.1.trans k2.2.1.symm), Or.inl (h2.2.2.trans k2.2.2.symm), h2.1.trans k2.1.symm⟩
end Go.Proofs.YtfgfofedacehiaaGreat

/-
 OWN TEXT: the values of sines, cosines, quarters, angles at given floats, by computation.
-/
namespace Go.Proofs.YtfgfofedacehiaaGreat
open Go.ChangeShapes Go.WideShapes Go.ChangeAt Go.RowKit
set_option linter.unusedVariables false
end Go.Proofs.YtfgfofedacehiaaGreat

/-
 OWN TEXT: the values of lengths, roots, units at given numbers, by computation.
-/
namespace Go.Proofs.YtfgfofedacehiaaGreat
open Go.ChangeShapes Go.WideShapes Go.ChangeAt Go.RowKit
set_option linter.unusedVariables false
end Go.Proofs.YtfgfofedacehiaaGreat

/-
 OWN TEXT: floats with their signs turned: products, differences, whole numbers; that no rest of a quarter is nought.
-/
namespace Go.Proofs.YtfgfofedacehiaaGreat.Fl
set_option linter.unusedVariables false
theorem ng_wd (b : Bool) (r : Nat) (h : r < 9223372036854775808) : wd (!b) r = ng (wd b r) := by
 unfold wd ng
 cases b
 · simp only [Bool.not_false, if_true, Bool.false_eq_true, if_false]; rw [if_pos h]; omega
 · simp only [Bool.not_true, if_true, Bool.false_eq_true, if_false]; rw [if_neg (by omega)]; omega
theorem write_num (b : Bool) (m : Nat) (e : Int) : ∃ r, r ≤ 9218868437227405312 ∧ ∀ b, Ieee.double.write (.number b m e) = wd b r := by
 refine ⟨rq (m * 2 ^ (e + 1074).toNat) (-(e + 1074)).toNat, rq_le _ _, fun b => ?_⟩
 have := nearest_eq b m (e + 1074).toNat (-(e + 1074)).toNat
 rw [show (-1074 + ((e + 1074).toNat : Int) - ((-(e + 1074)).toNat : Int)) = e by omega] at this
 exact this
theorem write_opp (d : Ieee.Datum) (hd : d.isNaN = false) : Ieee.double.write d.opposite = ng (Ieee.double.write d) := by
 cases d with
 | number s m e =>
  obtain ⟨r, hr, h⟩ := write_num s m e
  rw [Ieee.Datum.opposite, h, h]
  exact ng_wd _ _ (by omega)
 | infinity s => cases s <;> rfl
 | nan s t => cases hd
theorem prod_opp (a b : Ieee.Datum) : a.opposite.product b = (a.product b).map Ieee.Datum.opposite ∧ a.product b.opposite = (a.product b).map Ieee.Datum.opposite ∧ ∀ d, a.product b = some d → d.isNaN = false := by
 cases a <;> cases b <;> simp only [Ieee.Datum.opposite, Ieee.Datum.product] <;> (try split) <;> refine ⟨?_, ?_, ?_⟩ <;> first | rfl | (intro d h; cases h; rfl) | (intro d h; cases h) | (simp [Ieee.Datum.opposite, Bool.xor_comm])
theorem mul_ng {a b : Nat} (ha : a < 18446744073709551616) : Ieee.double.mul (ng a) b = (Ieee.double.mul a b).map ng := by
 unfold Ieee.Format.mul
 obtain ⟨h1, _, h3⟩ := prod_opp (Ieee.double.read a) (Ieee.double.read b)
 rw [read_ng ha, h1]
 cases e : (Ieee.double.read a).product (Ieee.double.read b) with
 | none => rfl
 | some d => simp only [Option.map_some, write_opp d (h3 d e)]
theorem mul_ng' {a b : Nat} (hb : b < 18446744073709551616) : Ieee.double.mul a (ng b) = (Ieee.double.mul a b).map ng := by
 unfold Ieee.Format.mul
 obtain ⟨_, h2, h3⟩ := prod_opp (Ieee.double.read a) (Ieee.double.read b)
 rw [read_ng hb, h2]
 cases e : (Ieee.double.read a).product (Ieee.double.read b) with
 | none => rfl
 | some d => simp only [Option.map_some, write_opp d (h3 d e)]
end Go.Proofs.YtfgfofedacehiaaGreat.Fl
namespace Go.Proofs.YtfgfofedacehiaaGreat
open Go.ChangeShapes Go.WideShapes Go.ChangeAt Go.RowKit
set_option linter.unusedVariables false
/-- b is a with its sign turned, or both are no numbers -/
def simN (a b : Nat) : Prop := b = Fl.ng a ∨ (Fl.nan a = true ∧ Fl.nan b = true)
theorem simN.sim {a b : Nat} (h : simN a b) : simR b (Fl.ng a) := by
 rcases h with e | ⟨e1, e2⟩
 · exact Or.inl e
 · exact Or.inr ⟨e2, by rw [Fl.nan_ng]; exact e1⟩
end Go.Proofs.YtfgfofedacehiaaGreat

