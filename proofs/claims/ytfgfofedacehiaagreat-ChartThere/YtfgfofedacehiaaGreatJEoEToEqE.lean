/-
 OWN TEXT: the reference's rising sum (eddyref04.Rising), for every float.
-/
import Derived.Test.YtfgfofedacehiaaGreatJEoAToFnSame
import Derived.Test.YtfgfofedacehiaaGreatJRpAToEqA
import Derived.Test.YtfgfofedacehiaaGreatJFnLdexpToFnParts
namespace Go.Proofs.YtfgfofedacehiaaGreat
open Go.ChangeShapes Go.WideShapes Go.ChangeAt Go.RowKit
set_option linter.unusedVariables false
attribute [local go_sem] frombits_call tobits_call run_neg
/-- the rising sum of r, behind i rounds -/
def risQ (r : Nat) : Nat → Nat → Prop
 | 0, t => t = 4607182418800017408
 | i + 1, t' => ∃ t p d, risQ r i t ∧ opR .mul r t p ∧ opR .quo p (floatOfInt .f64 (13 - (i : Int))) d ∧ opR .add 4607182418800017408 d t'
theorem risQ.sim {r r' : Nat} (hr : simR r r') : ∀ (i t t' : Nat), risQ r i t → risQ r' i t' → simR t t'
 | 0, t, t', h, h' => Or.inl (Eq.trans h (Eq.symm h'))
 | i + 1, t, t', ⟨u, p, d, h1, h2, h3, h4⟩, ⟨u', p', d', k1, k2, k3, k4⟩ =>
  h4.sim (Or.inl rfl) k4 (simR.refl _) (h3.sim (Or.inr (Or.inr (Or.inr rfl))) k3 (h2.sim (Or.inr (Or.inr (Or.inl rfl))) k2 hr (risQ.sim hr i u u' h1 k1)) (simR.refl _))
end Go.Proofs.YtfgfofedacehiaaGreat

/-
 OWN TEXT: the exponential, and that less 1, for every float: what they come to.
-/
namespace Go.Proofs.YtfgfofedacehiaaGreat
open Go.ChangeShapes Go.WideShapes Go.ChangeAt Go.RowKit
set_option linter.unusedVariables false
attribute [local go_sem] frombits_call tobits_call run_neg
/-- the rest of x less n times the logarithm of 2 -/
def restR (x n r : Nat) : Prop := ∃ nh d nl, opR .mul n 4604418534311723008 nh ∧ opR .sub x nh d ∧ opR .mul n 4461442080421002358 nl ∧ opR .sub d nl r
theorem restR.sim {x n n' r r' : Nat} (h : restR x n r) (k : restR x n' r') (e : simR n n') : simR r r' := by
 obtain ⟨nh, d, nl, h1, h2, h3, h4⟩ := h
 obtain ⟨nh', d', nl', k1, k2, k3, k4⟩ := k
 have mu : isOp .mul := Or.inr (Or.inr (Or.inl rfl))
 have su : isOp .sub := Or.inr (Or.inl rfl)
 exact h4.sim su k4 (h2.sim su k2 (simR.refl _) (h1.sim mu k1 e (simR.refl _))) (h3.sim mu k3 e (simR.refl _))
/-- the exponential of x in the middle -/
def exP (x y : Nat) : Prop := ∃ n r t q, foldR x n ∧ restR x n r ∧ risQ r 13 t ∧ floatToIntVal .f64 n .i64 = some q ∧ y = scF t q
def expR (x y : Nat) : Prop := y < 18446744073709551616 ∧
 if Fl.nan x = true then Fl.nan y = true
 else if Fl.ltF 4649454594685214392 x = true then y = 9218868437227405312
 else if Fl.ltF x 13873137573428325253 = true then y = 0
 else exP x y
theorem scF_nan {t : Nat} (h : Fl.nan t = true) (n : Int) : scF t n = t := scF_stay (Or.inr (Nat.le_of_lt (Fl.nan_lt h))) n
theorem mid_rg {x : Nat} (hx : x < 18446744073709551616) (c0 : Fl.nan x = false) (c1 : Fl.ltF 4649454594685214392 x = false) (c2 : Fl.ltF x 13873137573428325253 = false) : Fl.rg x ≤ 4652218415073722368 := by
 unfold Fl.ltF at c1 c2
 rw [c0, show Fl.nan 4649454594685214392 = false by decide, show Fl.key 4649454594685214392 = 4649454594685214392 by decide] at c1
 rw [c0, show Fl.nan 13873137573428325253 = false by decide, show Fl.key 13873137573428325253 = -4649765536573549445 by decide] at c2
 simp only [Bool.not_false, Bool.true_and, decide_eq_false_iff_not] at c1 c2
 unfold Fl.key at c1 c2
 cases e : Fl.sg x <;> rw [e] at c1 c2 <;> simp at c1 c2 <;> omega
theorem exP.sim {x y y' : Nat} (hr : Fl.rg x ≤ 4652218415073722368) (h : exP x y) (k : exP x y') : simR y y' := by
 obtain ⟨n, r, t, q, h1, h2, h3, h4, h5⟩ := h
 obtain ⟨n', r', t', q', k1, k2, k3, k4, k5⟩ := k
 have hn := (fold_int hr h1).1
 have en : n = n' := by
  rcases h1.sim k1 (simR.refl _) with e | ⟨e, _⟩
  · exact e
  · rw [hn] at e; cases e
 subst en
 have eq : q = q' := Option.some.inj (h4.symm.trans k4)
 subst eq
 subst h5
 subst k5
 rcases risQ.sim (h2.sim k2 (simR.refl _)) 13 t t' h3 k3 with e | ⟨e1, e2⟩
 · subst e; exact simR.refl _
 · rw [scF_nan e1, scF_nan e2]; exact Or.inr ⟨e1, e2⟩
theorem expR.sim {x y y' : Nat} (hx : x < 18446744073709551616) (h : expR x y) (k : expR x y') : simR y y' := by
 obtain ⟨_, h⟩ := h
 obtain ⟨_, k⟩ := k
 by_cases c0 : Fl.nan x = true
 · rw [if_pos c0] at h k; exact Or.inr ⟨h, k⟩
 ·
  rw [if_neg c0] at h k
  by_cases c1 : Fl.ltF 4649454594685214392 x = true
  · rw [if_pos c1] at h k; exact Or.inl (h.trans k.symm)
  ·
   rw [if_neg c1] at h k
   by_cases c2 : Fl.ltF x 13873137573428325253 = true
   · rw [if_pos c2] at h k; exact Or.inl (h.trans k.symm)
   ·
    rw [if_neg c2] at h k
    exact h.sim (mid_rg hx (Bool.eq_false_iff.2 c0) (Bool.eq_false_iff.2 c1) (Bool.eq_false_iff.2 c2)) k
/-- the exponential of x, less 1 -/
def lessR (x y : Nat) : Prop := y < 18446744073709551616 ∧
 if Fl.nan x = true then Fl.nan y = true
 else if Fl.ltF 4649454594685214392 x = true then y = 9218868437227405312
 else ∃ n, foldR x n ∧ if Fl.eqF n 0 = true then ∃ t, risQ x 12 t ∧ opR .mul x t y else ∃ e, expR x e ∧ opR .sub e 4607182418800017408 y
theorem lessR.sim {x y y' : Nat} (hx : x < 18446744073709551616) (h : lessR x y) (k : lessR x y') : simR y y' := by
 obtain ⟨_, h⟩ := h
 obtain ⟨_, k⟩ := k
 by_cases c0 : Fl.nan x = true
 · rw [if_pos c0] at h k; exact Or.inr ⟨h, k⟩
 ·
  rw [if_neg c0] at h k
  by_cases c1 : Fl.ltF 4649454594685214392 x = true
  · rw [if_pos c1] at h k; exact Or.inl (h.trans k.symm)
  ·
   rw [if_neg c1] at h k
   obtain ⟨n, h1, h2⟩ := h
   obtain ⟨n', k1, k2⟩ := k
   have en : Fl.eqF n 0 = Fl.eqF n' 0 := by
    rcases h1.sim k1 (simR.refl _) with e | ⟨e1, e2⟩
    · rw [e]
    · unfold Fl.eqF; rw [e1, e2]; rfl
   rw [← en] at k2
   by_cases c2 : Fl.eqF n 0 = true
   ·
    rw [if_pos c2] at h2 k2
    obtain ⟨t, h3, h4⟩ := h2
    obtain ⟨t', k3, k4⟩ := k2
    exact h4.sim (Or.inr (Or.inr (Or.inl rfl))) k4 (simR.refl _) (risQ.sim (simR.refl _) 12 t t' h3 k3)
   ·
    rw [if_neg c2] at h2 k2
    obtain ⟨t, h3, h4⟩ := h2
    obtain ⟨t', k3, k4⟩ := k2
    exact h4.sim (Or.inr (Or.inl rfl)) k4 (h3.sim hx k3) (simR.refl _)
end Go.Proofs.YtfgfofedacehiaaGreat

/-
 OWN TEXT: the program's rising sum (elem.rising), for every float.
-/
namespace Go.Proofs.YtfgfofedacehiaaGreat
open Go.ChangeShapes Go.WideShapes Go.ChangeAt Go.RowKit
set_option linter.unusedVariables false
attribute [local go_sem] frombits_call tobits_call run_neg
end Go.Proofs.YtfgfofedacehiaaGreat

/-
 OWN TEXT: the program's odd sum and its two floats (elem.odd, elem.Two), for every float.
-/
namespace Go.Proofs.YtfgfofedacehiaaGreat
open Go.ChangeShapes Go.WideShapes Go.ChangeAt Go.RowKit
set_option linter.unusedVariables false
attribute [local go_sem] frombits_call tobits_call run_neg
end Go.Proofs.YtfgfofedacehiaaGreat

/-
 OWN TEXT: the program's rising sum, exponential, and that less 1 (elem.rising, elem.folds, elem.Exp, elem.Less), for every float.
-/
namespace Go.Proofs.YtfgfofedacehiaaGreat
open Go.ChangeShapes Go.WideShapes Go.ChangeAt Go.RowKit
set_option linter.unusedVariables false
attribute [local go_sem] frombits_call tobits_call run_neg
end Go.Proofs.YtfgfofedacehiaaGreat

/-
 OWN TEXT: half the sum and half the difference of exponentials, for every float: what they come to, and the program's (elem.Cosh, elem.Sinh).
-/
namespace Go.Proofs.YtfgfofedacehiaaGreat
open Go.ChangeShapes Go.WideShapes Go.ChangeAt Go.RowKit
set_option linter.unusedVariables false
attribute [local go_sem] frombits_call tobits_call run_neg
def coshR (x y : Nat) : Prop := ∃ a b s, expR x a ∧ expR (Fl.ng x) b ∧ opR .add a b s ∧ opR .mul s 4602678819172646912 y
theorem coshR.sim {x y y' : Nat} (hx : x < 18446744073709551616) (h : coshR x y) (k : coshR x y') : simR y y' := by
 obtain ⟨a, b, s, h1, h2, h3, h4⟩ := h
 obtain ⟨a', b', s', k1, k2, k3, k4⟩ := k
 exact h4.sim (Or.inr (Or.inr (Or.inl rfl))) k4 (h3.sim (Or.inl rfl) k3 (h1.sim hx k1) (h2.sim (Fl.ng_lt hx) k2)) (simR.refl _)
/-- h with the sign of x -/
def sgnR (h x y : Nat) : Prop := Fl.sameB y (signedF h x) = true
theorem same_cases {a b : Nat} (h : Fl.sameB a b = true) : a = b ∨ (Fl.nan a = true ∧ Fl.nan b = true) := by
 unfold Fl.sameB at h
 rw [Bool.or_eq_true, Bool.and_eq_true, Bool.and_eq_true, decide_eq_true_eq] at h
 rcases h with h | h
 · exact Or.inr h
 · exact Or.inl h.2
theorem signed_nan {h x : Nat} (hh : Fl.nan h = true) : Fl.nan (signedF h x) = true := by unfold signedF; split <;> simp [Fl.nan_ng, Fl.nan_rg, hh]
theorem same_nan {a b : Nat} (h : Fl.sameB a b = true) (hb : Fl.nan b = true) : Fl.nan a = true := by
 rcases same_cases h with e | ⟨e, _⟩
 · rw [e]; exact hb
 · exact e
theorem sgnR.sim {h h' x y y' : Nat} (k : sgnR h x y) (k' : sgnR h' x y') (e : simR h h') : simR y y' := by
 rcases e with e | ⟨e1, e2⟩
 ·
  subst e
  rcases same_cases k with a | ⟨a1, a2⟩
  ·
   rcases same_cases k' with b | ⟨b1, b2⟩
   · exact Or.inl (a.trans b.symm)
   · exact Or.inr ⟨by rw [a]; exact b2, b1⟩
  · exact Or.inr ⟨a1, same_nan k' a2⟩
 · exact Or.inr ⟨same_nan k (signed_nan e1), same_nan k' (signed_nan e2)⟩
/-- half the difference, of a number -/
def sinhP (x y : Nat) : Prop := ∃ e, lessR (Fl.rg x) e ∧ if e = 9218868437227405312 then sgnR e x y else ∃ b d s h, opR .add e 4607182418800017408 b ∧ opR .quo e b d ∧ opR .add e d s ∧ opR .mul s 4602678819172646912 h ∧ sgnR h x y
def sinhR (x y : Nat) : Prop := if Fl.nan x = true then Fl.nan y = true else sinhP x y
theorem inf_num : Fl.nan 9218868437227405312 = false := by decide
theorem sinhR.sim {x y y' : Nat} (hx : x < 18446744073709551616) (h : sinhR x y) (k : sinhR x y') : simR y y' := by
 unfold sinhR at h k
 by_cases c : Fl.nan x = true
 · rw [if_pos c] at h k; exact Or.inr ⟨h, k⟩
 ·
  rw [if_neg c] at h k
  obtain ⟨e, h1, h2⟩ := h
  obtain ⟨e', k1, k2⟩ := k
  have es := h1.sim (by have := Fl.rg_lt x; omega) k1
  have ei : e = 9218868437227405312 ↔ e' = 9218868437227405312 := by
   rcases es with a | ⟨a1, a2⟩
   · rw [a]
   ·
    constructor
    · intro b; rw [b, inf_num] at a1; cases a1
    · intro b; rw [b, inf_num] at a2; cases a2
  by_cases c2 : e = 9218868437227405312
  ·
   rw [if_pos c2] at h2
   rw [if_pos (ei.1 c2)] at k2
   exact h2.sim k2 es
  ·
   rw [if_neg c2] at h2
   rw [if_neg (fun z => c2 (ei.2 z))] at k2
   obtain ⟨b, d, s, h, a1, a2, a3, a4, a5⟩ := h2
   obtain ⟨b', d', s', h', b1, b2, b3, b4, b5⟩ := k2
   have ad : isOp .add := Or.inl rfl
   have mu : isOp .mul := Or.inr (Or.inr (Or.inl rfl))
   have qu : isOp .quo := Or.inr (Or.inr (Or.inr rfl))
   exact a5.sim b5 (a4.sim mu b4 (a3.sim ad b3 es (a2.sim qu b2 es (a1.sim ad b1 es (simR.refl _)))) (simR.refl _))
end Go.Proofs.YtfgfofedacehiaaGreat

