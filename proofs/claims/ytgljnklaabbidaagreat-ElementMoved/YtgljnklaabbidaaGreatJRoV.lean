/-
  OWN TEXT: the values of lengths, roots, units at given numbers, by computation.
-/
import Derived.Test.YtgljnklaabbidaaGreatJRoA
import Derived.Test.YtgljnklaabbidaaGreatJAnV
namespace Go.Proofs.YtgljnklaabbidaaGreat
open Go.ChangeShapes Go.WideShapes Go.ChangeAt Go.RowKit
set_option linter.unusedVariables false
theorem sqt_val {x y v : Nat} (h : sqtR x y) (k : Ieee.double.sqrt x = some v) : y = v := by
  rcases h.2 with e | ⟨e, _⟩
  · rw [k] at e; exact (Option.some.inj e).symm
  · rw [k] at e; cases e
def sqaV (a b : Nat) : Option Nat := (opW .mul a a).bind fun p => (opW .mul b b).bind fun q => opW .add p q
theorem sqa_val {a b r v : Nat} (h : sqaR a b r) (k : sqaV a b = some v) : r = v := by
  obtain ⟨p, q, h1, h2, h3⟩ := h
  obtain ⟨u1, k1, k⟩ := bsw k
  have e := opw_val h1 k1; subst e
  obtain ⟨u2, k2, k⟩ := bsw k
  have e := opw_val h2 k2; subst e
  exact opw_val h3 k
def togV (a b : Nat) : Option Nat := (sqaV a b).bind fun s => Ieee.double.sqrt s
theorem tog_val {a b r v : Nat} (h : togR a b r) (k : togV a b = some v) : r = v := by
  obtain ⟨s, h1, h2⟩ := h
  obtain ⟨u1, k1, k⟩ := bsw k
  have e := sqa_val h1 k1; subst e
  exact sqt_val h2 k
def lenV (a b : Nat) : Option Nat := if Fl.rg a = 9218868437227405312 ∨ Fl.rg b = 9218868437227405312 then some 9218868437227405312 else if Fl.nan a = true ∨ Fl.nan b = true then none else if bigF a b = 0 then some 0 else (togV (scF (bigF a b) (-paE (bigF a b))) (scF (smaF a b) (-paE (bigF a b)))).bind fun l => some (scF l (paE (bigF a b)))
theorem len_val {a b r v : Nat} (h : lenR a b r) (k : lenV a b = some v) : r = v := by
  obtain ⟨_, h⟩ := h
  unfold lenV at k
  by_cases c1 : Fl.rg a = 9218868437227405312 ∨ Fl.rg b = 9218868437227405312
  · rw [if_pos c1] at h k; rw [h]; exact Option.some.inj k
  · rw [if_neg c1] at h k
    by_cases c2 : Fl.nan a = true ∨ Fl.nan b = true
    · rw [if_pos c2] at k; cases k
    · rw [if_neg c2] at h k
      by_cases c3 : bigF a b = 0
      · rw [if_pos c3] at h k; rw [h]; exact Option.some.inj k
      · rw [if_neg c3] at h k
        obtain ⟨l, h1, h2⟩ := h
        obtain ⟨u1, k1, k⟩ := bsw k
        have e := tog_val h1 k1; subst e
        rw [h2]; exact Option.some.inj k
def rooPV (a b : Nat) : Option (Nat × Nat) := (togV (scF (Fl.rg a) (-(2 * (paE (bigF a b) / 2)))) (scF (Fl.rg b) (-(2 * (paE (bigF a b) / 2))))).bind fun l =>
  (opW .add (scF (Fl.rg a) (-(2 * (paE (bigF a b) / 2)))) l).bind fun s0 => (opW .quo s0 4611686018427387904).bind fun h => (Ieee.double.sqrt h).bind fun t => (opW .mul 4611686018427387904 (scF t (paE (bigF a b) / 2))).bind fun d =>
  if Fl.leF 0 a = true then (opW .quo b d).bind fun im => some (scF t (paE (bigF a b) / 2), im) else (opW .quo (Fl.rg b) d).bind fun re => some (re, Fl.wd (Fl.sg b) (Fl.rg (scF t (paE (bigF a b) / 2))))
theorem rooP_val {a b re im : Nat} {v : Nat × Nat} (h : rooP a b re im) (k : rooPV a b = some v) : (re, im) = v := by
  obtain ⟨l, s0, q, t, d, h1, h2, h3, h4, h5, h6⟩ := h
  obtain ⟨u1, k1, k⟩ := bsw k
  have e := tog_val h1 k1; subst e
  obtain ⟨u2, k2, k⟩ := bsw k
  have e := opw_val h2 k2; subst e
  obtain ⟨u3, k3, k⟩ := bsw k
  have e := opw_val h3 k3; subst e
  obtain ⟨u4, k4, k⟩ := bsw k
  have e := sqt_val h4 k4; subst e
  obtain ⟨u5, k5, k⟩ := bsw k
  have e := opw_val h5 k5; subst e
  by_cases c : Fl.leF 0 a = true
  · rw [if_pos c] at h6 k
    obtain ⟨u6, k6, k⟩ := bsw k
    have e := opw_val h6.2 k6; subst e
    rw [h6.1]; exact Option.some.inj k
  · rw [if_neg c] at h6 k
    obtain ⟨u6, k6, k⟩ := bsw k
    have e := opw_val h6.1 k6; subst e
    rw [h6.2]; exact Option.some.inj k
def rooV (a b : Nat) : Option (Nat × Nat) := if Fl.rg b = 9218868437227405312 then none else if Fl.rg a = 9218868437227405312 then none else if Fl.nan a = true ∨ Fl.nan b = true then none else if Fl.rg a = 0 ∧ Fl.rg b = 0 then some (0, b) else rooPV a b
theorem roo_val {a b re im : Nat} {v : Nat × Nat} (h : rooR a b re im) (k : rooV a b = some v) : (re, im) = v := by
  unfold rooR at h
  unfold rooV at k
  by_cases c1 : Fl.rg b = 9218868437227405312
  · rw [if_pos c1] at k; cases k
  · rw [if_neg c1] at h k
    by_cases c2 : Fl.rg a = 9218868437227405312
    · rw [if_pos c2] at k; cases k
    · rw [if_neg (fun q => c2 q.1), if_neg c2] at h
      rw [if_neg c2] at k
      by_cases c3 : Fl.nan a = true ∨ Fl.nan b = true
      · rw [if_pos c3] at k; cases k
      · rw [if_neg c3] at h k
        by_cases c4 : Fl.rg a = 0 ∧ Fl.rg b = 0
        · rw [if_pos c4] at h k; rw [h.1, h.2]; exact Option.some.inj k
        · rw [if_neg c4] at h k; exact rooP_val h k
def uniV (a b : Nat) : Option (Nat × Nat × Bool) := if (Fl.finB a && Fl.finB b && !decide (bigF a b = 0)) = true then (togV (scF a (-paE (bigF a b))) (scF b (-paE (bigF a b)))).bind fun l => (opW .quo (scF a (-paE (bigF a b))) l).bind fun re => (opW .quo (scF b (-paE (bigF a b))) l).bind fun im => some (re, im, true) else some (0, 0, false)
theorem uni_val {a b re im : Nat} {o : Bool} {v : Nat × Nat × Bool} (h : uniR a b re im o) (k : uniV a b = some v) : (re, im, o) = v := by
  unfold uniR at h
  unfold uniV at k
  by_cases c : (Fl.finB a && Fl.finB b && !decide (bigF a b = 0)) = true
  · rw [if_pos c] at h k
    obtain ⟨h0, l, h1, h2, h3⟩ := h
    obtain ⟨u1, k1, k⟩ := bsw k
    have e := tog_val h1 k1; subst e
    obtain ⟨u2, k2, k⟩ := bsw k
    have e := opw_val h2 k2; subst e
    obtain ⟨u3, k3, k⟩ := bsw k
    have e := opw_val h3 k3; subst e
    rw [h0]; exact Option.some.inj k
  · rw [if_neg c] at h k
    rw [h.1, h.2.1, h.2.2]; exact Option.some.inj k
def neaV (a b c d m : Nat) : Option Bool := (opW .sub a c).bind fun x => (opW .sub b d).bind fun y => (lenV x y).bind fun l => some (Fl.leF l m)
theorem nea_val {a b c d m : Nat} {r v : Bool} (h : neaR a b c d m r) (k : neaV a b c d m = some v) : r = v := by
  obtain ⟨x, y, l, h1, h2, h3, h4⟩ := h
  obtain ⟨u1, k1, k⟩ := bsw k
  have e := opw_val h1 k1; subst e
  obtain ⟨u2, k2, k⟩ := bsw k
  have e := opw_val h2 k2; subst e
  obtain ⟨u3, k3, k⟩ := bsw k
  have e := len_val h3 k3; subst e
  rw [h4]; exact Option.some.inj k
end Go.Proofs.YtgljnklaabbidaaGreat
