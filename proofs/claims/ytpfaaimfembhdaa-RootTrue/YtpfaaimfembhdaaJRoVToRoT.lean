/-
  OWN TEXT: the values of lengths, roots, units at given numbers, by computation.
-/
import Derived.Test.YtpfaaimfembhdaaJRoA
import Derived.Test.YtpfaaimfembhdaaJAnV
import Derived.Test.YtpfaaimfembhdaaJAnM
namespace Go.Proofs.Ytpfaaimfembhdaa
open Go.ChangeShapes Go.WideShapes Go.ChangeAt Go.RowKit
set_option linter.unusedVariables false
theorem sqt_val {x y v : Nat} (h : sqtR x y) (k : Ieee.double.sqrt x = some v) : y = v := by
  rcases h.2 with e | ⟨e, _⟩
  · rw [k] at e; exact (Option.some.inj e).symm
  · rw [k] at e; cases e
def sqaV (a b : Nat) : Option Nat := (opW .mul a a).bind fun p => (opW .mul b b).bind fun q => opW .add p q
theorem sqa_val {a b r v : Nat} (h : sqaR a b r) (k : sqaV a b = some v) : r = v := by
  obtain ⟨p, q, h1, h2, h3⟩ := h
  obtain ⟨u1, k1, k⟩ := bsw k
  have e := opw_val h1 k1; subst e
  obtain ⟨u2, k2, k⟩ := bsw k
  have e := opw_val h2 k2; subst e
  exact opw_val h3 k
def togV (a b : Nat) : Option Nat := (sqaV a b).bind fun s => Ieee.double.sqrt s
theorem tog_val {a b r v : Nat} (h : togR a b r) (k : togV a b = some v) : r = v := by
  obtain ⟨s, h1, h2⟩ := h
  obtain ⟨u1, k1, k⟩ := bsw k
  have e := sqa_val h1 k1; subst e
  exact sqt_val h2 k
def lenV (a b : Nat) : Option Nat := if Fl.rg a = 9218868437227405312 ∨ Fl.rg b = 9218868437227405312 then some 9218868437227405312 else if Fl.nan a = true ∨ Fl.nan b = true then none else if bigF a b = 0 then some 0 else (togV (scF (bigF a b) (-paE (bigF a b))) (scF (smaF a b) (-paE (bigF a b)))).bind fun l => some (scF l (paE (bigF a b)))
theorem len_val {a b r v : Nat} (h : lenR a b r) (k : lenV a b = some v) : r = v := by
  obtain ⟨_, h⟩ := h
  unfold lenV at k
  by_cases c1 : Fl.rg a = 9218868437227405312 ∨ Fl.rg b = 9218868437227405312
  · rw [if_pos c1] at h k; rw [h]; exact Option.some.inj k
  · rw [if_neg c1] at h k
    by_cases c2 : Fl.nan a = true ∨ Fl.nan b = true
    · rw [if_pos c2] at k; cases k
    · rw [if_neg c2] at h k
      by_cases c3 : bigF a b = 0
      · rw [if_pos c3] at h k; rw [h]; exact Option.some.inj k
      · rw [if_neg c3] at h k
        obtain ⟨l, h1, h2⟩ := h
        obtain ⟨u1, k1, k⟩ := bsw k
        have e := tog_val h1 k1; subst e
        rw [h2]; exact Option.some.inj k
def rooPV (a b : Nat) : Option (Nat × Nat) := (togV (scF (Fl.rg a) (-(2 * (paE (bigF a b) / 2)))) (scF (Fl.rg b) (-(2 * (paE (bigF a b) / 2))))).bind fun l =>
  (opW .add (scF (Fl.rg a) (-(2 * (paE (bigF a b) / 2)))) l).bind fun s0 => (opW .quo s0 4611686018427387904).bind fun h => (Ieee.double.sqrt h).bind fun t => (opW .mul 4611686018427387904 (scF t (paE (bigF a b) / 2))).bind fun d =>
  if Fl.leF 0 a = true then (opW .quo b d).bind fun im => some (scF t (paE (bigF a b) / 2), im) else (opW .quo (Fl.rg b) d).bind fun re => some (re, Fl.wd (Fl.sg b) (Fl.rg (scF t (paE (bigF a b) / 2))))
theorem rooP_val {a b re im : Nat} {v : Nat × Nat} (h : rooP a b re im) (k : rooPV a b = some v) : (re, im) = v := by
  obtain ⟨l, s0, q, t, d, h1, h2, h3, h4, h5, h6⟩ := h
  obtain ⟨u1, k1, k⟩ := bsw k
  have e := tog_val h1 k1; subst e
  obtain ⟨u2, k2, k⟩ := bsw k
  have e := opw_val h2 k2; subst e
  obtain ⟨u3, k3, k⟩ := bsw k
  have e := opw_val h3 k3; subst e
  obtain ⟨u4, k4, k⟩ := bsw k
  have e := sqt_val h4 k4; subst e
  obtain ⟨u5, k5, k⟩ := bsw k
  have e := opw_val h5 k5; subst e
  by_cases c : Fl.leF 0 a = true
  · rw [if_pos c] at h6 k
    obtain ⟨u6, k6, k⟩ := bsw k
    have e := opw_val h6.2 k6; subst e
    rw [h6.1]; exact Option.some.inj k
  · rw [if_neg c] at h6 k
    obtain ⟨u6, k6, k⟩ := bsw k
    have e := opw_val h6.1 k6; subst e
    rw [h6.2]; exact Option.some.inj k
def rooV (a b : Nat) : Option (Nat × Nat) := if Fl.rg b = 9218868437227405312 then none else if Fl.rg a = 9218868437227405312 then none else if Fl.nan a = true ∨ Fl.nan b = true then none else if Fl.rg a = 0 ∧ Fl.rg b = 0 then some (0, b) else rooPV a b
theorem roo_val {a b re im : Nat} {v : Nat × Nat} (h : rooR a b re im) (k : rooV a b = some v) : (re, im) = v := by
  unfold rooR at h
  unfold rooV at k
  by_cases c1 : Fl.rg b = 9218868437227405312
  · rw [if_pos c1] at k; cases k
  · rw [if_neg c1] at h k
    by_cases c2 : Fl.rg a = 9218868437227405312
    · rw [if_pos c2] at k; cases k
    · rw [if_neg (fun q => c2 q.1), if_neg c2] at h
      rw [if_neg c2] at k
      by_cases c3 : Fl.nan a = true ∨ Fl.nan b = true
      · rw [if_pos c3] at k; cases k
      · rw [if_neg c3] at h k
        by_cases c4 : Fl.rg a = 0 ∧ Fl.rg b = 0
        · rw [if_pos c4] at h k; rw [h.1, h.2]; exact Option.some.inj k
        · rw [if_neg c4] at h k; exact rooP_val h k
def uniV (a b : Nat) : Option (Nat × Nat × Bool) := if (Fl.finB a && Fl.finB b && !decide (bigF a b = 0)) = true then (togV (scF a (-paE (bigF a b))) (scF b (-paE (bigF a b)))).bind fun l => (opW .quo (scF a (-paE (bigF a b))) l).bind fun re => (opW .quo (scF b (-paE (bigF a b))) l).bind fun im => some (re, im, true) else some (0, 0, false)
theorem uni_val {a b re im : Nat} {o : Bool} {v : Nat × Nat × Bool} (h : uniR a b re im o) (k : uniV a b = some v) : (re, im, o) = v := by
  unfold uniR at h
  unfold uniV at k
  by_cases c : (Fl.finB a && Fl.finB b && !decide (bigF a b = 0)) = true
  · rw [if_pos c] at h k
    obtain ⟨h0, l, h1, h2, h3⟩ := h
    obtain ⟨u1, k1, k⟩ := bsw k
    have e := tog_val h1 k1; subst e
    obtain ⟨u2, k2, k⟩ := bsw k
    have e := opw_val h2 k2; subst e
    obtain ⟨u3, k3, k⟩ := bsw k
    have e := opw_val h3 k3; subst e
    rw [h0]; exact Option.some.inj k
  · rw [if_neg c] at h k
    rw [h.1, h.2.1, h.2.2]; exact Option.some.inj k
def neaV (a b c d m : Nat) : Option Bool := (opW .sub a c).bind fun x => (opW .sub b d).bind fun y => (lenV x y).bind fun l => some (Fl.leF l m)
theorem nea_val {a b c d m : Nat} {r v : Bool} (h : neaR a b c d m r) (k : neaV a b c d m = some v) : r = v := by
  obtain ⟨x, y, l, h1, h2, h3, h4⟩ := h
  obtain ⟨u1, k1, k⟩ := bsw k
  have e := opw_val h1 k1; subst e
  obtain ⟨u2, k2, k⟩ := bsw k
  have e := opw_val h2 k2; subst e
  obtain ⟨u3, k3, k⟩ := bsw k
  have e := len_val h3 k3; subst e
  rw [h4]; exact Option.some.inj k
end Go.Proofs.Ytpfaaimfembhdaa
/-
  OWN TEXT: sums and products either way round; lengths do not hang on signs, nor on the order of the parts.
-/
namespace Go.Proofs.Ytpfaaimfembhdaa
open Go.ChangeShapes Go.WideShapes Go.ChangeAt Go.RowKit
set_option linter.unusedVariables false
theorem paE_small (x : Nat) (hx : x < 18446744073709551616) : -2000 < paE x ∧ paE x < 2000 := by
  by_cases c : Fl.rg x = 0 ∨ 9218868437227405312 ≤ Fl.rg x
  · have e : paE x = 0 := if_pos c
    rw [e]; omega
  · obtain ⟨y1, y2, y3, y4, c1, c2, v1⟩ := nm_facts hx (by omega) (by omega)
    have e1 : paE x = ptE x := if_neg c
    rw [e1]
    unfold ptE
    omega
theorem prod_comm (a b : Ieee.Datum) : a.product b = b.product a := by
  cases a <;> cases b <;> simp only [Ieee.Datum.product] <;> first | rfl | (rw [Nat.mul_comm, Int.add_comm, Bool.xor_comm]) | (rw [Bool.xor_comm])
theorem mul_comm5 {a b x : Nat} (h : opR .mul a b x) : opR .mul b a x := by
  have e : floatBits .mul .f64 a b = floatBits .mul .f64 b a := by
    show Ieee.double.mul a b = Ieee.double.mul b a
    unfold Ieee.Format.mul
    rw [prod_comm]
  unfold opR at h ⊢
  rw [← e]
  exact h
theorem sum_comm (a b : Ieee.Datum) : a.sum b = b.sum a := by
  cases a with
  | nan s t => cases b <;> rfl
  | infinity s =>
    cases b with
    | nan _ _ => rfl
    | infinity t =>
      simp only [Ieee.Datum.sum]
      by_cases c : s = t
      · subst c; rfl
      · rw [if_neg c, if_neg (fun h => c h.symm)]
    | number _ _ _ => rfl
  | number s m i =>
    cases b with
    | nan _ _ => rfl
    | infinity _ => rfl
    | number t n j =>
      simp only [Ieee.Datum.sum]
      rw [show min j i = min i j by omega, Int.add_comm, Bool.and_comm]
theorem add_comm5 {a b x : Nat} (h : opR .add a b x) : opR .add b a x := by
  have e : floatBits .add .f64 a b = floatBits .add .f64 b a := by
    show Ieee.double.add a b = Ieee.double.add b a
    unfold Ieee.Format.add
    rw [sum_comm]
  unfold opR at h ⊢
  rw [← e]
  exact h
theorem wd_rg6 {s : Bool} {r : Nat} (h : r < 9223372036854775808) : Fl.wd s r < 18446744073709551616 := Fl.wd_lt _ _ h
/-- a square does not hang on the sign -/
theorem sq_rg {x p : Nat} (hx : x < 18446744073709551616) (h : opR .mul x x p) : opR .mul (Fl.rg x) (Fl.rg x) p := by
  cases s : Fl.sg x
  · have e : Fl.rg x = x := by have k := Fl.wd_self hx; rw [s] at k; exact k
    rw [e]; exact h
  · have e : x = Fl.ng (Fl.rg x) := by
      have k := Fl.wd_self hx
      rw [s] at k
      have k2 := Fl.ng_wd false (Fl.rg x) (Fl.rg_lt x)
      exact k.symm.trans k2
    have hr : Fl.rg x < 18446744073709551616 := by have := Fl.rg_lt x; omega
    generalize Fl.rg x = r at *
    subst e
    have m := (Fl.mul_ng' (a := Fl.ng r) (b := r) hr).trans (congrArg (Option.map Fl.ng) (Fl.mul_ng (a := r) (b := r) hr))
    refine ⟨h.1, ?_⟩
    cases z : Ieee.double.mul r r with
    | none =>
      rw [z] at m
      refine Or.inr ⟨z, ?_⟩
      rcases h.2 with q | q
      · have q' : Ieee.double.mul (Fl.ng r) (Fl.ng r) = some p := q
        rw [m] at q'; cases q'
      · exact q.2
    | some v =>
      rw [z] at m
      have z' : floatBits .mul .f64 r r = some v := z
      have hv : v < 18446744073709551616 := floatBits_lt0 z'
      have m' : floatBits .mul .f64 (Fl.ng r) (Fl.ng r) = some v := by
        have : Ieee.double.mul (Fl.ng r) (Fl.ng r) = some (Fl.ng (Fl.ng v)) := m
        rw [Fl.ng_ng hv] at this
        exact this
      left
      rcases h.2 with q | q
      · rw [m'] at q; rw [z']; exact q
      · rw [m'] at q; cases q.1
theorem sqa_rg {a b r : Nat} (ha : a < 18446744073709551616) (hb : b < 18446744073709551616) (h : sqaR a b r) : sqaR (Fl.rg a) (Fl.rg b) r := by
  obtain ⟨p, q, h1, h2, h3⟩ := h
  exact ⟨p, q, sq_rg ha h1, sq_rg hb h2, h3⟩
theorem sqa_swap {a b r : Nat} (h : sqaR a b r) : sqaR b a r := by
  obtain ⟨p, q, h1, h2, h3⟩ := h
  exact ⟨q, p, h2, h1, add_comm5 h3⟩
theorem tog_rg {a b r : Nat} (ha : a < 18446744073709551616) (hb : b < 18446744073709551616) (h : togR a b r) : togR (Fl.rg a) (Fl.rg b) r := by
  obtain ⟨s, h1, h2⟩ := h
  exact ⟨s, sqa_rg ha hb h1, h2⟩
theorem tog_swap {a b r : Nat} (h : togR a b r) : togR b a r := by
  obtain ⟨s, h1, h2⟩ := h
  exact ⟨s, sqa_swap h1, h2⟩
theorem rg_rg6 (x : Nat) : Fl.rg (Fl.rg x) = Fl.rg x := by have := Fl.rg_lt x; unfold Fl.rg at *; omega
theorem sg_rg6 (x : Nat) : Fl.sg (Fl.rg x) = false := by have k := Fl.sg_wd false (Fl.rg x) (Fl.rg_lt x); exact k
theorem key_rg6 (x : Nat) : Fl.key (Fl.rg x) = (Fl.rg x : Nat) := by unfold Fl.key; rw [sg_rg6, rg_rg6]; rfl
theorem wd_false6 (r : Nat) : Fl.wd false r = r := rfl
theorem rg_sc {x : Nat} (hx : x < 18446744073709551616) (hf : Fl.rg x < 9218868437227405312) (n : Int) : Fl.rg (scF x n) = scF (Fl.rg x) n := by
  have hf2 : Fl.rg (Fl.rg x) < 9218868437227405312 := (rg_rg6 x).symm ▸ hf
  by_cases z : Fl.rg x = 0
  · have z2 : Fl.rg (Fl.rg x) = 0 := (rg_rg6 x).trans z
    exact (congrArg Fl.rg (scF_stay (Or.inl z) n)).trans (scF_stay (Or.inl z2) n).symm
  · have z2 : ¬ Fl.rg (Fl.rg x) = 0 := fun h => z ((rg_rg6 x).symm.trans h)
    have A := scF_fin hf z n
    have B := scF_fin hf2 z2 n
    have L := Fl.rz_le (Fl.vl (Fl.rg x)) n
    rw [rg_rg6, sg_rg6] at B
    generalize Fl.rz (Fl.vl (Fl.rg x)) n = r at A B L
    rw [A, B, Fl.rg_wd _ _ (Nat.lt_of_le_of_lt L (by decide)), wd_false6]
/-- the length by the parts in their places is that by the greater and the lesser one -/
theorem tog_big {a b l : Nat} {n : Int} (ha : a < 18446744073709551616) (hb : b < 18446744073709551616) (fa : Fl.rg a < 9218868437227405312) (fb : Fl.rg b < 9218868437227405312) (h : togR (scF a n) (scF b n) l) : togR (scF (bigF a b) n) (scF (smaF a b) n) l := by
  have k := tog_rg (scF_lt ha n) (scF_lt hb n) h
  rw [rg_sc ha fa, rg_sc hb fb] at k
  unfold bigF smaF
  split
  · exact tog_swap k
  · exact k
theorem tog_two {a b l : Nat} {n : Int} (ha : a < 18446744073709551616) (hb : b < 18446744073709551616) (fa : Fl.rg a < 9218868437227405312) (fb : Fl.rg b < 9218868437227405312) (h : togR (scF a n) (scF b n) l) : togR (scF (Fl.rg a) n) (scF (Fl.rg b) n) l := by
  have k := tog_rg (scF_lt ha n) (scF_lt hb n) h
  rw [rg_sc ha fa, rg_sc hb fb] at k
  exact k
theorem big_zero6 {a b : Nat} (na : Fl.nan a = false) (nb : Fl.nan b = false) : bigF a b = 0 ↔ Fl.rg a = 0 ∧ Fl.rg b = 0 := by
  have e : Fl.ltF (Fl.rg a) (Fl.rg b) = decide (Fl.rg a < Fl.rg b) := by
    unfold Fl.ltF
    rw [Fl.nan_rg, Fl.nan_rg, na, nb]
    have k1 : Fl.key (Fl.rg a) = (Fl.rg a : Nat) := key_rg6 a
    have k2 : Fl.key (Fl.rg b) = (Fl.rg b : Nat) := key_rg6 b
    rw [k1, k2]
    simp
  unfold bigF
  rw [e]
  by_cases c : Fl.rg a < Fl.rg b
  · rw [decide_eq_true c, if_pos rfl]; constructor
    · intro h; omega
    · intro h; omega
  · rw [decide_eq_false c, if_neg (by decide)]; constructor
    · intro h; omega
    · intro h; omega
end Go.Proofs.Ytpfaaimfembhdaa
