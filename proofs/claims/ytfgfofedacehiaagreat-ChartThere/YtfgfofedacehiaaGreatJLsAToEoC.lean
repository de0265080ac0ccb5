/-
 OWN TEXT: plain laws on a float's last unit: the neighbour away from nought, the unit between them, its half; a sum's loss is at most that half.
-/
import Derived.Test.YtfgfofedacehiaaGreatJFlCToFlG
import Derived.Test.YtfgfofedacehiaaGreatJFnLdexpToFnParts
import Derived.Test.YtfgfofedacehiaaGreatJEoAToFnSame
set_option linter.unusedVariables false
namespace Go.Proofs.YtfgfofedacehiaaGreat.Fl
/-- the rung of 2 to the power of k units -/
def r2 (k : Nat) : Nat := if k ≤ 52 then 2 ^ k else (k - 51) * 4503599627370496
theorem vl_le_iff {r s : Nat} : vl r ≤ vl s ↔ r ≤ s := by
 constructor
 ·
  intro h
  rcases Nat.lt_or_ge s r with c | c
  · have := vl_mono c; omega
  · exact c
 ·
  intro h
  rcases Nat.lt_or_ge r s with c | c
  · exact Nat.le_of_lt (vl_mono c)
  ·
   have : r = s := by omega
   rw [this]; exact Nat.le_refl _
/-- a rung in parts -/
theorem rung_parts (r : Nat) (h : r < 9218868437227405312) : ∃ k M, r = k * 4503599627370496 + M ∧ M < 9007199254740992 ∧ (k = 0 ∨ 4503599627370496 ≤ M) ∧ k ≤ 2045 := by
 by_cases c : r < 4503599627370496
 · exact ⟨0, r, by omega, by omega, Or.inl rfl, by omega⟩
 · exact ⟨r / 4503599627370496 - 1, r - (r / 4503599627370496 - 1) * 4503599627370496, by omega, by omega, Or.inr (by omega), by omega⟩
theorem rq_form (n : Nat) (h : n ≠ 0) (hf : rq n 0 < 9218868437227405312) : rq n 0 = (n.log2 - 52) * 4503599627370496 + rne n (n.log2 - 52) := by
 unfold rq at hf ⊢; rw [if_neg h] at hf ⊢; simp only [Nat.add_zero] at hf ⊢; omega
theorem le_form (r k M j N : Nat) (e : r = k * 4503599627370496 + M) (hM : M < 9007199254740992) (hk : k = 0 ∨ 4503599627370496 ≤ M) (e' : r = j * 4503599627370496 + N) (hj : j = 0 ∨ 4503599627370496 ≤ N) (hN : N ≤ 9007199254740992) : j ≤ k := by
 omega
/-- from a rung to the next one it is a power of two -/
theorem gap (r : Nat) (h : r < 9218868437227405312) : ∃ k, k ≤ 2045 ∧ vl (r + 1) = vl r + 2 ^ k ∧ ∀ n, n ≠ 0 → rq n 0 = r → 2 * n ≤ 2 * vl r + 2 ^ k ∧ 2 * vl r ≤ 2 * n + 2 ^ k := by
 obtain ⟨k, M, e, hM, hk, hk2⟩ := rung_parts r h
 have e1 : vl r = M * 2 ^ k := by rw [e]; exact vl_comb k M (by omega) hk
 have e2 : vl (r + 1) = (M + 1) * 2 ^ k := by
  rw [e, Nat.add_assoc]; exact vl_comb k (M + 1) (by omega) (by omega)
 refine ⟨k, hk2, by rw [e1, e2, Nat.add_mul, Nat.one_mul], ?_⟩
 intro n hn hr
 have hv := vl_rq n hn (by omega)
 rw [hr] at hv
 have hb := rne_bounds n (n.log2 - 52)
 rw [← hv] at hb
 have hq := rq_form n hn (by omega)
 rw [hr] at hq
 obtain ⟨f1, f2⟩ := rq_fit n hn
 have hle : n.log2 - 52 ≤ k := le_form r k M (n.log2 - 52) (rne n (n.log2 - 52)) e hM hk hq f1 f2
 have hp : 2 ^ (n.log2 - 52) ≤ 2 ^ k := Nat.pow_le_pow_right (by omega) hle
 omega
theorem vl_two : vl 4611686018427387904 = 2 ^ (1 + 1074) := by decide +kernel
/-- twice -/
theorem mul_two {x : Nat} (hx : rg x < 9218868437227405312) : Ieee.double.mul 4611686018427387904 x = some (wd (sg x) (rq (vl (rg x) * 2) 0)) := by
 have r1 : rg 4611686018427387904 = 4611686018427387904 := by decide
 have s1 : sg 4611686018427387904 = false := by decide
 have e := mul_fin (x := 4611686018427387904) (y := x) (by rw [r1]; decide) hx
 rw [r1, s1, Bool.false_xor, Nat.mul_comm, rq_by' 4611686018427387904 _ 1074 1 1074 vl_two rfl] at e
 exact e
end Go.Proofs.YtfgfofedacehiaaGreat.Fl

/-
 OWN TEXT: plain laws of rounding a fraction whose worth is a whole number of halves, quarters ..
-/
namespace Go.Proofs.YtfgfofedacehiaaGreat.Fl
set_option linter.unusedVariables false

end Go.Proofs.YtfgfofedacehiaaGreat.Fl

/-
 OWN TEXT: plain laws of halving and doubling floats, and of a float made whole.
-/
namespace Go.Proofs.YtfgfofedacehiaaGreat.Fl
set_option linter.unusedVariables false

/-- half a float -/
theorem div_two {x : Nat} (hx : rg x < 9218868437227405312) : Ieee.double.div x 4611686018427387904 = some (wd (sg x) (rq (vl (rg x)) 1)) := by
 obtain ⟨m, k, hm, em⟩ := read_fin hx
 have r2 : Ieee.double.read 4611686018427387904 = .number false 4503599627370496 (-51) := rfl
 unfold Ieee.Format.div
 rw [hm, r2]
 unfold Ieee.Datum.quotient
 simp only []
 rw [if_neg (by omega), show (4503599627370496 : Nat).log2 = 52 by decide]
 have hfb : Ieee.double.fractionBits = 52 := rfl
 rw [hfb]
 by_cases z : m = 0
 ·
  subst z
  have hv : vl (rg x) = 0 := by rw [← em, Nat.zero_mul]
  rw [hv, show Nat.log2 0 = 0 from rfl, Nat.zero_shiftLeft]
  simp only [Nat.zero_div, Nat.zero_mod, Nat.mul_zero, Option.map_some]
  rw [Bool.xor_false, show rq 0 1 = 0 from rfl]
  show some (Ieee.double.nearest (sg x) 0 _) = _
  unfold Ieee.Format.nearest
  rw [if_pos rfl]
  cases sg x <;> rfl
 ·
  have hml : m.log2 ≤ 53 := by
   by_cases c : rg x < 4503599627370496
   ·
    have h1 : m * 2 ^ k < 4503599627370496 := by rw [em, vl_small c]; exact c
    have h2 : m ≤ m * 2 ^ k := Nat.le_mul_of_pos_right m (Nat.two_pow_pos k)
    have := (Nat.log2_lt z (k := 52)).2 (by omega)
    omega
   ·
    have h1 := read_eq x
    rw [hm, if_neg c, if_pos hx] at h1
    injection h1 with _ h1 _
    have := (Nat.log2_lt z (k := 53)).2 (by omega)
    omega
  obtain ⟨t, ht⟩ : ∃ t, 52 + 2 + 52 - m.log2 = 52 + t := ⟨52 + 2 + 52 - m.log2 - 52, by omega⟩
  rw [ht, Nat.shiftLeft_eq, Nat.pow_add, show (2 : Nat) ^ 52 = 4503599627370496 by decide, Nat.mul_left_comm, Nat.mul_div_cancel_left _ (by omega), Nat.mul_mod_right]
  simp only [bne_self_eq_false, Bool.toNat_false, Nat.add_zero, Option.map_some, Bool.xor_false]
  have h := nearest_eq (sg x) (2 * (m * 2 ^ t)) k (t + 2)
  rw [show -1074 + (k : Int) - ((t + 2 : Nat) : Int) = -1074 + (k : Int) - -51 - ((52 + t : Nat) : Int) - 1 by omega] at h
  show some (Ieee.double.nearest _ _ _) = _
  rw [h, show 2 * (m * 2 ^ t) * 2 ^ k = m * 2 ^ k * 2 ^ (t + 1) by rw [Nat.pow_succ, Nat.mul_assoc m, Nat.mul_comm (2 ^ k), ← Nat.mul_assoc m, ← Nat.mul_assoc m]; rw [Nat.mul_comm 2, Nat.mul_right_comm], show t + 2 = 1 + (t + 1) by omega, rq_mul, em]
/-- up a binade -/
theorem vl_up (r i : Nat) (h : 4503599627370496 ≤ r) : vl (r + i * 4503599627370496) = vl r * 2 ^ i := by
 rw [vl_big h, vl_big (by omega), Nat.mul_assoc, ← Nat.pow_add]
 congr 2
 · omega
 · omega
end Go.Proofs.YtfgfofedacehiaaGreat.Fl
namespace Go.Proofs.YtfgfofedacehiaaGreat
end Go.Proofs.YtfgfofedacehiaaGreat

/-
 OWN TEXT: what Parts of the reference returns, for every float.
-/
namespace Go.Proofs.YtfgfofedacehiaaGreat
open Go.ChangeShapes Go.WideShapes Go.ChangeAt Go.RowKit
set_option linter.unusedVariables false
attribute [local go_sem] frombits_call tobits_call run_neg
end Go.Proofs.YtfgfofedacehiaaGreat

/-
 OWN TEXT: the reference's logarithm (eddyref04.Log), for every float.
-/
namespace Go.Proofs.YtfgfofedacehiaaGreat
open Go.ChangeShapes Go.WideShapes Go.ChangeAt Go.RowKit
set_option linter.unusedVariables false
attribute [local go_sem] frombits_call tobits_call run_neg
/-- the logarithm of a finite number above nought: of its parts m and e -/
def logP (m : Nat) (e : Int) (y : Nat) : Prop := ∃ a b f o nh nl t, opR .sub m 4607182418800017408 a ∧ opR .add m 4607182418800017408 b ∧ opR .quo a b f ∧ oddR f o ∧
 opR .mul (floatOfInt .f64 e) 4604418534311723008 nh ∧ opR .mul (floatOfInt .f64 e) 4461442080421002358 nl ∧ opR .add nl o t ∧ opR .add nh t y
def logF (x y : Nat) : Prop := if Fl.ltF (paF x) 4604544271217802189 = true then ∃ m, opR .mul 4611686018427387904 (paF x) m ∧ logP m (paE x - 1) y else logP (paF x) (paE x) y
theorem logP.sim {m m' : Nat} {e : Int} {y y' : Nat} (h : logP m e y) (k : logP m' e y') (hm : simR m m') : simR y y' := by
 obtain ⟨a, b, f, o, nh, nl, t, h1, h2, h3, h4, h5, h6, h7, h8⟩ := h
 obtain ⟨a', b', f', o', nh', nl', t', k1, k2, k3, k4, k5, k6, k7, k8⟩ := k
 have ad : isOp .add := Or.inl rfl
 have su : isOp .sub := Or.inr (Or.inl rfl)
 have mu : isOp .mul := Or.inr (Or.inr (Or.inl rfl))
 have qu : isOp .quo := Or.inr (Or.inr (Or.inr rfl))
 have ea := h1.sim su k1 hm (simR.refl _)
 have eb := h2.sim ad k2 hm (simR.refl _)
 have ef := h3.sim qu k3 ea eb
 have eo := h4.sim k4 ef
 have eh := h5.sim mu k5 (simR.refl _) (simR.refl _)
 have el := h6.sim mu k6 (simR.refl _) (simR.refl _)
 have et := h7.sim ad k7 el eo
 exact h8.sim ad k8 eh et
theorem logF.sim {x y y' : Nat} (h : logF x y) (k : logF x y') : simR y y' := by
 unfold logF at h k
 by_cases c : Fl.ltF (paF x) 4604544271217802189 = true
 ·
  rw [if_pos c] at h k
  obtain ⟨m, h1, h2⟩ := h
  obtain ⟨m', k1, k2⟩ := k
  exact h2.sim k2 (h1.sim (Or.inr (Or.inr (Or.inl rfl))) k1 (simR.refl _) (simR.refl _))
 ·
  rw [if_neg c] at h k
  exact h.sim k (simR.refl _)
end Go.Proofs.YtfgfofedacehiaaGreat

/-
 OWN TEXT: the reference's logarithm for every float, and that of 1 and x (eddyref04.Log, eddyref04.More).
-/
namespace Go.Proofs.YtfgfofedacehiaaGreat
open Go.ChangeShapes Go.WideShapes Go.ChangeAt Go.RowKit
set_option linter.unusedVariables false
attribute [local go_sem] frombits_call tobits_call run_neg
/-- what the logarithm of x is: y -/
def logR (x y : Nat) : Prop :=
 ((Fl.nan x = true ∨ Fl.ltF x 0 = true) ∧ Fl.nan y = true) ∨
 (Fl.nan x = false ∧ Fl.rg x = 0 ∧ y = 18442240474082181120) ∨
 (x = 9218868437227405312 ∧ y = x) ∨
 (Fl.rg x < 9218868437227405312 ∧ ¬ Fl.rg x = 0 ∧ Fl.sg x = false ∧ logF x y)
/-- one number has one logarithm -/
theorem logR.sim {x y y' : Nat} (h : logR x y) (k : logR x y') : simR y y' := by
 have zl : ∀ x : Nat, Fl.rg x = 0 → Fl.nan x = false ∧ Fl.ltF x 0 = false := by
  intro x hz
  have hn : Fl.nan x = false := by unfold Fl.nan; exact decide_eq_false (by omega)
  refine ⟨hn, ?_⟩
  unfold Fl.ltF
  have : Fl.key x = 0 := by unfold Fl.key; rw [hz]; split <;> rfl
  rw [this, show Fl.key 0 = 0 by decide, hn]
  rfl
 have inl : ∀ x : Nat, x = 9218868437227405312 → Fl.nan x = false ∧ Fl.ltF x 0 = false ∧ ¬ Fl.rg x = 0 := by
  intro x hz
  subst hz
  decide
 have fin : ∀ x : Nat, Fl.rg x < 9218868437227405312 → Fl.sg x = false → Fl.nan x = false ∧ Fl.ltF x 0 = false := by
  intro x h1 h2
  have hn : Fl.nan x = false := by unfold Fl.nan; exact decide_eq_false (by omega)
  refine ⟨hn, ?_⟩
  unfold Fl.ltF Fl.key
  rw [hn, h2, if_neg (by decide), show Fl.sg 0 = false by decide, show Fl.rg 0 = 0 by decide]
  simp
 rcases h with ⟨h1, h2⟩ | ⟨h1, h2, h3⟩ | ⟨h1, h2⟩ | ⟨h1, h2, h3, h4⟩
 ·
  rcases k with ⟨k1, k2⟩ | ⟨k1, k2, k3⟩ | ⟨k1, k2⟩ | ⟨k1, k2, k3, k4⟩
  · exact Or.inr ⟨h2, k2⟩
  · obtain ⟨a, b⟩ := zl x k2; rw [a, b] at h1; rcases h1 with h1 | h1 <;> cases h1
  · obtain ⟨a, b, _⟩ := inl x k1; rw [a, b] at h1; rcases h1 with h1 | h1 <;> cases h1
  · obtain ⟨a, b⟩ := fin x k1 k3; rw [a, b] at h1; rcases h1 with h1 | h1 <;> cases h1
 ·
  rcases k with ⟨k1, k2⟩ | ⟨k1, k2, k3⟩ | ⟨k1, k2⟩ | ⟨k1, k2, k3, k4⟩
  · obtain ⟨a, b⟩ := zl x h2; rw [a, b] at k1; rcases k1 with k1 | k1 <;> cases k1
  · exact Or.inl (h3.trans k3.symm)
  · exact absurd h2 (inl x k1).2.2
  · exact absurd h2 k2
 ·
  rcases k with ⟨k1, k2⟩ | ⟨k1, k2, k3⟩ | ⟨k1, k2⟩ | ⟨k1, k2, k3, k4⟩
  · obtain ⟨a, b, _⟩ := inl x h1; rw [a, b] at k1; rcases k1 with k1 | k1 <;> cases k1
  · exact absurd k2 (inl x h1).2.2
  · exact Or.inl (h2.trans k2.symm)
  · subst h1; exact absurd k1 (by decide)
 ·
  rcases k with ⟨k1, k2⟩ | ⟨k1, k2, k3⟩ | ⟨k1, k2⟩ | ⟨k1, k2, k3, k4⟩
  · obtain ⟨a, b⟩ := fin x h1 h3; rw [a, b] at k1; rcases k1 with k1 | k1 <;> cases k1
  · exact absurd k2 h2
  · subst k1; exact absurd h1 (by decide)
  · exact h4.sim k4
end Go.Proofs.YtfgfofedacehiaaGreat

