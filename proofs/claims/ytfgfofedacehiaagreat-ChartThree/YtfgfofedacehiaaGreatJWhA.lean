/-
 OWN TEXT: floats that are whole numbers: their sums, differences, products are exact.
-/
import Derived.Test.YtfgfofedacehiaaGreatJEoA
import Derived.Test.YtfgfofedacehiaaGreatJFlCToFlG
namespace Go.Proofs.YtfgfofedacehiaaGreat
set_option linter.unusedVariables false
/-- the word x is the whole number n (a nought of either sign); c: the units of 1 -/
def wI (c x : Nat) (n : Int) : Prop := x < 18446744073709551616 ∧ Fl.rg x < 9218868437227405312 ∧ Fl.val x = n * ((2 ^ c : Nat) : Int)
theorem wI.lt {c x : Nat} {n : Int} (h : wI c x n) : x < 18446744073709551616 := h.1
theorem val_natAbs (x : Nat) : (Fl.val x).natAbs = Fl.vl (Fl.rg x) := by
 unfold Fl.val
 split <;> omega
theorem wI.vl {c x : Nat} {n : Int} (h : wI c x n) : Fl.vl (Fl.rg x) = n.natAbs * 2 ^ c := by
 rw [← val_natAbs, h.2.2, Int.natAbs_mul, Int.natAbs_natCast]
theorem small_log {k c : Nat} (hc : c = 1074) (hk : k ≤ 9007199254740992) : (k * 2 ^ c).log2 < 2098 := by
 by_cases z : k = 0
 · subst z; rw [Nat.zero_mul]; decide
 ·
  rw [Fl.log2_mul k c z]
  have : k.log2 < 54 := (Nat.log2_lt z).2 (by omega)
  omega
/-- a rounded whole number is that number -/
theorem wI_of {c : Nat} (hc : c = 1074) {s : Bool} {n : Int} (hn : n.natAbs ≤ 9007199254740992) (hs : n ≠ 0 → s = decide (n < 0)) : wI c (Fl.wd s (Fl.rq (n.natAbs * 2 ^ c) 0)) n := by
 obtain ⟨h1, h2⟩ := Fl.rq_rep (n.natAbs * 2 ^ c) ⟨n.natAbs, c, rfl, hn⟩ (small_log hc hn)
 have hl : Fl.rq (n.natAbs * 2 ^ c) 0 < 9223372036854775808 := by omega
 refine ⟨Fl.wd_lt _ _ hl, by rw [Fl.rg_wd _ _ hl]; exact h2, ?_⟩
 rw [Fl.val_wd _ _ hl, h1]
 by_cases z : n = 0
 · subst z; simp
 ·
  rw [hs z]
  by_cases q : n < 0
  ·
   rw [decide_eq_true q, if_pos rfl, Int.natCast_mul, ← Int.neg_mul]
   congr 1
   omega
  ·
   rw [decide_eq_false q, if_neg (by decide), Int.natCast_mul]
   congr 1
   omega
theorem op_some {op : BinOp} {a b x y : Nat} (h : opR op a b x) (e : floatBits op .f64 a b = some y) : x = y := by
 rcases h.2 with q | q
 · rw [e] at q; exact (Option.some.inj q).symm
 · rw [e] at q; cases q.1
theorem mul_sign {n : Int} {p : Nat} (hp : 0 < p) : (n * (p : Int) = 0 ↔ n = 0) ∧ (n * (p : Int) < 0 ↔ n < 0) := by
 have hp' : (0 : Int) < (p : Int) := by omega
 constructor
 · exact ⟨fun h => (Int.mul_eq_zero.1 h).resolve_right (by omega), fun h => by rw [h]; simp⟩
 ·
  constructor
  ·
   intro h
   by_cases c : n < 0
   · exact c
   ·
    have := Int.mul_nonneg (show 0 ≤ n by omega) (Int.le_of_lt hp')
    omega
  · intro h; exact Int.mul_neg_of_neg_of_pos h hp'
theorem wI.add {c a b r : Nat} {m n : Int} (hc : c = 1074) (ha : wI c a m) (hb : wI c b n) (hs : (m + n).natAbs ≤ 9007199254740992) (h : opR .add a b r) : wI c r (m + n) := by
 have e := Fl.add_fin ha.2.1 hb.2.1
 have hr := op_some h e
 rw [ha.2.2, hb.2.2, ← Int.add_mul, Int.natAbs_mul, Int.natAbs_natCast] at hr
 obtain ⟨k1, k2⟩ := mul_sign (n := m + n) (Nat.two_pow_pos c)
 rw [hr]
 refine wI_of hc hs fun z => ?_
 rw [if_neg (fun q => z (k1.1 q))]
 exact decide_eq_decide.2 k2
theorem wI.sub {c a b r : Nat} {m n : Int} (hc : c = 1074) (ha : wI c a m) (hb : wI c b n) (hs : (m - n).natAbs ≤ 9007199254740992) (h : opR .sub a b r) : wI c r (m - n) := by
 have e := Fl.sub_fin hb.1 ha.2.1 hb.2.1
 have hr := op_some h e
 rw [ha.2.2, hb.2.2, ← Int.sub_mul, Int.natAbs_mul, Int.natAbs_natCast] at hr
 obtain ⟨k1, k2⟩ := mul_sign (n := m - n) (Nat.two_pow_pos c)
 rw [hr]
 refine wI_of hc hs fun z => ?_
 rw [if_neg (fun q => z (k1.1 q))]
 exact decide_eq_decide.2 k2
theorem wI.sign {c a : Nat} {m : Int} (ha : wI c a m) (z : m ≠ 0) : Fl.sg a = decide (m < 0) := by
 have h := ha.2.2
 obtain ⟨k1, k2⟩ := mul_sign (n := m) (Nat.two_pow_pos c)
 unfold Fl.val at h
 cases q : Fl.sg a
 ·
  rw [q, if_neg (by decide)] at h
  have : ¬ m < 0 := by rw [← k2]; omega
  rw [decide_eq_false this]
 ·
  rw [q, if_pos rfl] at h
  have h0 : ¬ m * ((2 ^ c : Nat) : Int) = 0 := fun x => z (k1.1 x)
  have : m < 0 := by rw [← k2]; omega
  rw [decide_eq_true this]
theorem wI.mul {c a b r : Nat} {m n : Int} (hc : c = 1074) (ha : wI c a m) (hb : wI c b n) (hs : (m * n).natAbs ≤ 9007199254740992) (h : opR .mul a b r) : wI c r (m * n) := by
 have e := Fl.mul_fin ha.2.1 hb.2.1
 rw [← hc] at e
 have hr := op_some h e
 have hv : Fl.vl (Fl.rg a) * Fl.vl (Fl.rg b) = (m * n).natAbs * 2 ^ c * 2 ^ c := by
  rw [ha.vl, hb.vl, Int.natAbs_mul, Nat.mul_mul_mul_comm, Nat.mul_assoc (m.natAbs * n.natAbs)]
 have hq := Fl.rq_mul ((m * n).natAbs * 2 ^ c) c 0
 rw [Nat.zero_add] at hq
 rw [hv, hq] at hr
 rw [hr]
 refine wI_of hc hs fun z => ?_
 have zm : m ≠ 0 := fun q => z (by rw [q]; simp)
 have zn : n ≠ 0 := fun q => z (by rw [q]; simp)
 rw [ha.sign zm, hb.sign zn]
 by_cases q1 : m < 0 <;> by_cases q2 : n < 0
 · rw [decide_eq_true q1, decide_eq_true q2, decide_eq_false (by have := Int.mul_pos_of_neg_of_neg q1 q2; omega)]; rfl
 · rw [decide_eq_true q1, decide_eq_false q2, decide_eq_true (Int.mul_neg_of_neg_of_pos q1 (by omega))]; rfl
 · rw [decide_eq_false q1, decide_eq_true q2, decide_eq_true (Int.mul_neg_of_pos_of_neg (by omega) q2)]; rfl
 · rw [decide_eq_false q1, decide_eq_false q2, decide_eq_false (by have := Int.mul_pos (show 0 < m by omega) (show 0 < n by omega); omega)]; rfl
/-- whole numbers are equal where their floats are -/
theorem wI.eq {c a b : Nat} {m n : Int} (ha : wI c a m) (hb : wI c b n) : Fl.eqF a b = decide (m = n) := by
 have na : Fl.nan a = false := by unfold Fl.nan; exact decide_eq_false (by have := ha.2.1; omega)
 have nb : Fl.nan b = false := by unfold Fl.nan; exact decide_eq_false (by have := hb.2.1; omega)
 rw [Fl.eqF_of na nb]
 refine decide_eq_decide.2 ?_
 have hp : (0 : Int) < ((2 ^ c : Nat) : Int) := by have := Nat.two_pow_pos c; omega
 have hv : m = n ↔ Fl.val a = Fl.val b := by
  rw [ha.2.2, hb.2.2]
  exact ⟨fun h => by rw [h], fun h => Int.eq_of_mul_eq_mul_right (by omega) h⟩
 rw [hv]
 have vi := @Fl.vl_inj (Fl.rg a) (Fl.rg b)
 have z1 : Fl.vl (Fl.rg a) = 0 ↔ Fl.rg a = 0 := by
  have := @Fl.vl_inj (Fl.rg a) 0
  rwa [show Fl.vl 0 = 0 by decide] at this
 have z2 : Fl.vl (Fl.rg b) = 0 ↔ Fl.rg b = 0 := by
  have := @Fl.vl_inj (Fl.rg b) 0
  rwa [show Fl.vl 0 = 0 by decide] at this
 unfold Fl.key Fl.val
 generalize Fl.vl (Fl.rg a) = va at *
 generalize Fl.vl (Fl.rg b) = vb at *
 cases Fl.sg a <;> cases Fl.sg b <;> simp <;> omega
end Go.Proofs.YtfgfofedacehiaaGreat

