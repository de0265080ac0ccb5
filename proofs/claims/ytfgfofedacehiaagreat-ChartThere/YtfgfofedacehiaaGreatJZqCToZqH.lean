/-
 OWN TEXT: a quotient of floats: how far it is from the true one; that it is exact where it can be.
-/
import Derived.Test.YtfgfofedacehiaaGreatJZqAToPnE
import Derived.Test.YtfgfofedacehiaaGreatJRpAToEqA
namespace Go.Proofs.YtfgfofedacehiaaGreat.Fl
set_option linter.unusedVariables false
theorem quo_parts9 (m n a b c M q r st : Nat) (hn : 0 < n) (hdm : n * q + r = m * 2 ^ M) (hr : r ≤ n * st) :
  n * 2 ^ b * ((2 * q + st) * 2 ^ (a + c)) ≤ m * 2 ^ a * 2 ^ c * 2 ^ (b + M + 1) + n * 2 ^ b * (st * 2 ^ (a + c)) ∧
  m * 2 ^ a * 2 ^ c * 2 ^ (b + M + 1) ≤ n * 2 ^ b * ((2 * q + st) * 2 ^ (a + c)) + n * 2 ^ b * (st * 2 ^ (a + c)) := by
 obtain ⟨W, hW⟩ : ∃ W, W = 2 ^ b * 2 ^ (a + c) := ⟨_, rfl⟩
 have e1 : n * 2 ^ b * ((2 * q + st) * 2 ^ (a + c)) = (2 * (n * q) + n * st) * W := by rw [hW]; grind
 have e2 : m * 2 ^ a * 2 ^ c * 2 ^ (b + M + 1) = (2 * (n * q) + 2 * r) * W := by
  rw [← Nat.mul_add, hdm, hW, Nat.pow_add, Nat.pow_add, Nat.pow_add]
  grind
 have e3 : n * 2 ^ b * (st * 2 ^ (a + c)) = n * st * W := by rw [hW]; grind
 rw [e1, e2, e3, ← Nat.add_mul, ← Nat.add_mul]
 exact ⟨Nat.mul_le_mul_right W (by omega), Nat.mul_le_mul_right W (by omega)⟩
theorem quo_whole (m n a b M K : Nat) (hm : m ≠ 0) (hn : n ≠ 0) (hM : 54 + n.log2 - m.log2 = M) (hK : K ≤ 9007199254740992) (h : m * 2 ^ a = K * (n * 2 ^ b)) : m * 2 ^ M % n = 0 := by
 rcases Nat.lt_or_ge b a with k | k
 ·
  obtain ⟨t, ht⟩ : ∃ t, a = b + t := ⟨a - b, by omega⟩
  subst ht
  have h2 : m * 2 ^ t = K * n := by
   refine Nat.eq_of_mul_eq_mul_right (Nat.two_pow_pos b) ?_
   rw [Nat.pow_add, Nat.mul_comm (2 ^ b), ← Nat.mul_assoc] at h
   rw [h, Nat.mul_assoc]
  have l1 := log2_le m hm
  have l2 := log2_lt n hn
  have l3 : 2 ^ (m.log2 + t) < 2 ^ (54 + n.log2) := by
   rw [Nat.pow_add, show 54 + n.log2 = 53 + (n.log2 + 1) by omega, Nat.pow_add 2 53, show (2 : Nat) ^ 53 = 9007199254740992 by decide]
   refine Nat.lt_of_le_of_lt (Nat.mul_le_mul_right _ l1) ?_
   rw [h2]
   refine Nat.lt_of_le_of_lt (Nat.mul_le_mul_right n hK) ?_
   exact Nat.mul_lt_mul_of_pos_left l2 (by decide)
  have l4 := (Nat.pow_lt_pow_iff_right (a := 2) (by decide)).1 l3
  obtain ⟨s, hs⟩ : ∃ s, M = t + s := ⟨M - t, by omega⟩
  rw [hs, Nat.pow_add, ← Nat.mul_assoc, h2, Nat.mul_right_comm, Nat.mul_comm]
  exact Nat.mul_mod_right _ _
 ·
  obtain ⟨t, ht⟩ : ∃ t, b = a + t := ⟨b - a, by omega⟩
  subst ht
  have h2 : m = K * (n * 2 ^ t) := by
   refine Nat.eq_of_mul_eq_mul_right (Nat.two_pow_pos a) ?_
   rw [h, Nat.pow_add]
   grind
  rw [h2, show K * (n * 2 ^ t) * 2 ^ M = n * (K * 2 ^ t * 2 ^ M) by grind]
  exact Nat.mul_mod_right _ _
theorem div_form9 {x y : Nat} (c : Nat) (hc : c = 1074) (hx : rg x < 9218868437227405312) (hy : rg y < 9218868437227405312) (h0 : ¬ rg y = 0) :
  ∃ Q e S, Ieee.double.div x y = some (wd (sg x ^^ sg y) (rq Q e)) ∧ vl (rg y) * Q ≤ vl (rg x) * 2 ^ c * 2 ^ e + vl (rg y) * S ∧ vl (rg x) * 2 ^ c * 2 ^ e ≤ vl (rg y) * Q + vl (rg y) * S ∧
   9007199254740992 * S ≤ Q ∧ ∀ K, K ≤ 9007199254740992 → vl (rg x) = K * vl (rg y) → rq Q e = rq (K * 2 ^ c) 0 := by
 obtain ⟨m, a, hm, em⟩ := read_fin hx
 obtain ⟨n, b, hn, en⟩ := read_fin hy
 have hn0 : n ≠ 0 := by
  intro e
  rw [e, Nat.zero_mul] at en
  exact vl_pos h0 en.symm
 have hY : 0 < vl (rg y) := by have := vl_pos h0; omega
 obtain ⟨M, hM⟩ : ∃ M, 52 + 2 + n.log2 - m.log2 = M := ⟨_, rfl⟩
 have hdm := Nat.div_add_mod (m * 2 ^ M) n
 obtain ⟨q, hq⟩ : ∃ q, m * 2 ^ M / n = q := ⟨_, rfl⟩
 obtain ⟨r, hr⟩ : ∃ r, m * 2 ^ M % n = r := ⟨_, rfl⟩
 have hrn : r < n := by rw [← hr]; exact Nat.mod_lt _ (by omega)
 rw [hq, hr] at hdm
 obtain ⟨st, hst⟩ : ∃ st, (r != 0).toNat = st := ⟨_, rfl⟩
 have hst0 : r = 0 → st = 0 := by intro e; rw [← hst, e]; rfl
 have hst1 : r ≠ 0 → st = 1 := by intro e; rw [← hst, show (r != 0) = true by simp [e]]; rfl
 have hrs : r ≤ n * st := by
  by_cases z : r = 0
  · omega
  · rw [hst1 z]; omega
 have hs2 : 9007199254740992 * st ≤ 2 * q + st := by
  by_cases z : m = 0
  ·
   have : r = 0 := by rw [← hr, z, Nat.zero_mul, Nat.zero_mod]
   rw [hst0 this]; omega
  ·
   have l1 := log2_le m z
   have l2 := log2_lt n hn0
   have l3 : 2 ^ (n.log2 + 1 + 53) ≤ 2 ^ (m.log2 + M) := Nat.pow_le_pow_right (by decide) (by omega)
   have l4 : 2 ^ (m.log2 + M) ≤ m * 2 ^ M := by rw [Nat.pow_add]; exact Nat.mul_le_mul_right _ l1
   have l5 : n * 9007199254740992 ≤ m * 2 ^ M := by
    refine Nat.le_trans ?_ (Nat.le_trans l3 l4)
    rw [Nat.pow_add, show (2 : Nat) ^ 53 = 9007199254740992 by decide]
    exact Nat.mul_le_mul_right _ (by omega)
   have l6 : 9007199254740992 ≤ q := by
    rw [← hq]
    exact (Nat.le_div_iff_mul_le (by omega)).2 (by rw [Nat.mul_comm]; exact l5)
   have : st ≤ 1 := by
    by_cases y : r = 0
    · rw [hst0 y]; omega
    · rw [hst1 y]; omega
   omega
 have hdiv : Ieee.double.div x y = some (wd (sg x ^^ sg y) (rq ((2 * q + st) * 2 ^ (a + c)) (b + M + 1))) := by
  have hne := nearest_eq (sg x ^^ sg y) (2 * q + st) (a + c) (b + M + 1)
  rw [show -1074 + ((a + c : Nat) : Int) - ((b + M + 1 : Nat) : Int) = -1074 + (a : Int) - (-1074 + (b : Int)) - (M : Int) - 1 by omega] at hne
  unfold Ieee.Format.div
  rw [hm, hn]
  unfold Ieee.Datum.quotient
  simp only []
  rw [if_neg hn0, show Ieee.double.fractionBits = 52 from rfl, hM, Nat.shiftLeft_eq, hq, hr, hst, ← hne]
  rfl
 obtain ⟨p1, p2⟩ := quo_parts9 m n a b c M q r st (by omega) hdm hrs
 rw [em, en] at p1 p2
 refine ⟨(2 * q + st) * 2 ^ (a + c), b + M + 1, st * 2 ^ (a + c), hdiv, p1, p2, ?_, ?_⟩
 ·
  rw [← Nat.mul_assoc]
  exact Nat.mul_le_mul_right _ hs2
 ·
  intro K hK hX
  have hr0 : r = 0 := by
   by_cases z : m = 0
   · rw [← hr, z, Nat.zero_mul, Nat.zero_mod]
   ·
    rw [← hr]
    exact quo_whole m n a b M K z hn0 hM hK (by rw [em, en]; exact hX)
  rw [hst0 hr0] at p1 p2 ⊢
  rw [Nat.zero_mul, Nat.mul_zero, Nat.add_zero, hX] at p1 p2
  have he : vl (rg y) * ((2 * q + 0) * 2 ^ (a + c)) = vl (rg y) * (K * 2 ^ c * 2 ^ (b + M + 1)) := by
   have : K * vl (rg y) * 2 ^ c * 2 ^ (b + M + 1) = vl (rg y) * (K * 2 ^ c * 2 ^ (b + M + 1)) := by grind
   rw [← this]
   exact Nat.le_antisymm p1 p2
  rw [Nat.eq_of_mul_eq_mul_left hY he]
  have k := rq_mul (K * 2 ^ c) (b + M + 1) 0
  rw [Nat.zero_add] at k
  exact k
end Go.Proofs.YtfgfofedacehiaaGreat.Fl

/-
 OWN TEXT: the root of a square of whole parts is that number, or that number with its signs turned: exactly.
-/
namespace Go.Proofs.YtfgfofedacehiaaGreat
set_option linter.unusedVariables false
theorem uJ.wI {c x n : Nat} (h : uJ c x n) : wI c x (n : Int) := by
 refine ⟨h.2.2.1, h.2.1, ?_⟩
 unfold Fl.val
 rw [h.1, if_neg (by decide), h.2.2.2, Int.natCast_mul]
theorem wI.signed {c x : Nat} {n : Int} (h : wI c x n) (s : Bool) : wI c (Fl.wd s (Fl.rg x)) (if s then -(n.natAbs : Int) else n.natAbs) := by
 have h2 := h.2.1
 have hl : Fl.rg x < 9223372036854775808 := by omega
 refine ⟨Fl.wd_lt _ _ hl, by rw [Fl.rg_wd _ _ hl]; exact h2, ?_⟩
 rw [Fl.val_wd _ _ hl, h.vl]
 cases s
 · simp
 · simp [Int.neg_mul]
/-- a quotient that is whole -/
theorem wI.quo {c a b r : Nat} {m n k : Int} (hc : c = 1074) (ha : wI c a m) (hb : wI c b n) (hn : n ≠ 0) (hk : m = k * n) (hs : k.natAbs ≤ 9007199254740992) (h : opR .quo a b r) : wI c r k := by
 have h0 : ¬ Fl.rg b = 0 := by
  intro e
  have := hb.vl
  rw [e, show Fl.vl 0 = 0 by decide] at this
  have h1 := Nat.mul_pos (show 0 < n.natAbs by omega) (Nat.two_pow_pos c)
  omega
 obtain ⟨Q, e, S, d1, _, _, _, d5⟩ := Fl.div_form9 c hc ha.2.1 hb.2.1 h0
 have hr := op_some h d1
 rw [d5 k.natAbs hs (by rw [ha.vl, hb.vl, hk, Int.natAbs_mul, Nat.mul_assoc])] at hr
 rw [hr]
 refine wI_of hc hs fun z => ?_
 have hm : m ≠ 0 := by rw [hk]; intro q; rcases Int.mul_eq_zero.1 q with q | q; exact z q; exact hn q
 rw [ha.sign hm, hb.sign hn]
 by_cases q1 : k < 0 <;> by_cases q2 : n < 0
 · rw [decide_eq_true q1, decide_eq_true q2, decide_eq_false (by have := Int.mul_pos_of_neg_of_neg q1 q2; omega)]; rfl
 · rw [decide_eq_true q1, decide_eq_false q2, decide_eq_true (by have := Int.mul_neg_of_neg_of_pos q1 (show 0 < n by omega); omega)]; rfl
 · rw [decide_eq_false q1, decide_eq_true q2, decide_eq_true (by have := Int.mul_neg_of_pos_of_neg (show 0 < k by omega) q2; omega)]; rfl
 · rw [decide_eq_false q1, decide_eq_false q2, decide_eq_false (by have := Int.mul_pos (show 0 < k by omega) (show 0 < n by omega); omega)]; rfl
theorem vl_le9 {r s : Nat} (h : r ≤ s) : Fl.vl r ≤ Fl.vl s := by
 rcases Nat.lt_or_ge r s with c | c
 · exact Nat.le_of_lt (Fl.vl_mono c)
 · rw [show r = s by omega]; exact Nat.le_refl _
theorem wI.leF {c a b : Nat} {m n : Int} (ha : wI c a m) (hb : wI c b n) : Fl.leF a b = decide (m ≤ n) := by
 rw [Fl.leF_of ha.nan hb.nan]
 refine decide_eq_decide.2 ?_
 have hp : (0 : Int) < ((2 ^ c : Nat) : Int) := by have := Nat.two_pow_pos c; omega
 have hv : m ≤ n ↔ Fl.val a ≤ Fl.val b := by
  rw [ha.2.2, hb.2.2]
  exact ⟨fun h => Int.mul_le_mul_of_nonneg_right h (by omega), fun h => Int.le_of_mul_le_mul_right h hp⟩
 rw [hv]
 have v1 : Fl.rg a ≤ Fl.rg b ↔ Fl.vl (Fl.rg a) ≤ Fl.vl (Fl.rg b) := by
  constructor
  · exact vl_le9
  ·
   intro q
   rcases Nat.lt_or_ge (Fl.rg b) (Fl.rg a) with k | k
   · have := Fl.vl_mono k; omega
   · exact k
 have v2 : Fl.rg b ≤ Fl.rg a ↔ Fl.vl (Fl.rg b) ≤ Fl.vl (Fl.rg a) := by
  constructor
  · exact vl_le9
  ·
   intro q
   rcases Nat.lt_or_ge (Fl.rg a) (Fl.rg b) with k | k
   · have := Fl.vl_mono k; omega
   · exact k
 have z1 : Fl.vl (Fl.rg a) = 0 ↔ Fl.rg a = 0 := by
  have := @Fl.vl_inj (Fl.rg a) 0
  rwa [show Fl.vl 0 = 0 by decide] at this
 have z2 : Fl.vl (Fl.rg b) = 0 ↔ Fl.rg b = 0 := by
  have := @Fl.vl_inj (Fl.rg b) 0
  rwa [show Fl.vl 0 = 0 by decide] at this
 unfold Fl.key Fl.val
 generalize Fl.vl (Fl.rg a) = va at *
 generalize Fl.vl (Fl.rg b) = vb at *
 cases Fl.sg a <;> cases Fl.sg b <;> simp <;> omega
end Go.Proofs.YtfgfofedacehiaaGreat

/-
 OWN TEXT: sums, products and quotients of floats, how far they are.
-/
namespace Go.Proofs.YtfgfofedacehiaaGreat
set_option linter.unusedVariables false
/-- x is n, rounded -/
def nr (x : Nat) (n : Int) : Prop := x < 18446744073709551616 ∧ Fl.rg x < 9218868437227405312 ∧ 4503599627370496 * (Fl.val x - n).natAbs ≤ n.natAbs + 4503599627370496
end Go.Proofs.YtfgfofedacehiaaGreat

/-
 OWN TEXT: parts.Div of whole numbers whose quotient is whole: how near it comes.
-/
namespace Go.Proofs.YtfgfofedacehiaaGreat
open Go.ChangeShapes Go.WideShapes Go.ChangeAt Go.RowKit
set_option linter.unusedVariables false
/-- x is v but for 2^-33 -/
def clo (c x : Nat) (v : Int) : Prop := x < 18446744073709551616 ∧ Fl.rg x < 9218868437227405312 ∧ 8589934592 * (Fl.val x - v * ((2 ^ c : Nat) : Int)).natAbs ≤ 2 ^ c
end Go.Proofs.YtfgfofedacehiaaGreat

/-
 OWN TEXT: parts.Div of whole numbers whose quotient is whole: the call.
-/
namespace Go.Proofs.YtfgfofedacehiaaGreat
open Go.ChangeShapes Go.WideShapes Go.ChangeAt Go.RowKit
set_option linter.unusedVariables false
end Go.Proofs.YtfgfofedacehiaaGreat

/-
 OWN TEXT: zeros.halfSum of whole zeros: one of them, exactly.
-/
namespace Go.Proofs.YtfgfofedacehiaaGreat
open Go.ChangeShapes Go.WideShapes Go.ChangeAt Go.RowKit
set_option linter.unusedVariables false
def g4 (g : Py.G) : Py.G := (g.1 * 4, g.2 * 4)
def g2 (g : Py.G) : Py.G := (2 * g.1, 2 * g.2)
theorem psub9 {c x y u v M K : Nat} {g h : Py.G} (hc : c = 1074) (hg : wC c x y g) (hh : wC c u v h) (lg : Py.Le g M) (lh : Py.Le h K) (hs : M + K ≤ 9007199254740992) : ∃ r s, wC c r s (Py.gs g h) ∧ ∀ w, Calls Tryz.prog 18 #[.complex .f64 x y, .complex .f64 u v] w fun e w' => e = .returned (.complex .f64 r s) ∧ w' = w := by
 obtain ⟨r, s, hrs, e⟩ := c_sub hc hg hh lg lh hs
 refine ⟨r, s, hrs, fun w => ?_⟩
 clear hrs hg hh lg lh hs
 go_enter Tryz.func18, Tryz.ntmps18
 go_wp2
 go_ret
 exact ⟨rfl, rfl⟩
theorem wI.ltF {c a b : Nat} {m n : Int} (ha : wI c a m) (hb : wI c b n) : Fl.ltF a b = decide (m < n) := by
 have h := hb.leF ha
 rw [Fl.leF_of hb.nan ha.nan] at h
 have h2 : Fl.ltF a b = decide (Fl.key a < Fl.key b) := by unfold Fl.ltF; rw [ha.nan, hb.nan]; simp
 rw [h2]
 have h3 := decide_eq_decide.1 h
 exact decide_eq_decide.2 (by omega)
end Go.Proofs.YtfgfofedacehiaaGreat

