/-
  OWN TEXT: package roots, as it landed: roots, polar forms, places, units, nearness, for every number.
-/
import Derived.Test.YtmbjgakehghdjaaJap
import Derived.Test.YtmbjgakehghdjaaJae
import Derived.Test.YtmbjgakehghdjaaJab
import Derived.Test.YtmbjgakehghdjaaJaj
namespace Go.Proofs.Ytmbjgakehghdjaa
open Go.ChangeShapes Go.WideShapes Go.ChangeAt Go.RowKit
set_option linter.unusedVariables false
attribute [local go_sem] frombits_call tobits_call run_neg
theorem rq_nought : Fl.rq 0 1074 = 0 := by decide +kernel
theorem mul_nought {b p : Nat} (fb : Fl.rg b < 9218868437227405312) (h : opR .mul b 0 p) : p = Fl.wd (Fl.sg b) 0 := by
  have hr : Fl.rg 0 = 0 := by decide
  have hv : Fl.vl 0 = 0 := by decide
  have hs : Fl.sg 0 = false := by decide
  have e : ∀ c v, v = 0 → c = 1074 → Fl.rq v c = 0 := by rintro _ _ rfl rfl; exact rq_nought
  obtain ⟨c, hc⟩ : ∃ c, c = 1074 := ⟨_, rfl⟩
  have m := Fl.mul_fin fb (show Fl.rg 0 < 9218868437227405312 by decide)
  rw [← hc, e c _ (by rw [hr, hv, Nat.mul_zero]) hc, hs, Bool.xor_false] at m
  have m' : floatBits .mul .f64 b 0 = some (Fl.wd (Fl.sg b) 0) := m
  rcases h.2 with q | q
  · rw [m'] at q; exact (Option.some.inj q).symm
  · rw [m'] at q; cases q.1
theorem signed_wd {s b : Nat} (nb : Fl.nan b = false) : signedF s b = Fl.wd (Fl.sg b) (Fl.rg s) := by
  unfold signedF Fl.minusB
  rw [nb]
  have k := Fl.ng_wd false (Fl.rg s) (Fl.rg_lt s)
  generalize Fl.rg s = r at *
  cases Fl.sg b
  · rw [Bool.and_false, if_neg (by decide), wd_false6]
  · rw [Bool.not_false, Bool.and_true, if_pos rfl]
    rw [wd_false6, Bool.not_false] at k
    exact k.symm
/-- what greaterPart tells: s -/
def graR (a b s : Nat) : Prop := ∃ l s0 h t, togR (scF (Fl.rg a) (-(2 * (paE (bigF a b) / 2)))) (scF (Fl.rg b) (-(2 * (paE (bigF a b) / 2)))) l ∧
  opR .add (scF (Fl.rg a) (-(2 * (paE (bigF a b) / 2)))) l s0 ∧ opR .quo s0 4611686018427387904 h ∧ sqtR h t ∧ s = scF t (paE (bigF a b) / 2)
theorem gra_lt {a b s : Nat} (h : graR a b s) : s < 18446744073709551616 := by
  obtain ⟨l, s0, q, t, _, _, _, h4, h5⟩ := h
  rw [h5]; exact scF_lt h4.1 _
theorem lt_le6 {a : Nat} (na : Fl.nan a = false) : Fl.ltF a 0 = !Fl.leF 0 a := by
  unfold Fl.ltF Fl.leF
  rw [na, show Fl.nan 0 = false by decide, show Fl.key 0 = 0 by decide]
  simp only [Bool.not_false, Bool.true_and]
  rw [← decide_not]
  exact decide_eq_decide.mpr (by omega)
theorem pfinite_any (a b : Nat) (w : World) (ha : a < 18446744073709551616) (hb : b < 18446744073709551616) : Calls Try.prog 61 #[.complex .f64 a b] w fun e w' => e = .returned (.bool (Fl.finB a && Fl.finB b)) ∧ w' = w := by
  have NA : Hid (∀ wz, Calls Try.prog 73 #[.float .f64 a] wz fun e w' => e = .returned (.bool (Fl.finB a)) ∧ w' = wz) := fun wz => finite_any a wz ha
  have NB : Hid (∀ wz, Calls Try.prog 73 #[.float .f64 b] wz fun e w' => e = .returned (.bool (Fl.finB b)) ∧ w' = wz) := fun wz => finite_any b wz hb
  generalize Fl.finB a = x at *
  generalize Fl.finB b = y at *
  cases x
  · go_enter Try.func61, Try.ntmps61
    go_wp2_with fail
    refine (NA.out _).mono ?_
    rintro e' w ⟨rfl, rfl⟩
    go_wp2
    go_ret
    exact ⟨rfl, rfl⟩
  · go_enter Try.func61, Try.ntmps61
    go_wp2_with fail
    refine (NA.out _).mono ?_
    rintro e' w ⟨rfl, rfl⟩
    go_wp2_with fail
    refine (NB.out _).mono ?_
    rintro e' w ⟨rfl, rfl⟩
    go_wp2
    go_ret
    exact ⟨by cases y <;> rfl, rfl⟩
theorem csum_run {op : BinOp} (hop : op = .add ∨ op = .sub) {a b c d x y : Nat} {P : Program} {w w1 w2 : World} (e1 : ∀ t, (binOp op t (.float .f64 a) (.float .f64 c)).run P w = .ok (.float .f64 x) w1) (e2 : ∀ t, (binOp op t (.float .f64 b) (.float .f64 d)).run P w1 = .ok (.float .f64 y) w2) (t : TypeId) : (binOp op t (.complex .f64 a b) (.complex .f64 c d)).run P w = .ok (.complex .f64 x y) w2 := by
  rcases hop with rfl | rfl
  · have k1 : (Op.floatArith .add .f64 a c).run P w = .ok (.float .f64 x) w1 := e1 0
    have k2 : (Op.floatArith .add .f64 b d).run P w1 = .ok (.float .f64 y) w2 := e2 0
    simp [binOp, Op.complexOp, Op.Complex.arith, k1, k2]
  · have k1 : (Op.floatArith .sub .f64 a c).run P w = .ok (.float .f64 x) w1 := e1 0
    have k2 : (Op.floatArith .sub .f64 b d).run P w1 = .ok (.float .f64 y) w2 := e2 0
    simp [binOp, Op.complexOp, Op.Complex.arith, k1, k2]
end Go.Proofs.Ytmbjgakehghdjaa
/-
  OWN TEXT: floats that are whole numbers: their sums, differences, products are exact.
-/
namespace Go.Proofs.Ytmbjgakehghdjaa
set_option linter.unusedVariables false
/-- the word x is the whole number n (a nought of either sign); c: the units of 1 -/
def wI (c x : Nat) (n : Int) : Prop := x < 18446744073709551616 ∧ Fl.rg x < 9218868437227405312 ∧ Fl.val x = n * ((2 ^ c : Nat) : Int)
theorem wI.lt {c x : Nat} {n : Int} (h : wI c x n) : x < 18446744073709551616 := h.1
theorem val_natAbs (x : Nat) : (Fl.val x).natAbs = Fl.vl (Fl.rg x) := by
  unfold Fl.val
  split <;> omega
theorem wI.vl {c x : Nat} {n : Int} (h : wI c x n) : Fl.vl (Fl.rg x) = n.natAbs * 2 ^ c := by
  rw [← val_natAbs, h.2.2, Int.natAbs_mul, Int.natAbs_natCast]
theorem small_log {k c : Nat} (hc : c = 1074) (hk : k ≤ 9007199254740992) : (k * 2 ^ c).log2 < 2098 := by
  by_cases z : k = 0
  · subst z; rw [Nat.zero_mul]; decide
  · rw [Fl.log2_mul k c z]
    have : k.log2 < 54 := (Nat.log2_lt z).2 (by omega)
    omega
/-- a rounded whole number is that number -/
theorem wI_of {c : Nat} (hc : c = 1074) {s : Bool} {n : Int} (hn : n.natAbs ≤ 9007199254740992) (hs : n ≠ 0 → s = decide (n < 0)) : wI c (Fl.wd s (Fl.rq (n.natAbs * 2 ^ c) 0)) n := by
  obtain ⟨h1, h2⟩ := Fl.rq_rep (n.natAbs * 2 ^ c) ⟨n.natAbs, c, rfl, hn⟩ (small_log hc hn)
  have hl : Fl.rq (n.natAbs * 2 ^ c) 0 < 9223372036854775808 := by omega
  refine ⟨Fl.wd_lt _ _ hl, by rw [Fl.rg_wd _ _ hl]; exact h2, ?_⟩
  rw [Fl.val_wd _ _ hl, h1]
  by_cases z : n = 0
  · subst z; simp
  · rw [hs z]
    by_cases q : n < 0
    · rw [decide_eq_true q, if_pos rfl, Int.natCast_mul, ← Int.neg_mul]
      congr 1
      omega
    · rw [decide_eq_false q, if_neg (by decide), Int.natCast_mul]
      congr 1
      omega
theorem op_some {op : BinOp} {a b x y : Nat} (h : opR op a b x) (e : floatBits op .f64 a b = some y) : x = y := by
  rcases h.2 with q | q
  · rw [e] at q; exact (Option.some.inj q).symm
  · rw [e] at q; cases q.1
theorem mul_sign {n : Int} {p : Nat} (hp : 0 < p) : (n * (p : Int) = 0 ↔ n = 0) ∧ (n * (p : Int) < 0 ↔ n < 0) := by
  have hp' : (0 : Int) < (p : Int) := by omega
  constructor
  · exact ⟨fun h => (Int.mul_eq_zero.1 h).resolve_right (by omega), fun h => by rw [h]; simp⟩
  · constructor
    · intro h
      by_cases c : n < 0
      · exact c
      · have := Int.mul_nonneg (show 0 ≤ n by omega) (Int.le_of_lt hp')
        omega
    · intro h; exact Int.mul_neg_of_neg_of_pos h hp'
theorem wI.add {c a b r : Nat} {m n : Int} (hc : c = 1074) (ha : wI c a m) (hb : wI c b n) (hs : (m + n).natAbs ≤ 9007199254740992) (h : opR .add a b r) : wI c r (m + n) := by
  have e := Fl.add_fin ha.2.1 hb.2.1
  have hr := op_some h e
  rw [ha.2.2, hb.2.2, ← Int.add_mul, Int.natAbs_mul, Int.natAbs_natCast] at hr
  obtain ⟨k1, k2⟩ := mul_sign (n := m + n) (Nat.two_pow_pos c)
  rw [hr]
  refine wI_of hc hs fun z => ?_
  rw [if_neg (fun q => z (k1.1 q))]
  exact decide_eq_decide.2 k2
theorem wI.sub {c a b r : Nat} {m n : Int} (hc : c = 1074) (ha : wI c a m) (hb : wI c b n) (hs : (m - n).natAbs ≤ 9007199254740992) (h : opR .sub a b r) : wI c r (m - n) := by
  have e := Fl.sub_fin hb.1 ha.2.1 hb.2.1
  have hr := op_some h e
  rw [ha.2.2, hb.2.2, ← Int.sub_mul, Int.natAbs_mul, Int.natAbs_natCast] at hr
  obtain ⟨k1, k2⟩ := mul_sign (n := m - n) (Nat.two_pow_pos c)
  rw [hr]
  refine wI_of hc hs fun z => ?_
  rw [if_neg (fun q => z (k1.1 q))]
  exact decide_eq_decide.2 k2
theorem wI.sign {c a : Nat} {m : Int} (ha : wI c a m) (z : m ≠ 0) : Fl.sg a = decide (m < 0) := by
  have h := ha.2.2
  obtain ⟨k1, k2⟩ := mul_sign (n := m) (Nat.two_pow_pos c)
  unfold Fl.val at h
  cases q : Fl.sg a
  · rw [q, if_neg (by decide)] at h
    have : ¬ m < 0 := by rw [← k2]; omega
    rw [decide_eq_false this]
  · rw [q, if_pos rfl] at h
    have h0 : ¬ m * ((2 ^ c : Nat) : Int) = 0 := fun x => z (k1.1 x)
    have : m < 0 := by rw [← k2]; omega
    rw [decide_eq_true this]
theorem wI.mul {c a b r : Nat} {m n : Int} (hc : c = 1074) (ha : wI c a m) (hb : wI c b n) (hs : (m * n).natAbs ≤ 9007199254740992) (h : opR .mul a b r) : wI c r (m * n) := by
  have e := Fl.mul_fin ha.2.1 hb.2.1
  rw [← hc] at e
  have hr := op_some h e
  have hv : Fl.vl (Fl.rg a) * Fl.vl (Fl.rg b) = (m * n).natAbs * 2 ^ c * 2 ^ c := by
    rw [ha.vl, hb.vl, Int.natAbs_mul, Nat.mul_mul_mul_comm, Nat.mul_assoc (m.natAbs * n.natAbs)]
  have hq := Fl.rq_mul ((m * n).natAbs * 2 ^ c) c 0
  rw [Nat.zero_add] at hq
  rw [hv, hq] at hr
  rw [hr]
  refine wI_of hc hs fun z => ?_
  have zm : m ≠ 0 := fun q => z (by rw [q]; simp)
  have zn : n ≠ 0 := fun q => z (by rw [q]; simp)
  rw [ha.sign zm, hb.sign zn]
  by_cases q1 : m < 0 <;> by_cases q2 : n < 0
  · rw [decide_eq_true q1, decide_eq_true q2, decide_eq_false (by have := Int.mul_pos_of_neg_of_neg q1 q2; omega)]; rfl
  · rw [decide_eq_true q1, decide_eq_false q2, decide_eq_true (Int.mul_neg_of_neg_of_pos q1 (by omega))]; rfl
  · rw [decide_eq_false q1, decide_eq_true q2, decide_eq_true (Int.mul_neg_of_pos_of_neg (by omega) q2)]; rfl
  · rw [decide_eq_false q1, decide_eq_false q2, decide_eq_false (by have := Int.mul_pos (show 0 < m by omega) (show 0 < n by omega); omega)]; rfl
/-- whole numbers are equal where their floats are -/
theorem wI.eq {c a b : Nat} {m n : Int} (ha : wI c a m) (hb : wI c b n) : Fl.eqF a b = decide (m = n) := by
  have na : Fl.nan a = false := by unfold Fl.nan; exact decide_eq_false (by have := ha.2.1; omega)
  have nb : Fl.nan b = false := by unfold Fl.nan; exact decide_eq_false (by have := hb.2.1; omega)
  rw [Fl.eqF_of na nb]
  refine decide_eq_decide.2 ?_
  have hp : (0 : Int) < ((2 ^ c : Nat) : Int) := by have := Nat.two_pow_pos c; omega
  have hv : m = n ↔ Fl.val a = Fl.val b := by
    rw [ha.2.2, hb.2.2]
    exact ⟨fun h => by rw [h], fun h => Int.eq_of_mul_eq_mul_right (by omega) h⟩
  rw [hv]
  have vi := @Fl.vl_inj (Fl.rg a) (Fl.rg b)
  have z1 : Fl.vl (Fl.rg a) = 0 ↔ Fl.rg a = 0 := by
    have := @Fl.vl_inj (Fl.rg a) 0
    rwa [show Fl.vl 0 = 0 by decide] at this
  have z2 : Fl.vl (Fl.rg b) = 0 ↔ Fl.rg b = 0 := by
    have := @Fl.vl_inj (Fl.rg b) 0
    rwa [show Fl.vl 0 = 0 by decide] at this
  unfold Fl.key Fl.val
  generalize Fl.vl (Fl.rg a) = va at *
  generalize Fl.vl (Fl.rg b) = vb at *
  cases Fl.sg a <;> cases Fl.sg b <;> simp <;> omega
end Go.Proofs.Ytmbjgakehghdjaa
/-
  OWN TEXT: numbers that are exact: so many units of a power of two, none below nought.
-/
namespace Go.Proofs.Ytmbjgakehghdjaa
set_option linter.unusedVariables false
/-- the word x is n units of 2^c (in units of the least place) -/
def uJ (c x n : Nat) : Prop := Fl.sg x = false ∧ Fl.rg x < 9218868437227405312 ∧ x < 18446744073709551616 ∧ Fl.vl (Fl.rg x) = n * 2 ^ c
theorem uJ.self {c x n : Nat} (h : uJ c x n) : Fl.rg x = x := by
  have h1 := h.1
  have h3 := h.2.2.1
  have := Fl.wd_self h3
  rw [h1, wd_false] at this
  exact this
theorem fit_log {k c : Nat} (hc : c ≤ 2000) (hk : k ≤ 9007199254740992) : (k * 2 ^ c).log2 < 2098 := by
  by_cases z : k = 0
  · subst z; rw [Nat.zero_mul]; decide
  · rw [Fl.log2_mul k c z]
    have : k.log2 < 54 := (Nat.log2_lt z).2 (by omega)
    omega
/-- rounded, it is itself -/
theorem uJ_rq {c n x : Nat} (hc : c ≤ 2000) (hn : n ≤ 9007199254740992) (hx : x = Fl.rq (n * 2 ^ c) 0) : uJ c x n := by
  obtain ⟨h1, h2⟩ := Fl.rq_rep (n * 2 ^ c) ⟨n, c, rfl, hn⟩ (fit_log hc hn)
  obtain ⟨r1, r2⟩ := rg_rung (r := Fl.rq (n * 2 ^ c) 0) (by omega)
  subst hx
  exact ⟨r2, by rw [r1]; exact h2, by omega, by rw [r1]; exact h1⟩
theorem uJ.mul {c d e a b r m n : Nat} (ha : uJ c a m) (hb : uJ d b n) (he : c + d = e + 1074) (he2 : e ≤ 2000) (hs : m * n ≤ 9007199254740992) (h : opR .mul a b r) : uJ e r (m * n) := by
  have hw := mul_word ha.2.1 hb.2.1 h
  rw [ha.1, hb.1, Bool.xor_self, wd_false, ha.2.2.2, hb.2.2.2, Nat.mul_mul_mul_comm, ← Nat.pow_add, he, Nat.pow_add, ← Nat.mul_assoc] at hw
  have k := Fl.rq_mul (m * n * 2 ^ e) 1074 0
  rw [Nat.zero_add] at k
  rw [k] at hw
  exact uJ_rq he2 hs hw
theorem uJ.add {c a b r m n : Nat} (ha : uJ c a m) (hb : uJ c b n) (he2 : c ≤ 2000) (hs : m + n ≤ 9007199254740992) (h : opR .add a b r) : uJ c r (m + n) := by
  have hw := add_word ha.1 hb.1 ha.2.1 hb.2.1 h
  rw [ha.2.2.2, hb.2.2.2, ← Nat.add_mul] at hw
  exact uJ_rq he2 hs hw
theorem uJ.half {c a r n : Nat} (ha : uJ c a (2 * n)) (he2 : c ≤ 2000) (hs : n ≤ 9007199254740992) (h : opR .quo a 4611686018427387904 r) : uJ c r n := by
  have hm := Fl.div_two (x := a) ha.2.1
  have e : r = Fl.wd (Fl.sg a) (Fl.rq (Fl.vl (Fl.rg a)) 1) := by
    rcases h.2 with k | k
    · exact (Option.some.inj (hm.symm.trans k)).symm
    · exact absurd (hm.symm.trans k.1) (by intro c; cases c)
  rw [ha.1, wd_false, ha.2.2.2, show 2 * n * 2 ^ c = n * 2 ^ c * 2 ^ 1 by rw [Nat.pow_one, Nat.mul_comm 2 n, Nat.mul_assoc, Nat.mul_comm 2 (2 ^ c), ← Nat.mul_assoc]] at e
  have k := Fl.rq_mul (n * 2 ^ c) 1 0
  rw [Nat.zero_add] at k
  rw [k] at e
  exact uJ_rq he2 hs e
/-- powers of two taken out, or put in -/
theorem uJ.scale {c d x n : Nat} {k : Int} (hx : uJ c x n) (hk : (d : Int) = c + k) (hc : c ≤ 2000) (hd : d ≤ 2000) (hs : n ≤ 9007199254740992) : uJ d (scF x k) n := by
  by_cases z : Fl.rg x = 0
  · have hv := hx.2.2.2
    rw [z] at hv
    have hz : n = 0 := by
      have : Fl.vl 0 = 0 := rfl
      rw [this] at hv
      rcases Nat.mul_eq_zero.1 hv.symm with q | q
      · exact q
      · exact absurd q (by have := Nat.two_pow_pos c; omega)
    subst hz
    have e : scF x k = x := by
      unfold scF
      rw [decide_eq_true z]
      simp
    rw [e]
    exact ⟨hx.1, hx.2.1, hx.2.2.1, by rw [z]; simp; rfl⟩
  · have e : scF x k = Fl.wd (Fl.sg x) (Fl.rz (Fl.vl (Fl.rg x)) k) := by
      unfold scF
      have hfin : Fl.finB x = true := decide_eq_true hx.2.1
      rw [hfin, decide_eq_false z]
      rfl
    rw [hx.1, wd_false, hx.2.2.2] at e
    have e2 : Fl.rz (n * 2 ^ c) k = Fl.rq (n * 2 ^ d) 0 := by
      unfold Fl.rz
      rcases Int.lt_or_le k 0 with q | q
      · obtain ⟨j, hj⟩ : ∃ j : Nat, k = -(j : Int) := ⟨k.natAbs, by omega⟩
        subst hj
        rw [show (-(j : Int)).toNat = 0 by omega, show (-(-(j : Int))).toNat = j by omega, Nat.pow_zero, Nat.mul_one, show c = d + j by omega, Nat.pow_add, ← Nat.mul_assoc]
        have k := Fl.rq_mul (n * 2 ^ d) j 0
        rw [Nat.zero_add] at k
        exact k
      · obtain ⟨j, hj⟩ : ∃ j : Nat, k = (j : Int) := ⟨k.natAbs, by omega⟩
        subst hj
        rw [show ((j : Int)).toNat = j by omega, show (-(j : Int)).toNat = 0 by omega, Nat.mul_assoc, ← Nat.pow_add, show c + j = d by omega]
    rw [e2] at e
    exact uJ_rq hd hs e
theorem norm_pow (n : Nat) (h1 : 1 ≤ n) (h2 : n < 9007199254740992) : ∃ j, j ≤ 52 ∧ 4503599627370496 ≤ n * 2 ^ j ∧ n * 2 ^ j < 9007199254740992 := by
  have hz : n ≠ 0 := by omega
  have k1 := Fl.log2_le n hz
  have k2 := Fl.log2_lt n hz
  have k3 : n.log2 < 53 := (Nat.log2_lt hz).2 (by omega)
  refine ⟨52 - n.log2, by omega, ?_, ?_⟩
  · have : 2 ^ n.log2 * 2 ^ (52 - n.log2) = 4503599627370496 := by rw [← Nat.pow_add, show n.log2 + (52 - n.log2) = 52 by omega]
    have := Nat.mul_le_mul_right (2 ^ (52 - n.log2)) k1
    omega
  · have : 2 ^ (n.log2 + 1) * 2 ^ (52 - n.log2) = 9007199254740992 := by rw [← Nat.pow_add, show n.log2 + 1 + (52 - n.log2) = 53 by omega]
    have := Nat.mul_lt_mul_of_pos_right k2 (Nat.two_pow_pos (52 - n.log2))
    omega
/-- the root of a square -/
theorem uJ.root {c f x y n : Nat} (hx : uJ c x (n * n)) (hf : c + 1074 = 2 * f) (hc : c ≤ 2000) (hf0 : 600 ≤ f) (hn : n * n ≤ 9007199254740992) (h : sqtR x y) : uJ f y n := by
  by_cases z : n = 0
  · subst z
    have hv := hx.2.2.2
    rw [Nat.mul_zero, Nat.zero_mul] at hv
    have hr : Fl.rg x = 0 := by
      by_cases q : Fl.rg x = 0
      · exact q
      · exact absurd hv (Fl.vl_pos q)
    have hx0 : x = 0 := by rw [← hx.self]; exact hr
    subst hx0
    have e : Ieee.double.sqrt 0 = some 0 := by decide +kernel
    have hy : y = 0 := by
      rcases h.2 with q | q
      · rw [e] at q; exact (Option.some.inj q).symm
      · rw [e] at q; cases q.1
    subst hy
    exact ⟨by decide, by decide, by decide, by rw [Nat.zero_mul]; decide⟩
  · have hn1 : n ≤ n * n := Nat.le_mul_of_pos_right n (by omega)
    have hnl : n < 9007199254740992 := by
      rcases Nat.lt_or_ge n 9007199254740992 with q | q
      · exact q
      · exfalso
        have : 9007199254740992 * 2 ≤ n * n := Nat.mul_le_mul q (by omega)
        omega
    obtain ⟨j, j1, j2, j3⟩ := norm_pow n (by omega) hnl
    obtain ⟨g, hg⟩ : ∃ g, g + j = f := ⟨f - j, by omega⟩
    have hb : n * 2 ^ j * 2 ^ g = n * 2 ^ f := by rw [Nat.mul_assoc, ← Nat.pow_add, Nat.add_comm j g, hg]
    obtain ⟨G, hG⟩ : ∃ G, g + g = G + 1074 ∨ (g + g < 1074 ∧ G = 0) := by
      rcases Nat.lt_or_ge (g + g) 1074 with q | q
      · exact ⟨0, Or.inr ⟨q, rfl⟩⟩
      · exact ⟨g + g - 1074, Or.inl (by omega)⟩
    have hself := hx.self
    have hsq : Fl.rq ((n * 2 ^ j * 2 ^ g) * (n * 2 ^ j * 2 ^ g)) 1074 = Fl.rg x := by
      rw [hb, Nat.mul_mul_mul_comm, ← Nat.pow_add, show f + f = c + 1074 by omega, Nat.pow_add, ← Nat.mul_assoc]
      have k := Fl.rq_mul (n * n * 2 ^ c) 1074 0
      rw [Nat.zero_add] at k
      rw [k]
      have := (uJ_rq hc hn rfl).self
      have hv := hx.2.2.2
      rw [← hv, Fl.rq_vl _ (by have := hx.2.1; omega)]
    have hz : ¬ Fl.rg x = 0 := by
      intro q
      have hv := hx.2.2.2
      rw [q] at hv
      have : Fl.vl 0 = 0 := rfl
      rw [this] at hv
      have := Nat.mul_pos (Nat.mul_pos (show 0 < n by omega) (show 0 < n by omega)) (Nat.two_pow_pos c)
      omega
    rcases hG with hG | ⟨hG, _⟩
    · obtain ⟨r, s1, s2, s3⟩ := Fl.sqrt_ge (x := x) 1074 rfl hG (by omega) j2 j3 hx.2.1 hx.1 (by rw [hsq]; exact Nat.le_refl _)
      obtain ⟨r', t1, t2⟩ := Fl.sqrt_le (x := x) 1074 rfl hG (by omega) j2 j3 hx.1 hz (by rw [hsq]; exact hx.2.1) (by rw [hsq]; exact Nat.le_refl _)
      rw [s1] at t1
      have : r = r' := by have := Option.some.inj t1; rw [wd_false, wd_false] at this; exact this
      subst this
      have hr : r = Fl.rq (n * 2 ^ j * 2 ^ g) 0 := by omega
      have hy := sqt_word h s1
      rw [hy, hr, hb]
      exact uJ_rq (by omega) (by omega) rfl
    · exfalso
      omega
end Go.Proofs.Ytmbjgakehghdjaa
