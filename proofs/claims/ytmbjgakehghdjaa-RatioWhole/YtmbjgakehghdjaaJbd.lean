/-
  OWN TEXT: sums, products and quotients of floats, how far they are.
-/
import Derived.Test.YtmbjgakehghdjaaJbb
import Derived.Test.YtmbjgakehghdjaaJbc
namespace Go.Proofs.Ytmbjgakehghdjaa
set_option linter.unusedVariables false
/-- x is n, rounded -/
def nr (x : Nat) (n : Int) : Prop := x < 18446744073709551616 ∧ Fl.rg x < 9218868437227405312 ∧ 4503599627370496 * (Fl.val x - n).natAbs ≤ n.natAbs + 4503599627370496
theorem fin_rq {n d c K : Nat} (hc : c = 1074) (h : n ≤ K * 2 ^ c * 2 ^ d) (hK : K ≤ 9007199254740992) : Fl.rq n d < 9218868437227405312 := by
  have k1 := Fl.rq_mono n (K * 2 ^ c * 2 ^ d) d h
  have k2 := Fl.rq_mul (K * 2 ^ c) d 0
  rw [Nat.zero_add] at k2
  rw [k2] at k1
  have k3 := (Fl.rq_rep (K * 2 ^ c) ⟨K, c, rfl, by omega⟩ (small_log hc hK)).2
  omega
theorem lin_mul {Z N E e : Nat} (hE : 0 < E) (d1 : Z * E ≤ N * E + e) (d2 : N * E ≤ Z * E + e) (d3 : 4503599627370496 * e ≤ N * E + 4503599627370496 * E) :
    4503599627370496 * Z ≤ 4503599627370496 * N + (N + 4503599627370496) ∧ 4503599627370496 * N ≤ 4503599627370496 * Z + (N + 4503599627370496) := by
  constructor
  · refine Nat.le_of_mul_le_mul_right (c := E) ?_ hE
    rw [Nat.add_mul, Nat.add_mul, Nat.mul_assoc, Nat.mul_assoc]
    generalize Z * E = a at *
    generalize N * E = b at *
    omega
  · refine Nat.le_of_mul_le_mul_right (c := E) ?_ hE
    rw [Nat.add_mul, Nat.add_mul, Nat.mul_assoc, Nat.mul_assoc]
    generalize Z * E = a at *
    generalize N * E = b at *
    omega
theorem abs_of {s : Bool} {Z N B K : Nat} {v n : Int} (hv : v = if s then -(Z : Int) else Z) (hn : n = if s then -(N : Int) else N) (h1 : K * Z ≤ K * N + B) (h2 : K * N ≤ K * Z + B) : K * (v - n).natAbs ≤ B := by
  have h : (v - n).natAbs = (Z - N) + (N - Z) := by
    subst hv hn
    cases s <;> simp <;> omega
  rw [h, Nat.mul_add, Nat.mul_sub, Nat.mul_sub]
  omega
theorem val_mul (a k : Nat) : Fl.val a * Fl.val k = if (Fl.sg a ^^ Fl.sg k) then -((Fl.vl (Fl.rg a) * Fl.vl (Fl.rg k) : Nat) : Int) else ((Fl.vl (Fl.rg a) * Fl.vl (Fl.rg k) : Nat) : Int) := by
  unfold Fl.val
  cases Fl.sg a <;> cases Fl.sg k <;> simp [Int.neg_mul, Int.mul_neg]
theorem n_mul {c a k : Nat} {m : Int} (hc : c = 1074) (ha : wI c a m) (hk : Fl.rg k < 9218868437227405312) (hb : (m * Fl.val k).natAbs ≤ 1125899906842624 * 2 ^ c) :
    ∃ r, nr r (m * Fl.val k) ∧ ∀ (t : TypeId) (w : World), (binOp .mul t (.float .f64 a) (.float .f64 k)).run Try.prog w = .ok (.float .f64 r) w := by
  have e := Fl.mul_fin ha.2.1 hk
  rw [← hc] at e
  obtain ⟨_, h2⟩ := run_some (op := .mul) e
  refine ⟨_, ?_, h2⟩
  have hU := Nat.two_pow_pos c
  obtain ⟨N, hN⟩ : ∃ N, N = (m * Fl.val k).natAbs := ⟨_, rfl⟩
  have hn : Fl.vl (Fl.rg a) * Fl.vl (Fl.rg k) = N * 2 ^ c := by
    rw [ha.vl, hN, Int.natAbs_mul, val_natAbs, Nat.mul_right_comm]
  have hs : m * Fl.val k = if (Fl.sg a ^^ Fl.sg k) then -(N : Int) else N := by
    have k1 := val_mul a k
    rw [ha.2.2, hn, Int.natCast_mul] at k1
    have hU' : ((2 ^ c : Nat) : Int) ≠ 0 := by omega
    generalize (Fl.sg a ^^ Fl.sg k) = s at k1 ⊢
    cases s
    · rw [if_neg (by decide)] at k1 ⊢
      refine Int.eq_of_mul_eq_mul_right hU' ?_
      rw [← k1, Int.mul_right_comm]
    · rw [if_pos rfl] at k1 ⊢
      refine Int.eq_of_mul_eq_mul_right hU' ?_
      rw [Int.neg_mul, ← k1, Int.mul_right_comm]
  rw [hn]
  rw [← hN] at hb
  have hf : Fl.rq (N * 2 ^ c) c < 9218868437227405312 := fin_rq (K := 1125899906842624) hc (Nat.mul_le_mul_right _ hb) (by decide)
  obtain ⟨d, d1, d2, d3⟩ := rq_err (N * 2 ^ c) c hf
  obtain ⟨l1, l2⟩ := lin_mul hU d1 d2 d3
  have hl : Fl.rq (N * 2 ^ c) c < 9223372036854775808 := by omega
  refine ⟨Fl.wd_lt _ _ hl, by rw [Fl.rg_wd _ _ hl]; exact hf, ?_⟩
  rw [← hN]
  exact abs_of (Fl.val_wd _ _ hl) hs l1 l2
theorem sum_nr {c : Nat} {n : Int} {s : Bool} (hc : c = 1074) (hs : n ≠ 0 → s = decide (n < 0)) (hb : n.natAbs ≤ 1125899906842624 * 2 ^ c) : nr (Fl.wd s (Fl.rq n.natAbs 0)) n := by
  generalize hN : n.natAbs = N at hb ⊢
  have hf : Fl.rq N 0 < 9218868437227405312 := fin_rq (K := 1125899906842624) hc (by rw [Nat.pow_zero, Nat.mul_one]; exact hb) (by decide)
  obtain ⟨d, d1, d2, d3⟩ := rq_err N 0 hf
  rw [Nat.pow_zero, Nat.mul_one] at d1 d2 d3
  have hl : Fl.rq N 0 < 9223372036854775808 := by omega
  refine ⟨Fl.wd_lt _ _ hl, by rw [Fl.rg_wd _ _ hl]; exact hf, ?_⟩
  rw [hN]
  by_cases z : n = 0
  · have hN0 : N = 0 := by rw [← hN, z]; rfl
    subst hN0
    have hr : Fl.rq 0 0 = 0 := rfl
    rw [hr] at hl ⊢
    rw [Fl.val_wd _ _ hl, show Fl.vl 0 = 0 by decide, z]
    cases s <;> simp
  · refine abs_of (s := s) (N := N) (Fl.val_wd _ _ hl) ?_ (by omega) (by omega)
    rw [hs z]
    by_cases q : n < 0
    · rw [decide_eq_true q, if_pos rfl]; omega
    · rw [decide_eq_false q, if_neg (by decide)]; omega
theorem n_add {c a b : Nat} (hc : c = 1074) (ha : Fl.rg a < 9218868437227405312) (hb : Fl.rg b < 9218868437227405312) (hs : (Fl.val a + Fl.val b).natAbs ≤ 1125899906842624 * 2 ^ c) :
    ∃ r, nr r (Fl.val a + Fl.val b) ∧ ∀ (t : TypeId) (w : World), (binOp .add t (.float .f64 a) (.float .f64 b)).run Try.prog w = .ok (.float .f64 r) w := by
  obtain ⟨_, h2⟩ := run_some (op := .add) (Fl.add_fin ha hb)
  refine ⟨_, ?_, h2⟩
  refine sum_nr hc (fun z => ?_) hs
  rw [if_neg z]
theorem n_sub {c a b : Nat} (hc : c = 1074) (ha : Fl.rg a < 9218868437227405312) (hb : Fl.rg b < 9218868437227405312) (hb1 : b < 18446744073709551616) (hs : (Fl.val a - Fl.val b).natAbs ≤ 1125899906842624 * 2 ^ c) :
    ∃ r, nr r (Fl.val a - Fl.val b) ∧ ∀ (t : TypeId) (w : World), (binOp .sub t (.float .f64 a) (.float .f64 b)).run Try.prog w = .ok (.float .f64 r) w := by
  obtain ⟨_, h2⟩ := run_some (op := .sub) (Fl.sub_fin hb1 ha hb)
  refine ⟨_, ?_, h2⟩
  refine sum_nr hc (fun z => ?_) hs
  rw [if_neg z]
theorem n_quo {c a b : Nat} (hc : c = 1074) (ha : Fl.rg a < 9218868437227405312) (hb : Fl.rg b < 9218868437227405312) (h0 : Fl.val b ≠ 0) (hs : (Fl.val a).natAbs ≤ 1099511627776 * (Fl.val b).natAbs) :
    ∃ r, (r < 18446744073709551616 ∧ Fl.rg r < 9218868437227405312 ∧ 2251799813685248 * (Fl.val r * Fl.val b - Fl.val a * ((2 ^ c : Nat) : Int)).natAbs ≤ (Fl.val a).natAbs * 2 ^ c + 4503599627370496 * (Fl.val b).natAbs) ∧
      ∀ (t : TypeId) (w : World), (binOp .quo t (.float .f64 a) (.float .f64 b)).run Try.prog w = .ok (.float .f64 r) w := by
  rw [val_natAbs, val_natAbs] at hs
  have hz : ¬ Fl.rg b = 0 := by
    intro e
    apply h0
    have := val_natAbs b
    rw [e, show Fl.vl 0 = 0 by decide] at this
    omega
  obtain ⟨R, e, hR, l1, l2⟩ := Fl.div_err c hc ha hb hz hs
  obtain ⟨_, h2⟩ := run_some (op := .quo) e
  have hl : R < 9223372036854775808 := by omega
  refine ⟨_, ⟨Fl.wd_lt _ _ hl, by rw [Fl.rg_wd _ _ hl]; exact hR, ?_⟩, h2⟩
  rw [val_natAbs, val_natAbs]
  refine abs_of (s := Fl.sg a) (Z := Fl.vl R * Fl.vl (Fl.rg b)) (N := Fl.vl (Fl.rg a) * 2 ^ c) ?_ ?_ l1 l2
  · rw [val_mul, Fl.sg_wd _ _ hl, Fl.rg_wd _ _ hl]
    cases Fl.sg a <;> cases Fl.sg b <;> rfl
  · unfold Fl.val
    cases Fl.sg a <;> simp [Int.neg_mul]
end Go.Proofs.Ytmbjgakehghdjaa
/-
  OWN TEXT: parts.Div of whole numbers whose quotient is whole: how near it comes.
-/
namespace Go.Proofs.Ytmbjgakehghdjaa
open Go.ChangeShapes Go.WideShapes Go.ChangeAt Go.RowKit
set_option linter.unusedVariables false
/-- x is v but for 2^-33 -/
def clo (c x : Nat) (v : Int) : Prop := x < 18446744073709551616 ∧ Fl.rg x < 9218868437227405312 ∧ 8589934592 * (Fl.val x - v * ((2 ^ c : Nat) : Int)).natAbs ≤ 2 ^ c
theorem unit_le {c : Nat} (hc : c = 1074) : 1267650600228229401496703205376 ≤ 2 ^ c := by
  have h : (2 : Nat) ^ 100 ≤ 2 ^ c := Nat.pow_le_pow_right (by decide) (by omega)
  rw [show (2 : Nat) ^ 100 = 1267650600228229401496703205376 by decide] at h
  exact h
/-- what stands of the divisor: the quotient of its parts, their product, their sum -/
def KT (c : Nat) (g l : Int) (k m2 t : Nat) : Prop := Fl.rg k < 9218868437227405312 ∧ Fl.rg t < 9218868437227405312 ∧
  2251799813685248 * (g * Fl.val k - l * ((2 ^ c : Nat) : Int)).natAbs ≤ l.natAbs * 2 ^ c + 4503599627370496 * g.natAbs ∧
  4503599627370496 * (Fl.val m2 - l * Fl.val k).natAbs ≤ (l * Fl.val k).natAbs + 4503599627370496 ∧
  4503599627370496 * (Fl.val t - (g * ((2 ^ c : Nat) : Int) + Fl.val m2)).natAbs ≤ (g * ((2 ^ c : Nat) : Int) + Fl.val m2).natAbs + 4503599627370496
theorem mul_le_k {n G U K : Nat} (h : n ≤ K * (G * U)) (hG : G ≤ 1000) (hK : K ≤ 1000000) : n ≤ 1125899906842624 * U := by
  refine Nat.le_trans h ?_
  rw [← Nat.mul_assoc]
  refine Nat.mul_le_mul_right U ?_
  have := Nat.mul_le_mul hK hG
  omega
theorem kt_first {c xg xl : Nat} {g l : Int} (hc : c = 1074) (hg : wI c xg g) (hl : wI c xl l) (g0 : g ≠ 0) (hlg : l.natAbs ≤ g.natAbs) (hg1 : g.natAbs ≤ 1000) :
    ∃ k m2, k < 18446744073709551616 ∧ m2 < 18446744073709551616 ∧ Fl.rg k < 9218868437227405312 ∧ Fl.rg m2 < 9218868437227405312 ∧ (∀ (t : TypeId) (w : World), (binOp .quo t (.float .f64 xl) (.float .f64 xg)).run Try.prog w = .ok (.float .f64 k) w) ∧
      (∀ (t : TypeId) (w : World), (binOp .mul t (.float .f64 xl) (.float .f64 k)).run Try.prog w = .ok (.float .f64 m2) w) ∧
      2251799813685248 * (g * Fl.val k - l * ((2 ^ c : Nat) : Int)).natAbs ≤ l.natAbs * 2 ^ c + 4503599627370496 * g.natAbs ∧
      4503599627370496 * (Fl.val m2 - l * Fl.val k).natAbs ≤ (l * Fl.val k).natAbs + 4503599627370496 ∧
      (g * ((2 ^ c : Nat) : Int) + Fl.val m2).natAbs ≤ 1125899906842624 * 2 ^ c ∧ (Fl.val k).natAbs ≤ 2 * 2 ^ c := by
  have hU := unit_le hc
  have hU0 := Nat.two_pow_pos c
  obtain ⟨U, eU⟩ : ∃ U, U = 2 ^ c := ⟨_, rfl⟩
  have G1 : 1 ≤ g.natAbs := Int.natAbs_pos.2 g0
  obtain ⟨k, ⟨k1, k2, k3⟩, k4⟩ := n_quo (a := xl) (b := xg) hc hl.2.1 hg.2.1 (by
    intro q
    have := val_natAbs xg
    rw [q, hg.vl] at this
    have h := Nat.mul_pos (show 0 < g.natAbs by omega) hU0
    rw [← this] at h
    exact absurd h (by decide)) (by
    rw [val_natAbs, val_natAbs, hl.vl, hg.vl, ← Nat.mul_assoc]
    exact Nat.mul_le_mul_right _ (by omega))
  have k3' : 2251799813685248 * (g * Fl.val k - l * ((2 ^ c : Nat) : Int)).natAbs ≤ l.natAbs * 2 ^ c + 4503599627370496 * g.natAbs := by
    rw [hg.2.2, hl.2.2, ← eU] at k3
    rw [← eU]
    rw [← eU] at hU0
    refine Nat.le_of_mul_le_mul_right (c := U) ?_ hU0
    have e1 : Fl.val k * (g * (U : Int)) - l * (U : Int) * (U : Int) = (g * Fl.val k - l * (U : Int)) * (U : Int) := by grind
    rw [e1, Int.natAbs_mul, Int.natAbs_natCast, Int.natAbs_mul, Int.natAbs_natCast, Int.natAbs_mul, Int.natAbs_natCast] at k3
    rw [Nat.mul_assoc, Nat.add_mul, Nat.mul_assoc 4503599627370496]
    exact k3
  rw [← eU] at k3' hU ⊢
  obtain ⟨b1, bk⟩ := Zq.bounds (X := g.natAbs * U) (m2 := 0) (t := 0) hU rfl G1 rfl hlg k3'
  have hX5 : 4503599627370496 ≤ g.natAbs * U := Nat.le_trans (by decide) (Nat.le_trans hU (Nat.le_mul_of_pos_left U G1))
  have hlk : (l * Fl.val k).natAbs ≤ 1125899906842624 * U := by
    rw [Int.natAbs_mul]
    refine Nat.le_trans (Nat.mul_le_mul (Nat.le_trans hlg hg1) bk) ?_
    rw [← Nat.mul_assoc]
    exact Nat.mul_le_mul_right U (by decide)
  rw [eU] at hlk
  obtain ⟨m2, ⟨m1, m3, m4⟩, m5⟩ := n_mul (k := k) hc hl k2 hlk
  obtain ⟨b2, c2⟩ := Zq.prod_step (n := 1) (G := g.natAbs) (U := U) rfl hX5 (by rw [Nat.one_mul]; exact hlg) bk (by decide) m4
  refine ⟨k, m2, k1, m1, k2, m3, k4, m5, k3', m4, ?_, bk⟩
  have s1 : (g * (U : Int)).natAbs = g.natAbs * U := by rw [Int.natAbs_mul, Int.natAbs_natCast]
  refine mul_le_k (G := g.natAbs) (K := 4) (Nat.le_trans (Zq.nabs_add _ _) ?_) hg1 (by decide)
  rw [s1]
  have h : ∀ Y z : Nat, z ≤ (2 * 1 + 1) * Y → Y + z ≤ 4 * Y := by intro Y z h; omega
  exact h _ _ c2
/-- the answer out of its parts -/
theorem core_z {c k m2 t A : Nat} {g l a b v m4 : Int} (hc : c = 1074) (hK : KT c g l k m2 t) (g0 : g ≠ 0) (hlg : l.natAbs ≤ g.natAbs) (hg1 : g.natAbs ≤ 1000) (hv : v.natAbs ≤ 1000) (ha : a.natAbs ≤ 4000 * g.natAbs) (hb : b.natAbs ≤ 4000 * g.natAbs)
    (he : a * g + b * l = v * (g * g + l * l)) (h4 : 4503599627370496 * (m4 - b * Fl.val k).natAbs ≤ (b * Fl.val k).natAbs + 4503599627370496) (hA : nr A (a * ((2 ^ c : Nat) : Int) + m4)) :
    ∃ z, clo c z v ∧ ∀ (t0 : TypeId) (w : World), (binOp .quo t0 (.float .f64 A) (.float .f64 t)).run Try.prog w = .ok (.float .f64 z) w := by
  have hU := unit_le hc
  obtain ⟨k2, t2, h1, h2, h3⟩ := hK
  obtain ⟨A1, A2, h5⟩ := hA
  have G1 : 1 ≤ g.natAbs := Int.natAbs_pos.2 g0
  obtain ⟨U, eU⟩ : ∃ U, U = 2 ^ c := ⟨_, rfl⟩
  rw [← eU] at h1 h3 h5 hU
  have hX5 : 4503599627370496 ≤ g.natAbs * U := Nat.le_trans (by decide) (Nat.le_trans hU (Nat.le_mul_of_pos_left U G1))
  obtain ⟨b1, bk⟩ := Zq.bounds (X := g.natAbs * U) (m2 := 0) (t := 0) hU rfl G1 rfl hlg h1
  obtain ⟨b2, c2⟩ := Zq.prod_step (n := 1) (G := g.natAbs) (U := U) rfl hX5 (by rw [Nat.one_mul]; exact hlg) bk (by decide) h2
  obtain ⟨b3, c3⟩ := Zq.sum_step (n := 1) (k := 3) (G := g.natAbs) (U := U) rfl hX5 (by rw [Nat.one_mul]; exact Nat.le_refl _) c2 (by decide) h3
  obtain ⟨b4, c4⟩ := Zq.prod_step (n := 4000) (G := g.natAbs) (U := U) rfl hX5 hb bk (by decide) h4
  obtain ⟨b5, c5⟩ := Zq.sum_step (n := 4000) (k := 8001) (G := g.natAbs) (U := U) rfl hX5 ha c4 (by decide) h5
  have e1 : g * Fl.val k = l * (U : Int) + (g * Fl.val k - l * (U : Int)) := by rw [Int.add_comm, Int.sub_add_cancel]
  have e2 : Fl.val m2 = l * Fl.val k + (Fl.val m2 - l * Fl.val k) := by rw [Int.add_comm, Int.sub_add_cancel]
  have e3 : Fl.val t = g * (U : Int) + Fl.val m2 + (Fl.val t - (g * (U : Int) + Fl.val m2)) := by rw [Int.add_comm, Int.sub_add_cancel]
  have lt := Zq.t_low rfl G1 rfl hlg e1 e2 e3 b1 b2 b3
  obtain ⟨z, ⟨z1, z2, z3⟩, z4⟩ := n_quo (a := A) (b := t) hc A2 t2 (by intro q; rw [q] at lt; exact absurd (Nat.le_trans hX5 lt) (by decide)) (by
    refine Nat.le_trans c5 ?_
    refine Nat.le_trans (Nat.mul_le_mul_left _ lt) ?_
    rw [← Nat.mul_assoc]
    exact Nat.mul_le_mul_right _ (by decide))
  rw [← eU] at z3
  refine ⟨z, ⟨z1, z2, ?_⟩, z4⟩
  rw [← eU]
  exact Zq.comp_core hU g0 hlg hv ha hb he h1 h2 h3 h4 h5 z3
/-- a product with the quotient, and a bound for the sum -/
theorem part_mul {c k xb : Nat} {g b : Int} (hc : c = 1074) (hx : wI c xb b) (hk : Fl.rg k < 9218868437227405312) (bk : (Fl.val k).natAbs ≤ 2 * 2 ^ c) (g0 : g ≠ 0) (hg1 : g.natAbs ≤ 1000) (hb : b.natAbs ≤ 4000 * g.natAbs) :
    ∃ m, nr m (b * Fl.val k) ∧ (Fl.val m).natAbs ≤ 8001 * (g.natAbs * 2 ^ c) ∧ ∀ (t : TypeId) (w : World), (binOp .mul t (.float .f64 xb) (.float .f64 k)).run Try.prog w = .ok (.float .f64 m) w := by
  have hU := unit_le hc
  have G1 : 1 ≤ g.natAbs := Int.natAbs_pos.2 g0
  have hX5 : 4503599627370496 ≤ g.natAbs * 2 ^ c := Nat.le_trans (by decide) (Nat.le_trans hU (Nat.le_mul_of_pos_left (2 ^ c) G1))
  obtain ⟨m, m1, m2⟩ := n_mul (k := k) hc hx hk (by
    rw [Int.natAbs_mul]
    refine Nat.le_trans (Nat.mul_le_mul (Nat.le_trans hb (Nat.mul_le_mul_left 4000 hg1)) bk) ?_
    rw [← Nat.mul_assoc]
    exact Nat.mul_le_mul_right _ (by decide))
  obtain ⟨b4, c4⟩ := Zq.prod_step (n := 4000) (G := g.natAbs) (U := 2 ^ c) rfl hX5 hb bk (by decide) m1.2.2
  exact ⟨m, m1, c4, m2⟩
theorem sum_bd {c m : Nat} {g a x y : Int} (hg1 : g.natAbs ≤ 1000) (ha : a.natAbs ≤ 4000 * g.natAbs) (hx : x.natAbs ≤ (a * ((2 ^ c : Nat) : Int)).natAbs) (hm : y.natAbs ≤ 8001 * (g.natAbs * 2 ^ c)) : (x + y).natAbs ≤ 1125899906842624 * 2 ^ c := by
  refine mul_le_k (G := g.natAbs) (K := 12001) (Nat.le_trans (Zq.nabs_add _ _) ?_) hg1 (by decide)
  have h1 : x.natAbs ≤ 4000 * (g.natAbs * 2 ^ c) := by
    refine Nat.le_trans hx ?_
    rw [Int.natAbs_mul, Int.natAbs_natCast, ← Nat.mul_assoc]
    exact Nat.mul_le_mul_right _ ha
  rw [show 12001 * (g.natAbs * 2 ^ c) = 4000 * (g.natAbs * 2 ^ c) + 8001 * (g.natAbs * 2 ^ c) by rw [← Nat.add_mul]]
  exact Nat.add_le_add h1 hm
end Go.Proofs.Ytmbjgakehghdjaa
/-
  OWN TEXT: parts.Div of whole numbers: it is finite, and hangs on the words alone.
-/
namespace Go.Proofs.Ytmbjgakehghdjaa
open Go.ChangeShapes Go.WideShapes Go.ChangeAt Go.RowKit
set_option linter.unusedVariables false
theorem nr_le {x : Nat} {n : Int} (h : nr x n) : (Fl.val x).natAbs ≤ 2 * n.natAbs + 1 := by
  obtain ⟨_, _, h⟩ := h
  have t := Zq.nabs_add n (Fl.val x - n)
  rw [show n + (Fl.val x - n) = Fl.val x by omega] at t
  generalize (Fl.val x - n).natAbs = d at *
  omega
theorem mul_le10 {n G U K : Nat} (h : n ≤ K * (G * U)) (hG : G ≤ 100000) (hK : K ≤ 1000) : n ≤ 1125899906842624 * U := by
  refine Nat.le_trans h ?_
  rw [← Nat.mul_assoc]
  refine Nat.mul_le_mul_right U ?_
  have := Nat.mul_le_mul hK hG
  omega
theorem kt10 {c xg xl : Nat} {g l : Int} (hc : c = 1074) (hg : wI c xg g) (hl : wI c xl l) (g0 : g ≠ 0) (hlg : l.natAbs ≤ g.natAbs) (hg1 : g.natAbs ≤ 100000) :
    ∃ k m2, Fl.rg k < 9218868437227405312 ∧ Fl.rg m2 < 9218868437227405312 ∧ (∀ (t : TypeId) (w : World), (binOp .quo t (.float .f64 xl) (.float .f64 xg)).run Try.prog w = .ok (.float .f64 k) w) ∧
      (∀ (t : TypeId) (w : World), (binOp .mul t (.float .f64 xl) (.float .f64 k)).run Try.prog w = .ok (.float .f64 m2) w) ∧
      (g * ((2 ^ c : Nat) : Int) + Fl.val m2).natAbs ≤ 1125899906842624 * 2 ^ c ∧ (Fl.val k).natAbs ≤ 2 * 2 ^ c ∧ ∀ t, nr t (g * ((2 ^ c : Nat) : Int) + Fl.val m2) → 2 ^ c ≤ 2 * (Fl.val t).natAbs := by
  have hU := unit_le hc
  have hU0 := Nat.two_pow_pos c
  obtain ⟨U, eU⟩ : ∃ U, U = 2 ^ c := ⟨_, rfl⟩
  have G1 : 1 ≤ g.natAbs := Int.natAbs_pos.2 g0
  obtain ⟨k, ⟨k1, k2, k3⟩, k4⟩ := n_quo (a := xl) (b := xg) hc hl.2.1 hg.2.1 (by
    intro q
    have := val_natAbs xg
    rw [q, hg.vl] at this
    have h := Nat.mul_pos (show 0 < g.natAbs by omega) hU0
    rw [← this] at h
    exact absurd h (by decide)) (by
    rw [val_natAbs, val_natAbs, hl.vl, hg.vl, ← Nat.mul_assoc]
    exact Nat.mul_le_mul_right _ (by omega))
  have k3' : 2251799813685248 * (g * Fl.val k - l * ((2 ^ c : Nat) : Int)).natAbs ≤ l.natAbs * 2 ^ c + 4503599627370496 * g.natAbs := by
    rw [hg.2.2, hl.2.2, ← eU] at k3
    rw [← eU]
    rw [← eU] at hU0
    refine Nat.le_of_mul_le_mul_right (c := U) ?_ hU0
    have e1 : Fl.val k * (g * (U : Int)) - l * (U : Int) * (U : Int) = (g * Fl.val k - l * (U : Int)) * (U : Int) := by grind
    rw [e1, Int.natAbs_mul, Int.natAbs_natCast, Int.natAbs_mul, Int.natAbs_natCast, Int.natAbs_mul, Int.natAbs_natCast] at k3
    rw [Nat.mul_assoc, Nat.add_mul, Nat.mul_assoc 4503599627370496]
    exact k3
  rw [← eU] at k3' hU ⊢
  obtain ⟨b1, bk⟩ := Zq.bounds (X := g.natAbs * U) (m2 := 0) (t := 0) hU rfl G1 rfl hlg k3'
  have hX5 : 4503599627370496 ≤ g.natAbs * U := Nat.le_trans (by decide) (Nat.le_trans hU (Nat.le_mul_of_pos_left U G1))
  have hlk : (l * Fl.val k).natAbs ≤ 1125899906842624 * U := by
    rw [Int.natAbs_mul]
    refine Nat.le_trans (Nat.mul_le_mul (Nat.le_trans hlg hg1) bk) ?_
    rw [← Nat.mul_assoc]
    exact Nat.mul_le_mul_right U (by decide)
  rw [eU] at hlk
  obtain ⟨m2, ⟨m1, m3, m4⟩, m5⟩ := n_mul (k := k) hc hl k2 hlk
  obtain ⟨b2, c2⟩ := Zq.prod_step (n := 1) (G := g.natAbs) (U := U) rfl hX5 (by rw [Nat.one_mul]; exact hlg) bk (by decide) m4
  refine ⟨k, m2, k2, m3, k4, m5, ?_, bk, fun t ht => ?_⟩
  · have s1 : (g * (U : Int)).natAbs = g.natAbs * U := by rw [Int.natAbs_mul, Int.natAbs_natCast]
    refine mul_le10 (G := g.natAbs) (K := 4) (Nat.le_trans (Zq.nabs_add _ _) ?_) hg1 (by decide)
    rw [s1]
    have h : ∀ Y z : Nat, z ≤ (2 * 1 + 1) * Y → Y + z ≤ 4 * Y := by intro Y z h; omega
    exact h _ _ c2
  · obtain ⟨_, _, h3⟩ := ht
    obtain ⟨b3, c3⟩ := Zq.sum_step (n := 1) (k := 3) (G := g.natAbs) (U := U) rfl hX5 (by rw [Nat.one_mul]; exact Nat.le_refl _) c2 (by decide) h3
    have e1 : g * Fl.val k = l * (U : Int) + (g * Fl.val k - l * (U : Int)) := by rw [Int.add_comm, Int.sub_add_cancel]
    have e2 : Fl.val m2 = l * Fl.val k + (Fl.val m2 - l * Fl.val k) := by rw [Int.add_comm, Int.sub_add_cancel]
    have e3 : Fl.val t = g * (U : Int) + Fl.val m2 + (Fl.val t - (g * (U : Int) + Fl.val m2)) := by rw [Int.add_comm, Int.sub_add_cancel]
    have lt := Zq.t_low rfl G1 rfl hlg e1 e2 e3 b1 b2 b3
    exact Nat.le_trans (Nat.le_mul_of_pos_left U G1) lt
/-- a finite float of at most K units -/
def fb (c x K : Nat) : Prop := x < 18446744073709551616 ∧ Fl.rg x < 9218868437227405312 ∧ (Fl.val x).natAbs ≤ K * 2 ^ c
theorem wI.fb {c x : Nat} {n : Int} (h : wI c x n) (K : Nat) (hK : n.natAbs ≤ K) : fb c x K := by
  refine ⟨h.1, h.2.1, ?_⟩
  rw [h.2.2, Int.natAbs_mul, Int.natAbs_natCast]
  exact Nat.mul_le_mul_right _ hK
theorem f_mul {c a k : Nat} {m : Int} (hc : c = 1074) (ha : wI c a m) (hm : m.natAbs ≤ 100000) (hk : Fl.rg k < 9218868437227405312) (hb : (Fl.val k).natAbs ≤ 2 * 2 ^ c) :
    ∃ r, fb c r 500000 ∧ ∀ (t : TypeId) (w : World), (binOp .mul t (.float .f64 a) (.float .f64 k)).run Try.prog w = .ok (.float .f64 r) w := by
  have hU := unit_le hc
  have hp : (m * Fl.val k).natAbs ≤ 200000 * 2 ^ c := by
    rw [Int.natAbs_mul]
    refine Nat.le_trans (Nat.mul_le_mul hm hb) ?_
    rw [← Nat.mul_assoc]
    exact Nat.mul_le_mul_right _ (by decide)
  obtain ⟨r, h, e⟩ := n_mul (k := k) hc ha hk (Nat.le_trans hp (Nat.mul_le_mul_right _ (by decide)))
  refine ⟨r, ⟨h.1, h.2.1, ?_⟩, e⟩
  have := nr_le h
  generalize 2 ^ c = U at *
  omega
theorem f_add {c a b : Nat} (hc : c = 1074) (ha : fb c a 500000) (hb : fb c b 500000) : ∃ r, fb c r 3000000 ∧ ∀ (t : TypeId) (w : World), (binOp .add t (.float .f64 a) (.float .f64 b)).run Try.prog w = .ok (.float .f64 r) w := by
  have hU := unit_le hc
  have hp : (Fl.val a + Fl.val b).natAbs ≤ 1000000 * 2 ^ c := by
    have := Zq.nabs_add (Fl.val a) (Fl.val b)
    have h1 := ha.2.2
    have h2 := hb.2.2
    generalize 2 ^ c = U at *
    omega
  obtain ⟨r, h, e⟩ := n_add hc ha.2.1 hb.2.1 (Nat.le_trans hp (Nat.mul_le_mul_right _ (by decide)))
  refine ⟨r, ⟨h.1, h.2.1, ?_⟩, e⟩
  have := nr_le h
  generalize 2 ^ c = U at *
  omega
theorem f_sub {c a b : Nat} (hc : c = 1074) (ha : fb c a 500000) (hb : fb c b 500000) : ∃ r, fb c r 3000000 ∧ ∀ (t : TypeId) (w : World), (binOp .sub t (.float .f64 a) (.float .f64 b)).run Try.prog w = .ok (.float .f64 r) w := by
  have hU := unit_le hc
  have hp : (Fl.val a - Fl.val b).natAbs ≤ 1000000 * 2 ^ c := by
    have := Zq.nabs_sub (Fl.val a) (Fl.val b)
    have h1 := ha.2.2
    have h2 := hb.2.2
    generalize 2 ^ c = U at *
    omega
  obtain ⟨r, h, e⟩ := n_sub hc ha.2.1 hb.2.1 hb.1 (Nat.le_trans hp (Nat.mul_le_mul_right _ (by decide)))
  refine ⟨r, ⟨h.1, h.2.1, ?_⟩, e⟩
  have := nr_le h
  generalize 2 ^ c = U at *
  omega
theorem f_quo {c a b : Nat} (hc : c = 1074) (ha : fb c a 3000000) (hb : Fl.rg b < 9218868437227405312) (hl : 2 ^ c ≤ 2 * (Fl.val b).natAbs) : ∃ r, (r < 18446744073709551616 ∧ Fl.rg r < 9218868437227405312) ∧ ∀ (t : TypeId) (w : World), (binOp .quo t (.float .f64 a) (.float .f64 b)).run Try.prog w = .ok (.float .f64 r) w := by
  have hU := unit_le hc
  have h1 := ha.2.2
  obtain ⟨r, h, e⟩ := n_quo (a := a) (b := b) hc ha.2.1 hb (by intro q; rw [q] at hl; simp at hl) (by generalize 2 ^ c = U at *; omega)
  exact ⟨r, ⟨h.1, h.2.1⟩, e⟩
theorem pdiv10 {c p q r s : Nat} {P Q R S : Int} (hc : c = 1074) (hp : wI c p P) (hq : wI c q Q) (hr : wI c r R) (hs : wI c s S) (g0 : ¬ (R = 0 ∧ S = 0)) (bP : P.natAbs ≤ 100000) (bQ : Q.natAbs ≤ 100000) (bR : R.natAbs ≤ 100000) (bS : S.natAbs ≤ 100000) :
    ∃ x y, (x < 18446744073709551616 ∧ Fl.rg x < 9218868437227405312) ∧ (y < 18446744073709551616 ∧ Fl.rg y < 9218868437227405312) ∧ ∀ w, Calls Try.prog 26 #[.complex .f64 p q, .complex .f64 r s] w fun e w' => e = .returned (.complex .f64 x y) ∧ w' = w := by
  have AR : Hid (∀ wz, Calls Try.prog 27 #[.float .f64 r] wz fun e w' => e = .returned (.float .f64 (Fl.rg r)) ∧ w' = wz) := fun wz => abs_any r wz hr.1
  have AS : Hid (∀ wz, Calls Try.prog 27 #[.float .f64 s] wz fun e w' => e = .returned (.float .f64 (Fl.rg s)) ∧ w' = wz) := fun wz => abs_any s wz hs.1
  by_cases hRS : S.natAbs ≤ R.natAbs
  · have R0 : R ≠ 0 := by intro e; apply g0; refine ⟨e, ?_⟩; rw [e] at hRS; simp at hRS; exact hRS
    obtain ⟨k, m2, k2, m3, r1, r2, f3, f4, low⟩ := kt10 hc hr hs R0 hRS bR
    rw [← hr.2.2] at f3 low
    obtain ⟨t, ht, r3⟩ := n_add hc hr.2.1 m3 f3
    have lt := low t ht
    obtain ⟨mq, q1, r4⟩ := f_mul hc hq bQ k2 f4
    obtain ⟨mp, p1, r5⟩ := f_mul hc hp bP k2 f4
    obtain ⟨A, A1, r6⟩ := f_add hc (hp.fb 500000 (by omega)) q1
    obtain ⟨B, B1, r7⟩ := f_sub hc (hq.fb 500000 (by omega)) p1
    obtain ⟨x, x1, r8⟩ := f_quo hc A1 ht.2.1 lt
    obtain ⟨y, y1, r9⟩ := f_quo hc B1 ht.2.1 lt
    refine ⟨x, y, x1, y1, fun w => ?_⟩
    have hle : Fl.leF (Fl.rg s) (Fl.rg r) = true := by
      rw [hs.abs.wI.leF hr.abs.wI]
      exact decide_eq_true (by omega)
    clear A1 B1 x1 y1 q1 p1 f3 f4 lt low ht hp hq hr hs hRS g0 R0 k2 m3 bP bQ bR bS
    generalize Fl.rg r = ur at *
    generalize Fl.rg s = us at *
    have og := Fl.o_ge ur us
    rw [hle] at og
    clear hle
    go_enter Try.func26, Try.ntmps26
    go_wp2_with fail
    refine (AR.out _).mono ?_
    rintro e' w ⟨rfl, rfl⟩
    go_wp2_with fail
    refine (AS.out _).mono ?_
    rintro e' w ⟨rfl, rfl⟩
    go_wp2
    go_ret
    exact ⟨rfl, rfl⟩
  · have S0 : S ≠ 0 := by intro e; rw [e] at hRS; simp at hRS
    obtain ⟨k, m2, k2, m3, r1, r2, f3, f4, low⟩ := kt10 hc hs hr S0 (by omega) bS
    rw [← hs.2.2, Int.add_comm] at f3
    obtain ⟨t, ht, r3⟩ := n_add hc m3 hs.2.1 f3
    have lt := low t (by rw [← hs.2.2, Int.add_comm]; exact ht)
    obtain ⟨mp, p1, r4⟩ := f_mul hc hp bP k2 f4
    obtain ⟨mq, q1, r5⟩ := f_mul hc hq bQ k2 f4
    obtain ⟨A, A1, r6⟩ := f_add hc p1 (hq.fb 500000 (by omega))
    obtain ⟨B, B1, r7⟩ := f_sub hc q1 (hp.fb 500000 (by omega))
    obtain ⟨x, x1, r8⟩ := f_quo hc A1 ht.2.1 lt
    obtain ⟨y, y1, r9⟩ := f_quo hc B1 ht.2.1 lt
    refine ⟨x, y, x1, y1, fun w => ?_⟩
    have hle : Fl.leF (Fl.rg s) (Fl.rg r) = false := by
      rw [hs.abs.wI.leF hr.abs.wI]
      exact decide_eq_false (by omega)
    clear A1 B1 x1 y1 q1 p1 f3 f4 lt low ht hp hq hr hs hRS g0 S0 k2 m3 bP bQ bR bS
    generalize Fl.rg r = ur at *
    generalize Fl.rg s = us at *
    have og := Fl.o_ge ur us
    rw [hle] at og
    clear hle
    go_enter Try.func26, Try.ntmps26
    go_wp2_with fail
    refine (AR.out _).mono ?_
    rintro e' w ⟨rfl, rfl⟩
    go_wp2_with fail
    refine (AS.out _).mono ?_
    rintro e' w ⟨rfl, rfl⟩
    go_wp2
    go_ret
    exact ⟨rfl, rfl⟩
end Go.Proofs.Ytmbjgakehghdjaa
