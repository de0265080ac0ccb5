/-
  OWN TEXT: sums, products and quotients of floats, how far they are.
-/
import Derived.Test.YtmbjgakehghdjaaJar
import Derived.Test.YtmbjgakehghdjaaJat
namespace Go.Proofs.Ytmbjgakehghdjaa
set_option linter.unusedVariables false
/-- x is n, rounded -/
def nr (x : Nat) (n : Int) : Prop := x < 18446744073709551616 ∧ Fl.rg x < 9218868437227405312 ∧ 4503599627370496 * (Fl.val x - n).natAbs ≤ n.natAbs + 4503599627370496
theorem fin_rq {n d c K : Nat} (hc : c = 1074) (h : n ≤ K * 2 ^ c * 2 ^ d) (hK : K ≤ 9007199254740992) : Fl.rq n d < 9218868437227405312 := by
  have k1 := Fl.rq_mono n (K * 2 ^ c * 2 ^ d) d h
  have k2 := Fl.rq_mul (K * 2 ^ c) d 0
  rw [Nat.zero_add] at k2
  rw [k2] at k1
  have k3 := (Fl.rq_rep (K * 2 ^ c) ⟨K, c, rfl, by omega⟩ (small_log hc hK)).2
  omega
theorem lin_mul {Z N E e : Nat} (hE : 0 < E) (d1 : Z * E ≤ N * E + e) (d2 : N * E ≤ Z * E + e) (d3 : 4503599627370496 * e ≤ N * E + 4503599627370496 * E) :
    4503599627370496 * Z ≤ 4503599627370496 * N + (N + 4503599627370496) ∧ 4503599627370496 * N ≤ 4503599627370496 * Z + (N + 4503599627370496) := by
  constructor
  · refine Nat.le_of_mul_le_mul_right (c := E) ?_ hE
    rw [Nat.add_mul, Nat.add_mul, Nat.mul_assoc, Nat.mul_assoc]
    generalize Z * E = a at *
    generalize N * E = b at *
    omega
  · refine Nat.le_of_mul_le_mul_right (c := E) ?_ hE
    rw [Nat.add_mul, Nat.add_mul, Nat.mul_assoc, Nat.mul_assoc]
    generalize Z * E = a at *
    generalize N * E = b at *
    omega
theorem abs_of {s : Bool} {Z N B K : Nat} {v n : Int} (hv : v = if s then -(Z : Int) else Z) (hn : n = if s then -(N : Int) else N) (h1 : K * Z ≤ K * N + B) (h2 : K * N ≤ K * Z + B) : K * (v - n).natAbs ≤ B := by
  have h : (v - n).natAbs = (Z - N) + (N - Z) := by
    subst hv hn
    cases s <;> simp <;> omega
  rw [h, Nat.mul_add, Nat.mul_sub, Nat.mul_sub]
  omega
theorem val_mul (a k : Nat) : Fl.val a * Fl.val k = if (Fl.sg a ^^ Fl.sg k) then -((Fl.vl (Fl.rg a) * Fl.vl (Fl.rg k) : Nat) : Int) else ((Fl.vl (Fl.rg a) * Fl.vl (Fl.rg k) : Nat) : Int) := by
  unfold Fl.val
  cases Fl.sg a <;> cases Fl.sg k <;> simp [Int.neg_mul, Int.mul_neg]
theorem n_mul {c a k : Nat} {m : Int} (hc : c = 1074) (ha : wI c a m) (hk : Fl.rg k < 9218868437227405312) (hb : (m * Fl.val k).natAbs ≤ 1125899906842624 * 2 ^ c) :
    ∃ r, nr r (m * Fl.val k) ∧ ∀ (t : TypeId) (w : World), (binOp .mul t (.float .f64 a) (.float .f64 k)).run Try.prog w = .ok (.float .f64 r) w := by
  have e := Fl.mul_fin ha.2.1 hk
  rw [← hc] at e
  obtain ⟨_, h2⟩ := run_some (op := .mul) e
  refine ⟨_, ?_, h2⟩
  have hU := Nat.two_pow_pos c
  obtain ⟨N, hN⟩ : ∃ N, N = (m * Fl.val k).natAbs := ⟨_, rfl⟩
  have hn : Fl.vl (Fl.rg a) * Fl.vl (Fl.rg k) = N * 2 ^ c := by
    rw [ha.vl, hN, Int.natAbs_mul, val_natAbs, Nat.mul_right_comm]
  have hs : m * Fl.val k = if (Fl.sg a ^^ Fl.sg k) then -(N : Int) else N := by
    have k1 := val_mul a k
    rw [ha.2.2, hn, Int.natCast_mul] at k1
    have hU' : ((2 ^ c : Nat) : Int) ≠ 0 := by omega
    generalize (Fl.sg a ^^ Fl.sg k) = s at k1 ⊢
    cases s
    · rw [if_neg (by decide)] at k1 ⊢
      refine Int.eq_of_mul_eq_mul_right hU' ?_
      rw [← k1, Int.mul_right_comm]
    · rw [if_pos rfl] at k1 ⊢
      refine Int.eq_of_mul_eq_mul_right hU' ?_
      rw [Int.neg_mul, ← k1, Int.mul_right_comm]
  rw [hn]
  rw [← hN] at hb
  have hf : Fl.rq (N * 2 ^ c) c < 9218868437227405312 := fin_rq (K := 1125899906842624) hc (Nat.mul_le_mul_right _ hb) (by decide)
  obtain ⟨d, d1, d2, d3⟩ := rq_err (N * 2 ^ c) c hf
  obtain ⟨l1, l2⟩ := lin_mul hU d1 d2 d3
  have hl : Fl.rq (N * 2 ^ c) c < 9223372036854775808 := by omega
  refine ⟨Fl.wd_lt _ _ hl, by rw [Fl.rg_wd _ _ hl]; exact hf, ?_⟩
  rw [← hN]
  exact abs_of (Fl.val_wd _ _ hl) hs l1 l2
theorem sum_nr {c : Nat} {n : Int} {s : Bool} (hc : c = 1074) (hs : n ≠ 0 → s = decide (n < 0)) (hb : n.natAbs ≤ 1125899906842624 * 2 ^ c) : nr (Fl.wd s (Fl.rq n.natAbs 0)) n := by
  generalize hN : n.natAbs = N at hb ⊢
  have hf : Fl.rq N 0 < 9218868437227405312 := fin_rq (K := 1125899906842624) hc (by rw [Nat.pow_zero, Nat.mul_one]; exact hb) (by decide)
  obtain ⟨d, d1, d2, d3⟩ := rq_err N 0 hf
  rw [Nat.pow_zero, Nat.mul_one] at d1 d2 d3
  have hl : Fl.rq N 0 < 9223372036854775808 := by omega
  refine ⟨Fl.wd_lt _ _ hl, by rw [Fl.rg_wd _ _ hl]; exact hf, ?_⟩
  rw [hN]
  by_cases z : n = 0
  · have hN0 : N = 0 := by rw [← hN, z]; rfl
    subst hN0
    have hr : Fl.rq 0 0 = 0 := rfl
    rw [hr] at hl ⊢
    rw [Fl.val_wd _ _ hl, show Fl.vl 0 = 0 by decide, z]
    cases s <;> simp
  · refine abs_of (s := s) (N := N) (Fl.val_wd _ _ hl) ?_ (by omega) (by omega)
    rw [hs z]
    by_cases q : n < 0
    · rw [decide_eq_true q, if_pos rfl]; omega
    · rw [decide_eq_false q, if_neg (by decide)]; omega
theorem n_add {c a b : Nat} (hc : c = 1074) (ha : Fl.rg a < 9218868437227405312) (hb : Fl.rg b < 9218868437227405312) (hs : (Fl.val a + Fl.val b).natAbs ≤ 1125899906842624 * 2 ^ c) :
    ∃ r, nr r (Fl.val a + Fl.val b) ∧ ∀ (t : TypeId) (w : World), (binOp .add t (.float .f64 a) (.float .f64 b)).run Try.prog w = .ok (.float .f64 r) w := by
  obtain ⟨_, h2⟩ := run_some (op := .add) (Fl.add_fin ha hb)
  refine ⟨_, ?_, h2⟩
  refine sum_nr hc (fun z => ?_) hs
  rw [if_neg z]
theorem n_sub {c a b : Nat} (hc : c = 1074) (ha : Fl.rg a < 9218868437227405312) (hb : Fl.rg b < 9218868437227405312) (hb1 : b < 18446744073709551616) (hs : (Fl.val a - Fl.val b).natAbs ≤ 1125899906842624 * 2 ^ c) :
    ∃ r, nr r (Fl.val a - Fl.val b) ∧ ∀ (t : TypeId) (w : World), (binOp .sub t (.float .f64 a) (.float .f64 b)).run Try.prog w = .ok (.float .f64 r) w := by
  obtain ⟨_, h2⟩ := run_some (op := .sub) (Fl.sub_fin hb1 ha hb)
  refine ⟨_, ?_, h2⟩
  refine sum_nr hc (fun z => ?_) hs
  rw [if_neg z]
theorem n_quo {c a b : Nat} (hc : c = 1074) (ha : Fl.rg a < 9218868437227405312) (hb : Fl.rg b < 9218868437227405312) (h0 : Fl.val b ≠ 0) (hs : (Fl.val a).natAbs ≤ 1099511627776 * (Fl.val b).natAbs) :
    ∃ r, (r < 18446744073709551616 ∧ Fl.rg r < 9218868437227405312 ∧ 2251799813685248 * (Fl.val r * Fl.val b - Fl.val a * ((2 ^ c : Nat) : Int)).natAbs ≤ (Fl.val a).natAbs * 2 ^ c + 4503599627370496 * (Fl.val b).natAbs) ∧
      ∀ (t : TypeId) (w : World), (binOp .quo t (.float .f64 a) (.float .f64 b)).run Try.prog w = .ok (.float .f64 r) w := by
  rw [val_natAbs, val_natAbs] at hs
  have hz : ¬ Fl.rg b = 0 := by
    intro e
    apply h0
    have := val_natAbs b
    rw [e, show Fl.vl 0 = 0 by decide] at this
    omega
  obtain ⟨R, e, hR, l1, l2⟩ := Fl.div_err c hc ha hb hz hs
  obtain ⟨_, h2⟩ := run_some (op := .quo) e
  have hl : R < 9223372036854775808 := by omega
  refine ⟨_, ⟨Fl.wd_lt _ _ hl, by rw [Fl.rg_wd _ _ hl]; exact hR, ?_⟩, h2⟩
  rw [val_natAbs, val_natAbs]
  refine abs_of (s := Fl.sg a) (Z := Fl.vl R * Fl.vl (Fl.rg b)) (N := Fl.vl (Fl.rg a) * 2 ^ c) ?_ ?_ l1 l2
  · rw [val_mul, Fl.sg_wd _ _ hl, Fl.rg_wd _ _ hl]
    cases Fl.sg a <;> cases Fl.sg b <;> rfl
  · unfold Fl.val
    cases Fl.sg a <;> simp [Int.neg_mul]
end Go.Proofs.Ytmbjgakehghdjaa
/-
  OWN TEXT: parts.Div of whole numbers whose quotient is whole: how near it comes.
-/
namespace Go.Proofs.Ytmbjgakehghdjaa
open Go.ChangeShapes Go.WideShapes Go.ChangeAt Go.RowKit
set_option linter.unusedVariables false
/-- x is v but for 2^-33 -/
def clo (c x : Nat) (v : Int) : Prop := x < 18446744073709551616 ∧ Fl.rg x < 9218868437227405312 ∧ 8589934592 * (Fl.val x - v * ((2 ^ c : Nat) : Int)).natAbs ≤ 2 ^ c
theorem unit_le {c : Nat} (hc : c = 1074) : 1267650600228229401496703205376 ≤ 2 ^ c := by
  have h : (2 : Nat) ^ 100 ≤ 2 ^ c := Nat.pow_le_pow_right (by decide) (by omega)
  rw [show (2 : Nat) ^ 100 = 1267650600228229401496703205376 by decide] at h
  exact h
/-- what stands of the divisor: the quotient of its parts, their product, their sum -/
def KT (c : Nat) (g l : Int) (k m2 t : Nat) : Prop := Fl.rg k < 9218868437227405312 ∧ Fl.rg t < 9218868437227405312 ∧
  2251799813685248 * (g * Fl.val k - l * ((2 ^ c : Nat) : Int)).natAbs ≤ l.natAbs * 2 ^ c + 4503599627370496 * g.natAbs ∧
  4503599627370496 * (Fl.val m2 - l * Fl.val k).natAbs ≤ (l * Fl.val k).natAbs + 4503599627370496 ∧
  4503599627370496 * (Fl.val t - (g * ((2 ^ c : Nat) : Int) + Fl.val m2)).natAbs ≤ (g * ((2 ^ c : Nat) : Int) + Fl.val m2).natAbs + 4503599627370496
theorem mul_le_k {n G U K : Nat} (h : n ≤ K * (G * U)) (hG : G ≤ 1000) (hK : K ≤ 1000000) : n ≤ 1125899906842624 * U := by
  refine Nat.le_trans h ?_
  rw [← Nat.mul_assoc]
  refine Nat.mul_le_mul_right U ?_
  have := Nat.mul_le_mul hK hG
  omega
theorem kt_first {c xg xl : Nat} {g l : Int} (hc : c = 1074) (hg : wI c xg g) (hl : wI c xl l) (g0 : g ≠ 0) (hlg : l.natAbs ≤ g.natAbs) (hg1 : g.natAbs ≤ 1000) :
    ∃ k m2, k < 18446744073709551616 ∧ m2 < 18446744073709551616 ∧ Fl.rg k < 9218868437227405312 ∧ Fl.rg m2 < 9218868437227405312 ∧ (∀ (t : TypeId) (w : World), (binOp .quo t (.float .f64 xl) (.float .f64 xg)).run Try.prog w = .ok (.float .f64 k) w) ∧
      (∀ (t : TypeId) (w : World), (binOp .mul t (.float .f64 xl) (.float .f64 k)).run Try.prog w = .ok (.float .f64 m2) w) ∧
      2251799813685248 * (g * Fl.val k - l * ((2 ^ c : Nat) : Int)).natAbs ≤ l.natAbs * 2 ^ c + 4503599627370496 * g.natAbs ∧
      4503599627370496 * (Fl.val m2 - l * Fl.val k).natAbs ≤ (l * Fl.val k).natAbs + 4503599627370496 ∧
      (g * ((2 ^ c : Nat) : Int) + Fl.val m2).natAbs ≤ 1125899906842624 * 2 ^ c ∧ (Fl.val k).natAbs ≤ 2 * 2 ^ c := by
  have hU := unit_le hc
  have hU0 := Nat.two_pow_pos c
  obtain ⟨U, eU⟩ : ∃ U, U = 2 ^ c := ⟨_, rfl⟩
  have G1 : 1 ≤ g.natAbs := Int.natAbs_pos.2 g0
  obtain ⟨k, ⟨k1, k2, k3⟩, k4⟩ := n_quo (a := xl) (b := xg) hc hl.2.1 hg.2.1 (by
    intro q
    have := val_natAbs xg
    rw [q, hg.vl] at this
    have h := Nat.mul_pos (show 0 < g.natAbs by omega) hU0
    rw [← this] at h
    exact absurd h (by decide)) (by
    rw [val_natAbs, val_natAbs, hl.vl, hg.vl, ← Nat.mul_assoc]
    exact Nat.mul_le_mul_right _ (by omega))
  have k3' : 2251799813685248 * (g * Fl.val k - l * ((2 ^ c : Nat) : Int)).natAbs ≤ l.natAbs * 2 ^ c + 4503599627370496 * g.natAbs := by
    rw [hg.2.2, hl.2.2, ← eU] at k3
    rw [← eU]
    rw [← eU] at hU0
    refine Nat.le_of_mul_le_mul_right (c := U) ?_ hU0
    have e1 : Fl.val k * (g * (U : Int)) - l * (U : Int) * (U : Int) = (g * Fl.val k - l * (U : Int)) * (U : Int) := by grind
    rw [e1, Int.natAbs_mul, Int.natAbs_natCast, Int.natAbs_mul, Int.natAbs_natCast, Int.natAbs_mul, Int.natAbs_natCast] at k3
    rw [Nat.mul_assoc, Nat.add_mul, Nat.mul_assoc 4503599627370496]
    exact k3
  rw [← eU] at k3' hU ⊢
  obtain ⟨b1, bk⟩ := Zq.bounds (X := g.natAbs * U) (m2 := 0) (t := 0) hU rfl G1 rfl hlg k3'
  have hX5 : 4503599627370496 ≤ g.natAbs * U := Nat.le_trans (by decide) (Nat.le_trans hU (Nat.le_mul_of_pos_left U G1))
  have hlk : (l * Fl.val k).natAbs ≤ 1125899906842624 * U := by
    rw [Int.natAbs_mul]
    refine Nat.le_trans (Nat.mul_le_mul (Nat.le_trans hlg hg1) bk) ?_
    rw [← Nat.mul_assoc]
    exact Nat.mul_le_mul_right U (by decide)
  rw [eU] at hlk
  obtain ⟨m2, ⟨m1, m3, m4⟩, m5⟩ := n_mul (k := k) hc hl k2 hlk
  obtain ⟨b2, c2⟩ := Zq.prod_step (n := 1) (G := g.natAbs) (U := U) rfl hX5 (by rw [Nat.one_mul]; exact hlg) bk (by decide) m4
  refine ⟨k, m2, k1, m1, k2, m3, k4, m5, k3', m4, ?_, bk⟩
  have s1 : (g * (U : Int)).natAbs = g.natAbs * U := by rw [Int.natAbs_mul, Int.natAbs_natCast]
  refine mul_le_k (G := g.natAbs) (K := 4) (Nat.le_trans (Zq.nabs_add _ _) ?_) hg1 (by decide)
  rw [s1]
  have h : ∀ Y z : Nat, z ≤ (2 * 1 + 1) * Y → Y + z ≤ 4 * Y := by intro Y z h; omega
  exact h _ _ c2
/-- the answer out of its parts -/
theorem core_z {c k m2 t A : Nat} {g l a b v m4 : Int} (hc : c = 1074) (hK : KT c g l k m2 t) (g0 : g ≠ 0) (hlg : l.natAbs ≤ g.natAbs) (hg1 : g.natAbs ≤ 1000) (hv : v.natAbs ≤ 1000) (ha : a.natAbs ≤ 4000 * g.natAbs) (hb : b.natAbs ≤ 4000 * g.natAbs)
    (he : a * g + b * l = v * (g * g + l * l)) (h4 : 4503599627370496 * (m4 - b * Fl.val k).natAbs ≤ (b * Fl.val k).natAbs + 4503599627370496) (hA : nr A (a * ((2 ^ c : Nat) : Int) + m4)) :
    ∃ z, clo c z v ∧ ∀ (t0 : TypeId) (w : World), (binOp .quo t0 (.float .f64 A) (.float .f64 t)).run Try.prog w = .ok (.float .f64 z) w := by
  have hU := unit_le hc
  obtain ⟨k2, t2, h1, h2, h3⟩ := hK
  obtain ⟨A1, A2, h5⟩ := hA
  have G1 : 1 ≤ g.natAbs := Int.natAbs_pos.2 g0
  obtain ⟨U, eU⟩ : ∃ U, U = 2 ^ c := ⟨_, rfl⟩
  rw [← eU] at h1 h3 h5 hU
  have hX5 : 4503599627370496 ≤ g.natAbs * U := Nat.le_trans (by decide) (Nat.le_trans hU (Nat.le_mul_of_pos_left U G1))
  obtain ⟨b1, bk⟩ := Zq.bounds (X := g.natAbs * U) (m2 := 0) (t := 0) hU rfl G1 rfl hlg h1
  obtain ⟨b2, c2⟩ := Zq.prod_step (n := 1) (G := g.natAbs) (U := U) rfl hX5 (by rw [Nat.one_mul]; exact hlg) bk (by decide) h2
  obtain ⟨b3, c3⟩ := Zq.sum_step (n := 1) (k := 3) (G := g.natAbs) (U := U) rfl hX5 (by rw [Nat.one_mul]; exact Nat.le_refl _) c2 (by decide) h3
  obtain ⟨b4, c4⟩ := Zq.prod_step (n := 4000) (G := g.natAbs) (U := U) rfl hX5 hb bk (by decide) h4
  obtain ⟨b5, c5⟩ := Zq.sum_step (n := 4000) (k := 8001) (G := g.natAbs) (U := U) rfl hX5 ha c4 (by decide) h5
  have e1 : g * Fl.val k = l * (U : Int) + (g * Fl.val k - l * (U : Int)) := by rw [Int.add_comm, Int.sub_add_cancel]
  have e2 : Fl.val m2 = l * Fl.val k + (Fl.val m2 - l * Fl.val k) := by rw [Int.add_comm, Int.sub_add_cancel]
  have e3 : Fl.val t = g * (U : Int) + Fl.val m2 + (Fl.val t - (g * (U : Int) + Fl.val m2)) := by rw [Int.add_comm, Int.sub_add_cancel]
  have lt := Zq.t_low rfl G1 rfl hlg e1 e2 e3 b1 b2 b3
  obtain ⟨z, ⟨z1, z2, z3⟩, z4⟩ := n_quo (a := A) (b := t) hc A2 t2 (by intro q; rw [q] at lt; exact absurd (Nat.le_trans hX5 lt) (by decide)) (by
    refine Nat.le_trans c5 ?_
    refine Nat.le_trans (Nat.mul_le_mul_left _ lt) ?_
    rw [← Nat.mul_assoc]
    exact Nat.mul_le_mul_right _ (by decide))
  rw [← eU] at z3
  refine ⟨z, ⟨z1, z2, ?_⟩, z4⟩
  rw [← eU]
  exact Zq.comp_core hU g0 hlg hv ha hb he h1 h2 h3 h4 h5 z3
/-- a product with the quotient, and a bound for the sum -/
theorem part_mul {c k xb : Nat} {g b : Int} (hc : c = 1074) (hx : wI c xb b) (hk : Fl.rg k < 9218868437227405312) (bk : (Fl.val k).natAbs ≤ 2 * 2 ^ c) (g0 : g ≠ 0) (hg1 : g.natAbs ≤ 1000) (hb : b.natAbs ≤ 4000 * g.natAbs) :
    ∃ m, nr m (b * Fl.val k) ∧ (Fl.val m).natAbs ≤ 8001 * (g.natAbs * 2 ^ c) ∧ ∀ (t : TypeId) (w : World), (binOp .mul t (.float .f64 xb) (.float .f64 k)).run Try.prog w = .ok (.float .f64 m) w := by
  have hU := unit_le hc
  have G1 : 1 ≤ g.natAbs := Int.natAbs_pos.2 g0
  have hX5 : 4503599627370496 ≤ g.natAbs * 2 ^ c := Nat.le_trans (by decide) (Nat.le_trans hU (Nat.le_mul_of_pos_left (2 ^ c) G1))
  obtain ⟨m, m1, m2⟩ := n_mul (k := k) hc hx hk (by
    rw [Int.natAbs_mul]
    refine Nat.le_trans (Nat.mul_le_mul (Nat.le_trans hb (Nat.mul_le_mul_left 4000 hg1)) bk) ?_
    rw [← Nat.mul_assoc]
    exact Nat.mul_le_mul_right _ (by decide))
  obtain ⟨b4, c4⟩ := Zq.prod_step (n := 4000) (G := g.natAbs) (U := 2 ^ c) rfl hX5 hb bk (by decide) m1.2.2
  exact ⟨m, m1, c4, m2⟩
theorem sum_bd {c m : Nat} {g a x y : Int} (hg1 : g.natAbs ≤ 1000) (ha : a.natAbs ≤ 4000 * g.natAbs) (hx : x.natAbs ≤ (a * ((2 ^ c : Nat) : Int)).natAbs) (hm : y.natAbs ≤ 8001 * (g.natAbs * 2 ^ c)) : (x + y).natAbs ≤ 1125899906842624 * 2 ^ c := by
  refine mul_le_k (G := g.natAbs) (K := 12001) (Nat.le_trans (Zq.nabs_add _ _) ?_) hg1 (by decide)
  have h1 : x.natAbs ≤ 4000 * (g.natAbs * 2 ^ c) := by
    refine Nat.le_trans hx ?_
    rw [Int.natAbs_mul, Int.natAbs_natCast, ← Nat.mul_assoc]
    exact Nat.mul_le_mul_right _ ha
  rw [show 12001 * (g.natAbs * 2 ^ c) = 4000 * (g.natAbs * 2 ^ c) + 8001 * (g.natAbs * 2 ^ c) by rw [← Nat.add_mul]]
  exact Nat.add_le_add h1 hm
end Go.Proofs.Ytmbjgakehghdjaa
/-
  OWN TEXT: parts.Div of whole numbers whose quotient is a small whole number: it is that but for 2^-42.
-/
namespace Go.Proofs.Ytmbjgakehghdjaa.Zq
set_option linter.unusedVariables false
theorem s68 {X D a1 f2 f3 f4 f5 : Nat} (h : D ≤ 24 * a1 + (f4 + f5 + 8 * f2 + 8 * f3)) (ba1 : 1125899906842624 * a1 ≤ X) (bf2 : 4503599627370496 * f2 ≤ 3 * X) (bf3 : 4503599627370496 * f3 ≤ 5 * X) (bf4 : 4503599627370496 * f4 ≤ 33 * X) (bf5 : 4503599627370496 * f5 ≤ 50 * X) : 17592186044416 * D ≤ X := by omega
/-- how far the dividend is -/
theorem d_far8 {U X G : Nat} {g l a b v k m2 t m4 A a1 f2 f3 f4 f5 : Int} (hG : G = g.natAbs) (hG1 : 1 ≤ G) (hl : l.natAbs ≤ G) (hv : v.natAbs ≤ 8) (hb : b.natAbs ≤ 16 * G) (he : a * g + b * l = v * (g * g + l * l))
    (e1 : g * k = l * (U : Int) + a1) (e2 : m2 = l * k + f2) (e3 : t = g * (U : Int) + m2 + f3) (e4 : m4 = b * k + f4) (e5 : A = a * (U : Int) + m4 + f5)
    (ba1 : 1125899906842624 * a1.natAbs ≤ X) (bf2 : 4503599627370496 * f2.natAbs ≤ 3 * X) (bf3 : 4503599627370496 * f3.natAbs ≤ 5 * X) (bf4 : 4503599627370496 * f4.natAbs ≤ 33 * X) (bf5 : 4503599627370496 * f5.natAbs ≤ 50 * X) : 17592186044416 * (A - v * t).natAbs ≤ X := by
  have q1 : g * (A - v * t) = (b - v * l) * a1 + g * (f4 + f5 + -(v * f2) + -(v * f3)) := by
    rw [e5, e4, e3, e2]
    exact ident g l a b v k U a1 f2 f3 f4 f5 he e1
  have q2 : (g * (A - v * t)).natAbs = G * (A - v * t).natAbs := by rw [Int.natAbs_mul, ← hG]
  have q3 : ((b - v * l) * a1).natAbs ≤ G * (24 * a1.natAbs) := by
    rw [Int.natAbs_mul]
    have s1 : (v * l).natAbs ≤ 8 * G := by rw [Int.natAbs_mul]; exact Nat.mul_le_mul hv hl
    have s2 := nabs_sub b (v * l)
    have s3 : (b - v * l).natAbs ≤ 24 * G := Nat.le_trans s2 (by rw [show 24 * G = 16 * G + 8 * G by rw [← Nat.add_mul]]; exact Nat.add_le_add hb s1)
    refine Nat.le_trans (Nat.mul_le_mul_right _ s3) ?_
    rw [Nat.mul_comm 24 G, Nat.mul_assoc]
    exact Nat.le_refl _
  have vf : ∀ f : Int, (-(v * f)).natAbs ≤ 8 * f.natAbs := fun f => by rw [Int.natAbs_neg, Int.natAbs_mul]; exact Nat.mul_le_mul_right _ hv
  have q4 : (f4 + f5 + -(v * f2) + -(v * f3)).natAbs ≤ f4.natAbs + f5.natAbs + 8 * f2.natAbs + 8 * f3.natAbs :=
    Nat.le_trans (nabs_add _ _) (Nat.add_le_add (Nat.le_trans (nabs_add _ _) (Nat.add_le_add (nabs_add _ _) (vf f2))) (vf f3))
  have q5 : (g * (f4 + f5 + -(v * f2) + -(v * f3))).natAbs ≤ G * (f4.natAbs + f5.natAbs + 8 * f2.natAbs + 8 * f3.natAbs) := by rw [Int.natAbs_mul, ← hG]; exact Nat.mul_le_mul_left _ q4
  have q6 := nabs_add ((b - v * l) * a1) (g * (f4 + f5 + -(v * f2) + -(v * f3)))
  rw [← q1, q2] at q6
  have q7 : G * (A - v * t).natAbs ≤ G * (24 * a1.natAbs + (f4.natAbs + f5.natAbs + 8 * f2.natAbs + 8 * f3.natAbs)) := by
    rw [Nat.mul_add]
    exact Nat.le_trans q6 (Nat.add_le_add q3 q5)
  exact s68 (cancel hG1 q7) ba1 bf2 bf3 bf4 bf5
theorem s78 {W Y Z F f6 B T : Nat} (h1 : Y ≤ F + f6) (h2 : 17592186044416 * F ≤ W) (h3 : 2251799813685248 * f6 ≤ B + 4503599627370496 * T) (h4 : B ≤ 50 * W) (h5 : 1267650600228229401496703205376 * T ≤ 9 * W) (h6 : Z ≤ 2 * Y) : 4398046511104 * Z ≤ W := by omega
/-- g the greater part of the divisor, l the lesser; k their quotient, t the divisor; a, b the dividend's parts; z the answer, v what it should be; U units -/
theorem comp8 {U : Nat} {g l a b v k m2 t m4 A z : Int} (hU : 1267650600228229401496703205376 ≤ U) (hg : g ≠ 0) (hl : l.natAbs ≤ g.natAbs) (hv : v.natAbs ≤ 8) (ha : a.natAbs ≤ 16 * g.natAbs) (hb : b.natAbs ≤ 16 * g.natAbs)
    (he : a * g + b * l = v * (g * g + l * l))
    (h1 : 2251799813685248 * (g * k - l * (U : Int)).natAbs ≤ l.natAbs * U + 4503599627370496 * g.natAbs)
    (h2 : 4503599627370496 * (m2 - l * k).natAbs ≤ (l * k).natAbs + 4503599627370496)
    (h3 : 4503599627370496 * (t - (g * (U : Int) + m2)).natAbs ≤ (g * (U : Int) + m2).natAbs + 4503599627370496)
    (h4 : 4503599627370496 * (m4 - b * k).natAbs ≤ (b * k).natAbs + 4503599627370496)
    (h5 : 4503599627370496 * (A - (a * (U : Int) + m4)).natAbs ≤ (a * (U : Int) + m4).natAbs + 4503599627370496)
    (h6 : 2251799813685248 * (z * t - A * (U : Int)).natAbs ≤ A.natAbs * U + 4503599627370496 * t.natAbs) :
    4398046511104 * (z - v * (U : Int)).natAbs ≤ U := by
  obtain ⟨G, hG⟩ : ∃ G, G = g.natAbs := ⟨_, rfl⟩
  have hG1 : 1 ≤ G := by rw [hG]; exact Int.natAbs_pos.2 hg
  obtain ⟨X, hX⟩ : ∃ X, X = G * U := ⟨_, rfl⟩
  have hXU : U ≤ X := by rw [hX]; exact Nat.le_mul_of_pos_left U hG1
  have hX5 : 4503599627370496 ≤ X := Nat.le_trans (by decide) (Nat.le_trans hU hXU)
  rw [← hG] at hl ha hb h1
  obtain ⟨b1, bk⟩ := bounds (m2 := m2) (t := t) hU hG hG1 hX hl h1
  obtain ⟨b2, c2⟩ := prod_step (n := 1) hX hX5 (by rw [Nat.one_mul]; exact hl) bk (by decide) h2
  obtain ⟨b3, c3⟩ := sum_step (n := 1) (k := 3) hX hX5 (by rw [Nat.one_mul, ← hG]; exact Nat.le_refl _) c2 (by decide) h3
  obtain ⟨b4, c4⟩ := prod_step (n := 16) hX hX5 hb bk (by decide) h4
  obtain ⟨b5, c5⟩ := sum_step (n := 16) (k := 33) hX hX5 ha c4 (by decide) h5
  have e1 : g * k = l * (U : Int) + (g * k - l * (U : Int)) := by rw [Int.add_comm, Int.sub_add_cancel]
  have e2 : m2 = l * k + (m2 - l * k) := by rw [Int.add_comm, Int.sub_add_cancel]
  have e3 : t = g * (U : Int) + m2 + (t - (g * (U : Int) + m2)) := by rw [Int.add_comm, Int.sub_add_cancel]
  have e4 : m4 = b * k + (m4 - b * k) := by rw [Int.add_comm, Int.sub_add_cancel]
  have e5 : A = a * (U : Int) + m4 + (A - (a * (U : Int) + m4)) := by rw [Int.add_comm, Int.sub_add_cancel]
  have lt := t_low hG hG1 hX hl e1 e2 e3 b1 b2 b3
  have fd := d_far8 hG hG1 hl hv hb he e1 e2 e3 e4 e5 b1 b2 b3 b4 b5
  have q1 : t * (z - v * (U : Int)) = (U : Int) * (A - v * t) + (z * t - A * (U : Int)) := by grind
  have q6 := nabs_add ((U : Int) * (A - v * t)) (z * t - A * (U : Int))
  rw [← q1, Int.natAbs_mul (U : Int), Int.natAbs_natCast, Int.natAbs_mul] at q6
  have q3 : 17592186044416 * (U * (A - v * t).natAbs) ≤ U * X := by rw [Nat.mul_left_comm]; exact Nat.mul_le_mul_left U fd
  have q4 : A.natAbs * U ≤ 50 * (U * X) := by
    refine Nat.le_trans (Nat.mul_le_mul_right U c5) ?_
    rw [Nat.mul_assoc, Nat.mul_comm X U]
    exact Nat.le_refl _
  have q5 : 1267650600228229401496703205376 * t.natAbs ≤ 9 * (U * X) := by
    refine Nat.le_trans (Nat.mul_le_mul hU c3) ?_
    rw [Nat.mul_left_comm]
    exact Nat.mul_le_mul_right _ (by decide)
  have q7 : X * (z - v * (U : Int)).natAbs ≤ 2 * (t.natAbs * (z - v * (U : Int)).natAbs) := by
    rw [← Nat.mul_assoc]
    exact Nat.mul_le_mul_right _ lt
  refine cancel (Nat.lt_of_lt_of_le (by decide) hX5) ?_
  rw [Nat.mul_left_comm X 4398046511104, Nat.mul_comm X U]
  exact s78 q6 q3 h6 q4 q5 q7
end Go.Proofs.Ytmbjgakehghdjaa.Zq
namespace Go.Proofs.Ytmbjgakehghdjaa
open Go.ChangeShapes Go.WideShapes Go.ChangeAt Go.RowKit
set_option linter.unusedVariables false
/-- x is v but for 2^-42 -/
def cl8 (c x : Nat) (v : Int) : Prop := x < 18446744073709551616 ∧ Fl.rg x < 9218868437227405312 ∧ 4398046511104 * (Fl.val x - v * ((2 ^ c : Nat) : Int)).natAbs ≤ 2 ^ c
/-- the answer out of its parts -/
theorem core8 {c k m2 t A : Nat} {g l a b v m4 : Int} (hc : c = 1074) (hK : KT c g l k m2 t) (g0 : g ≠ 0) (hlg : l.natAbs ≤ g.natAbs) (hg1 : g.natAbs ≤ 1000) (hv : v.natAbs ≤ 8) (ha : a.natAbs ≤ 16 * g.natAbs) (hb : b.natAbs ≤ 16 * g.natAbs)
    (he : a * g + b * l = v * (g * g + l * l)) (h4 : 4503599627370496 * (m4 - b * Fl.val k).natAbs ≤ (b * Fl.val k).natAbs + 4503599627370496) (hA : nr A (a * ((2 ^ c : Nat) : Int) + m4)) :
    ∃ z, cl8 c z v ∧ ∀ (t0 : TypeId) (w : World), (binOp .quo t0 (.float .f64 A) (.float .f64 t)).run Try.prog w = .ok (.float .f64 z) w := by
  have hU := unit_le hc
  obtain ⟨k2, t2, h1, h2, h3⟩ := hK
  obtain ⟨A1, A2, h5⟩ := hA
  have G1 : 1 ≤ g.natAbs := Int.natAbs_pos.2 g0
  obtain ⟨U, eU⟩ : ∃ U, U = 2 ^ c := ⟨_, rfl⟩
  rw [← eU] at h1 h3 h5 hU
  have hX5 : 4503599627370496 ≤ g.natAbs * U := Nat.le_trans (by decide) (Nat.le_trans hU (Nat.le_mul_of_pos_left U G1))
  obtain ⟨b1, bk⟩ := Zq.bounds (X := g.natAbs * U) (m2 := 0) (t := 0) hU rfl G1 rfl hlg h1
  obtain ⟨b2, c2⟩ := Zq.prod_step (n := 1) (G := g.natAbs) (U := U) rfl hX5 (by rw [Nat.one_mul]; exact hlg) bk (by decide) h2
  obtain ⟨b3, c3⟩ := Zq.sum_step (n := 1) (k := 3) (G := g.natAbs) (U := U) rfl hX5 (by rw [Nat.one_mul]; exact Nat.le_refl _) c2 (by decide) h3
  obtain ⟨b4, c4⟩ := Zq.prod_step (n := 16) (G := g.natAbs) (U := U) rfl hX5 hb bk (by decide) h4
  obtain ⟨b5, c5⟩ := Zq.sum_step (n := 16) (k := 33) (G := g.natAbs) (U := U) rfl hX5 ha c4 (by decide) h5
  have e1 : g * Fl.val k = l * (U : Int) + (g * Fl.val k - l * (U : Int)) := by rw [Int.add_comm, Int.sub_add_cancel]
  have e2 : Fl.val m2 = l * Fl.val k + (Fl.val m2 - l * Fl.val k) := by rw [Int.add_comm, Int.sub_add_cancel]
  have e3 : Fl.val t = g * (U : Int) + Fl.val m2 + (Fl.val t - (g * (U : Int) + Fl.val m2)) := by rw [Int.add_comm, Int.sub_add_cancel]
  have lt := Zq.t_low rfl G1 rfl hlg e1 e2 e3 b1 b2 b3
  obtain ⟨z, ⟨z1, z2, z3⟩, z4⟩ := n_quo (a := A) (b := t) hc A2 t2 (by intro q; rw [q] at lt; exact absurd (Nat.le_trans hX5 lt) (by decide)) (by
    refine Nat.le_trans c5 ?_
    refine Nat.le_trans (Nat.mul_le_mul_left _ lt) ?_
    rw [← Nat.mul_assoc]
    exact Nat.mul_le_mul_right _ (by decide))
  rw [← eU] at z3
  refine ⟨z, ⟨z1, z2, ?_⟩, z4⟩
  rw [← eU]
  exact Zq.comp8 hU g0 hlg hv ha hb he h1 h2 h3 h4 h5 z3
theorem upp8 {a g : Nat} (h : a ≤ 16 * g) : a ≤ 4000 * g := Nat.le_trans h (Nat.mul_le_mul_right g (by decide))
theorem lin8 {R S v1 v2 : Int} {M : Nat} (hR : R.natAbs ≤ M) (hS : S.natAbs ≤ M) (h1 : v1.natAbs ≤ 8) (h2 : v2.natAbs ≤ 8) : (v1 * R - v2 * S).natAbs ≤ 16 * M ∧ (v1 * S + v2 * R).natAbs ≤ 16 * M := by
  have a1 : (v1 * R).natAbs ≤ 8 * M := by rw [Int.natAbs_mul]; exact Nat.mul_le_mul h1 hR
  have a2 : (v2 * S).natAbs ≤ 8 * M := by rw [Int.natAbs_mul]; exact Nat.mul_le_mul h2 hS
  have a3 : (v1 * S).natAbs ≤ 8 * M := by rw [Int.natAbs_mul]; exact Nat.mul_le_mul h1 hS
  have a4 : (v2 * R).natAbs ≤ 8 * M := by rw [Int.natAbs_mul]; exact Nat.mul_le_mul h2 hR
  have b1 := Zq.nabs_sub (v1 * R) (v2 * S)
  have b2 := Zq.nabs_add (v1 * S) (v2 * R)
  constructor
  · exact Nat.le_trans b1 (by rw [show 16 * M = 8 * M + 8 * M by omega]; exact Nat.add_le_add a1 a2)
  · exact Nat.le_trans b2 (by rw [show 16 * M = 8 * M + 8 * M by omega]; exact Nat.add_le_add a3 a4)
theorem neg_nr {x n : Int} (h : 4503599627370496 * (x - n).natAbs ≤ n.natAbs + 4503599627370496) {m : Int} (hm : m = -n) : 4503599627370496 * (-x - m).natAbs ≤ m.natAbs + 4503599627370496 := by
  subst hm
  rw [show -x - -n = -(x - n) by omega, Int.natAbs_neg, Int.natAbs_neg]
  exact h
theorem pdiv8a {c p q r s : Nat} {P Q R S v1 v2 : Int} (hc : c = 1074) (hp : wI c p P) (hq : wI c q Q) (hr : wI c r R) (hs : wI c s S) (g0 : R ≠ 0) (hRS : S.natAbs ≤ R.natAbs) (hR : R.natAbs ≤ 1000) (h1 : v1.natAbs ≤ 8) (h2 : v2.natAbs ≤ 8) (eP : P = v1 * R - v2 * S) (eQ : Q = v1 * S + v2 * R) :
    ∃ x y, cl8 c x v1 ∧ cl8 c y v2 ∧ ∀ w, Calls Try.prog 26 #[.complex .f64 p q, .complex .f64 r s] w fun e w' => e = .returned (.complex .f64 x y) ∧ w' = w := by
  obtain ⟨k, m2, k1, m1, k2, m3, r1, r2, f1, f2, f3, f4⟩ := kt_first hc hr hs g0 hRS hR
  rw [← hr.2.2] at f3
  obtain ⟨t, ⟨t1, t2, t3⟩, r3⟩ := n_add hc hr.2.1 m3 f3
  rw [hr.2.2] at t3
  have K : KT c R S k m2 t := ⟨k2, t2, f1, f2, t3⟩
  obtain ⟨bP, bQ⟩ := lin8 (M := R.natAbs) (Nat.le_refl _) hRS h1 h2
  rw [← eP] at bP
  rw [← eQ] at bQ
  obtain ⟨mq, q1, q2, r4⟩ := part_mul (g := R) hc hq k2 f4 g0 hR (upp8 bQ)
  obtain ⟨mp, p1, p2, r5⟩ := part_mul (g := R) hc hp k2 f4 g0 hR (upp8 bP)
  have sb := sum_bd (c := c) (m := 0) (g := R) (a := P) (x := Fl.val p) (y := Fl.val mq) hR (upp8 bP) (by rw [hp.2.2]; exact Nat.le_refl _) q2
  obtain ⟨A, A1, r6⟩ := n_add hc hp.2.1 q1.2.1 sb
  have sb2 := sum_bd (c := c) (m := 0) (g := R) (a := Q) (x := Fl.val q) (y := -Fl.val mp) hR (upp8 bQ) (by rw [hq.2.2]; exact Nat.le_refl _) (by rw [Int.natAbs_neg]; exact p2)
  rw [← Int.sub_eq_add_neg] at sb2
  obtain ⟨B, B1, r7⟩ := n_sub hc hq.2.1 p1.2.1 p1.1 sb2
  rw [hp.2.2] at A1
  rw [hq.2.2, Int.sub_eq_add_neg] at B1
  obtain ⟨x, x1, r8⟩ := core8 (v := v1) hc K g0 hRS hR h1 bP bQ (by rw [eP, eQ]; grind) q1.2.2 A1
  obtain ⟨y, y1, r9⟩ := core8 (v := v2) (b := -P) hc K g0 hRS hR h2 bQ (by rw [Int.natAbs_neg]; exact bP) (by rw [eP, eQ]; grind) (neg_nr p1.2.2 (by rw [Int.neg_mul])) B1
  refine ⟨x, y, x1, y1, fun w => ?_⟩
  have hle : Fl.leF (Fl.rg s) (Fl.rg r) = true := by
    rw [hs.abs.wI.leF hr.abs.wI]
    exact decide_eq_true (by omega)
  have AR : Hid (∀ wz, Calls Try.prog 27 #[.float .f64 r] wz fun e w' => e = .returned (.float .f64 (Fl.rg r)) ∧ w' = wz) := fun wz => abs_any r wz hr.1
  have AS : Hid (∀ wz, Calls Try.prog 27 #[.float .f64 s] wz fun e w' => e = .returned (.float .f64 (Fl.rg s)) ∧ w' = wz) := fun wz => abs_any s wz hs.1
  clear A1 B1 x1 y1 K sb sb2 q1 q2 p1 p2 f1 f2 f3 f4 t3 t1 t2 bP bQ hp hq hr hs h1 h2 eP eQ hRS hR g0 k1 m1 k2 m3
  generalize Fl.rg r = ur at *
  generalize Fl.rg s = us at *
  have og := Fl.o_ge ur us
  rw [hle] at og
  clear hle
  go_enter Try.func26, Try.ntmps26
  go_wp2_with fail
  refine (AR.out _).mono ?_
  rintro e' w ⟨rfl, rfl⟩
  go_wp2_with fail
  refine (AS.out _).mono ?_
  rintro e' w ⟨rfl, rfl⟩
  go_wp2
  go_ret
  exact ⟨rfl, rfl⟩
theorem pdiv8b {c p q r s : Nat} {P Q R S v1 v2 : Int} (hc : c = 1074) (hp : wI c p P) (hq : wI c q Q) (hr : wI c r R) (hs : wI c s S) (g0 : S ≠ 0) (hRS : R.natAbs < S.natAbs) (hS : S.natAbs ≤ 1000) (h1 : v1.natAbs ≤ 8) (h2 : v2.natAbs ≤ 8) (eP : P = v1 * R - v2 * S) (eQ : Q = v1 * S + v2 * R) :
    ∃ x y, cl8 c x v1 ∧ cl8 c y v2 ∧ ∀ w, Calls Try.prog 26 #[.complex .f64 p q, .complex .f64 r s] w fun e w' => e = .returned (.complex .f64 x y) ∧ w' = w := by
  obtain ⟨k, m2, k1, m1, k2, m3, r1, r2, f1, f2, f3, f4⟩ := kt_first hc hs hr g0 (Nat.le_of_lt hRS) hS
  rw [← hs.2.2, Int.add_comm] at f3
  obtain ⟨t, ⟨t1, t2, t3⟩, r3⟩ := n_add hc m3 hs.2.1 f3
  rw [Int.add_comm, hs.2.2] at t3
  have K : KT c S R k m2 t := ⟨k2, t2, f1, f2, t3⟩
  obtain ⟨bP, bQ⟩ := lin8 (M := S.natAbs) (Nat.le_of_lt hRS) (Nat.le_refl _) h1 h2
  rw [← eP] at bP
  rw [← eQ] at bQ
  obtain ⟨mq, q1, q2, r4⟩ := part_mul (g := S) hc hq k2 f4 g0 hS (upp8 bQ)
  obtain ⟨mp, p1, p2, r5⟩ := part_mul (g := S) hc hp k2 f4 g0 hS (upp8 bP)
  have sb := sum_bd (c := c) (m := 0) (g := S) (a := Q) (x := Fl.val q) (y := Fl.val mp) hS (upp8 bQ) (by rw [hq.2.2]; exact Nat.le_refl _) p2
  rw [Int.add_comm] at sb
  obtain ⟨A, A1, r6⟩ := n_add hc p1.2.1 hq.2.1 sb
  have sb2 := sum_bd (c := c) (m := 0) (g := S) (a := P) (x := -Fl.val p) (y := Fl.val mq) hS (upp8 bP) (by rw [hp.2.2, Int.natAbs_neg]; exact Nat.le_refl _) q2
  rw [Int.add_comm, ← Int.sub_eq_add_neg] at sb2
  obtain ⟨B, B1, r7⟩ := n_sub hc q1.2.1 hp.2.1 hp.1 sb2
  rw [Int.add_comm, hq.2.2] at A1
  rw [Int.sub_eq_add_neg, Int.add_comm, hp.2.2, ← Int.neg_mul] at B1
  obtain ⟨x, x1, r8⟩ := core8 (v := v1) hc K g0 (Nat.le_of_lt hRS) hS h1 bQ bP (by rw [eP, eQ]; grind) p1.2.2 A1
  obtain ⟨y, y1, r9⟩ := core8 (v := v2) (a := -P) hc K g0 (Nat.le_of_lt hRS) hS h2 (by rw [Int.natAbs_neg]; exact bP) bQ (by rw [eP, eQ]; grind) q1.2.2 B1
  refine ⟨x, y, x1, y1, fun w => ?_⟩
  have hle : Fl.leF (Fl.rg s) (Fl.rg r) = false := by
    rw [hs.abs.wI.leF hr.abs.wI]
    exact decide_eq_false (by omega)
  have AR : Hid (∀ wz, Calls Try.prog 27 #[.float .f64 r] wz fun e w' => e = .returned (.float .f64 (Fl.rg r)) ∧ w' = wz) := fun wz => abs_any r wz hr.1
  have AS : Hid (∀ wz, Calls Try.prog 27 #[.float .f64 s] wz fun e w' => e = .returned (.float .f64 (Fl.rg s)) ∧ w' = wz) := fun wz => abs_any s wz hs.1
  clear A1 B1 x1 y1 K sb sb2 q1 q2 p1 p2 f1 f2 f3 f4 t3 t1 t2 bP bQ hp hq hr hs h1 h2 eP eQ hRS hS g0 k1 m1 k2 m3
  generalize Fl.rg r = ur at *
  generalize Fl.rg s = us at *
  have og := Fl.o_ge ur us
  rw [hle] at og
  clear hle
  go_enter Try.func26, Try.ntmps26
  go_wp2_with fail
  refine (AR.out _).mono ?_
  rintro e' w ⟨rfl, rfl⟩
  go_wp2_with fail
  refine (AS.out _).mono ?_
  rintro e' w ⟨rfl, rfl⟩
  go_wp2
  go_ret
  exact ⟨rfl, rfl⟩
theorem pdivc8 {c p q r s : Nat} {P Q R S v1 v2 : Int} (hc : c = 1074) (hp : wI c p P) (hq : wI c q Q) (hr : wI c r R) (hs : wI c s S) (g0 : ¬ (R = 0 ∧ S = 0)) (hR : R.natAbs ≤ 1000) (hS : S.natAbs ≤ 1000) (h1 : v1.natAbs ≤ 8) (h2 : v2.natAbs ≤ 8) (eP : P = v1 * R - v2 * S) (eQ : Q = v1 * S + v2 * R) :
    ∃ x y, cl8 c x v1 ∧ cl8 c y v2 ∧ ∀ w, Calls Try.prog 26 #[.complex .f64 p q, .complex .f64 r s] w fun e w' => e = .returned (.complex .f64 x y) ∧ w' = w := by
  by_cases k : S.natAbs ≤ R.natAbs
  · exact pdiv8a hc hp hq hr hs (fun e => g0 ⟨e, by rw [e] at k; simp at k; exact k⟩) k hR h1 h2 eP eQ
  · exact pdiv8b hc hp hq hr hs (fun e => by rw [e] at k; simp at k) (by omega) hS h1 h2 eP eQ
end Go.Proofs.Ytmbjgakehghdjaa
