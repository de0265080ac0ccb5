/-
  OWN TEXT: quarters, turns, angles with signs turned.
-/
import Derived.Test.YtdbfhbpillgacaaJnAr
namespace Go.Proofs.Ytdbfhbpillgacaa.Fl
set_option linter.unusedVariables false
theorem int_wd (b : Bool) (R k c : Nat) (hc : c = 1074) (hv : vl R = k * 2 ^ c) (hf : R < 9218868437227405312) (hk : k ≤ 4194304) : floatToIntVal .f64 (wd b R) .i64 = some (if b then -(k : Int) else k) := by
  have hg := rg_wd b R (by omega)
  have hs := sg_wd b R (by omega)
  have ht := toInt_any (x := wd b R) c hc (by rw [hg]; exact hf)
  rw [hg, hs, hv, Nat.mul_div_cancel _ (Nat.two_pow_pos c)] at ht
  unfold floatToIntVal
  show (match (Ieee.double.read (wd b R)).toInt .zero with | some n => if IntKind.i64.min ≤ n ∧ n ≤ IntKind.i64.max then some n else none | none => none) = _
  rw [ht]
  have h1 : IntKind.i64.min = -9223372036854775808 := rfl
  have h2 : IntKind.i64.max = 9223372036854775807 := rfl
  simp only []
  rw [h1, h2, if_pos (by split <;> omega)]
theorem whole_at {p : Nat} (c : Nat) (hc : c = 1074) (hf : rg p < 9218868437227405312) (hv : vl (rg p) ≤ 4194304 * 2 ^ c) :
    ∃ k R : Nat, k = rne (vl (rg p)) c ∧ k ≤ 4194304 ∧ R = rq (k * 2 ^ c) 0 ∧ whF p = wd (sg p) R ∧ vl R = k * 2 ^ c ∧ R < 9218868437227405312 := by
  have hk : rne (vl (rg p)) c ≤ 4194304 := rne_le _ _ _ hv
  have hw := whF_num c hc hf
  refine ⟨rne (vl (rg p)) c, rq (rne (vl (rg p)) c * 2 ^ c) 0, rfl, hk, rfl, hw, ?_⟩
  generalize rne (vl (rg p)) c = k at *
  have hl : (k * 2 ^ c).log2 < 2098 := by
    by_cases z : k = 0
    · rw [z, Nat.zero_mul]; exact (by decide : Nat.log2 0 < 2098)
    · rw [log2_mul _ _ z]
      have : k.log2 < 23 := (Nat.log2_lt z).2 (Nat.lt_of_le_of_lt hk (by decide))
      omega
  exact rq_rep (k * 2 ^ c) ⟨k, c, rfl, by omega⟩ hl
theorem vl_dvd (r k : Nat) (hk : k = 1021) (h : 4602678819172646912 ≤ r) (hf : r < 9218868437227405312) : 2 ^ k ∣ vl r := by
  have e := vl_comb (r / 4503599627370496 - 1) (r - (r / 4503599627370496 - 1) * 4503599627370496) (by omega) (Or.inr (by omega))
  rw [show (r / 4503599627370496 - 1) * 4503599627370496 + (r - (r / 4503599627370496 - 1) * 4503599627370496) = r by omega] at e
  rw [e]
  exact Nat.dvd_trans (Nat.pow_dvd_pow 2 (by omega)) (Nat.dvd_mul_left _ _)
theorem sub_dvd {a b : Int} {P : Nat} (h1 : P ∣ a.natAbs) (h2 : P ∣ b.natAbs) : P ∣ (a - b).natAbs := by
  have k1 : (P : Int) ∣ a := Int.ofNat_dvd_left.2 h1
  have k2 : (P : Int) ∣ b := Int.ofNat_dvd_left.2 h2
  exact Int.ofNat_dvd_left.1 (Int.dvd_sub k1 k2)
theorem vlA_dvd (k : Nat) (hk : k = 1021) : 2 ^ k ∣ vl 4609753056924401664 := by rw [hk]; exact Nat.dvd_of_mod_eq_zero (by decide +kernel)
theorem vlB_dvd (k : Nat) (hk : k = 1009) : 2 ^ k ∣ vl 4454258360616747008 := by rw [hk]; exact Nat.dvd_of_mod_eq_zero (by decide +kernel)
theorem vlC_eq (k : Nat) (hk : k = 978) : vl 4297306550709518336 = 160220439 * 2 ^ k := by rw [hk]; decide +kernel
theorem c_odd (q : Nat) (j k l : Nat) (hj : j = 1009) (hk : k = 978) (h : 2 ^ j ∣ q * (160220439 * 2 ^ k)) : 2147483648 ∣ q := by
  rw [show j = 31 + k by omega, Nat.pow_add, ← Nat.mul_assoc] at h
  have h2 := Nat.dvd_of_mul_dvd_mul_right (Nat.two_pow_pos k) h
  rw [show (2 : Nat) ^ 31 = 2147483648 by decide] at h2
  exact Nat.Coprime.dvd_of_dvd_mul_right (by decide) h2
end Go.Proofs.Ytdbfhbpillgacaa.Fl
namespace Go.Proofs.Ytdbfhbpillgacaa
open Go.ChangeShapes Go.WideShapes Go.ChangeAt Go.RowKit
set_option linter.unusedVariables false
theorem fit_ng (x : Nat) : fitB (Fl.ng x) = fitB x := by unfold fitB; rw [Fl.rg_ng]
/-- the whole number of times: m, and what it is -/
theorem fol_at {x n : Nat} (c : Nat) (hc : c = 1074) (hx : x < 18446744073709551616) (hr : Fl.rg x ≤ 4697254411347427328) (h : folR x 4603909380684499075 n) :
    ∃ b k R, n = Fl.wd b R ∧ k ≤ 4194304 ∧ R = Fl.rq (k * 2 ^ c) 0 ∧ Fl.vl R = k * 2 ^ c ∧ R < 9218868437227405312 ∧ (¬ k = 0 → 4602678819172646912 ≤ Fl.rg x) ∧ ∀ n', folR (Fl.ng x) 4603909380684499075 n' → n' = Fl.ng n := by
  obtain ⟨p, h1, h2⟩ := h
  have hm := Fl.mul_fin (x := x) (y := 4603909380684499075) (by omega) (by decide)
  have e1 : p = Fl.wd (Fl.sg x ^^ Fl.sg 4603909380684499075) (Fl.rq (Fl.vl (Fl.rg x) * Fl.vl (Fl.rg 4603909380684499075)) 1074) := by
    rcases h1.2 with k | k
    · exact (Option.some.inj (hm.symm.trans k)).symm
    · exact absurd (hm.symm.trans k.1) (by intro c; cases c)
  rw [show Fl.rg 4603909380684499075 = 4603909380684499075 by decide] at e1
  have hle : Fl.rq (Fl.vl (Fl.rg x) * Fl.vl 4603909380684499075) 1074 ≤ 4697254411347427328 := by
    have a := Fl.rq_mono (Fl.vl (Fl.rg x) * Fl.vl 4603909380684499075) (Fl.vl 4697254411347427328 * Fl.vl 4603909380684499075) 1074 (Nat.mul_le_mul (mvl hr) (Nat.le_refl _))
    exact Nat.le_trans a (by decide +kernel)
  have hg : Fl.rg p = Fl.rq (Fl.vl (Fl.rg x) * Fl.vl 4603909380684499075) 1074 := by rw [e1]; exact Fl.rg_wd _ _ (by omega)
  have np : Fl.nan p = false := by unfold Fl.nan; exact decide_eq_false (by omega)
  obtain ⟨n1, n2⟩ := h2
  rw [if_neg (by rw [np]; decide)] at n2
  have hv : Fl.vl (Fl.rg p) ≤ 4194304 * 2 ^ c := by
    refine Nat.le_trans (mvl (b := 4697254411347427328) (by omega)) ?_
    rw [hc]
    decide +kernel
  obtain ⟨k, R, k1, k2, k3, k4, k5, k6⟩ := Fl.whole_at c hc (by omega) hv
  refine ⟨Fl.sg p, k, R, n2.trans k4, k2, k3, k5, k6, ?_, ?_⟩
  · intro hk
    rcases Nat.lt_or_ge (Fl.rg x) 4602678819172646912 with c2 | c2
    · exfalso
      apply hk
      rw [k1]
      refine Fl.rne_small _ _ ?_
      have a := Fl.rq_mono (Fl.vl (Fl.rg x) * Fl.vl 4603909380684499075) (Fl.vl 4602678819172646912 * Fl.vl 4603909380684499075) 1074 (Nat.mul_le_mul (mvl (by omega)) (Nat.le_refl _))
      have b : Fl.vl (Fl.rg p) ≤ Fl.vl 4600000000000000000 := by
        rw [hg]
        exact mvl (Nat.le_trans a (by decide +kernel))
      refine Nat.lt_of_le_of_lt (Nat.mul_le_mul_left 2 b) ?_
      rw [hc]
      decide +kernel
    · exact c2
  · rintro n' ⟨p', j1, j2, j3⟩
    have ep : p' = Fl.ng p := by
      rcases mul_left hx h1 j1 (Or.inl rfl) (simR.refl _) with e | ⟨e, _⟩
      · exact e
      · rw [np] at e; cases e
    subst ep
    rw [Fl.nan_ng, if_neg (by rw [np]; decide)] at j3
    rw [j3, n2]
    exact (Fl.whF_ng h1.1 np).1
set_option maxRecDepth 4000 in
theorem qua_mir {x y y' : Nat} {n n' : Int} (hx : x < 18446744073709551616) (h : quaR x y n) (k : quaR (Fl.ng x) y' n') : simN y y' ∧ (n + n') % 4 = 0 := by
  obtain ⟨_, h⟩ := h
  obtain ⟨_, k⟩ := k
  rw [fit_ng] at k
  by_cases c : fitB x = true
  · rw [if_pos c] at h k
    have hr := (fit_rg hx c).2
    obtain ⟨m, h1, h2⟩ := h
    obtain ⟨m', k1, k2⟩ := k
    obtain ⟨cc, hcc⟩ : ∃ c, c = 1074 := ⟨_, rfl⟩
    obtain ⟨b, q, R, f1, f2, f3, f4, f5, f6, f7⟩ := fol_at cc hcc hx hr h1
    have em := f7 m' k1
    subst em
    have hml : m < 18446744073709551616 := by rw [f1]; exact Fl.wd_lt _ _ (by omega)
    have nm : Fl.nan m = false := by rw [f1]; exact Fl.nan_wd _ _ (by omega)
    have t1 : Fl.eqF m 0 = decide (R = 0) := by
      rw [(up_tests hml nm).2.1, f1, Fl.rg_wd _ _ (by omega)]
    have t2 : Fl.eqF (Fl.ng m) 0 = decide (R = 0) := by
      rw [(up_tests (Fl.ng_lt hml) (by rw [Fl.nan_ng]; exact nm)).2.1, Fl.rg_ng, f1, Fl.rg_wd _ _ (by omega)]
    rw [t1] at h2
    rw [t2] at k2
    by_cases z : R = 0
    · rw [if_pos (decide_eq_true z)] at h2 k2
      refine ⟨Or.inl (by rw [h2.1, k2.1]), ?_⟩
      rw [h2.2, k2.2]; rfl
    · rw [if_neg (by rw [decide_eq_false z]; decide)] at h2 k2
      obtain ⟨a1, q1, a2, a3⟩ := h2
      obtain ⟨b1, q2, b2, b3⟩ := k2
      have i1 := Fl.int_wd b R q cc hcc f4 f5 f2
      have i2 := Fl.int_wd (!b) R q cc hcc f4 f5 f2
      rw [Fl.ng_wd _ _ (by omega)] at i2
      rw [← f1] at i1 i2
      have eq1 : q1 = if b then -(q : Int) else q := Option.some.inj (a2.symm.trans i1)
      have eq2 : q2 = if !b then -(q : Int) else q := Option.some.inj (b2.symm.trans i2)
      have hqq : q2 = -q1 := by rw [eq1, eq2]; cases b <;> simp
      refine ⟨?_, by rw [a3, b3, hqq]; omega⟩
      have q0 : ¬ q = 0 := by
        intro e
        apply z
        rw [f3, e, Nat.zero_mul]; rfl
      have hx5 := f6 q0
      obtain ⟨p, d, s, e, r, l1, l2, l3, l4, l5, l6⟩ := a1
      obtain ⟨p', d', s', e', r', o1, o2, o3, o4, o5, o6⟩ := b1
      have hv : Fl.vl (Fl.rq (q * 2 ^ cc) 0) = q * 2 ^ cc := by rw [← f3]; exact f4
      have hf0 : Fl.rq (q * 2 ^ cc) 0 < 9218868437227405312 := by rw [← f3]; exact f5
      have hm : m = Fl.wd b (Fl.rq (q * 2 ^ cc) 0) := by rw [← f3]; exact f1
      have bnd : ∀ a : Nat, Fl.rq (q * Fl.vl a) 0 ≤ Fl.rq (4194304 * Fl.vl a) 0 := fun a => Fl.rq_mono _ _ 0 (Nat.mul_le_mul_right _ f2)
      have gA : Fl.rg 4609753056924401664 = 4609753056924401664 := by decide
      have gB : Fl.rg 4454258360616747008 = 4454258360616747008 := by decide
      have gC : Fl.rg 4297306550709518336 = 4297306550709518336 := by decide
      obtain ⟨mp, ep, rp, pl⟩ := mir_mul hcc hm hv hf0 (by decide) (by decide) l1 o1 4710765210229538816 (by rw [gA]; exact Nat.le_trans (bnd _) (by decide +kernel)) (by decide)
      obtain ⟨ms, es, rs, sl⟩ := mir_mul hcc hm hv hf0 (by decide) (by decide) l3 o3 4710765210229538816 (by rw [gB]; exact Nat.le_trans (bnd _) (by decide +kernel)) (by decide)
      obtain ⟨mr, er, rr, rl⟩ := mir_mul hcc hm hv hf0 (by decide) (by decide) l5 o5 4710765210229538816 (by rw [gC]; exact Nat.le_trans (bnd _) (by decide +kernel)) (by decide)
      rw [gA] at rp
      rw [gB] at rs
      rw [gC] at rr
      have mx : Mir 4697254411347427328 x (Fl.ng x) := ⟨hr, by rw [Fl.rg_ng]; exact hr, Fl.ng_lt hx, Fl.val_ng hx⟩
      obtain ⟨md, vd, _, rd⟩ := mir_sub pl mx mp (by decide) (by decide) l2 o2
      have md' : Mir 4715268809856909312 d d' := ⟨Nat.le_trans md.1 (by decide +kernel), Nat.le_trans md.2.1 (by decide +kernel), md.2.2⟩
      obtain ⟨me, ve, _, re⟩ := mir_sub sl md' ms (by decide) (by decide) l4 o4
      have me' : Mir 4719772409484279808 e e' := ⟨Nat.le_trans me.1 (by decide +kernel), Nat.le_trans me.2.1 (by decide +kernel), me.2.2⟩
      obtain ⟨_, _, hne, _⟩ := mir_sub rl me' mr (by decide) (by decide) l6 o6
      left
      apply hne
      intro hz
      -- the difference would be nought
      obtain ⟨k21, hk21⟩ : ∃ k, k = 1021 := ⟨_, rfl⟩
      obtain ⟨k09, hk09⟩ : ∃ k, k = 1009 := ⟨_, rfl⟩
      obtain ⟨k78, hk78⟩ : ∃ k, k = 978 := ⟨_, rfl⟩
      have dx : 2 ^ k21 ∣ Fl.vl (Fl.rg x) := Fl.vl_dvd _ k21 hk21 hx5 (by omega)
      have dp : 2 ^ k21 ∣ Fl.vl (Fl.rg p) := by
        rw [rp]
        exact Fl.rq_dvd _ _ (by have := mp.1; omega) (Nat.dvd_trans (Fl.vlA_dvd k21 hk21) (Nat.dvd_mul_left _ _))
      have dd : 2 ^ k21 ∣ Fl.vl (Fl.rg d) := by
        rw [rd]
        exact Fl.rq_dvd _ _ (by have := md'.1; omega) (Fl.sub_dvd (by rw [Fl.val_abs]; exact dx) (by rw [Fl.val_abs]; exact dp))
      have ds : 2 ^ k09 ∣ Fl.vl (Fl.rg s) := by
        rw [rs]
        exact Fl.rq_dvd _ _ (by have := ms.1; omega) (Nat.dvd_trans (Fl.vlB_dvd k09 hk09) (Nat.dvd_mul_left _ _))
      have de : 2 ^ k09 ∣ Fl.vl (Fl.rg e) := by
        rw [re]
        exact Fl.rq_dvd _ _ (by have := me'.1; omega) (Fl.sub_dvd (by rw [Fl.val_abs]; exact Nat.dvd_trans (Nat.pow_dvd_pow 2 (by omega)) dd) (by rw [Fl.val_abs]; exact ds))
      have her : Fl.vl (Fl.rg e) = Fl.vl (Fl.rg r) := by
        rw [← Fl.val_abs, ← Fl.val_abs, show Fl.val e = Fl.val r by omega]
      have hC := Fl.vlC_eq k78 hk78
      have hvr : Fl.vl (Fl.rg r) = q * (160220439 * 2 ^ k78) := by
        rw [rr, hC]
        have hrep := Fl.rq_rep (q * (160220439 * 2 ^ k78)) ⟨q * 160220439, k78, by rw [Nat.mul_assoc], by
          have := Nat.mul_le_mul_right 160220439 f2
          omega⟩ (by
          rw [← Nat.mul_assoc, Fl.log2_mul _ _ (by intro e; rcases Nat.mul_eq_zero.1 e with e | e; exact q0 e; cases e)]
          have hlt : q * 160220439 < 2 ^ 60 := by
            have := Nat.mul_le_mul_right 160220439 f2
            omega
          have := Fl.log2_of_lt hlt (by decide)
          omega)
        exact hrep.1
      rw [her, hvr] at de
      have hd := Fl.c_odd q k09 k78 0 hk09 hk78 de
      have := Nat.le_of_dvd (by omega) hd
      omega
  · rw [if_neg c] at h k
    exact ⟨Or.inr ⟨h.1, k.1⟩, by rw [h.2, k.2]; rfl⟩
theorem tur_mir {x a b a' b' : Nat} (hx : x < 18446744073709551616) (h : turR x a b) (k : turR (Fl.ng x) a' b') : simR a' (Fl.ng a) ∧ simR b' b := by
  obtain ⟨_, _, h⟩ := h
  obtain ⟨_, _, k⟩ := k
  rw [fit_ng] at k
  by_cases c : fitB x = true
  · rw [if_pos c] at h k
    obtain ⟨y, n, s, d, h1, h2, h3, h4⟩ := h
    obtain ⟨y', n', s', d', k1, k2, k3, k4⟩ := k
    obtain ⟨my, mn⟩ := qua_mir hx h1 k1
    have hyl := h1.1
    have es := (sin_mir hyl h2 k2 my).sim
    have ec := cos_mir hyl h3 k3 my
    have r1 := h1.range
    have r2 := k1.range
    have hsl : s < 18446744073709551616 := by obtain ⟨_, _, _, _, h⟩ := h2; exact h.1
    have hdl : d < 18446744073709551616 := by obtain ⟨z, _, h⟩ := h3; exact cosQ_lt _ _ h
    have nes := ng_sim es
    rw [Fl.ng_ng hsl] at nes
    have nec := ng_sim ec
    have sy : ∀ u v, simR u v → simR v u := fun u v h => by rcases h with e | ⟨e1, e2⟩; exact Or.inl e.symm; exact Or.inr ⟨e2, e1⟩
    rcases h4 with ⟨rfl, rfl, rfl⟩ | ⟨rfl, rfl, rfl⟩ | ⟨rfl, rfl, rfl⟩ | ⟨rfl, rfl, rfl⟩ <;> rcases k4 with ⟨rfl, rfl, rfl⟩ | ⟨rfl, rfl, rfl⟩ | ⟨rfl, rfl, rfl⟩ | ⟨rfl, rfl, rfl⟩ <;> first
      | (exfalso; omega)
      | exact ⟨es, sy _ _ ec⟩
      | exact ⟨sy _ _ nec, es⟩
      | exact ⟨by rw [Fl.ng_ng hsl]; exact nes, sy _ _ nec⟩
      | exact ⟨by rw [Fl.ng_ng hdl]; exact sy _ _ ec, nes⟩
  · rw [if_neg c] at h k
    exact ⟨Or.inr ⟨k.1, by rw [Fl.nan_ng]; exact h.1⟩, Or.inr ⟨k.2, h.2⟩⟩
theorem ang_lt {t v : Nat} (h : angR t v) : v < 18446744073709551616 := by
  unfold angR at h
  by_cases c : Fl.ltF 4601130706800738304 t = true
  · rw [if_pos c] at h
    obtain ⟨_, _, _, _, _, _, _, _, _, _, h⟩ := h
    exact h.1
  · rw [if_neg c] at h
    obtain ⟨_, _, _, _, h⟩ := h
    exact h.1
theorem bas_lt {p q b : Nat} (h : basR p q b) : b < 18446744073709551616 := by
  unfold basR at h
  by_cases c : p = 0
  · rw [if_pos c] at h; omega
  · rw [if_neg c] at h
    by_cases c2 : p = 9218868437227405312 ∧ q = 9218868437227405312
    · rw [if_pos c2] at h; omega
    · rw [if_neg c2] at h
      by_cases c3 : Fl.leF p q = true
      · rw [if_pos c3] at h
        obtain ⟨_, _, h⟩ := h
        exact ang_lt h
      · rw [if_neg c3] at h
        obtain ⟨_, _, _, _, _, _, h⟩ := h
        exact h.1
theorem sid_lt {x b r : Nat} (h : sidR x b r) (hb : b < 18446744073709551616) : r < 18446744073709551616 := by
  unfold sidR at h
  by_cases c : Fl.sg x = true
  · rw [if_pos c] at h
    obtain ⟨_, _, h⟩ := h
    exact h.1
  · rw [if_neg c] at h; omega
theorem off_mir {y x r r' : Nat} (hy : y < 18446744073709551616) (hr : r < 18446744073709551616) (h : offR y x r) (k : offR (Fl.ng y) x r') : simR r' (Fl.ng r) := by
  unfold offR at h k
  rw [Fl.nan_ng, Fl.rg_ng] at k
  by_cases c : (Fl.nan y || Fl.nan x) = true
  · rw [if_pos c] at h k; exact Or.inr ⟨k, by rw [Fl.nan_ng]; exact h⟩
  · rw [if_neg c] at h k
    obtain ⟨b, s, h1, h2, h3⟩ := h
    obtain ⟨b', s', k1, k2, k3⟩ := k
    have es := k2.sim h2 (k1.sim h1)
    rw [Fl.sg_ng hy] at k3
    cases e : Fl.sg y
    · rw [e] at h3 k3
      rw [if_neg (by decide)] at h3
      rw [if_pos (by decide)] at k3
      rw [h3, k3]
      exact ng_sim es
    · rw [e] at h3 k3
      rw [if_pos rfl] at h3
      rw [if_neg (by decide)] at k3
      have hs := sid_lt h2 (bas_lt h1)
      rw [h3, k3, Fl.ng_ng hs]
      exact es
end Go.Proofs.Ytdbfhbpillgacaa
