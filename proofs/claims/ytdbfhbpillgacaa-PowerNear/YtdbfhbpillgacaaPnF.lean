/-
  OWN TEXT: sines and cosines of fit floats, as they come out, are at most 1 without their signs.
-/
import Derived.Test.YtdbfhbpillgacaaPnE
import Derived.Test.YtdbfhbpillgacaaTwA
import Derived.Test.YtdbfhbpillgacaaEtA
set_option linter.unusedVariables false
set_option exponentiation.threshold 3000
namespace Go.Proofs.Ytdbfhbpillgacaa
theorem nan_fin {x : Nat} (h : Fl.rg x < 9218868437227405312) : Fl.nan x = false := by unfold Fl.nan; exact decide_eq_false (by omega)
theorem sub_bd {a b x ra rb : Nat} (hb : b < 18446744073709551616) (ha : Fl.rg a ≤ ra) (hb' : Fl.rg b ≤ rb) (fa : ra < 9218868437227405312) (fb : rb < 9218868437227405312) (h : opR .sub a b x) : Fl.rg x ≤ Fl.rq (Fl.vl ra + Fl.vl rb) 0 := by
  have e := sub_word hb (by omega) (by omega) h
  have hl := Fl.rq_le (Fl.val a - Fl.val b).natAbs 0
  rw [e, Fl.rg_wd _ _ (by omega)]
  refine Fl.rq_mono _ _ _ ?_
  have va := Fl.val_abs a
  have vb := Fl.val_abs b
  have la := Fl.vl_le_iff.2 ha
  have lb := Fl.vl_le_iff.2 hb'
  omega
theorem mul_bd {a b x ra rb : Nat} (ha : Fl.rg a ≤ ra) (hb : Fl.rg b ≤ rb) (fa : ra < 9218868437227405312) (fb : rb < 9218868437227405312) (h : opR .mul a b x) : Fl.rg x ≤ Fl.rq (Fl.vl ra * Fl.vl rb) 1074 := by
  have e := mul_word (by omega) (by omega) h
  have hl := Fl.rq_le (Fl.vl (Fl.rg a) * Fl.vl (Fl.rg b)) 1074
  rw [e, Fl.rg_wd _ _ (by omega)]
  exact Fl.rq_mono _ _ _ (Nat.mul_le_mul (Fl.vl_le_iff.2 ha) (Fl.vl_le_iff.2 hb))
theorem c1 : Fl.rq (3602879701896396 * 2 ^ 1022) 0 ≤ 4606056518893174784 := by decide +kernel
theorem c2 : Fl.rq (Fl.vl 4697254411347427328 * Fl.vl 4454258360616747008) 1074 ≤ 4562146422526312448 := by decide +kernel
theorem c3 : Fl.rq (Fl.vl 4606056518893174784 + Fl.vl 4562146422526312448) 0 ≤ 4606619468846596096 := by decide +kernel
theorem c4 : Fl.rq (Fl.vl 4697254411347427328 * Fl.vl 4297306550709518336) 1074 ≤ 4562146422526312448 := by decide +kernel
theorem c5 : Fl.rq (Fl.vl 4606619468846596096 + Fl.vl 4562146422526312448) 0 ≤ 4607182418800017408 := by decide +kernel
theorem c6 : Fl.rq (Fl.vl 4697254411347427328 * Fl.vl 4603909380684499075) 1074 < 9218868437227405312 := by decide +kernel
theorem c7 : Fl.rq (Fl.vl 4697254411347427328 * Fl.vl 4609753056924401664) 1074 < 9218868437227405312 := by decide +kernel
theorem vone : Fl.vl 4607182418800017408 = 4503599627370496 * 2 ^ 1022 := by decide +kernel
/-- the rest of a fit float is at most 1 -/
theorem qua_bd {x y : Nat} {n : Int} (hx : x < 18446744073709551616) (hf : fitB x = true) (h : quaR x y n) : Fl.rg y ≤ 4607182418800017408 := by
  obtain ⟨_, h⟩ := h
  rw [if_pos hf] at h
  obtain ⟨m, ⟨p, hp, hw⟩, h⟩ := h
  have hr := (fit_rg hx hf).2
  have ep := mul_word (by omega) (by decide) hp
  rw [show Fl.sg 4603909380684499075 = false by decide, Bool.xor_false, show Fl.rg 4603909380684499075 = 4603909380684499075 by decide] at ep
  have hX := Fl.vl_le_iff.2 hr
  have lp : Fl.rq (Fl.vl (Fl.rg x) * Fl.vl 4603909380684499075) 1074 < 9218868437227405312 := Nat.lt_of_le_of_lt (Fl.rq_mono _ _ _ (Nat.mul_le_mul_right _ hX)) c6
  have rp : Fl.rg p = Fl.rq (Fl.vl (Fl.rg x) * Fl.vl 4603909380684499075) 1074 := by rw [ep]; exact Fl.rg_wd _ _ (by omega)
  have sp : Fl.sg p = Fl.sg x := by rw [ep]; exact Fl.sg_wd _ _ (by omega)
  obtain ⟨c, hc⟩ : ∃ c, c = 1074 := ⟨_, rfl⟩
  have em : m = Fl.wd (Fl.sg p) (Fl.rq (Fl.rne (Fl.vl (Fl.rg p)) c * 2 ^ c) 0) := by
    obtain ⟨_, hw⟩ := hw
    rw [if_neg (by rw [nan_fin (by omega)]; decide)] at hw
    rw [hw]
    exact Fl.whF_num c hc (by omega)
  generalize hM : Fl.rne (Fl.vl (Fl.rg p)) c = M at *
  have hMle : M ≤ 1048576 := by
    have := Fl.rne_mono (Fl.vl (Fl.rg p)) (1048576 * 2 ^ c) c (by
      have k : Fl.vl (Fl.rg p) ≤ Fl.vl 4697254411347427328 := Fl.vl_le_iff.2 (by
        rw [rp]
        have q := Fl.rq_mono (Fl.vl (Fl.rg x) * Fl.vl 4603909380684499075) (Fl.vl 4697254411347427328 * Fl.vl 4607182418800017408) 1074 (Nat.mul_le_mul hX (Fl.vl_le_iff.2 (by decide)))
        exact Nat.le_trans q (by decide +kernel))
      have k2 : Fl.vl 4697254411347427328 = 1048576 * 2 ^ c := by rw [hc]; decide +kernel
      omega)
    rw [Fl.rne_exact, hM] at this
    exact this
  have hrep := Fl.rq_rep (M * 2 ^ c) ⟨M, c, rfl, by omega⟩ (by
    by_cases z : M * 2 ^ c = 0
    · rw [z]; decide
    · refine (Nat.log2_lt z).2 ?_
      have : M * 2 ^ c ≤ 2 ^ 20 * 2 ^ c := Nat.mul_le_mul_right _ hMle
      rw [← Nat.pow_add] at this
      exact Nat.lt_of_le_of_lt this (Nat.pow_lt_pow_right (by omega) (by omega)))
  have rm : Fl.rg m = Fl.rq (M * 2 ^ c) 0 := by rw [em]; exact Fl.rg_wd _ _ (by omega)
  have vm : Fl.vl (Fl.rg m) = M * 2 ^ c := by rw [rm]; exact hrep.1
  have sm : Fl.sg m = Fl.sg x := by rw [em, ← sp]; exact Fl.sg_wd _ _ (by omega)
  have hm20 : Fl.rg m ≤ 4697254411347427328 := by
    refine Fl.vl_le_iff.1 ?_
    rw [vm]
    have k2 : Fl.vl 4697254411347427328 = 1048576 * 2 ^ c := by rw [hc]; decide +kernel
    rw [k2]
    exact Nat.mul_le_mul_right _ hMle
  have lq : Fl.rq (M * 2 ^ c * Fl.vl 4609753056924401664) c < 9218868437227405312 := by
    rw [← vm, hc]
    exact Nat.lt_of_le_of_lt (Fl.rq_mono _ _ _ (Nat.mul_le_mul_right _ (Fl.vl_le_iff.2 hm20))) c7
  obtain ⟨g, hg⟩ : ∃ g, g = 1022 := ⟨_, rfl⟩
  obtain ⟨L1, L2, _⟩ := less_first c g (Fl.vl (Fl.rg x)) (Fl.rg p) M hc hg hX (by rw [rp, hc]) (by rw [rp]; exact lp) hM.symm lq
  have v1 : Fl.vl 4607182418800017408 = 4503599627370496 * 2 ^ g := by rw [vone, hg]
  by_cases c2' : Fl.eqF m 0 = true
  · rw [if_pos c2'] at h
    have hm0 : Fl.rg m = 0 := by
      have nm : Fl.nan m = false := nan_fin (by omega)
      rw [Fl.eqF_of nm (by decide), show Fl.key 0 = 0 by decide] at c2'
      have := of_decide_eq_true c2'
      rw [Fl.rg_key, this]; rfl
    have hM0 : M * 2 ^ c = 0 := by rw [← vm, hm0]; decide
    rw [hM0, Nat.zero_mul] at L1
    have z0 : Fl.rq 0 c = 0 := by unfold Fl.rq; rfl
    rw [z0, show Fl.vl 0 = 0 by decide] at L1
    rw [h.1]
    refine Fl.vl_le_iff.1 ?_
    rw [v1]
    have : 3602879701896396 * 2 ^ g ≤ 4503599627370496 * 2 ^ g := Nat.mul_le_mul_right _ (by decide)
    generalize 2 ^ g = G at *
    omega
  · rw [if_neg c2'] at h
    obtain ⟨⟨p1, d, q, e, r, a1, a2, a3, a4, a5, a6⟩, _⟩ := h
    have fm : Fl.rg m < 9218868437227405312 := by omega
    have e1 := mul_word fm (by decide) a1
    rw [show Fl.sg 4609753056924401664 = false by decide, Bool.xor_false, show Fl.rg 4609753056924401664 = 4609753056924401664 by decide, vm, ← hc] at e1
    have r1 : Fl.rg p1 = Fl.rq (M * 2 ^ c * Fl.vl 4609753056924401664) c := by rw [e1]; exact Fl.rg_wd _ _ (by omega)
    have s1 : Fl.sg p1 = Fl.sg x := by rw [e1, ← sm]; exact Fl.sg_wd _ _ (by omega)
    have hd : Fl.rg d ≤ 4606056518893174784 := by
      have e2 := sub_word a1.1 (by omega) (by omega) a2
      have hl := Fl.rq_le (Fl.val x - Fl.val p1).natAbs 0
      rw [e2, Fl.rg_wd _ _ (by omega)]
      refine Nat.le_trans (Fl.rq_mono _ (3602879701896396 * 2 ^ g) 0 ?_) (by rw [hg]; exact c1)
      rw [← r1] at L1 L2
      have vx : Fl.val x = if Fl.sg x then -(Fl.vl (Fl.rg x) : Int) else Fl.vl (Fl.rg x) := rfl
      have vp : Fl.val p1 = if Fl.sg p1 then -(Fl.vl (Fl.rg p1) : Int) else Fl.vl (Fl.rg p1) := rfl
      rw [s1] at vp
      rw [vx, vp]
      generalize 3602879701896396 * 2 ^ g = K at *
      generalize Fl.vl (Fl.rg x) = X at *
      generalize Fl.vl (Fl.rg p1) = Q at *
      clear vx vp e2 hl hM hMle rm vm lq hX
      cases Fl.sg x <;> simp <;> omega
    have hq : Fl.rg q ≤ 4562146422526312448 := Nat.le_trans (mul_bd hm20 (show Fl.rg 4454258360616747008 ≤ 4454258360616747008 by decide) (by decide) (by decide) a3) c2
    have he : Fl.rg e ≤ 4606619468846596096 := Nat.le_trans (sub_bd a3.1 hd hq (by decide) (by decide) a4) c3
    have hrr : Fl.rg r ≤ 4562146422526312448 := Nat.le_trans (mul_bd hm20 (show Fl.rg 4297306550709518336 ≤ 4297306550709518336 by decide) (by decide) (by decide) a5) c4
    exact Nat.le_trans (sub_bd a5.1 he hrr (by decide) (by decide) a6) c5
end Go.Proofs.Ytdbfhbpillgacaa
