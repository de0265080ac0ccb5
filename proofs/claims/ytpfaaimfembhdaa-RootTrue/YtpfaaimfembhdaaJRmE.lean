/-
  OWN TEXT: a length is at most both parts together, or the next float.
-/
import Derived.Test.YtpfaaimfembhdaaJRmCToRmD
set_option linter.unusedVariables false
set_option exponentiation.threshold 3000
namespace Go.Proofs.Ytpfaaimfembhdaa
/-- a square of at most 1, rounded: at most one half more than it is, and a little -/
theorem sq_top (c v r : Nat) (hc : c = 1074) (hr : r ≤ 4607182418800017408) (hv : v = Fl.vl r) : 2 * (Fl.vl (Fl.rq (v * v) c) * 2 ^ c) ≤ 3 * (v * v) + 2 ^ 1182 := by
  have hfin : Fl.rq (v * v) c ≤ 4607182418800017408 := by
    rw [hv, hc, ← one_sq]
    exact Fl.rq_mono _ _ _ (Nat.mul_le_mul (Fl.vl_le_iff.2 hr) (Fl.vl_le_iff.2 hr))
  obtain ⟨k, M, e, hM, hk, hk2⟩ := Fl.rung_parts r (by omega)
  have ev : v = M * 2 ^ k := by rw [hv, e]; exact Fl.vl_comb k M (by omega) hk
  by_cases c1 : c ≤ k + k
  · have hM2 : 4503599627370496 ≤ M := by omega
    obtain ⟨E, hE⟩ : ∃ E, E = 2 ^ k * 2 ^ k := ⟨_, rfl⟩
    have hmid := Fl.sq_mid M k c (k + k - c) E (by omega) hE hM2 hM (by rw [← ev]; omega)
    have h3 := hmid.2.2.1
    rw [← ev] at h3
    have evv : v * v = M * M * E := by rw [ev, hE, Nat.mul_mul_mul_comm]
    have hMM : 2 * 4503599627370496 * E ≤ M * M * E := Nat.mul_le_mul_right _ (Nat.le_trans (show 2 * 4503599627370496 ≤ 4503599627370496 * 4503599627370496 by decide) (Nat.mul_le_mul hM2 hM2))
    have hMM' : 2 * 4503599627370496 * E = 2 * (4503599627370496 * E) := Nat.mul_assoc ..
    rw [evv] at h3 ⊢
    omega
  · have hv2 : v < 2 ^ 590 := by
      rw [ev]
      refine Nat.lt_of_lt_of_le (Nat.mul_lt_mul_of_pos_right hM (Nat.two_pow_pos k)) ?_
      rw [show (9007199254740992 : Nat) = 2 ^ 53 from rfl, ← Nat.pow_add]
      exact Nat.pow_le_pow_right (by omega) (by omega)
    have hvv : v * v ≤ 2 ^ 590 * 2 ^ 590 := Nat.mul_le_mul (by omega) (by omega)
    have t1 : Fl.rq (2 ^ 590 * 2 ^ 590) 1074 = 247697979505377280 := by decide +kernel
    have t2 : Fl.vl 247697979505377280 = 2 ^ 106 := by decide +kernel
    have hq : Fl.rq (v * v) c ≤ 247697979505377280 := by
      rw [hc, ← t1]; exact Fl.rq_mono _ _ _ hvv
    have hq2 : Fl.vl (Fl.rq (v * v) c) ≤ 2 ^ 106 := by rw [← t2]; exact Fl.vl_le_iff.2 hq
    have hq3 : Fl.vl (Fl.rq (v * v) c) * 2 ^ c ≤ 2 ^ 106 * 2 ^ c := Nat.mul_le_mul_right _ hq2
    have t3 : 2 * (2 ^ 106 * 2 ^ c) ≤ 2 ^ 1182 := by rw [hc]; decide +kernel
    omega
/-- the squares together are at most the square of a float that is above the one, and not below both together -/
theorem squares_le (c g U D v p q e : Nat) (hc : c = 1074) (hg : g = 1021) (he : e = 2 ^ g) (hU : 4503599627370496 * e ≤ U) (hD : e ≤ D) (hv : v ≤ D) (hvU : v ≤ U)
    (hp : Fl.vl p * 2 ^ c ≤ U * U + 4503599627370496 * (e * e)) (hq : 2 * (Fl.vl q * 2 ^ c) ≤ 3 * (v * v) + 2 ^ 1182) : (Fl.vl p + Fl.vl q) * 2 ^ c ≤ (U + D) * (U + D) := by
  have h1 : v * v ≤ D * D := Nat.mul_le_mul hv hv
  have h2 : v * v ≤ U * D := Nat.mul_le_mul hvU hv
  have h3 : 4503599627370496 * e * e ≤ U * D := Nat.mul_le_mul hU hD
  have h4 : 2 ^ 1182 ≤ e * e := by rw [he, hg, ← Nat.pow_add]; exact Nat.pow_le_pow_right (by omega) (by omega)
  have h5 : (U + D) * (U + D) = U * U + 2 * (U * D) + D * D := by rw [Nat.add_mul, Nat.mul_add, Nat.mul_add, Nat.mul_comm D U]; omega
  rw [Nat.mul_assoc] at h3
  rw [Nat.add_mul, h5]
  generalize e * e = ee at *
  generalize U * D = ud at *
  generalize v * v = vv at *
  generalize D * D = dd at *
  generalize U * U = uu at *
  generalize Fl.vl p * 2 ^ c = pp at *
  generalize Fl.vl q * 2 ^ c = qq at *
  generalize 2 ^ 1182 = tt at *
  omega
theorem vl_next {r : Nat} (n : Nat) (hn : n ≠ 0) (hr : Fl.rq n 0 = r) (h : r < 9218868437227405312) : n ≤ Fl.vl (r + 1) := by
  obtain ⟨k, _, h2, h3⟩ := Fl.gap r h
  have := (h3 n hn hr).1
  have := Nat.two_pow_pos k
  omega
/-- twice a rung, and the next one, is at most four times as much -/
theorem next_four {x t : Nat} (hx : x < 9218868437227405312) (hz : ¬ x = 0) (ht : t ≤ Fl.rq (Fl.vl x * 2) 0) : Fl.vl (t + 1) ≤ Fl.vl x * 4 := by
  by_cases c : x < 4503599627370496
  · have h1 : Fl.vl x = x := Fl.vl_small c
    have h2 : Fl.rq (x * 2) 0 = x * 2 := by
      have := Fl.rq_vl (x * 2) (by omega)
      have h3 : Fl.vl (x * 2) = x * 2 := by
        have := Fl.vl_comb 0 (x * 2) (by omega) (Or.inl rfl)
        simpa using this
      rw [h3] at this
      exact this
    rw [h1, h2] at ht
    rw [h1]
    have h4 : Fl.vl (t + 1) = t + 1 := by
      have := Fl.vl_comb 0 (t + 1) (by omega) (Or.inl rfl)
      simpa using this
    omega
  · have h1 := Fl.vl_up x 1 (by omega)
    have h2 := Fl.vl_up x 2 (by omega)
    rw [show Fl.vl x * 2 = Fl.vl x * 2 ^ 1 from rfl, ← h1] at ht
    have h3 : Fl.rq (Fl.vl (x + 1 * 4503599627370496)) 0 ≤ x + 1 * 4503599627370496 := by
      rcases Nat.lt_or_ge 9218868437227405312 (x + 1 * 4503599627370496) with g | g
      · have := Fl.rq_le (Fl.vl (x + 1 * 4503599627370496)) 0; omega
      · rw [Fl.rq_vl _ g]; exact Nat.le_refl _
    have h4 : Fl.vl (t + 1) ≤ Fl.vl (x + 2 * 4503599627370496) := Fl.vl_le_iff.2 (by omega)
    rw [h2] at h4
    exact h4
set_option maxHeartbeats 1000000 in
/-- a length is at most both parts together, or the next float -/
theorem len_up {x y l t : Nat} (hx : x < 18446744073709551616) (hf : Fl.rg x < 9218868437227405312) (hz : ¬ Fl.rg x = 0) (sx : Fl.sg x = false) (sy : Fl.sg y = false) (h : Fl.rg y ≤ Fl.rg x) (ht : togR (scF x (-ptE x)) (scF y (-ptE x)) l)
    (hs : t = Fl.rq (Fl.vl (Fl.rg x) + Fl.vl (Fl.rg y)) 0) : Fl.rg (scF l (ptE x)) ≤ t + 1 := by
  obtain ⟨L1, L2, L3, L4, L5⟩ := len_low hx hf hz sx sy h ht
  rcases Nat.lt_or_ge (t + 1) 9218868437227405312 with hM | hM
  · obtain ⟨g, hg⟩ : ∃ g, g = 1021 := ⟨_, rfl⟩
    obtain ⟨c, hc⟩ : ∃ c, c = 1074 := ⟨_, rfl⟩
    obtain ⟨u1, u2, u3, u4⟩ := unit_form g hg hx hf hz
    have hyu := sma_unit hx hf hz h
    have vx0 := Fl.vl_pos hz
    have hvy : Fl.vl (Fl.rg y) ≤ Fl.vl (Fl.rg x) := Fl.vl_le_iff.2 h
    have hMv : Fl.vl (Fl.rg x) + Fl.vl (Fl.rg y) ≤ Fl.vl (t + 1) := vl_next _ (by omega) hs.symm (by omega)
    have ht1 : Fl.rg x ≤ t := by
      have := Fl.rq_mono (Fl.vl (Fl.rg x)) (Fl.vl (Fl.rg x) + Fl.vl (Fl.rg y)) 0 (by omega)
      rw [Fl.rq_vl _ (by omega)] at this
      omega
    have ht2 : t ≤ Fl.rq (Fl.vl (Fl.rg x) * 2) 0 := by rw [hs]; exact Fl.rq_mono _ _ _ (by omega)
    have hM4 := next_four hf hz ht2
    generalize hMM : t + 1 = M at *
    obtain ⟨rM, sM⟩ := rg_rung (r := M) (by omega)
    have fM : Fl.rg M < 9218868437227405312 := by omega
    have zM : ¬ Fl.rg M = 0 := by omega
    -- scaled
    have n1 := scF_mono (x := x) (y := M) (-ptE x) hf fM (by omega)
    have n2 : Fl.rg (scF M (-ptE x)) ≤ 4616189618054758400 := by
      rw [rg_scF fM zM, rM]
      have k1 := rz_mono (-ptE x) hM4
      have k2 := Fl.rz_shift (Fl.vl (Fl.rg x)) 2 (-ptE x)
      rw [show Fl.vl (Fl.rg x) * 2 ^ 2 = Fl.vl (Fl.rg x) * 4 from rfl, rz_form hx hf hz, rz_nat (mtF x) (g + 2) _ (by omega)] at k2
      have k3 : Fl.rq (mtF x * 2 ^ (g + 2)) 0 ≤ Fl.rq (9007199254740992 * 2 ^ (g + 2)) 0 := Fl.rq_mono _ _ _ (Nat.mul_le_mul_right _ (Nat.le_of_lt (mt_hi x)))
      have k4 : Fl.rq (9007199254740992 * 2 ^ (g + 2)) 0 = 4616189618054758400 := by rw [hg]; decide +kernel
      omega
    have eN := scale_nat (x := M) (-ptE x) fM zM (by omega) (by omega)
    have eU := scale_nat (x := x) (-ptE x) hf hz (by omega) (by omega)
    rw [rM] at eN
    generalize hNN : Fl.rg (scF M (-ptE x)) = N at *
    have rU : Fl.rg (Fl.rg (scF x (-ptE x))) = Fl.rg (scF x (-ptE x)) := Fl.rg_rg _
    obtain ⟨tp, htp⟩ : ∃ tp, tp = 2 ^ (- -ptE x).toNat := ⟨_, rfl⟩
    obtain ⟨tm, htm⟩ : ∃ tm, tm = 2 ^ (-ptE x).toNat := ⟨_, rfl⟩
    have ptp : 0 < tp := by rw [htp]; exact Nat.two_pow_pos _
    have ptm : 0 < tm := by rw [htm]; exact Nat.two_pow_pos _
    rw [← htp, ← htm] at eN eU
    -- N is above U
    have hMx : Fl.vl (Fl.rg x) < Fl.vl M := Fl.vl_mono (by omega)
    have hNU : Fl.rg (scF x (-ptE x)) < N := by
      rcases Nat.lt_or_ge (Fl.rg (scF x (-ptE x))) N with k | k
      · exact k
      · exfalso
        have k1 : Fl.vl N * tp ≤ Fl.vl (Fl.rg (scF x (-ptE x))) * tp := Nat.mul_le_mul_right _ (Fl.vl_le_iff.2 k)
        have k2 : Fl.vl (Fl.rg x) * tm < Fl.vl M * tm := Nat.mul_lt_mul_of_pos_right hMx ptm
        omega
    obtain ⟨e, he⟩ : ∃ e, e = 2 ^ g := ⟨_, rfl⟩
    have hUN : mtF x * e + e ≤ Fl.vl N := by
      have k1 : Fl.vl (Fl.rg (scF x (-ptE x)) + 1) ≤ Fl.vl N := Fl.vl_le_iff.2 hNU
      have k2 := Fl.vl_comb g (mtF x + 1) (by have := mt_hi x; omega) (Or.inr (by have := mt_lo x; omega))
      have k3 := Fl.vl_comb g (mtF x) (by have := mt_hi x; omega) (Or.inr (mt_lo x))
      have k4 : Fl.rg (scF x (-ptE x)) = g * 4503599627370496 + mtF x := by
        have := Fl.rq_vl (g * 4503599627370496 + mtF x) (by have := mt_hi x; omega)
        rw [k3] at this
        omega
      rw [k4, Nat.add_assoc, k2, Nat.add_mul, Nat.one_mul, ← he] at k1
      exact k1
    -- V
    generalize hVV : Fl.rg (scF y (-ptE x)) = V at *
    have hvN : mtF x * e + Fl.vl V ≤ Fl.vl N := by
      rcases Nat.lt_or_ge 4503599627370496 V with k | k
      · have zy : ¬ Fl.rg y = 0 := by
          intro z
          rw [scF_stay (Or.inl z)] at hVV
          omega
        have eV := scale_nat (x := y) (-ptE x) (by omega) zy (by omega) (by omega)
        rw [hVV, ← htp, ← htm] at eV
        have k1 : (Fl.vl (Fl.rg x) + Fl.vl (Fl.rg y)) * tm ≤ Fl.vl M * tm := Nat.mul_le_mul_right _ hMv
        rw [Nat.add_mul, ← eN, ← eU, ← eV, ← Nat.add_mul] at k1
        have k2 := Nat.le_of_mul_le_mul_right k1 ptp
        rw [u2, ← he] at k2
        exact k2
      · have k1 : Fl.vl V ≤ Fl.vl 4503599627370496 := Fl.vl_le_iff.2 k
        have k2 : Fl.vl 4503599627370496 = 4503599627370496 := by decide +kernel
        have k3 : 4503599627370496 ≤ e := by
          rw [he, hg, show (4503599627370496 : Nat) = 2 ^ 52 from rfl]
          exact Nat.pow_le_pow_right (by omega) (by omega)
        omega
    obtain ⟨D, hD⟩ : ∃ D, Fl.vl N = mtF x * e + D := ⟨Fl.vl N - mtF x * e, by omega⟩
    obtain ⟨p, q, s, e1, e2, e3, l1, l2, l3, l4, h4⟩ := tog_form (sg_scF0 sx hf _) (sg_scF0 sy (by omega) _) (by omega) (by omega) ht
    rw [u2, ← hc, ← he] at e1
    rw [hVV, ← hc] at e2
    have hpf : Fl.rq (mtF x * 2 ^ g * (mtF x * 2 ^ g)) c < 9218868437227405312 := by rw [← he, ← e1]; omega
    have hp := (Fl.sq_mid (mtF x) g c 968 (e * e) (by omega) (by rw [he]) (mt_lo x) (mt_hi x) hpf).2.2.1
    rw [← he, ← e1, show mtF x * mtF x * (e * e) = mtF x * e * (mtF x * e) by rw [Nat.mul_mul_mul_comm]] at hp
    have hq := sq_top c (Fl.vl V) V hc (by omega) rfl
    rw [← e2] at hq
    have hvU : Fl.vl V ≤ mtF x * e := by
      have := Fl.vl_le_iff.2 hyu
      rw [u2, ← he] at this
      exact this
    have hfin := squares_le c g (mtF x * e) D (Fl.vl V) p q e hc hg he (Nat.mul_le_mul_right _ (mt_lo x)) (by omega) (by omega) hvU hp hq
    rw [← hD] at hfin
    -- the root
    obtain ⟨k, B, eB, hB, hk, hk2⟩ := Fl.rung_parts N (by omega)
    have evN : Fl.vl N = B * 2 ^ k := by rw [eB]; exact Fl.vl_comb k B (by omega) hk
    have hk3 : 600 ≤ k := by omega
    have hsN : s ≤ Fl.rq (B * 2 ^ k * (B * 2 ^ k)) c := by
      rw [← evN, e3]
      have := Fl.rq_mul (Fl.vl p + Fl.vl q) c 0
      rw [Nat.zero_add] at this
      rw [← this]
      exact Fl.rq_mono _ _ _ hfin
    have hNf : Fl.rq (B * 2 ^ k * (B * 2 ^ k)) c < 9218868437227405312 := by
      rw [← evN, hc]
      have k1 := Fl.rq_mono (Fl.vl N * Fl.vl N) (Fl.vl 4616189618054758400 * Fl.vl 4616189618054758400) 1074 (Nat.mul_le_mul (Fl.vl_le_iff.2 n2) (Fl.vl_le_iff.2 n2))
      have k2 : Fl.rq (Fl.vl 4616189618054758400 * Fl.vl 4616189618054758400) 1074 = 4625196817309499392 := by decide +kernel
      omega
    obtain ⟨rs, ss⟩ := rg_rung (r := s) (by omega)
    have hs0 : ¬ Fl.rg s = 0 := by
      rw [rs]
      intro z
      subst z
      have hs : Ieee.double.sqrt 0 = some (Fl.wd false 0) := by decide +kernel
      have := sqt_word h4 hs
      subst this
      exact L4 rfl
    obtain ⟨r, m1, m2⟩ := Fl.sqrt_le (x := s) (b := B) (g := k) (G := k + k - c) c hc (by omega) (by omega) (by omega) hB ss hs0 hNf (by rw [rs]; exact hsN)
    have el := sqt_word h4 m1
    rw [← evN, Fl.rq_vl _ (by omega)] at m2
    obtain ⟨rl, sl⟩ := rg_rung (r := r) (by omega)
    rw [el] at L4 L5 ⊢
    rw [rg_scF L5 L4, rl]
    have f1 := rz_mono (ptE x) (Fl.vl_le_iff.2 m2)
    have f2 := scale_back (v := Fl.vl N) (v' := Fl.vl M) (ptE x) (by rw [show (ptE x).toNat = (- -ptE x).toNat by omega, ← htp, ← htm]; exact eN)
    rw [Fl.rq_vl _ (by omega)] at f2
    omega
  · omega
end Go.Proofs.Ytpfaaimfembhdaa
