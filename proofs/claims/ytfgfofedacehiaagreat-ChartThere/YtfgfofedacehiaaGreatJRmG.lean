/-
 OWN TEXT: the root of the mirrored number is the mirrored root; it does not lie to the left, and is on the number's side.
-/
import Derived.Test.YtfgfofedacehiaaGreatJRmCToRmF
set_option linter.unusedVariables false
set_option exponentiation.threshold 3000
namespace Go.Proofs.YtfgfofedacehiaaGreat
theorem rq_less (v d : Nat) : Fl.rq v d ≤ Fl.rq v 0 := by
 have := Fl.rq_mul v d 0
 rw [Nat.zero_add] at this
 rw [← this]
 exact Fl.rq_mono _ _ _ (Nat.le_mul_of_pos_right _ (Nat.two_pow_pos d))
theorem pt_range {x : Nat} (hx : x < 18446744073709551616) (hf : Fl.rg x < 9218868437227405312) (hz : ¬ Fl.rg x = 0) : -1073 ≤ ptE x ∧ ptE x ≤ 1024 := by
 obtain ⟨y1, y2, y3, y4, c1, c2, v1⟩ := nm_facts hx hf hz
 have hpt : ptE x = nmE x + (((Fl.rg (nmF x) / 4503599627370496 : Nat) : Int) - 1023 + 1) := rfl
 omega
theorem vl_half1 : Fl.vl 4602678819172646912 = 2 ^ 1073 := by decide +kernel
theorem top_r : Fl.rq (Fl.vl 4616189618054758400 * 2 ^ 512) 0 = 6922032627268452352 := by decide +kernel
theorem top_d : Fl.rq (Fl.vl 6922032627268452352 * 2) 0 = 6926536226895822848 := by decide +kernel
/-- from a half to 4, times a power of two that is not too great: a number above nought, far from the end -/
theorem sc_mid {t : Nat} (n : Int) (h1 : 4602678819172646912 ≤ t) (h2 : t ≤ 4616189618054758400) (n1 : -537 ≤ n) (n2 : n ≤ 512) : scF t n = Fl.rg (scF t n) ∧ 0 < Fl.rg (scF t n) ∧ Fl.rg (scF t n) ≤ 6922032627268452352 := by
 obtain ⟨rt, st⟩ := rg_rung (r := t) (by omega)
 have e := scF_fin (x := t) (by omega) (by omega) n
 rw [st, wd_false] at e
 have hl := Fl.rz_le (Fl.vl (Fl.rg t)) n
 obtain ⟨rr, sr⟩ := rg_rung (r := scF t n) (by rw [e]; exact hl)
 rw [rr]
 refine ⟨rfl, ?_, ?_⟩
 ·
  rw [e, rt]
  have hv : 2 ^ 1073 ≤ Fl.vl t := by rw [← vl_half1]; exact Fl.vl_le_iff.2 h1
  unfold Fl.rz
  have k1 := Fl.rq_mono (1 * 2 ^ (-n).toNat) (Fl.vl t * 2 ^ n.toNat) (-n).toNat (by
   rw [Nat.one_mul]
   refine Nat.le_trans ?_ (Nat.le_trans hv (Nat.le_mul_of_pos_right _ (Nat.two_pow_pos _)))
   exact Nat.pow_le_pow_right (by omega) (by omega))
  have k2 := Fl.rq_mul 1 (-n).toNat 0
  rw [Nat.zero_add] at k2
  rw [k2, show Fl.rq 1 0 = 1 by decide] at k1
  omega
 ·
  rw [e, rt, ← top_r]
  unfold Fl.rz
  refine Nat.le_trans (rq_less _ _) (Fl.rq_mono _ _ _ (Nat.mul_le_mul (Fl.vl_le_iff.2 h2) (Nat.pow_le_pow_right (by omega) (by omega))))
theorem quo_half {s h : Nat} (l1 : 4602678819172646912 ≤ s) (l2 : s ≤ 4620693217682128896) (k : opR .quo s 4611686018427387904 h) : 4598175219545276416 ≤ h ∧ h ≤ 4620693217682128896 := by
 obtain ⟨rs, ss⟩ := rg_rung (r := s) (by omega)
 have e := Fl.div_two (x := s) (by omega)
 rw [ss, wd_false, rs] at e
 have eh : h = Fl.rq (Fl.vl s) 1 := by
  rcases k.2 with m | m
  · exact (Option.some.inj (e.symm.trans m)).symm
  · exact absurd (e.symm.trans m.1) (by intro c; cases c)
 rw [eh]
 constructor
 ·
  have t1 : Fl.rq (Fl.vl 4602678819172646912) 1 = 4598175219545276416 := by decide +kernel
  rw [← t1]
  exact Fl.rq_mono _ _ _ (Fl.vl_le_iff.2 l1)
 ·
  refine Nat.le_trans (rq_less _ _) ?_
  rw [Fl.rq_vl _ (by omega)]
  exact l2
theorem add_mid {u l s : Nat} (su : Fl.sg u = false) (hu : Fl.rg u ≤ 4611686018427387904) (l1 : 4602678819172646912 ≤ l) (l2 : l ≤ 4616189618054758400) (k : opR .add u l s) : 4602678819172646912 ≤ s ∧ s ≤ 4620693217682128896 := by
 obtain ⟨rl, sl⟩ := rg_rung (r := l) (by omega)
 have e := add_word su sl (by omega) (by omega) k
 rw [rl] at e
 rw [e]
 constructor
 ·
  refine Nat.le_trans l1 ?_
  have := Fl.rq_mono (Fl.vl l) (Fl.vl (Fl.rg u) + Fl.vl l) 0 (by omega)
  rw [Fl.rq_vl _ (by omega)] at this
  exact this
 ·
  rw [← four_four]
  refine Fl.rq_mono _ _ _ (Nat.add_le_add (Fl.vl_le_iff.2 (by omega)) (Fl.vl_le_iff.2 l2))
theorem dbl_mid {s d : Nat} (l1 : 0 < s) (l2 : s ≤ 6922032627268452352) (k : opR .mul 4611686018427387904 s d) : 0 < d ∧ d ≤ 6926536226895822848 := by
 obtain ⟨rs, ss⟩ := rg_rung (r := s) (by omega)
 have e := Fl.mul_two (x := s) (by omega)
 rw [ss, wd_false, rs] at e
 have ed : d = Fl.rq (Fl.vl s * 2) 0 := by
  rcases k.2 with m | m
  · exact (Option.some.inj (e.symm.trans m)).symm
  · exact absurd (e.symm.trans m.1) (by intro c; cases c)
 rw [ed]
 constructor
 ·
  have := Fl.rq_mono (Fl.vl s) (Fl.vl s * 2) 0 (by omega)
  rw [Fl.rq_vl _ (by omega)] at this
  omega
 ·
  rw [← top_d]
  exact Fl.rq_mono _ _ _ (Nat.mul_le_mul_right _ (Fl.vl_le_iff.2 l2))
/-- the steps of the root, of finite parts -/
theorem rooP_mid {a b : Nat} (fa : Fl.rg a < 9218868437227405312) (fb : Fl.rg b < 9218868437227405312) (hz : ¬ bigF a b = 0) {l s0 h t d : Nat}
  (h1 : togR (scF (Fl.rg a) (-(2 * (paE (bigF a b) / 2)))) (scF (Fl.rg b) (-(2 * (paE (bigF a b) / 2)))) l)
  (h2 : opR .add (scF (Fl.rg a) (-(2 * (paE (bigF a b) / 2)))) l s0) (h3 : opR .quo s0 4611686018427387904 h) (h4 : sqtR h t)
  (h5 : opR .mul 4611686018427387904 (scF t (paE (bigF a b) / 2)) d) :
  (4602678819172646912 ≤ l ∧ l ≤ 4616189618054758400) ∧ (4602678819172646912 ≤ s0 ∧ s0 ≤ 4620693217682128896) ∧ (4598175219545276416 ≤ h ∧ h ≤ 4620693217682128896) ∧ (4602678819172646912 ≤ t ∧ t ≤ 4616189618054758400) ∧
  (scF t (paE (bigF a b) / 2) = Fl.rg (scF t (paE (bigF a b) / 2)) ∧ 0 < Fl.rg (scF t (paE (bigF a b) / 2)) ∧ Fl.rg (scF t (paE (bigF a b) / 2)) ≤ 6922032627268452352) ∧ (0 < d ∧ d ≤ 6926536226895822848) := by
 have na : Fl.nan a = false := by unfold Fl.nan; exact decide_eq_false (by omega)
 have nb : Fl.nan b = false := by unfold Fl.nan; exact decide_eq_false (by omega)
 obtain ⟨sb1, sb2⟩ := sma_big a b na nb
 have hBf : bigF a b < 9218868437227405312 := by omega
 obtain ⟨B1, B2⟩ := rg_rung (r := bigF a b) (by omega)
 obtain ⟨a1, a2⟩ := rg_rung (r := Fl.rg a) (by omega)
 obtain ⟨b1, b2⟩ := rg_rung (r := Fl.rg b) (by omega)
 have hpa := pa_pt (x := bigF a b) (by omega) (by omega)
 obtain ⟨p1, p2⟩ := pt_range (x := bigF a b) (by omega) (by omega) (by omega)
 rw [hpa] at h1 h2 h5 ⊢
 generalize hE : ptE (bigF a b) = E at *
 obtain ⟨dd, hd, hd1⟩ : ∃ dd : Nat, -(2 * (E / 2)) = -E + (dd : Int) ∧ dd ≤ 1 := ⟨(E - 2 * (E / 2)).toNat, by omega, by omega⟩
 rw [hd] at h1 h2
 obtain ⟨u1, u2, u3, u4⟩ := unit_form2 (x := bigF a b) 1021 (-E + (dd : Int)) dd rfl hd1 (by rw [hE]) (by omega) (by omega) (by omega)
 have ma := scF_mono (x := Fl.rg a) (y := bigF a b) (-E + (dd : Int)) (by omega) (by omega) (by omega)
 have mb := scF_mono (x := Fl.rg b) (y := bigF a b) (-E + (dd : Int)) (by omega) (by omega) (by omega)
 have sa := sg_scF0 a2 (by omega) (-E + (dd : Int))
 have sb := sg_scF0 b2 (by omega) (-E + (dd : Int))
 obtain ⟨p, q, s, e1, e2, l1, l2, l3, k4⟩ := tog_form2 sa sb (by omega) (by omega) h1
 have hs : 4598175219545276416 ≤ s := by
  have key : ∀ r, 4602678819172646912 ≤ r → 4598175219545276416 ≤ Fl.rq (Fl.vl r * Fl.vl r) 1074 := by
   intro r hr
   have t1 : Fl.rq (Fl.vl 4602678819172646912 * Fl.vl 4602678819172646912) 1074 = 4598175219545276416 := by decide +kernel
   rw [← t1]
   exact Fl.rq_mono _ _ _ (Nat.mul_le_mul (Fl.vl_le_iff.2 hr) (Fl.vl_le_iff.2 hr))
  rcases sb2 with ⟨g1, g2⟩ | ⟨g1, g2⟩
  ·
   have := key (Fl.rg (scF (Fl.rg a) (-E + (dd : Int)))) (by rw [← g1]; exact u3)
   omega
  ·
   have := key (Fl.rg (scF (Fl.rg b) (-E + (dd : Int)))) (by rw [← g1]; exact u3)
   omega
 have L := sqt_mid hs l3 k4
 have S := add_mid sa (by omega) L.1 L.2 h2
 have H := quo_half S.1 S.2 h3
 have T := sqt_mid H.1 H.2 h4
 have V := sc_mid (E / 2) T.1 T.2 (by omega) (by omega)
 have D := dbl_mid (s := scF t (E / 2)) (by rw [V.1]; exact V.2.1) (by rw [V.1]; exact V.2.2) h5
 exact ⟨L, S, H, T, V, D⟩
theorem big_zero {a b : Nat} (na : Fl.nan a = false) (nb : Fl.nan b = false) : bigF a b = 0 ↔ Fl.rg a = 0 ∧ Fl.rg b = 0 := by
 obtain ⟨h1, h2⟩ := sma_big a b na nb
 omega
end Go.Proofs.YtfgfofedacehiaaGreat

