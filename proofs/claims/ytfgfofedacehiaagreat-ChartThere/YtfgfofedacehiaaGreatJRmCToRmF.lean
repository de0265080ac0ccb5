/-
 OWN TEXT: a float by its parts: scaled to a half and more, and back; what is as great or greater stays so.
-/
import Derived.Test.YtfgfofedacehiaaGreatJRmAToRmB
import Derived.Test.YtfgfofedacehiaaGreatJTwA
import Derived.Test.YtfgfofedacehiaaGreatJRoA
import Derived.Test.YtfgfofedacehiaaGreatJLsAToEoC
import Derived.Test.YtfgfofedacehiaaGreatJPoAToAnM
set_option linter.unusedVariables false
namespace Go.Proofs.YtfgfofedacehiaaGreat
/-- the figures of a float, from 2^52 on -/
def mtF (x : Nat) : Nat := 4503599627370496 + Fl.rg (nmF x) % 4503599627370496
theorem mt_lo (x : Nat) : 4503599627370496 ≤ mtF x := by unfold mtF; omega
theorem mt_hi (x : Nat) : mtF x < 9007199254740992 := by unfold mtF; omega
theorem rz_form {x : Nat} (hx : x < 18446744073709551616) (hf : Fl.rg x < 9218868437227405312) (hz : ¬ Fl.rg x = 0) (n : Int) : Fl.rz (Fl.vl (Fl.rg x)) n = Fl.rz (mtF x) (n + ptE x + 1021) := by
 obtain ⟨y1, y2, y3, y4, c1, c2, v1⟩ := nm_facts hx hf hz
 have hpt : ptE x = nmE x + (((Fl.rg (nmF x) / 4503599627370496 : Nat) : Int) - 1023 + 1) := rfl
 unfold mtF
 generalize hy : Fl.rg (nmF x) = y at *
 have v2 := Fl.vl_comb (y / 4503599627370496 - 1) (4503599627370496 + y % 4503599627370496) (by omega) (Or.inr (by omega))
 rw [show (y / 4503599627370496 - 1) * 4503599627370496 + (4503599627370496 + y % 4503599627370496) = y by omega, v1] at v2
 have s1 := Fl.rz_shift (Fl.vl (Fl.rg x)) (-nmE x).toNat (n + nmE x)
 rw [show n + nmE x + (((-nmE x).toNat : Nat) : Int) = n by omega] at s1
 rw [← s1, v2, Fl.rz_shift, hpt]
 congr 1
 omega
theorem rz_nat (v k : Nat) (n : Int) (h : n = (k : Int)) : Fl.rz v n = Fl.rq (v * 2 ^ k) 0 := by
 subst h
 unfold Fl.rz
 rw [show (-(k : Int)).toNat = 0 by omega, Int.toNat_natCast]
theorem rz_mono {v v' : Nat} (n : Int) (h : v ≤ v') : Fl.rz v n ≤ Fl.rz v' n := Fl.rq_mono _ _ _ (Nat.mul_le_mul_right _ h)
theorem rg_scF {x : Nat} (hf : Fl.rg x < 9218868437227405312) (hz : ¬ Fl.rg x = 0) (n : Int) : Fl.rg (scF x n) = Fl.rz (Fl.vl (Fl.rg x)) n := by
 rw [scF_fin hf hz, Fl.rg_wd _ _ (by have := Fl.rz_le (Fl.vl (Fl.rg x)) n; omega)]
theorem sg_scF0 {x : Nat} (hs : Fl.sg x = false) (hf : Fl.rg x < 9218868437227405312) (n : Int) : Fl.sg (scF x n) = false := by
 by_cases hz : Fl.rg x = 0
 · rw [scF_stay (Or.inl hz)]; exact hs
 · rw [scF_sg n hf hz]; exact hs
/-- what is as great or greater, times a power of two, stays so -/
theorem scF_mono {x y : Nat} (n : Int) (hx : Fl.rg x < 9218868437227405312) (hy : Fl.rg y < 9218868437227405312) (h : Fl.rg x ≤ Fl.rg y) : Fl.rg (scF x n) ≤ Fl.rg (scF y n) := by
 by_cases zx : Fl.rg x = 0
 · rw [scF_stay (Or.inl zx), zx]; omega
 ·
  rw [rg_scF hx zx, rg_scF hy (by omega)]
  exact rz_mono n (Fl.vl_le_iff.2 h)
theorem pa_pt {x : Nat} (hf : Fl.rg x < 9218868437227405312) (hz : ¬ Fl.rg x = 0) : paE x = ptE x := by
 unfold paE; rw [if_neg (by omega)]
/-- scaled by its own order: half and more -/
theorem unit_form {x : Nat} (g : Nat) (hg : g = 1021) (hx : x < 18446744073709551616) (hf : Fl.rg x < 9218868437227405312) (hz : ¬ Fl.rg x = 0) :
  Fl.rg (scF x (-ptE x)) = Fl.rq (mtF x * 2 ^ g) 0 ∧ Fl.vl (Fl.rg (scF x (-ptE x))) = mtF x * 2 ^ g ∧ 4602678819172646912 ≤ Fl.rg (scF x (-ptE x)) ∧ Fl.rg (scF x (-ptE x)) < 4607182418800017408 := by
 have h1 := rz_form hx hf hz (-ptE x)
 rw [rz_nat (mtF x) g _ (by omega)] at h1
 have h2 := vl_half (Fl.rg (nmF x) % 4503599627370496) g (by omega) hg
 have h3 : Fl.rq (mtF x * 2 ^ g) 0 = 4602678819172646912 + Fl.rg (nmF x) % 4503599627370496 := by
  show Fl.rq ((4503599627370496 + Fl.rg (nmF x) % 4503599627370496) * 2 ^ g) 0 = _
  rw [← h2]
  exact Fl.rq_vl _ (by omega)
 rw [rg_scF hf hz, h1]
 refine ⟨rfl, ?_, by omega, by omega⟩
 rw [h3, h2]
 rfl
/-- a rung that is a multiple by a power of two of another one's worth -/
theorem scale_nat {x : Nat} (n : Int) (hf : Fl.rg x < 9218868437227405312) (hz : ¬ Fl.rg x = 0) (h1 : Fl.rg (scF x n) < 9218868437227405312) (h2 : 4503599627370496 < Fl.rg (scF x n)) :
  Fl.vl (Fl.rg (scF x n)) * 2 ^ (-n).toNat = Fl.vl (Fl.rg x) * 2 ^ n.toNat := by
 have h := scale_exact n hf hz h1 h2
 have k := congrArg Int.natAbs h
 rw [Int.natAbs_mul, Int.natAbs_mul, Fl.val_abs, Fl.val_abs, Int.natAbs_natCast, Int.natAbs_natCast] at k
 exact k
theorem scale_back {v v' : Nat} (n : Int) (h : v * 2 ^ n.toNat = v' * 2 ^ (-n).toNat) : Fl.rz v n = Fl.rq v' 0 := by
 unfold Fl.rz
 rw [h]
 have := Fl.rq_mul v' (-n).toNat 0
 rw [Nat.zero_add] at this
 exact this
end Go.Proofs.YtfgfofedacehiaaGreat

/-
 OWN TEXT: a length is at least the greater part, and at most both together, or the next float.
-/
set_option linter.unusedVariables false
namespace Go.Proofs.YtfgfofedacehiaaGreat
theorem wd_false (r : Nat) : Fl.wd false r = r := rfl
theorem mul_word {a b x : Nat} (fa : Fl.rg a < 9218868437227405312) (fb : Fl.rg b < 9218868437227405312) (h : opR .mul a b x) : x = Fl.wd (Fl.sg a ^^ Fl.sg b) (Fl.rq (Fl.vl (Fl.rg a) * Fl.vl (Fl.rg b)) 1074) := by
 have hm := Fl.mul_fin (x := a) (y := b) fa fb
 rcases h.2 with k | k
 · exact (Option.some.inj (hm.symm.trans k)).symm
 · exact absurd (hm.symm.trans k.1) (by intro c; cases c)
theorem add_word {a b x : Nat} (sa : Fl.sg a = false) (sb : Fl.sg b = false) (fa : Fl.rg a < 9218868437227405312) (fb : Fl.rg b < 9218868437227405312) (h : opR .add a b x) : x = Fl.rq (Fl.vl (Fl.rg a) + Fl.vl (Fl.rg b)) 0 := by
 have hm := Fl.add_fin (x := a) (y := b) fa fb
 have e : x = Fl.wd (if Fl.val a + Fl.val b = 0 then Fl.sg a && Fl.sg b else decide (Fl.val a + Fl.val b < 0)) (Fl.rq (Fl.val a + Fl.val b).natAbs 0) := by
  rcases h.2 with k | k
  · exact (Option.some.inj (hm.symm.trans k)).symm
  · exact absurd (hm.symm.trans k.1) (by intro c; cases c)
 have va : Fl.val a = (Fl.vl (Fl.rg a) : Int) := by unfold Fl.val; rw [sa]; rfl
 have vb : Fl.val b = (Fl.vl (Fl.rg b) : Int) := by unfold Fl.val; rw [sb]; rfl
 rw [va, vb, sa, show ((Fl.vl (Fl.rg a) : Int) + (Fl.vl (Fl.rg b) : Int)).natAbs = Fl.vl (Fl.rg a) + Fl.vl (Fl.rg b) by omega] at e
 rw [e]
 by_cases z : (Fl.vl (Fl.rg a) : Int) + (Fl.vl (Fl.rg b) : Int) = 0
 · rw [if_pos z, Bool.false_and, wd_false]
 · rw [if_neg z, decide_eq_false (by omega), wd_false]
theorem rg_rung {r : Nat} (h : r ≤ 9218868437227405312) : Fl.rg r = r ∧ Fl.sg r = false := by
 constructor
 · unfold Fl.rg; omega
 · rw [Fl.sg_lt (by omega)]; exact decide_eq_false (by omega)
theorem one_sq : Fl.rq (Fl.vl 4607182418800017408 * Fl.vl 4607182418800017408) 1074 = 4607182418800017408 := by decide +kernel
theorem one_one : Fl.rq (Fl.vl 4607182418800017408 + Fl.vl 4607182418800017408) 0 = 4611686018427387904 := by decide +kernel
/-- the square of at most 1, twice, and their sum -/
theorem tog_form {u v l : Nat} (su : Fl.sg u = false) (sv : Fl.sg v = false) (hu : Fl.rg u ≤ 4607182418800017408) (hv : Fl.rg v ≤ 4607182418800017408) (h : togR u v l) :
  ∃ p q s, p = Fl.rq (Fl.vl (Fl.rg u) * Fl.vl (Fl.rg u)) 1074 ∧ q = Fl.rq (Fl.vl (Fl.rg v) * Fl.vl (Fl.rg v)) 1074 ∧ s = Fl.rq (Fl.vl p + Fl.vl q) 0 ∧ p ≤ s ∧ p ≤ 4607182418800017408 ∧ q ≤ 4607182418800017408 ∧ s ≤ 4611686018427387904 ∧ sqtR s l := by
 obtain ⟨s, ⟨p, q, h1, h2, h3⟩, h4⟩ := h
 have ep := mul_word (by omega) (by omega) h1
 have eq := mul_word (by omega) (by omega) h2
 rw [su, Bool.xor_false, wd_false] at ep
 rw [sv, Bool.xor_false, wd_false] at eq
 have ep' := ep
 have eq' := eq
 have lp : p ≤ 4607182418800017408 := by
  rw [ep', ← one_sq]
  exact Fl.rq_mono _ _ _ (Nat.mul_le_mul (Fl.vl_le_iff.2 hu) (Fl.vl_le_iff.2 hu))
 have lq : q ≤ 4607182418800017408 := by
  rw [eq', ← one_sq]
  exact Fl.rq_mono _ _ _ (Nat.mul_le_mul (Fl.vl_le_iff.2 hv) (Fl.vl_le_iff.2 hv))
 obtain ⟨rp, sp⟩ := rg_rung (r := p) (by omega)
 obtain ⟨rq, sq⟩ := rg_rung (r := q) (by omega)
 have es := add_word sp sq (by omega) (by omega) h3
 rw [rp, rq] at es
 refine ⟨p, q, s, ep', eq', es, ?_, lp, lq, ?_, h4⟩
 ·
  rw [es]
  have := Fl.rq_mono (Fl.vl p) (Fl.vl p + Fl.vl q) 0 (by omega)
  rw [Fl.rq_vl p (by omega)] at this
  exact this
 ·
  rw [es, ← one_one]
  exact Fl.rq_mono _ _ _ (Nat.add_le_add (Fl.vl_le_iff.2 lp) (Fl.vl_le_iff.2 lq))
theorem sqt_word {s l r : Nat} (h : sqtR s l) (k : Ieee.double.sqrt s = some (Fl.wd false r)) : l = r := by
 rcases h.2 with e | e
 · exact (Option.some.inj (e.symm.trans k))
 · exact absurd (e.1.symm.trans k) (by intro c; cases c)
/-- the root of the squares is at least the greater one -/
theorem tog_low {x v l : Nat} (hx : x < 18446744073709551616) (hf : Fl.rg x < 9218868437227405312) (hz : ¬ Fl.rg x = 0) (sx : Fl.sg x = false) (sv : Fl.sg v = false) (hv : Fl.rg v ≤ 4607182418800017408) (h : togR (scF x (-ptE x)) v l) :
  Fl.sg l = false ∧ Fl.rg (scF x (-ptE x)) ≤ Fl.rg l ∧ Fl.rg l ≤ 4611686018427387904 ∧ l = Fl.rg l := by
 obtain ⟨g, hg⟩ : ∃ g, g = 1021 := ⟨_, rfl⟩
 obtain ⟨u1, u2, u3, u4⟩ := unit_form g hg hx hf hz
 obtain ⟨p, q, s, e1, e2, e3, l1, l2, l3, l4, h4⟩ := tog_form (sg_scF0 sx hf _) sv (by omega) hv h
 obtain ⟨rs, ss⟩ := rg_rung (r := s) (by omega)
 obtain ⟨c, hc⟩ : ∃ c, c = 1074 := ⟨_, rfl⟩
 rw [u2, ← hc] at e1
 obtain ⟨r, k1, k2, k3⟩ := Fl.sqrt_ge (x := s) (b := mtF x) (g := g) (G := 968) c hc (by omega) (by omega) (mt_lo x) (mt_hi x) (by omega) ss (by rw [rs]; omega)
 have hs0 : ¬ Fl.rg s = 0 := by
  intro e
  rw [rs] at e
  subst e
  have hs : Ieee.double.sqrt 0 = some (Fl.wd false 0) := by decide +kernel
  rw [k1] at hs
  have := Option.some.inj hs
  rw [← u1] at k2
  have e0 : r = 0 := this
  omega
 have t1 : Fl.rq ((4503599627370496 * 2 ^ 1023) * (4503599627370496 * 2 ^ 1023)) 1074 = 4616189618054758400 := by decide +kernel
 have t2 : Fl.rq (4503599627370496 * 2 ^ 1023) 0 = 4611686018427387904 := by decide +kernel
 obtain ⟨r', m1, m2⟩ := Fl.sqrt_le (x := s) (b := 4503599627370496) (g := 1023) (G := 972) 1074 rfl (by omega) (by omega) (by omega) (by omega) ss hs0 (by rw [t1]; omega) (by rw [rs, t1]; omega)
 rw [t2] at m2
 have el := sqt_word h4 k1
 have el' := sqt_word h4 m1
 subst el
 subst el'
 obtain ⟨rr, sr⟩ := rg_rung (r := l) k3
 rw [rr, u1]
 exact ⟨sr, k2, m2, rfl⟩
theorem sma_big (a b : Nat) (na : Fl.nan a = false) (nb : Fl.nan b = false) : smaF a b ≤ bigF a b ∧ (bigF a b = Fl.rg a ∧ smaF a b = Fl.rg b ∨ bigF a b = Fl.rg b ∧ smaF a b = Fl.rg a) := by
 have hs : ∀ x, Fl.sg (Fl.rg x) = false := fun x => by
  have hl := Fl.rg_lt x
  rw [Fl.sg_lt (by omega)]; exact decide_eq_false (by omega)
 have hk : ∀ x, Fl.key (Fl.rg x) = (Fl.rg x : Int) := fun x => by unfold Fl.key; rw [hs, if_neg (by decide), Fl.rg_rg]
 have e : Fl.ltF (Fl.rg a) (Fl.rg b) = decide (Fl.rg a < Fl.rg b) := by
  rw [Fl.ltF_of (by rw [Fl.nan_rg]; exact na) (by rw [Fl.nan_rg]; exact nb), hk, hk]
  by_cases c : Fl.rg a < Fl.rg b
  · rw [decide_eq_true c, decide_eq_true (by omega)]
  · rw [decide_eq_false c, decide_eq_false (by omega)]
 unfold smaF bigF
 rw [e]
 by_cases c : Fl.rg a < Fl.rg b
 · rw [decide_eq_true c, if_pos rfl, if_pos rfl]; exact ⟨by omega, Or.inr ⟨rfl, rfl⟩⟩
 · rw [decide_eq_false c, if_neg (by decide), if_neg (by decide)]; exact ⟨by omega, Or.inl ⟨rfl, rfl⟩⟩
/-- the lesser part, scaled by the greater one's order, is at most 1 -/
theorem sma_unit {x y : Nat} (hx : x < 18446744073709551616) (hf : Fl.rg x < 9218868437227405312) (hz : ¬ Fl.rg x = 0) (h : Fl.rg y ≤ Fl.rg x) : Fl.rg (scF y (-ptE x)) ≤ Fl.rg (scF x (-ptE x)) := scF_mono _ (by omega) hf h
/-- a length is at least the greater part -/
theorem len_low {x y l : Nat} (hx : x < 18446744073709551616) (hf : Fl.rg x < 9218868437227405312) (hz : ¬ Fl.rg x = 0) (sx : Fl.sg x = false) (sy : Fl.sg y = false) (h : Fl.rg y ≤ Fl.rg x) (ht : togR (scF x (-ptE x)) (scF y (-ptE x)) l) :
  Fl.sg (scF l (ptE x)) = false ∧ Fl.rg x ≤ Fl.rg (scF l (ptE x)) ∧ Fl.rg (scF l (ptE x)) ≤ 9218868437227405312 ∧ ¬ Fl.rg l = 0 ∧ Fl.rg l < 9218868437227405312 := by
 obtain ⟨g, hg⟩ : ∃ g, g = 1021 := ⟨_, rfl⟩
 obtain ⟨u1, u2, u3, u4⟩ := unit_form g hg hx hf hz
 have hy := sma_unit hx hf hz h
 obtain ⟨k1, k2, k3, k4⟩ := tog_low hx hf hz sx (sg_scF0 sy (by omega) _) (by omega) ht
 have hl0 : ¬ Fl.rg l = 0 := by omega
 refine ⟨sg_scF0 k1 (by omega) _, ?_, ?_, hl0, by omega⟩
 ·
  have m := scF_mono (x := scF x (-ptE x)) (y := l) (ptE x) (by omega) (by omega) k2
  rw [rg_scF (x := scF x (-ptE x)) (by omega) (by omega), u2] at m
  have e := Fl.rz_shift (mtF x) g (ptE x)
  rw [e] at m
  have f := rz_form hx hf hz 0
  rw [show (0 : Int) + ptE x + 1021 = ptE x + (g : Int) by omega, Fl.rz_zero, Fl.rq_vl _ (by omega)] at f
  omega
 · rw [rg_scF (by omega) hl0]; exact Fl.rz_le _ _
end Go.Proofs.YtfgfofedacehiaaGreat

/-
 OWN TEXT: a length is at most both parts together, or the next float.
-/
set_option linter.unusedVariables false
set_option exponentiation.threshold 3000
namespace Go.Proofs.YtfgfofedacehiaaGreat
/-- a square of at most 1, rounded: at most one half more than it is, and a little -/
theorem sq_top (c v r : Nat) (hc : c = 1074) (hr : r ≤ 4607182418800017408) (hv : v = Fl.vl r) : 2 * (Fl.vl (Fl.rq (v * v) c) * 2 ^ c) ≤ 3 * (v * v) + 2 ^ 1182 := by
 have hfin : Fl.rq (v * v) c ≤ 4607182418800017408 := by
  rw [hv, hc, ← one_sq]
  exact Fl.rq_mono _ _ _ (Nat.mul_le_mul (Fl.vl_le_iff.2 hr) (Fl.vl_le_iff.2 hr))
 obtain ⟨k, M, e, hM, hk, hk2⟩ := Fl.rung_parts r (by omega)
 have ev : v = M * 2 ^ k := by rw [hv, e]; exact Fl.vl_comb k M (by omega) hk
 by_cases c1 : c ≤ k + k
 ·
  have hM2 : 4503599627370496 ≤ M := by omega
  obtain ⟨E, hE⟩ : ∃ E, E = 2 ^ k * 2 ^ k := ⟨_, rfl⟩
  have hmid := Fl.sq_mid M k c (k + k - c) E (by omega) hE hM2 hM (by rw [← ev]; omega)
  have h3 := hmid.2.2.1
  rw [← ev] at h3
  have evv : v * v = M * M * E := by rw [ev, hE, Nat.mul_mul_mul_comm]
  have hMM : 2 * 4503599627370496 * E ≤ M * M * E := Nat.mul_le_mul_right _ (Nat.le_trans (show 2 * 4503599627370496 ≤ 4503599627370496 * 4503599627370496 by decide) (Nat.mul_le_mul hM2 hM2))
  have hMM' : 2 * 4503599627370496 * E = 2 * (4503599627370496 * E) := Nat.mul_assoc ..
  rw [evv] at h3 ⊢
  omega
 ·
  have hv2 : v < 2 ^ 590 := by
   rw [ev]
   refine Nat.lt_of_lt_of_le (Nat.mul_lt_mul_of_pos_right hM (Nat.two_pow_pos k)) ?_
   rw [show (9007199254740992 : Nat) = 2 ^ 53 from rfl, ← Nat.pow_add]
   exact Nat.pow_le_pow_right (by omega) (by omega)
  have hvv : v * v ≤ 2 ^ 590 * 2 ^ 590 := Nat.mul_le_mul (by omega) (by omega)
  have t1 : Fl.rq (2 ^ 590 * 2 ^ 590) 1074 = 247697979505377280 := by decide +kernel
  have t2 : Fl.vl 247697979505377280 = 2 ^ 106 := by decide +kernel
  have hq : Fl.rq (v * v) c ≤ 247697979505377280 := by
   rw [hc, ← t1]; exact Fl.rq_mono _ _ _ hvv
  have hq2 : Fl.vl (Fl.rq (v * v) c) ≤ 2 ^ 106 := by rw [← t2]; exact Fl.vl_le_iff.2 hq
  have hq3 : Fl.vl (Fl.rq (v * v) c) * 2 ^ c ≤ 2 ^ 106 * 2 ^ c := Nat.mul_le_mul_right _ hq2
  have t3 : 2 * (2 ^ 106 * 2 ^ c) ≤ 2 ^ 1182 := by rw [hc]; decide +kernel
  omega
/-- the squares together are at most the square of a float that is above the one, and not below both together -/
theorem squares_le (c g U D v p q e : Nat) (hc : c = 1074) (hg : g = 1021) (he : e = 2 ^ g) (hU : 4503599627370496 * e ≤ U) (hD : e ≤ D) (hv : v ≤ D) (hvU : v ≤ U)
  (hp : Fl.vl p * 2 ^ c ≤ U * U + 4503599627370496 * (e * e)) (hq : 2 * (Fl.vl q * 2 ^ c) ≤ 3 * (v * v) + 2 ^ 1182) : (Fl.vl p + Fl.vl q) * 2 ^ c ≤ (U + D) * (U + D) := by
 have h1 : v * v ≤ D * D := Nat.mul_le_mul hv hv
 have h2 : v * v ≤ U * D := Nat.mul_le_mul hvU hv
 have h3 : 4503599627370496 * e * e ≤ U * D := Nat.mul_le_mul hU hD
 have h4 : 2 ^ 1182 ≤ e * e := by rw [he, hg, ← Nat.pow_add]; exact Nat.pow_le_pow_right (by omega) (by omega)
 have h5 : (U + D) * (U + D) = U * U + 2 * (U * D) + D * D := by rw [Nat.add_mul, Nat.mul_add, Nat.mul_add, Nat.mul_comm D U]; omega
 rw [Nat.mul_assoc] at h3
 rw [Nat.add_mul, h5]
 generalize e * e = ee at *
 generalize U * D = ud at *
 generalize v * v = vv at *
 generalize D * D = dd at *
 generalize U * U = uu at *
 generalize Fl.vl p * 2 ^ c = pp at *
 generalize Fl.vl q * 2 ^ c = qq at *
 generalize 2 ^ 1182 = tt at *
 omega
theorem vl_next {r : Nat} (n : Nat) (hn : n ≠ 0) (hr : Fl.rq n 0 = r) (h : r < 9218868437227405312) : n ≤ Fl.vl (r + 1) := by
 obtain ⟨k, _, h2, h3⟩ := Fl.gap r h
 have := (h3 n hn hr).1
 have := Nat.two_pow_pos k
 omega
/-- twice a rung, and the next one, is at most four times as much -/
theorem next_four {x t : Nat} (hx : x < 9218868437227405312) (hz : ¬ x = 0) (ht : t ≤ Fl.rq (Fl.vl x * 2) 0) : Fl.vl (t + 1) ≤ Fl.vl x * 4 := by
 by_cases c : x < 4503599627370496
 ·
  have h1 : Fl.vl x = x := Fl.vl_small c
  have h2 : Fl.rq (x * 2) 0 = x * 2 := by
   have := Fl.rq_vl (x * 2) (by omega)
   have h3 : Fl.vl (x * 2) = x * 2 := by
    have := Fl.vl_comb 0 (x * 2) (by omega) (Or.inl rfl)
    simpa using this
   rw [h3] at this
   exact this
  rw [h1, h2] at ht
  rw [h1]
  have h4 : Fl.vl (t + 1) = t + 1 := by
   have := Fl.vl_comb 0 (t + 1) (by omega) (Or.inl rfl)
   simpa using this
  omega
 ·
  have h1 := Fl.vl_up x 1 (by omega)
  have h2 := Fl.vl_up x 2 (by omega)
  rw [show Fl.vl x * 2 = Fl.vl x * 2 ^ 1 from rfl, ← h1] at ht
  have h3 : Fl.rq (Fl.vl (x + 1 * 4503599627370496)) 0 ≤ x + 1 * 4503599627370496 := by
   rcases Nat.lt_or_ge 9218868437227405312 (x + 1 * 4503599627370496) with g | g
   · have := Fl.rq_le (Fl.vl (x + 1 * 4503599627370496)) 0; omega
   · rw [Fl.rq_vl _ g]; exact Nat.le_refl _
  have h4 : Fl.vl (t + 1) ≤ Fl.vl (x + 2 * 4503599627370496) := Fl.vl_le_iff.2 (by omega)
  rw [h2] at h4
  exact h4
set_option maxHeartbeats 1000000 in
/-- a length is at most both parts together, or the next float -/
theorem len_up {x y l t : Nat} (hx : x < 18446744073709551616) (hf : Fl.rg x < 9218868437227405312) (hz : ¬ Fl.rg x = 0) (sx : Fl.sg x = false) (sy : Fl.sg y = false) (h : Fl.rg y ≤ Fl.rg x) (ht : togR (scF x (-ptE x)) (scF y (-ptE x)) l)
  (hs : t = Fl.rq (Fl.vl (Fl.rg x) + Fl.vl (Fl.rg y)) 0) : Fl.rg (scF l (ptE x)) ≤ t + 1 := by
 obtain ⟨L1, L2, L3, L4, L5⟩ := len_low hx hf hz sx sy h ht
 rcases Nat.lt_or_ge (t + 1) 9218868437227405312 with hM | hM
 ·
  obtain ⟨g, hg⟩ : ∃ g, g = 1021 := ⟨_, rfl⟩
  obtain ⟨c, hc⟩ : ∃ c, c = 1074 := ⟨_, rfl⟩
  obtain ⟨u1, u2, u3, u4⟩ := unit_form g hg hx hf hz
  have hyu := sma_unit hx hf hz h
  have vx0 := Fl.vl_pos hz
  have hvy : Fl.vl (Fl.rg y) ≤ Fl.vl (Fl.rg x) := Fl.vl_le_iff.2 h
  have hMv : Fl.vl (Fl.rg x) + Fl.vl (Fl.rg y) ≤ Fl.vl (t + 1) := vl_next _ (by omega) hs.symm (by omega)
  have ht1 : Fl.rg x ≤ t := by
   have := Fl.rq_mono (Fl.vl (Fl.rg x)) (Fl.vl (Fl.rg x) + Fl.vl (Fl.rg y)) 0 (by omega)
   rw [Fl.rq_vl _ (by omega)] at this
   omega
  have ht2 : t ≤ Fl.rq (Fl.vl (Fl.rg x) * 2) 0 := by rw [hs]; exact Fl.rq_mono _ _ _ (by omega)
  have hM4 := next_four hf hz ht2
  generalize hMM : t + 1 = M at *
  obtain ⟨rM, sM⟩ := rg_rung (r := M) (by omega)
  have fM : Fl.rg M < 9218868437227405312 := by omega
  have zM : ¬ Fl.rg M = 0 := by omega
  -- scaled
  have n1 := scF_mono (x := x) (y := M) (-ptE x) hf fM (by omega)
  have n2 : Fl.rg (scF M (-ptE x)) ≤ 4616189618054758400 := by
   rw [rg_scF fM zM, rM]
   have k1 := rz_mono (-ptE x) hM4
   have k2 := Fl.rz_shift (Fl.vl (Fl.rg x)) 2 (-ptE x)
   rw [show Fl.vl (Fl.rg x) * 2 ^ 2 = Fl.vl (Fl.rg x) * 4 from rfl, rz_form hx hf hz, rz_nat (mtF x) (g + 2) _ (by omega)] at k2
   have k3 : Fl.rq (mtF x * 2 ^ (g + 2)) 0 ≤ Fl.rq (9007199254740992 * 2 ^ (g + 2)) 0 := Fl.rq_mono _ _ _ (Nat.mul_le_mul_right _ (Nat.le_of_lt (mt_hi x)))
   have k4 : Fl.rq (9007199254740992 * 2 ^ (g + 2)) 0 = 4616189618054758400 := by rw [hg]; decide +kernel
   omega
  have eN := scale_nat (x := M) (-ptE x) fM zM (by omega) (by omega)
  have eU := scale_nat (x := x) (-ptE x) hf hz (by omega) (by omega)
  rw [rM] at eN
  generalize hNN : Fl.rg (scF M (-ptE x)) = N at *
  have rU : Fl.rg (Fl.rg (scF x (-ptE x))) = Fl.rg (scF x (-ptE x)) := Fl.rg_rg _
  obtain ⟨tp, htp⟩ : ∃ tp, tp = 2 ^ (- -ptE x).toNat := ⟨_, rfl⟩
  obtain ⟨tm, htm⟩ : ∃ tm, tm = 2 ^ (-ptE x).toNat := ⟨_, rfl⟩
  have ptp : 0 < tp := by rw [htp]; exact Nat.two_pow_pos _
  have ptm : 0 < tm := by rw [htm]; exact Nat.two_pow_pos _
  rw [← htp, ← htm] at eN eU
  -- N is above U
  have hMx : Fl.vl (Fl.rg x) < Fl.vl M := Fl.vl_mono (by omega)
  have hNU : Fl.rg (scF x (-ptE x)) < N := by
   rcases Nat.lt_or_ge (Fl.rg (scF x (-ptE x))) N with k | k
   · exact k
   ·
    exfalso
    have k1 : Fl.vl N * tp ≤ Fl.vl (Fl.rg (scF x (-ptE x))) * tp := Nat.mul_le_mul_right _ (Fl.vl_le_iff.2 k)
    have k2 : Fl.vl (Fl.rg x) * tm < Fl.vl M * tm := Nat.mul_lt_mul_of_pos_right hMx ptm
    omega
  obtain ⟨e, he⟩ : ∃ e, e = 2 ^ g := ⟨_, rfl⟩
  have hUN : mtF x * e + e ≤ Fl.vl N := by
   have k1 : Fl.vl (Fl.rg (scF x (-ptE x)) + 1) ≤ Fl.vl N := Fl.vl_le_iff.2 hNU
   have k2 := Fl.vl_comb g (mtF x + 1) (by have := mt_hi x; omega) (Or.inr (by have := mt_lo x; omega))
   have k3 := Fl.vl_comb g (mtF x) (by have := mt_hi x; omega) (Or.inr (mt_lo x))
   have k4 : Fl.rg (scF x (-ptE x)) = g * 4503599627370496 + mtF x := by
    have := Fl.rq_vl (g * 4503599627370496 + mtF x) (by have := mt_hi x; omega)
    rw [k3] at this
    omega
   rw [k4, Nat.add_assoc, k2, Nat.add_mul, Nat.one_mul, ← he] at k1
   exact k1
  -- V
  generalize hVV : Fl.rg (scF y (-ptE x)) = V at *
  have hvN : mtF x * e + Fl.vl V ≤ Fl.vl N := by
   rcases Nat.lt_or_ge 4503599627370496 V with k | k
   ·
    have zy : ¬ Fl.rg y = 0 := by
     intro z
     rw [scF_stay (Or.inl z)] at hVV
     omega
    have eV := scale_nat (x := y) (-ptE x) (by omega) zy (by omega) (by omega)
    rw [hVV, ← htp, ← htm] at eV
    have k1 : (Fl.vl (Fl.rg x) + Fl.vl (Fl.rg y)) * tm ≤ Fl.vl M * tm := Nat.mul_le_mul_right _ hMv
    rw [Nat.add_mul, ← eN, ← eU, ← eV, ← Nat.add_mul] at k1
    have k2 := Nat.le_of_mul_le_mul_right k1 ptp
    rw [u2, ← he] at k2
    exact k2
   ·
    have k1 : Fl.vl V ≤ Fl.vl 4503599627370496 := Fl.vl_le_iff.2 k
    have k2 : Fl.vl 4503599627370496 = 4503599627370496 := by decide +kernel
    have k3 : 4503599627370496 ≤ e := by
     rw [he, hg, show (4503599627370496 : Nat) = 2 ^ 52 from rfl]
     exact Nat.pow_le_pow_right (by omega) (by omega)
    omega
  obtain ⟨D, hD⟩ : ∃ D, Fl.vl N = mtF x * e + D := ⟨Fl.vl N - mtF x * e, by omega⟩
  obtain ⟨p, q, s, e1, e2, e3, l1, l2, l3, l4, h4⟩ := tog_form (sg_scF0 sx hf _) (sg_scF0 sy (by omega) _) (by omega) (by omega) ht
  rw [u2, ← hc, ← he] at e1
  rw [hVV, ← hc] at e2
  have hpf : Fl.rq (mtF x * 2 ^ g * (mtF x * 2 ^ g)) c < 9218868437227405312 := by rw [← he, ← e1]; omega
  have hp := (Fl.sq_mid (mtF x) g c 968 (e * e) (by omega) (by rw [he]) (mt_lo x) (mt_hi x) hpf).2.2.1
  rw [← he, ← e1, show mtF x * mtF x * (e * e) = mtF x * e * (mtF x * e) by rw [Nat.mul_mul_mul_comm]] at hp
  have hq := sq_top c (Fl.vl V) V hc (by omega) rfl
  rw [← e2] at hq
  have hvU : Fl.vl V ≤ mtF x * e := by
   have := Fl.vl_le_iff.2 hyu
   rw [u2, ← he] at this
   exact this
  have hfin := squares_le c g (mtF x * e) D (Fl.vl V) p q e hc hg he (Nat.mul_le_mul_right _ (mt_lo x)) (by omega) (by omega) hvU hp hq
  rw [← hD] at hfin
  -- the root
  obtain ⟨k, B, eB, hB, hk, hk2⟩ := Fl.rung_parts N (by omega)
  have evN : Fl.vl N = B * 2 ^ k := by rw [eB]; exact Fl.vl_comb k B (by omega) hk
  have hk3 : 600 ≤ k := by omega
  have hsN : s ≤ Fl.rq (B * 2 ^ k * (B * 2 ^ k)) c := by
   rw [← evN, e3]
   have := Fl.rq_mul (Fl.vl p + Fl.vl q) c 0
   rw [Nat.zero_add] at this
   rw [← this]
   exact Fl.rq_mono _ _ _ hfin
  have hNf : Fl.rq (B * 2 ^ k * (B * 2 ^ k)) c < 9218868437227405312 := by
   rw [← evN, hc]
   have k1 := Fl.rq_mono (Fl.vl N * Fl.vl N) (Fl.vl 4616189618054758400 * Fl.vl 4616189618054758400) 1074 (Nat.mul_le_mul (Fl.vl_le_iff.2 n2) (Fl.vl_le_iff.2 n2))
   have k2 : Fl.rq (Fl.vl 4616189618054758400 * Fl.vl 4616189618054758400) 1074 = 4625196817309499392 := by decide +kernel
   omega
  obtain ⟨rs, ss⟩ := rg_rung (r := s) (by omega)
  have hs0 : ¬ Fl.rg s = 0 := by
   rw [rs]
   intro z
   subst z
   have hs : Ieee.double.sqrt 0 = some (Fl.wd false 0) := by decide +kernel
   have := sqt_word h4 hs
   subst this
   exact L4 rfl
  obtain ⟨r, m1, m2⟩ := Fl.sqrt_le (x := s) (b := B) (g := k) (G := k + k - c) c hc (by omega) (by omega) (by omega) hB ss hs0 hNf (by rw [rs]; exact hsN)
  have el := sqt_word h4 m1
  rw [← evN, Fl.rq_vl _ (by omega)] at m2
  obtain ⟨rl, sl⟩ := rg_rung (r := r) (by omega)
  rw [el] at L4 L5 ⊢
  rw [rg_scF L5 L4, rl]
  have f1 := rz_mono (ptE x) (Fl.vl_le_iff.2 m2)
  have f2 := scale_back (v := Fl.vl N) (v' := Fl.vl M) (ptE x) (by rw [show (ptE x).toNat = (- -ptE x).toNat by omega, ← htp, ← htm]; exact eN)
  rw [Fl.rq_vl _ (by omega)] at f2
  omega
 · omega
end Go.Proofs.YtfgfofedacehiaaGreat

/-
 OWN TEXT: lengths of mirrored and turned numbers; roots of mirrored numbers, their sides.
-/
set_option linter.unusedVariables false
set_option exponentiation.threshold 3000
namespace Go.Proofs.YtfgfofedacehiaaGreat
/-- what a length lies between -/
theorem len_bounds {a b r : Nat} (h : lenR a b r) (na : Fl.nan a = false) (nb : Fl.nan b = false) : Fl.sg r = false ∧ Fl.rg r ≤ 9218868437227405312 ∧ bigF a b ≤ Fl.rg r ∧ ∀ t, opR .add (Fl.rg a) (Fl.rg b) t → Fl.sg t = false ∧ Fl.rg t ≤ 9218868437227405312 ∧ Fl.rg r ≤ Fl.rg t + 1 := by
 obtain ⟨h0, h⟩ := h
 have ra : Fl.rg a ≤ 9218868437227405312 := by unfold Fl.nan at na; have := of_decide_eq_false na; omega
 have rb : Fl.rg b ≤ 9218868437227405312 := by unfold Fl.nan at nb; have := of_decide_eq_false nb; omega
 obtain ⟨sb1, sb2⟩ := sma_big a b na nb
 obtain ⟨a1, a2⟩ := rg_rung ra
 obtain ⟨b1, b2⟩ := rg_rung rb
 by_cases c1 : Fl.rg a = 9218868437227405312 ∨ Fl.rg b = 9218868437227405312
 ·
  rw [if_pos c1] at h
  subst h
  refine ⟨by decide, by decide, by rw [show Fl.rg 9218868437227405312 = 9218868437227405312 by decide]; omega, ?_⟩
  intro t ht
  have key : t = 9218868437227405312 := by
   have e1 : ∀ x, x ≤ 9218868437227405312 → floatBits .add .f64 9218868437227405312 x = some 9218868437227405312 ∧ floatBits .add .f64 x 9218868437227405312 = some 9218868437227405312 := by
    intro x hx
    obtain ⟨x1, x2⟩ := rg_rung hx
    rcases Nat.lt_or_ge x 9218868437227405312 with g | g
    ·
     obtain ⟨m, k, hm, _⟩ := Fl.read_fin (x := x) (by omega)
     have hi := Fl.read_inf (x := 9218868437227405312) (by decide)
     constructor
     ·
      show Ieee.double.add _ _ = _
      unfold Ieee.Format.add
      rw [hi, hm]; rfl
     ·
      show Ieee.double.add _ _ = _
      unfold Ieee.Format.add
      rw [hi, hm]; rfl
    ·
     have : x = 9218868437227405312 := by omega
     subst this
     exact ⟨by decide +kernel, by decide +kernel⟩
   rcases c1 with c | c
   ·
    rw [c] at ht
    have k := (e1 (Fl.rg b) rb).1
    rcases ht.2 with m | m
    · exact (Option.some.inj (k.symm.trans m)).symm
    · exact absurd (k.symm.trans m.1) (by intro c; cases c)
   ·
    rw [c] at ht
    have k := (e1 (Fl.rg a) ra).2
    rcases ht.2 with m | m
    · exact (Option.some.inj (k.symm.trans m)).symm
    · exact absurd (k.symm.trans m.1) (by intro c; cases c)
  subst key
  exact ⟨by decide, by decide, by omega⟩
 ·
  rw [if_neg c1, if_neg (by rw [na, nb]; simp)] at h
  have fa : Fl.rg a < 9218868437227405312 := by omega
  have fb : Fl.rg b < 9218868437227405312 := by omega
  have hadd : ∀ t, opR .add (Fl.rg a) (Fl.rg b) t → t = Fl.rq (Fl.vl (bigF a b) + Fl.vl (smaF a b)) 0 := by
   intro t ht
   have e := add_word a2 b2 (by omega) (by omega) ht
   rw [a1, b1] at e
   rcases sb2 with ⟨g1, g2⟩ | ⟨g1, g2⟩
   · rw [g1, g2]; exact e
   · rw [g1, g2, Nat.add_comm]; exact e
  have hBf : bigF a b < 9218868437227405312 := by omega
  by_cases c2 : bigF a b = 0
  ·
   rw [if_pos c2] at h
   subst h
   refine ⟨by decide, by decide, by rw [c2]; omega, ?_⟩
   intro t ht
   have e := hadd t ht
   have l := Fl.rq_le (Fl.vl (bigF a b) + Fl.vl (smaF a b)) 0
   rw [← e] at l
   obtain ⟨t1, t2⟩ := rg_rung l
   refine ⟨t2, by omega, ?_⟩
   rw [show Fl.rg 0 = 0 by decide]; omega
  ·
   rw [if_neg c2] at h
   obtain ⟨l, h1, h2⟩ := h
   obtain ⟨B1, B2⟩ := rg_rung (r := bigF a b) (by omega)
   obtain ⟨S1, S2⟩ := rg_rung (r := smaF a b) (by omega)
   rw [pa_pt (by omega) (by omega)] at h1 h2
   obtain ⟨L1, L2, L3, L4, L5⟩ := len_low (x := bigF a b) (y := smaF a b) (by omega) (by omega) (by omega) B2 S2 (by omega) h1
   subst h2
   refine ⟨L1, L3, by omega, ?_⟩
   intro t ht
   have e := hadd t ht
   have lt := Fl.rq_le (Fl.vl (bigF a b) + Fl.vl (smaF a b)) 0
   rw [← e] at lt
   obtain ⟨t1, t2⟩ := rg_rung lt
   refine ⟨t2, by omega, ?_⟩
   rw [t1]
   exact len_up (x := bigF a b) (y := smaF a b) (by omega) (by omega) (by omega) B2 S2 (by omega) h1 (by rw [B1, S1]; exact e)
theorem unit_form2 {x : Nat} (g : Nat) (n : Int) (d : Nat) (hg : g = 1021) (hd : d ≤ 1) (hn : n = -ptE x + (d : Int)) (hx : x < 18446744073709551616) (hf : Fl.rg x < 9218868437227405312) (hz : ¬ Fl.rg x = 0) :
  Fl.rg (scF x n) = Fl.rq (mtF x * 2 ^ (g + d)) 0 ∧ Fl.vl (Fl.rg (scF x n)) = mtF x * 2 ^ (g + d) ∧ 4602678819172646912 ≤ Fl.rg (scF x n) ∧ Fl.rg (scF x n) < 4611686018427387904 := by
 have h1 := rz_form hx hf hz n
 rw [rz_nat (mtF x) (g + d) _ (by omega)] at h1
 have h2 := Fl.vl_comb (g + d) (mtF x) (by have := mt_hi x; omega) (Or.inr (mt_lo x))
 have h3 : Fl.rq (mtF x * 2 ^ (g + d)) 0 = (g + d) * 4503599627370496 + mtF x := by
  rw [← h2]
  exact Fl.rq_vl _ (by have := mt_hi x; omega)
 have := mt_hi x
 have := mt_lo x
 rw [rg_scF hf hz, h1]
 refine ⟨rfl, ?_, by omega, by omega⟩
 rw [h3, h2]
theorem two_sq : Fl.rq (Fl.vl 4611686018427387904 * Fl.vl 4611686018427387904) 1074 = 4616189618054758400 := by decide +kernel
theorem four_four : Fl.rq (Fl.vl 4616189618054758400 + Fl.vl 4616189618054758400) 0 = 4620693217682128896 := by decide +kernel
/-- the squares of at most 2, and their sum -/
theorem tog_form2 {u v l : Nat} (su : Fl.sg u = false) (sv : Fl.sg v = false) (hu : Fl.rg u ≤ 4611686018427387904) (hv : Fl.rg v ≤ 4611686018427387904) (h : togR u v l) :
  ∃ p q s, p = Fl.rq (Fl.vl (Fl.rg u) * Fl.vl (Fl.rg u)) 1074 ∧ q = Fl.rq (Fl.vl (Fl.rg v) * Fl.vl (Fl.rg v)) 1074 ∧ p ≤ s ∧ q ≤ s ∧ s ≤ 4620693217682128896 ∧ sqtR s l := by
 obtain ⟨s, ⟨p, q, h1, h2, h3⟩, h4⟩ := h
 have ep := mul_word (by omega) (by omega) h1
 have eq := mul_word (by omega) (by omega) h2
 rw [su, Bool.xor_false, wd_false] at ep
 rw [sv, Bool.xor_false, wd_false] at eq
 have lp : p ≤ 4616189618054758400 := by
  rw [ep, ← two_sq]
  exact Fl.rq_mono _ _ _ (Nat.mul_le_mul (Fl.vl_le_iff.2 hu) (Fl.vl_le_iff.2 hu))
 have lq : q ≤ 4616189618054758400 := by
  rw [eq, ← two_sq]
  exact Fl.rq_mono _ _ _ (Nat.mul_le_mul (Fl.vl_le_iff.2 hv) (Fl.vl_le_iff.2 hv))
 obtain ⟨rp, sp⟩ := rg_rung (r := p) (by omega)
 obtain ⟨rq, sq⟩ := rg_rung (r := q) (by omega)
 have es := add_word sp sq (by omega) (by omega) h3
 rw [rp, rq] at es
 refine ⟨p, q, s, ep, eq, ?_, ?_, ?_, h4⟩
 ·
  have := Fl.rq_mono (Fl.vl p) (Fl.vl p + Fl.vl q) 0 (by omega)
  rw [Fl.rq_vl p (by omega), ← es] at this
  exact this
 ·
  have := Fl.rq_mono (Fl.vl q) (Fl.vl p + Fl.vl q) 0 (by omega)
  rw [Fl.rq_vl q (by omega), ← es] at this
  exact this
 ·
  rw [es, ← four_four]
  exact Fl.rq_mono _ _ _ (Nat.add_le_add (Fl.vl_le_iff.2 lp) (Fl.vl_le_iff.2 lq))
theorem half_sq : Fl.rq ((4503599627370496 * 2 ^ 1021) * (4503599627370496 * 2 ^ 1021)) 1074 = 4598175219545276416 := by decide +kernel
theorem half_r : Fl.rq (4503599627370496 * 2 ^ 1021) 0 = 4602678819172646912 := by decide +kernel
theorem four_sq : Fl.rq ((4503599627370496 * 2 ^ 1024) * (4503599627370496 * 2 ^ 1024)) 1074 = 4625196817309499392 := by decide +kernel
theorem four_r : Fl.rq (4503599627370496 * 2 ^ 1024) 0 = 4616189618054758400 := by decide +kernel
/-- the root of what lies from a quarter to 8 lies from a half to 4 -/
theorem sqt_mid {s l : Nat} (h1 : 4598175219545276416 ≤ s) (h2 : s ≤ 4620693217682128896) (h : sqtR s l) : 4602678819172646912 ≤ l ∧ l ≤ 4616189618054758400 := by
 obtain ⟨rs, ss⟩ := rg_rung (r := s) (by omega)
 obtain ⟨r, k1, k2, k3⟩ := Fl.sqrt_ge (x := s) (b := 4503599627370496) (g := 1021) (G := 968) 1074 rfl (by omega) (by omega) (by omega) (by omega) (by omega) ss (by rw [rs, half_sq]; omega)
 obtain ⟨r', m1, m2⟩ := Fl.sqrt_le (x := s) (b := 4503599627370496) (g := 1024) (G := 974) 1074 rfl (by omega) (by omega) (by omega) (by omega) ss (by omega) (by rw [four_sq]; omega) (by rw [rs, four_sq]; omega)
 rw [half_r] at k2
 rw [four_r] at m2
 have e1 := sqt_word h k1
 have e2 := sqt_word h m1
 omega
end Go.Proofs.YtfgfofedacehiaaGreat

