/-
  OWN TEXT: a float by its parts: scaled to a half and more, and back; what is as great or greater stays so.
-/
import Derived.Test.YtpfaaimfembhdaaJRmAToRmB
import Derived.Test.YtpfaaimfembhdaaJTwA
import Derived.Test.YtpfaaimfembhdaaJRoA
import Derived.Test.YtpfaaimfembhdaaJRfB
set_option linter.unusedVariables false
namespace Go.Proofs.Ytpfaaimfembhdaa
/-- the figures of a float, from 2^52 on -/
def mtF (x : Nat) : Nat := 4503599627370496 + Fl.rg (nmF x) % 4503599627370496
theorem mt_lo (x : Nat) : 4503599627370496 ≤ mtF x := by unfold mtF; omega
theorem mt_hi (x : Nat) : mtF x < 9007199254740992 := by unfold mtF; omega
theorem rz_form {x : Nat} (hx : x < 18446744073709551616) (hf : Fl.rg x < 9218868437227405312) (hz : ¬ Fl.rg x = 0) (n : Int) : Fl.rz (Fl.vl (Fl.rg x)) n = Fl.rz (mtF x) (n + ptE x + 1021) := by
  obtain ⟨y1, y2, y3, y4, c1, c2, v1⟩ := nm_facts hx hf hz
  have hpt : ptE x = nmE x + (((Fl.rg (nmF x) / 4503599627370496 : Nat) : Int) - 1023 + 1) := rfl
  unfold mtF
  generalize hy : Fl.rg (nmF x) = y at *
  have v2 := Fl.vl_comb (y / 4503599627370496 - 1) (4503599627370496 + y % 4503599627370496) (by omega) (Or.inr (by omega))
  rw [show (y / 4503599627370496 - 1) * 4503599627370496 + (4503599627370496 + y % 4503599627370496) = y by omega, v1] at v2
  have s1 := Fl.rz_shift (Fl.vl (Fl.rg x)) (-nmE x).toNat (n + nmE x)
  rw [show n + nmE x + (((-nmE x).toNat : Nat) : Int) = n by omega] at s1
  rw [← s1, v2, Fl.rz_shift, hpt]
  congr 1
  omega
theorem rz_nat (v k : Nat) (n : Int) (h : n = (k : Int)) : Fl.rz v n = Fl.rq (v * 2 ^ k) 0 := by
  subst h
  unfold Fl.rz
  rw [show (-(k : Int)).toNat = 0 by omega, Int.toNat_natCast]
theorem rz_mono {v v' : Nat} (n : Int) (h : v ≤ v') : Fl.rz v n ≤ Fl.rz v' n := Fl.rq_mono _ _ _ (Nat.mul_le_mul_right _ h)
theorem rg_scF {x : Nat} (hf : Fl.rg x < 9218868437227405312) (hz : ¬ Fl.rg x = 0) (n : Int) : Fl.rg (scF x n) = Fl.rz (Fl.vl (Fl.rg x)) n := by
  rw [scF_fin hf hz, Fl.rg_wd _ _ (by have := Fl.rz_le (Fl.vl (Fl.rg x)) n; omega)]
theorem sg_scF0 {x : Nat} (hs : Fl.sg x = false) (hf : Fl.rg x < 9218868437227405312) (n : Int) : Fl.sg (scF x n) = false := by
  by_cases hz : Fl.rg x = 0
  · rw [scF_stay (Or.inl hz)]; exact hs
  · rw [scF_sg n hf hz]; exact hs
/-- what is as great or greater, times a power of two, stays so -/
theorem scF_mono {x y : Nat} (n : Int) (hx : Fl.rg x < 9218868437227405312) (hy : Fl.rg y < 9218868437227405312) (h : Fl.rg x ≤ Fl.rg y) : Fl.rg (scF x n) ≤ Fl.rg (scF y n) := by
  by_cases zx : Fl.rg x = 0
  · rw [scF_stay (Or.inl zx), zx]; omega
  · rw [rg_scF hx zx, rg_scF hy (by omega)]
    exact rz_mono n (Fl.vl_le_iff.2 h)
theorem pa_pt {x : Nat} (hf : Fl.rg x < 9218868437227405312) (hz : ¬ Fl.rg x = 0) : paE x = ptE x := by
  unfold paE; rw [if_neg (by omega)]
/-- scaled by its own order: half and more -/
theorem unit_form {x : Nat} (g : Nat) (hg : g = 1021) (hx : x < 18446744073709551616) (hf : Fl.rg x < 9218868437227405312) (hz : ¬ Fl.rg x = 0) :
    Fl.rg (scF x (-ptE x)) = Fl.rq (mtF x * 2 ^ g) 0 ∧ Fl.vl (Fl.rg (scF x (-ptE x))) = mtF x * 2 ^ g ∧ 4602678819172646912 ≤ Fl.rg (scF x (-ptE x)) ∧ Fl.rg (scF x (-ptE x)) < 4607182418800017408 := by
  have h1 := rz_form hx hf hz (-ptE x)
  rw [rz_nat (mtF x) g _ (by omega)] at h1
  have h2 := vl_half (Fl.rg (nmF x) % 4503599627370496) g (by omega) hg
  have h3 : Fl.rq (mtF x * 2 ^ g) 0 = 4602678819172646912 + Fl.rg (nmF x) % 4503599627370496 := by
    show Fl.rq ((4503599627370496 + Fl.rg (nmF x) % 4503599627370496) * 2 ^ g) 0 = _
    rw [← h2]
    exact Fl.rq_vl _ (by omega)
  rw [rg_scF hf hz, h1]
  refine ⟨rfl, ?_, by omega, by omega⟩
  rw [h3, h2]
  rfl
/-- a rung that is a multiple by a power of two of another one's worth -/
theorem scale_nat {x : Nat} (n : Int) (hf : Fl.rg x < 9218868437227405312) (hz : ¬ Fl.rg x = 0) (h1 : Fl.rg (scF x n) < 9218868437227405312) (h2 : 4503599627370496 < Fl.rg (scF x n)) :
    Fl.vl (Fl.rg (scF x n)) * 2 ^ (-n).toNat = Fl.vl (Fl.rg x) * 2 ^ n.toNat := by
  have h := scale_exact n hf hz h1 h2
  have k := congrArg Int.natAbs h
  rw [Int.natAbs_mul, Int.natAbs_mul, Fl.val_abs, Fl.val_abs, Int.natAbs_natCast, Int.natAbs_natCast] at k
  exact k
theorem scale_back {v v' : Nat} (n : Int) (h : v * 2 ^ n.toNat = v' * 2 ^ (-n).toNat) : Fl.rz v n = Fl.rq v' 0 := by
  unfold Fl.rz
  rw [h]
  have := Fl.rq_mul v' (-n).toNat 0
  rw [Nat.zero_add] at this
  exact this
end Go.Proofs.Ytpfaaimfembhdaa
/-
  OWN TEXT: a length is at least the greater part, and at most both together, or the next float.
-/
set_option linter.unusedVariables false
namespace Go.Proofs.Ytpfaaimfembhdaa
theorem wd_false (r : Nat) : Fl.wd false r = r := rfl
theorem mul_word {a b x : Nat} (fa : Fl.rg a < 9218868437227405312) (fb : Fl.rg b < 9218868437227405312) (h : opR .mul a b x) : x = Fl.wd (Fl.sg a ^^ Fl.sg b) (Fl.rq (Fl.vl (Fl.rg a) * Fl.vl (Fl.rg b)) 1074) := by
  have hm := Fl.mul_fin (x := a) (y := b) fa fb
  rcases h.2 with k | k
  · exact (Option.some.inj (hm.symm.trans k)).symm
  · exact absurd (hm.symm.trans k.1) (by intro c; cases c)
theorem add_word {a b x : Nat} (sa : Fl.sg a = false) (sb : Fl.sg b = false) (fa : Fl.rg a < 9218868437227405312) (fb : Fl.rg b < 9218868437227405312) (h : opR .add a b x) : x = Fl.rq (Fl.vl (Fl.rg a) + Fl.vl (Fl.rg b)) 0 := by
  have hm := Fl.add_fin (x := a) (y := b) fa fb
  have e : x = Fl.wd (if Fl.val a + Fl.val b = 0 then Fl.sg a && Fl.sg b else decide (Fl.val a + Fl.val b < 0)) (Fl.rq (Fl.val a + Fl.val b).natAbs 0) := by
    rcases h.2 with k | k
    · exact (Option.some.inj (hm.symm.trans k)).symm
    · exact absurd (hm.symm.trans k.1) (by intro c; cases c)
  have va : Fl.val a = (Fl.vl (Fl.rg a) : Int) := by unfold Fl.val; rw [sa]; rfl
  have vb : Fl.val b = (Fl.vl (Fl.rg b) : Int) := by unfold Fl.val; rw [sb]; rfl
  rw [va, vb, sa, show ((Fl.vl (Fl.rg a) : Int) + (Fl.vl (Fl.rg b) : Int)).natAbs = Fl.vl (Fl.rg a) + Fl.vl (Fl.rg b) by omega] at e
  rw [e]
  by_cases z : (Fl.vl (Fl.rg a) : Int) + (Fl.vl (Fl.rg b) : Int) = 0
  · rw [if_pos z, Bool.false_and, wd_false]
  · rw [if_neg z, decide_eq_false (by omega), wd_false]
theorem rg_rung {r : Nat} (h : r ≤ 9218868437227405312) : Fl.rg r = r ∧ Fl.sg r = false := by
  constructor
  · unfold Fl.rg; omega
  · rw [Fl.sg_lt (by omega)]; exact decide_eq_false (by omega)
theorem one_sq : Fl.rq (Fl.vl 4607182418800017408 * Fl.vl 4607182418800017408) 1074 = 4607182418800017408 := by decide +kernel
theorem one_one : Fl.rq (Fl.vl 4607182418800017408 + Fl.vl 4607182418800017408) 0 = 4611686018427387904 := by decide +kernel
/-- the square of at most 1, twice, and their sum -/
theorem tog_form {u v l : Nat} (su : Fl.sg u = false) (sv : Fl.sg v = false) (hu : Fl.rg u ≤ 4607182418800017408) (hv : Fl.rg v ≤ 4607182418800017408) (h : togR u v l) :
    ∃ p q s, p = Fl.rq (Fl.vl (Fl.rg u) * Fl.vl (Fl.rg u)) 1074 ∧ q = Fl.rq (Fl.vl (Fl.rg v) * Fl.vl (Fl.rg v)) 1074 ∧ s = Fl.rq (Fl.vl p + Fl.vl q) 0 ∧ p ≤ s ∧ p ≤ 4607182418800017408 ∧ q ≤ 4607182418800017408 ∧ s ≤ 4611686018427387904 ∧ sqtR s l := by
  obtain ⟨s, ⟨p, q, h1, h2, h3⟩, h4⟩ := h
  have ep := mul_word (by omega) (by omega) h1
  have eq := mul_word (by omega) (by omega) h2
  rw [su, Bool.xor_false, wd_false] at ep
  rw [sv, Bool.xor_false, wd_false] at eq
  have ep' := ep
  have eq' := eq
  have lp : p ≤ 4607182418800017408 := by
    rw [ep', ← one_sq]
    exact Fl.rq_mono _ _ _ (Nat.mul_le_mul (Fl.vl_le_iff.2 hu) (Fl.vl_le_iff.2 hu))
  have lq : q ≤ 4607182418800017408 := by
    rw [eq', ← one_sq]
    exact Fl.rq_mono _ _ _ (Nat.mul_le_mul (Fl.vl_le_iff.2 hv) (Fl.vl_le_iff.2 hv))
  obtain ⟨rp, sp⟩ := rg_rung (r := p) (by omega)
  obtain ⟨rq, sq⟩ := rg_rung (r := q) (by omega)
  have es := add_word sp sq (by omega) (by omega) h3
  rw [rp, rq] at es
  refine ⟨p, q, s, ep', eq', es, ?_, lp, lq, ?_, h4⟩
  · rw [es]
    have := Fl.rq_mono (Fl.vl p) (Fl.vl p + Fl.vl q) 0 (by omega)
    rw [Fl.rq_vl p (by omega)] at this
    exact this
  · rw [es, ← one_one]
    exact Fl.rq_mono _ _ _ (Nat.add_le_add (Fl.vl_le_iff.2 lp) (Fl.vl_le_iff.2 lq))
theorem sqt_word {s l r : Nat} (h : sqtR s l) (k : Ieee.double.sqrt s = some (Fl.wd false r)) : l = r := by
  rcases h.2 with e | e
  · exact (Option.some.inj (e.symm.trans k))
  · exact absurd (e.1.symm.trans k) (by intro c; cases c)
/-- the root of the squares is at least the greater one -/
theorem tog_low {x v l : Nat} (hx : x < 18446744073709551616) (hf : Fl.rg x < 9218868437227405312) (hz : ¬ Fl.rg x = 0) (sx : Fl.sg x = false) (sv : Fl.sg v = false) (hv : Fl.rg v ≤ 4607182418800017408) (h : togR (scF x (-ptE x)) v l) :
    Fl.sg l = false ∧ Fl.rg (scF x (-ptE x)) ≤ Fl.rg l ∧ Fl.rg l ≤ 4611686018427387904 ∧ l = Fl.rg l := by
  obtain ⟨g, hg⟩ : ∃ g, g = 1021 := ⟨_, rfl⟩
  obtain ⟨u1, u2, u3, u4⟩ := unit_form g hg hx hf hz
  obtain ⟨p, q, s, e1, e2, e3, l1, l2, l3, l4, h4⟩ := tog_form (sg_scF0 sx hf _) sv (by omega) hv h
  obtain ⟨rs, ss⟩ := rg_rung (r := s) (by omega)
  obtain ⟨c, hc⟩ : ∃ c, c = 1074 := ⟨_, rfl⟩
  rw [u2, ← hc] at e1
  obtain ⟨r, k1, k2, k3⟩ := Fl.sqrt_ge (x := s) (b := mtF x) (g := g) (G := 968) c hc (by omega) (by omega) (mt_lo x) (mt_hi x) (by omega) ss (by rw [rs]; omega)
  have hs0 : ¬ Fl.rg s = 0 := by
    intro e
    rw [rs] at e
    subst e
    have hs : Ieee.double.sqrt 0 = some (Fl.wd false 0) := by decide +kernel
    rw [k1] at hs
    have := Option.some.inj hs
    rw [← u1] at k2
    have e0 : r = 0 := this
    omega
  have t1 : Fl.rq ((4503599627370496 * 2 ^ 1023) * (4503599627370496 * 2 ^ 1023)) 1074 = 4616189618054758400 := by decide +kernel
  have t2 : Fl.rq (4503599627370496 * 2 ^ 1023) 0 = 4611686018427387904 := by decide +kernel
  obtain ⟨r', m1, m2⟩ := Fl.sqrt_le (x := s) (b := 4503599627370496) (g := 1023) (G := 972) 1074 rfl (by omega) (by omega) (by omega) (by omega) ss hs0 (by rw [t1]; omega) (by rw [rs, t1]; omega)
  rw [t2] at m2
  have el := sqt_word h4 k1
  have el' := sqt_word h4 m1
  subst el
  subst el'
  obtain ⟨rr, sr⟩ := rg_rung (r := l) k3
  rw [rr, u1]
  exact ⟨sr, k2, m2, rfl⟩
theorem sma_big (a b : Nat) (na : Fl.nan a = false) (nb : Fl.nan b = false) : smaF a b ≤ bigF a b ∧ (bigF a b = Fl.rg a ∧ smaF a b = Fl.rg b ∨ bigF a b = Fl.rg b ∧ smaF a b = Fl.rg a) := by
  have hs : ∀ x, Fl.sg (Fl.rg x) = false := fun x => by
    have hl := Fl.rg_lt x
    rw [Fl.sg_lt (by omega)]; exact decide_eq_false (by omega)
  have hk : ∀ x, Fl.key (Fl.rg x) = (Fl.rg x : Int) := fun x => by unfold Fl.key; rw [hs, if_neg (by decide), Fl.rg_rg]
  have e : Fl.ltF (Fl.rg a) (Fl.rg b) = decide (Fl.rg a < Fl.rg b) := by
    rw [Fl.ltF_of (by rw [Fl.nan_rg]; exact na) (by rw [Fl.nan_rg]; exact nb), hk, hk]
    by_cases c : Fl.rg a < Fl.rg b
    · rw [decide_eq_true c, decide_eq_true (by omega)]
    · rw [decide_eq_false c, decide_eq_false (by omega)]
  unfold smaF bigF
  rw [e]
  by_cases c : Fl.rg a < Fl.rg b
  · rw [decide_eq_true c, if_pos rfl, if_pos rfl]; exact ⟨by omega, Or.inr ⟨rfl, rfl⟩⟩
  · rw [decide_eq_false c, if_neg (by decide), if_neg (by decide)]; exact ⟨by omega, Or.inl ⟨rfl, rfl⟩⟩
/-- the lesser part, scaled by the greater one's order, is at most 1 -/
theorem sma_unit {x y : Nat} (hx : x < 18446744073709551616) (hf : Fl.rg x < 9218868437227405312) (hz : ¬ Fl.rg x = 0) (h : Fl.rg y ≤ Fl.rg x) : Fl.rg (scF y (-ptE x)) ≤ Fl.rg (scF x (-ptE x)) := scF_mono _ (by omega) hf h
/-- a length is at least the greater part -/
theorem len_low {x y l : Nat} (hx : x < 18446744073709551616) (hf : Fl.rg x < 9218868437227405312) (hz : ¬ Fl.rg x = 0) (sx : Fl.sg x = false) (sy : Fl.sg y = false) (h : Fl.rg y ≤ Fl.rg x) (ht : togR (scF x (-ptE x)) (scF y (-ptE x)) l) :
    Fl.sg (scF l (ptE x)) = false ∧ Fl.rg x ≤ Fl.rg (scF l (ptE x)) ∧ Fl.rg (scF l (ptE x)) ≤ 9218868437227405312 ∧ ¬ Fl.rg l = 0 ∧ Fl.rg l < 9218868437227405312 := by
  obtain ⟨g, hg⟩ : ∃ g, g = 1021 := ⟨_, rfl⟩
  obtain ⟨u1, u2, u3, u4⟩ := unit_form g hg hx hf hz
  have hy := sma_unit hx hf hz h
  obtain ⟨k1, k2, k3, k4⟩ := tog_low hx hf hz sx (sg_scF0 sy (by omega) _) (by omega) ht
  have hl0 : ¬ Fl.rg l = 0 := by omega
  refine ⟨sg_scF0 k1 (by omega) _, ?_, ?_, hl0, by omega⟩
  · have m := scF_mono (x := scF x (-ptE x)) (y := l) (ptE x) (by omega) (by omega) k2
    rw [rg_scF (x := scF x (-ptE x)) (by omega) (by omega), u2] at m
    have e := Fl.rz_shift (mtF x) g (ptE x)
    rw [e] at m
    have f := rz_form hx hf hz 0
    rw [show (0 : Int) + ptE x + 1021 = ptE x + (g : Int) by omega, Fl.rz_zero, Fl.rq_vl _ (by omega)] at f
    omega
  · rw [rg_scF (by omega) hl0]; exact Fl.rz_le _ _
end Go.Proofs.Ytpfaaimfembhdaa
