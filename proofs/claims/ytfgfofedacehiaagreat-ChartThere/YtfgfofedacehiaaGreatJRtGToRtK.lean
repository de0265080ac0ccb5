/-
 OWN TEXT: how far roots are from the true ones.
-/
import Derived.Test.YtfgfofedacehiaaGreatJRtAToRtF
import Derived.Test.YtfgfofedacehiaaGreatJRmG
set_option linter.unusedVariables false
set_option exponentiation.threshold 3000
namespace Go.Proofs.YtfgfofedacehiaaGreat.Rt
open Sv (en en_unit en_pos Ab unit_of pos_of)
theorem rr_two : rr 4611686018427387904 = 2 := by
 unfold rr
 have h : (Fl.vl 4611686018427387904 : Nat) = 2 * 2 ^ 1074 := by decide +kernel
 have u := en_unit
 rw [h, nat_mul]
 generalize ((2 ^ 1074 : Nat) : Rat) = D at *
 have : ((2 : Nat) : Rat) * D * en = 2 * (D * en) := by grind
 rw [this, u]; grind
theorem far_end : Fl.vl 6922032627268452352 * 16 ≤ Fl.vl 9218868437227405311 := by decide +kernel
theorem rr_far : rr 6922032627268452352 * 16 ≤ rr 9218868437227405311 := by
 have h := nat_le far_end
 rw [nat_mul] at h
 have k := Rat.mul_le_mul_of_nonneg_right h (Rat.le_of_lt en_pos)
 unfold rr
 have c : ((16 : Nat) : Rat) = 16 := rfl
 rw [c] at k
 grind
theorem small_two : (1606938044258990275541962092341162602522202993782792835301376 * 36028797018963968 * 2 ^ 537 : Nat) ≤ 2 ^ 1074 := by decide +kernel
/-- powers of two from 2^-537 on are far above the least float -/
theorem pw_low (k : Int) (hk : -537 ≤ k) : 1606938044258990275541962092341162602522202993782792835301376 * (36028797018963968 * en) ≤ pw k := by
 obtain ⟨z, hz⟩ : ∃ z : Nat, z = 537 := ⟨_, rfl⟩
 have h1 := pw_of (z : Int) z 0 (by omega)
 have e0 : ((2 ^ 0 : Nat) : Rat) = 1 := by exact_mod_cast Nat.pow_zero 2
 rw [e0] at h1
 have h2 := pw_add k (z : Int)
 have h3 := pw_of (k + (z : Int)) (k + (z : Int)).toNat 0 (by omega)
 rw [e0] at h3
 have h4 : (1 : Rat) ≤ ((2 ^ (k + (z : Int)).toNat : Nat) : Rat) := nat_le (a := 1) Nat.one_le_two_pow
 have g0 := small_two
 rw [← hz] at g0
 have g := nat_le g0
 clear hz g0
 rw [nat_mul, nat_mul] at g
 have he := en_pos
 have f := Rat.mul_le_mul_of_nonneg_right g (Rat.le_of_lt he)
 rw [en_unit] at f
 have c1 : ((1606938044258990275541962092341162602522202993782792835301376 : Nat) : Rat) = 1606938044258990275541962092341162602522202993782792835301376 := rfl
 have c2 : ((36028797018963968 : Nat) : Rat) = 36028797018963968 := rfl
 rw [c1, c2] at f
 have p5 : ((2 ^ z : Nat) : Rat) = pw (z : Int) := by grind
 rw [p5] at f
 have pp := pw_pos (z : Int)
 have h5 : 1 ≤ pw k * pw (z : Int) := by rw [← h2]; grind
 clear g h1 h3 h4 p5 h2
 generalize pw (z : Int) = B at *
 generalize pw k = A at *
 rcases Classical.em (1606938044258990275541962092341162602522202993782792835301376 * (36028797018963968 * en) ≤ A) with c | c
 · exact c
 ·
  exfalso
  have c := Rat.not_le.1 c
  have := Rat.mul_lt_mul_of_pos_right c pp
  grind
theorem rr_mul_two {s d : Nat} (hs : Fl.rg s < 9218868437227405312) (ss : Fl.sg s = false) (h : opR .mul 4611686018427387904 s d) (hd : d < 9218868437227405312) : Ab (rr d - 2 * rr (Fl.rg s)) (2 * (1 / 9007199254740992 * rr (Fl.rg s)) + en) := by
 have e := Fl.mul_two (x := s) hs
 rw [ss, wd_false] at e
 have ed : d = Fl.rq (Fl.vl (Fl.rg s) * 2) 0 := by
  rcases h.2 with m | m
  · exact (Option.some.inj (e.symm.trans m)).symm
  · exact absurd (e.symm.trans m.1) (by intro c; cases c)
 rw [ed] at hd ⊢
 have k := rq_rat (n := Fl.vl (Fl.rg s) * 2) 0 0 hd (u := 1) (by grind) (by grind)
 rw [nat_mul] at k
 have c : ((2 : Nat) : Rat) = 2 := rfl
 rw [c] at k
 have he := en_pos
 unfold rr at *
 unfold Ab at *
 constructor <;> grind
/-- the greater part of a root, the double of it, the other part -/
theorem root_parts {a b l s0 h t d : Nat} (fa : Fl.rg a < 9218868437227405312) (fb : Fl.rg b < 9218868437227405312) (hz : ¬ bigF a b = 0)
  (h1 : togR (scF (Fl.rg a) (-(2 * (paE (bigF a b) / 2)))) (scF (Fl.rg b) (-(2 * (paE (bigF a b) / 2)))) l)
  (h2 : opR .add (scF (Fl.rg a) (-(2 * (paE (bigF a b) / 2)))) l s0) (h3 : opR .quo s0 4611686018427387904 h) (h4 : sqtR h t)
  (h5 : opR .mul 4611686018427387904 (scF t (paE (bigF a b) / 2)) d) :
  ∃ L s : Rat, s = rr (Fl.rg (scF t (paE (bigF a b) / 2))) ∧ 0 ≤ L ∧ 0 < nq a b ∧ Ab (L * L - nq a b) (24 / 5 * (1 / 9007199254740992 * nq a b)) ∧ Ab (2 * (s * s) - (rr (Fl.rg a) + L)) (39 / 5 * (1 / 9007199254740992 * (rr (Fl.rg a) + L))) ∧
   Ab (rr d - 2 * s) (2 * (1 / 9007199254740992 * s) + en) ∧ 1606938044258990275541962092341162602522202993782792835301376 * en ≤ s := by
 have na : Fl.nan a = false := by unfold Fl.nan; exact decide_eq_false (by omega)
 have nb : Fl.nan b = false := by unfold Fl.nan; exact decide_eq_false (by omega)
 obtain ⟨rL, rS, rH, rT, rV, rD⟩ := rooP_mid fa fb hz h1 h2 h3 h4 h5
 obtain ⟨hsb, hs2⟩ := sma_big a b na nb
 have hbl : bigF a b < 9218868437227405312 := by rcases hs2 with ⟨e1, e2⟩ | ⟨e1, e2⟩ <;> omega
 obtain ⟨rU, sU⟩ := rg_rung (r := bigF a b) (by omega)
 obtain ⟨ra, sa⟩ := rg_rung (r := Fl.rg a) (by omega)
 obtain ⟨rb, sb⟩ := rg_rung (r := Fl.rg b) (by omega)
 have hpa := pa_pt (x := bigF a b) (by omega) (by omega)
 obtain ⟨p1, p2⟩ := pt_range (x := bigF a b) (by omega) (by omega) (by omega)
 rw [hpa] at h1 h2 h5 rV ⊢
 have hpw : pw (ptE (bigF a b) / 2) * pw (ptE (bigF a b) / 2) * pw (-(2 * (ptE (bigF a b) / 2))) = 1 := by
  rw [← pw_add, ← pw_add, show ptE (bigF a b) / 2 + ptE (bigF a b) / 2 + -(2 * (ptE (bigF a b) / 2)) = 0 by omega, pw_zero]
 have lowk := pw_low (ptE (bigF a b) / 2) (by omega)
 -- both parts, scaled
 obtain ⟨F1, F2, F3, F4, F5⟩ : Ab (rr (Fl.rg (scF (Fl.rg a) (-(2 * (ptE (bigF a b) / 2))))) - pw (-(2 * (ptE (bigF a b) / 2))) * rr (Fl.rg a)) (2 * en) ∧
   Ab ((rr (Fl.rg (scF (Fl.rg a) (-(2 * (ptE (bigF a b) / 2))))) * rr (Fl.rg (scF (Fl.rg a) (-(2 * (ptE (bigF a b) / 2))))) + rr (Fl.rg (scF (Fl.rg b) (-(2 * (ptE (bigF a b) / 2))))) * rr (Fl.rg (scF (Fl.rg b) (-(2 * (ptE (bigF a b) / 2)))))) - pw (-(2 * (ptE (bigF a b) / 2))) * pw (-(2 * (ptE (bigF a b) / 2))) * nq a b) (12 * en) ∧
   Fl.rg (scF (Fl.rg a) (-(2 * (ptE (bigF a b) / 2)))) ≤ 4611686018427387904 ∧ Fl.rg (scF (Fl.rg b) (-(2 * (ptE (bigF a b) / 2)))) ≤ 4611686018427387904 ∧
   (4602678819172646912 ≤ Fl.rg (scF (Fl.rg a) (-(2 * (ptE (bigF a b) / 2)))) ∨ 4602678819172646912 ≤ Fl.rg (scF (Fl.rg b) (-(2 * (ptE (bigF a b) / 2))))) := by
  obtain ⟨dd, hd, hd1⟩ : ∃ dd : Nat, -(2 * (ptE (bigF a b) / 2)) = -ptE (bigF a b) + (dd : Int) ∧ dd ≤ 1 := ⟨(ptE (bigF a b) - 2 * (ptE (bigF a b) / 2)).toNat, by omega, by omega⟩
  obtain ⟨u1, u2, u3, u4⟩ := unit_form2 (x := bigF a b) 1021 (-(2 * (ptE (bigF a b) / 2))) dd rfl hd1 hd (by omega) (by omega) (by omega)
  generalize -(2 * (ptE (bigF a b) / 2)) = m at *
  have he := en_pos
  have zero : ∀ x : Rat, Ab (x - x) (2 * en) := fun x => by unfold Ab; constructor <;> grind
  rcases hs2 with ⟨e1, e2⟩ | ⟨e1, e2⟩
  ·
   rw [e1] at u3 u4
   obtain ⟨s1, s2, s3, s4⟩ := scaled_near (x := Fl.rg a) (y := Fl.rg b) m (by omega) (by omega) u3 (by omega)
   rw [ra, rb] at *
   refine ⟨by rw [s1]; exact zero _, s4, by omega, by omega, Or.inl u3⟩
  ·
   rw [e1] at u3 u4
   obtain ⟨s1, s2, s3, s4⟩ := scaled_near (x := Fl.rg b) (y := Fl.rg a) m (by omega) (by omega) u3 (by omega)
   rw [ra, rb] at *
   refine ⟨s2, ?_, by omega, by omega, Or.inr u3⟩
   unfold nq
   unfold Ab at *
   constructor <;> grind
 generalize ptE (bigF a b) / 2 = K at *
 generalize -(2 * K) = m at *
 obtain ⟨l1, l2, l3, l4, l5⟩ := tog_near (sg_scF0 sa (by omega) _) (sg_scF0 sb (by omega) _) F3 F4 F5 h1
 obtain ⟨rs0, ss0⟩ := rg_rung (r := s0) (by omega)
 obtain ⟨rh, sh⟩ := rg_rung (r := h) (by omega)
 obtain ⟨rt, st⟩ := rg_rung (r := t) (by omega)
 have hadd := rr_add (sg_scF0 sa (by omega) _) l1 (by omega) (by omega) h2 (by omega)
 rw [l2] at hadd
 have r2 : Fl.rg 4611686018427387904 = 4611686018427387904 := by decide
 obtain ⟨R, q1, q2, q3, _⟩ := rr_quo (a := s0) (b := 4611686018427387904) (by omega) (by rw [r2]; omega) (by rw [r2]; omega) h3
 rw [ss0, show Fl.sg 4611686018427387904 = false by decide, Bool.xor_self, wd_false] at q1
 subst q1
 have hquo := q3 (by omega)
 rw [rs0, r2, rr_two] at hquo
 have he := en_pos
 have hes := en_small
 have hs0 := rr_le rS.1
 have ht0 := rr_le rT.1
 have hl0 := rr_le l3
 rw [rr_half] at hs0 ht0 hl0
 have hh8 : 1 / 8 ≤ rr h := by
  unfold Ab at hquo
  clear hadd F1 F2 l5
  grind
 obtain ⟨_, _, v', t', g1, g2, g3, g4, g5⟩ := rr_sqrt (x := h) (by omega) sh (by omega) h4 (by omega)
 rw [rh] at g3 g4
 have hsq := near_sq rfl g1 g2 g3 g4 g5 he hes hh8
 clear g1 g2 g3 g4 g5
 -- the number of which t is the root
 have hX0 : 0 ≤ pw m * rr (Fl.rg a) := Rat.mul_nonneg (Rat.le_of_lt (pw_pos m)) (rr_nn _)
 have ht2 : Ab (2 * (rr t * rr t) - (pw m * rr (Fl.rg a) + rr l)) (39 / 5 * (1 / 9007199254740992 * (pw m * rr (Fl.rg a) + rr l))) := by
  clear l5 F2 hpw lowk
  generalize pw m * rr (Fl.rg a) = X at *
  generalize rr t * rr t = T at *
  generalize rr (Fl.rg (scF (Fl.rg a) m)) = U at *
  generalize rr l = L at *
  generalize rr h = H at *
  generalize rr s0 = S at *
  unfold Ab at *
  obtain ⟨x1, x2⟩ := F1
  obtain ⟨y1, y2⟩ := hadd
  obtain ⟨z1, z2⟩ := hquo
  obtain ⟨w1, w2⟩ := hsq
  constructor <;> grind
 -- the root itself
 have hT := rr_scale (x := t) K (by omega) (by omega)
 rw [rt] at hT
 have hpK := pw_pos K
 have hKt : pw K * (1 / 2) ≤ pw K * rr t := Rat.mul_le_mul_of_nonneg_left ht0 (Rat.le_of_lt hpK)
 have hS : rr (Fl.rg (scF t K)) = pw K * rr t := by
  refine hT.2 ?_
  rcases Nat.lt_or_ge 4503599627370496 (Fl.rg (scF t K)) with c | c
  · exact c
  ·
   exfalso
   have b := rr_le c
   rw [rr_top.1] at b
   have b2 := hT.1
   unfold Ab at b2
   clear ht2 hsq hquo hadd F1 F2 l5
   grind
 -- the squares' sum
 have hN : Ab (rr l * rr l - pw m * pw m * nq a b) (24 / 5 * (1 / 9007199254740992 * (pw m * pw m * nq a b))) ∧ 1 / 8 ≤ pw m * pw m * nq a b := by
  have hSS : 1 / 4 ≤ rr (Fl.rg (scF (Fl.rg a) m)) * rr (Fl.rg (scF (Fl.rg a) m)) + rr (Fl.rg (scF (Fl.rg b) m)) * rr (Fl.rg (scF (Fl.rg b) m)) := by
   have n1 := sq_nn (rr (Fl.rg (scF (Fl.rg a) m)))
   have n2 := sq_nn (rr (Fl.rg (scF (Fl.rg b) m)))
   have half : ∀ {r : Nat}, 4602678819172646912 ≤ r → 1 / 4 ≤ rr r * rr r := by
    intro r c
    have c' := rr_le c
    rw [rr_half] at c'
    have := Rat.mul_le_mul_of_nonneg_left c' (show 0 ≤ rr r by grind)
    grind
   rcases F5 with c | c
   · have := half c; grind
   · have := half c; grind
  clear ht2 hsq hquo hadd F1 hT hS hKt lowk
  generalize rr (Fl.rg (scF (Fl.rg a) m)) * rr (Fl.rg (scF (Fl.rg a) m)) + rr (Fl.rg (scF (Fl.rg b) m)) * rr (Fl.rg (scF (Fl.rg b) m)) = S at *
  generalize pw m * pw m * nq a b = N at *
  generalize rr l * rr l = L at *
  unfold Ab at *
  obtain ⟨x1, x2⟩ := F2
  obtain ⟨y1, y2⟩ := l5
  refine ⟨⟨?_, ?_⟩, ?_⟩ <;> grind
 obtain ⟨hN, hN8⟩ := hN
 have hn0 : 0 < nq a b := by
  rcases Classical.em (0 < nq a b) with c | c
  · exact c
  ·
   exfalso
   have c := Rat.not_lt.1 c
   have := Rat.mul_nonneg (Rat.le_of_lt (Rat.mul_pos (pw_pos m) (pw_pos m))) (show 0 ≤ -nq a b by grind)
   grind
 have hd2 := rr_mul_two (s := scF t K) (by omega) (by rw [rV.1]; exact (rg_rung (r := Fl.rg (scF t K)) (by omega)).2) h5 (by omega)
 clear l5 F1 F2 hadd hquo hsq
 refine ⟨pw K * pw K * rr l, rr (Fl.rg (scF t K)), rfl, Rat.mul_nonneg (Rat.le_of_lt (Rat.mul_pos hpK hpK)) (rr_nn l), hn0, ?_, ?_, hd2, ?_⟩
 ·
  have pp : 0 ≤ pw K * pw K * (pw K * pw K) := Rat.le_of_lt (Rat.mul_pos (Rat.mul_pos hpK hpK) (Rat.mul_pos hpK hpK))
  obtain ⟨x1, x2⟩ := hN
  have k1 := Rat.mul_le_mul_of_nonneg_left x1 pp
  have k2 := Rat.mul_le_mul_of_nonneg_left x2 pp
  have e1 : pw K * pw K * (pw K * pw K) * (pw m * pw m * nq a b) = nq a b := by
   have : pw K * pw K * (pw K * pw K) * (pw m * pw m * nq a b) = (pw K * pw K * pw m) * (pw K * pw K * pw m) * nq a b := by grind
   rw [this, hpw]; grind
  have e2 : pw K * pw K * (pw K * pw K) * (rr l * rr l - pw m * pw m * nq a b) = pw K * pw K * rr l * (pw K * pw K * rr l) - nq a b := by
   rw [← e1]; grind
  have e3 : pw K * pw K * (pw K * pw K) * (24 / 5 * (1 / 9007199254740992 * (pw m * pw m * nq a b))) = 24 / 5 * (1 / 9007199254740992 * nq a b) := by
   have : pw K * pw K * (pw K * pw K) * (24 / 5 * (1 / 9007199254740992 * (pw m * pw m * nq a b))) = 24 / 5 * (1 / 9007199254740992 * (pw K * pw K * (pw K * pw K) * (pw m * pw m * nq a b))) := by grind
   rw [this, e1]
  have e4 : pw K * pw K * (pw K * pw K) * -(24 / 5 * (1 / 9007199254740992 * (pw m * pw m * nq a b))) = -(24 / 5 * (1 / 9007199254740992 * nq a b)) := by rw [← e3]; grind
  rw [e2, e4] at k1
  rw [e2, e3] at k2
  exact ⟨k1, k2⟩
 ·
  have pp : 0 ≤ pw K * pw K := Rat.le_of_lt (Rat.mul_pos hpK hpK)
  obtain ⟨x1, x2⟩ := ht2
  have k1 := Rat.mul_le_mul_of_nonneg_left x1 pp
  have k2 := Rat.mul_le_mul_of_nonneg_left x2 pp
  have e1 : pw K * pw K * (pw m * rr (Fl.rg a) + rr l) = rr (Fl.rg a) + pw K * pw K * rr l := by
   have : pw K * pw K * (pw m * rr (Fl.rg a) + rr l) = (pw K * pw K * pw m) * rr (Fl.rg a) + pw K * pw K * rr l := by grind
   rw [this, hpw]; grind
  have e2 : pw K * pw K * (2 * (rr t * rr t) - (pw m * rr (Fl.rg a) + rr l)) = 2 * (pw K * rr t * (pw K * rr t)) - (rr (Fl.rg a) + pw K * pw K * rr l) := by
   rw [← e1]; grind
  have e3 : pw K * pw K * (39 / 5 * (1 / 9007199254740992 * (pw m * rr (Fl.rg a) + rr l))) = 39 / 5 * (1 / 9007199254740992 * (rr (Fl.rg a) + pw K * pw K * rr l)) := by
   rw [← e1]; grind
  have e4 : pw K * pw K * -(39 / 5 * (1 / 9007199254740992 * (pw m * rr (Fl.rg a) + rr l))) = -(39 / 5 * (1 / 9007199254740992 * (rr (Fl.rg a) + pw K * pw K * rr l))) := by
   rw [← e3]; grind
  rw [e2, e4] at k1
  rw [e2, e3] at k2
  rw [hS]
  exact ⟨k1, k2⟩
 ·
  rw [hS]
  clear ht2 hN hT hd2 hN8
  grind
end Go.Proofs.YtfgfofedacehiaaGreat.Rt

/-
 OWN TEXT: how far roots are from the true ones: the square of the root against the number.
-/
set_option linter.unusedVariables false
set_option exponentiation.threshold 3000
namespace Go.Proofs.YtfgfofedacehiaaGreat.Rt
open Sv (en en_unit en_pos Ab unit_of pos_of rv Fi)
theorem rv_rr (x : Nat) : rv x = if Fl.sg x then -rr (Fl.rg x) else rr (Fl.rg x) := by
 unfold rv rr Fl.val
 cases Fl.sg x
 · rfl
 ·
  show ((-(Fl.vl (Fl.rg x) : Int) : Int) : Rat) * en = -((Fl.vl (Fl.rg x) : Rat) * en)
  rw [Rat.intCast_neg]
  have : (((Fl.vl (Fl.rg x) : Nat) : Int) : Rat) = (Fl.vl (Fl.rg x) : Rat) := rfl
  rw [this]
  grind
theorem rv_wd (s : Bool) {r : Nat} (h : r ≤ 9218868437227405312) : rv (Fl.wd s r) = if s then -rr r else rr r := by
 rw [rv_rr, Fl.sg_wd _ _ (by omega), Fl.rg_wd _ _ (by omega)]
/-- the square of the root is not farther from the number than 2^-48 of its length -/
theorem root_true {a b re im : Nat} (ha : a < 18446744073709551616) (hb : b < 18446744073709551616) (fa : Fl.rg a < 9218868437227405312) (fb : Fl.rg b < 9218868437227405312) (hz : ¬ bigF a b = 0) (h : rooP a b re im) :
  Fi re ∧ Fi im ∧ (rv re * rv re - rv im * rv im - rv a) * (rv re * rv re - rv im * rv im - rv a) + (rv re * rv im + rv re * rv im - rv b) * (rv re * rv im + rv re * rv im - rv b) ≤ nq a b * (1 / 281474976710656 * (1 / 281474976710656)) := by
 have na : Fl.nan a = false := by unfold Fl.nan; exact decide_eq_false (by omega)
 have nb : Fl.nan b = false := by unfold Fl.nan; exact decide_eq_false (by omega)
 obtain ⟨l, s0, q, t, d, h1, h2, h3, h4, h5, h6⟩ := h
 obtain ⟨rL, rS, rH, rT, rV, rD⟩ := rooP_mid fa fb hz h1 h2 h3 h4 h5
 obtain ⟨L, s, hs, hL, hn0, hl, hP, hd, hes⟩ := root_parts fa fb hz h1 h2 h3 h4 h5
 obtain ⟨rd, sd⟩ := rg_rung (r := d) (by omega)
 have he := en_pos
 generalize hsv : scF t (paE (bigF a b) / 2) = sv at *
 obtain ⟨rsv, ssv⟩ := rg_rung (r := sv) (by omega)
 have hs0 : 0 ≤ s := by rw [hs]; exact rr_nn _
 have hX := rr_nn (Fl.rg a)
 have hY := rr_nn (Fl.rg b)
 -- the other part, finite
 have quo : ∀ {x z : Nat}, Fl.rg x = Fl.rg b → opR .quo x d z → ∃ R, z = Fl.wd (Fl.sg x) R ∧ R < 9218868437227405312 ∧
   (s * s - rr R * rr R - rr (Fl.rg a)) * (s * s - rr R * rr R - rr (Fl.rg a)) + (2 * (s * rr R) - rr (Fl.rg b)) * (2 * (s * rr R) - rr (Fl.rg b)) ≤ nq a b * (1 / 281474976710656 * (1 / 281474976710656)) := by
  intro x z hx hz'
  obtain ⟨R, q1, q2, q3, q4⟩ := rr_quo (a := x) (b := d) (by omega) (by omega) (by omega) hz'
  rw [sd, Bool.xor_false] at q1
  rw [hx, rd] at q3 q4
  have fin : R < 9218868437227405312 := by
   rcases Nat.lt_or_ge R 9218868437227405312 with c | c
   · exact c
   ·
    exfalso
    have k := q4 (by omega)
    have far := rr_far
    have top := rr_le rV.2.2
    rw [← hs] at top
    -- b is not above its length
    have hl1 : nq a b ≤ L * L + 5 * (1 / 9007199254740992 * (L * L)) := by unfold Ab at hl; have := sq_nn L; grind
    have bY : rr (Fl.rg b) ≤ 2 * L := by
     refine sq_le (by grind) ?_
     have e1 : 2 * L * (2 * L) = 4 * (L * L) := by grind
     have XX := sq_nn (rr (Fl.rg a))
     have YY := sq_nn L
     have : nq a b = rr (Fl.rg a) * rr (Fl.rg a) + rr (Fl.rg b) * rr (Fl.rg b) := rfl
     rw [e1]
     grind
    have bL : L ≤ 3 * (s * s) := by unfold Ab at hP; grind
    have bd : s ≤ rr d := by unfold Ab at hd; grind
    have m1 := Rat.mul_le_mul_of_nonneg_left bd (rr_nn 9218868437227405311)
    have m2 := Rat.mul_le_mul_of_nonneg_right far hs0
    have m3 := Rat.mul_le_mul_of_nonneg_right top hs0
    have pos : 0 < s * s := by
     have : 0 < s := by grind
     exact Rat.mul_pos this this
    generalize s * s = S2 at *
    generalize rr 9218868437227405311 * s = A at *
    generalize rr 9218868437227405311 * rr d = B at *
    have c1 : rr 6922032627268452352 * 16 * s = 16 * (rr 6922032627268452352 * s) := by grind
    rw [c1] at m2
    generalize rr 6922032627268452352 * s = C at *
    grind
  refine ⟨R, q1, fin, ?_⟩
  have hq := q3 fin
  have k := root_rat (e := en) (X := rr (Fl.rg a)) (Y := rr (Fl.rg b)) (L := L) (s := s) (q := rr R) (d := rr d) (n := nq a b) he hX hY hL hs0 (rr_nn R) (rr_nn d) hn0 rfl hl hP hd (by unfold Ab at hq ⊢; constructor <;> grind) hes
  have c : nq a b * (1024 * (1 / 9007199254740992 * (1 / 9007199254740992))) = nq a b * (1 / 281474976710656 * (1 / 281474976710656)) := by grind
  rw [c] at k
  exact k
 by_cases c : Fl.leF 0 a = true
 ·
  rw [if_pos c] at h6
  obtain ⟨R, e1, e2, e3⟩ := quo rfl h6.2
  have va : rv a = rr (Fl.rg a) := by
   rw [rv_rr]
   rw [Fl.leF_of (by decide) na] at c
   have c := of_decide_eq_true c
   cases q : Fl.sg a with
   | false => rfl
   | true =>
    have k0 : Fl.key 0 = 0 := by decide
    have k1 : Fl.key a = -(Fl.rg a : Int) := by unfold Fl.key; rw [q]; rfl
    have z : Fl.rg a = 0 := by rw [k0, k1] at c; omega
    rw [z, rr_zero]
    rw [if_pos rfl]
    grind
  have vre : rv re = s := by rw [h6.1, rv_rr, ssv, hs]; rfl
  have vim : rv im = if Fl.sg b then -rr R else rr R := by rw [e1, rv_wd _ (by omega)]
  refine ⟨⟨by rw [h6.1]; omega, by rw [h6.1]; omega⟩, ⟨by rw [e1]; exact Fl.wd_lt _ _ (by omega), by rw [e1, Fl.rg_wd _ _ (by omega)]; exact e2⟩, ?_⟩
  rw [va, vre, vim, rv_rr b]
  have same : ∀ {u v w : Rat}, u = v → v ≤ w → u ≤ w := fun h k => by rw [h]; exact k
  refine same ?_ e3
  cases Fl.sg b
  · simp only [Bool.false_eq_true, if_false]; grind
  · simp only [if_true]; grind
 ·
  rw [if_neg c] at h6
  obtain ⟨R, e1, e2, e3⟩ := quo (Fl.rg_rg b) h6.1
  obtain ⟨rb, sb⟩ := rg_rung (r := Fl.rg b) (by omega)
  rw [sb, wd_false] at e1
  obtain ⟨rR, sR⟩ := rg_rung (r := R) (by omega)
  have va : rv a = -rr (Fl.rg a) := by
   rw [rv_rr]
   rw [Fl.leF_of (by decide) na] at c
   cases q : Fl.sg a with
   | true => rfl
   | false =>
    exfalso
    have k0 : Fl.key 0 = 0 := by decide
    have k1 : Fl.key a = (Fl.rg a : Int) := by unfold Fl.key; rw [q]; rfl
    exact c (decide_eq_true (by rw [k0, k1]; omega))
  have vre : rv re = rr R := by rw [e1, rv_rr, sR, rR]; rfl
  have vim : rv im = if Fl.sg b then -s else s := by rw [h6.2, rv_wd _ (by omega), hs]
  refine ⟨⟨by rw [e1]; omega, by rw [e1]; omega⟩, ⟨by rw [h6.2]; exact Fl.wd_lt _ _ (by omega), by rw [h6.2, Fl.rg_wd _ _ (by omega)]; omega⟩, ?_⟩
  rw [va, vre, vim, rv_rr b]
  have same : ∀ {u v w : Rat}, u = v → v ≤ w → u ≤ w := fun h k => by rw [h]; exact k
  refine same ?_ e3
  cases Fl.sg b
  · simp only [Bool.false_eq_true, if_false]; grind
  · simp only [if_true]; grind
end Go.Proofs.YtfgfofedacehiaaGreat.Rt

/-
 OWN TEXT: RootTrue: what its numbers come to; fractions stay where the blocks below stay.
-/
set_option linter.unusedVariables false
set_option exponentiation.threshold 3000
namespace Go.Proofs.YtfgfofedacehiaaGreat.Rt
open Sv (en en_unit en_pos Ab unit_of pos_of Fi)
theorem len_law {a b r : Nat} (ha : a < 18446744073709551616) (hb : b < 18446744073709551616) (fa : Fl.rg a < 9218868437227405312) (fb : Fl.rg b < 9218868437227405312) (h : lenR a b r) :
  r ≤ 9218868437227405312 ∧ rr ((if r < 9218868437227405312 then r else 9218868437227405311) - 4) * rr ((if r < 9218868437227405312 then r else 9218868437227405311) - 4) ≤ nq a b ∧ 0 ≤ nq a b ∧
  (r < 9218868437227405312 → nq a b ≤ (if r + 4 < 9218868437227405312 then rr (r + 4) else 2 * rr 9218868437227405311) * (if r + 4 < 9218868437227405312 then rr (r + 4) else 2 * rr 9218868437227405311) ∧ ((r = 0 ∧ nq a b = 0) ∨ (r ≠ 0 ∧ 0 < nq a b))) := by
 have na : Fl.nan a = false := by unfold Fl.nan; exact decide_eq_false (by omega)
 have nb : Fl.nan b = false := by unfold Fl.nan; exact decide_eq_false (by omega)
 obtain ⟨h0, h⟩ := h
 rw [if_neg (by omega), if_neg (by rw [na, nb]; simp)] at h
 have nn : 0 ≤ nq a b := by
  unfold nq
  have := sq_nn (rr (Fl.rg a))
  have := sq_nn (rr (Fl.rg b))
  grind
 by_cases z : bigF a b = 0
 ·
  rw [if_pos z] at h
  subst h
  obtain ⟨z1, z2⟩ := (big_zero na nb).1 z
  have e : nq a b = 0 := by unfold nq; rw [z1, z2, rr_zero]; grind
  rw [if_pos (by omega), e, show 0 - 4 = 0 from rfl, rr_zero, if_pos (by omega)]
  have := sq_nn (rr (0 + 4))
  exact ⟨by omega, by grind, by grind, fun _ => ⟨this, Or.inl ⟨rfl, rfl⟩⟩⟩
 ·
  rw [if_neg z] at h
  obtain ⟨k0, k1, k2, k3, k4, k5⟩ := len_true ha hb fa fb z h
  have er : Fl.rg r = r := by
   have : Fl.sg r = false := k1
   unfold Fl.sg at this
   unfold Fl.rg
   have := of_decide_eq_false this
   omega
  rw [er] at k2 k3 k4 k5
  refine ⟨k2, ?_, nn, fun hr => ⟨?_, Or.inr ⟨k3, k0⟩⟩⟩
  ·
   rcases Nat.lt_or_ge (if r < 9218868437227405312 then r else 9218868437227405311) 4 with c | c
   ·
    rw [Nat.sub_eq_zero_of_le (by omega), rr_zero]
    grind
   · exact k4 _ (by omega)
  ·
   obtain ⟨q1, q2⟩ := k5 hr
   by_cases c : r + 4 < 9218868437227405312
   · rw [if_pos c]; exact q1
   · rw [if_neg c]; exact q2
theorem root_law {a b re im : Nat} (ha : a < 18446744073709551616) (hb : b < 18446744073709551616) (fa : Fl.rg a < 9218868437227405312) (fb : Fl.rg b < 9218868437227405312) (h : rooR a b re im) :
  Fi re ∧ Fi im ∧ (Sv.rv re * Sv.rv re - Sv.rv im * Sv.rv im - Sv.rv a) * (Sv.rv re * Sv.rv re - Sv.rv im * Sv.rv im - Sv.rv a) + (Sv.rv re * Sv.rv im + Sv.rv re * Sv.rv im - Sv.rv b) * (Sv.rv re * Sv.rv im + Sv.rv re * Sv.rv im - Sv.rv b) ≤ nq a b * (1 / 281474976710656 * (1 / 281474976710656)) := by
 have na : Fl.nan a = false := by unfold Fl.nan; exact decide_eq_false (by omega)
 have nb : Fl.nan b = false := by unfold Fl.nan; exact decide_eq_false (by omega)
 unfold rooR at h
 rw [if_neg (by omega), if_neg (by omega), if_neg (by omega), if_neg (by rw [na, nb]; simp)] at h
 by_cases z : Fl.rg a = 0 ∧ Fl.rg b = 0
 ·
  rw [if_pos z] at h
  obtain ⟨rfl, rfl⟩ := h
  have e : nq a im = 0 := by unfold nq; rw [z.1, z.2, rr_zero]; grind
  have v0 : ∀ {x : Nat}, Fl.rg x = 0 → Sv.rv x = 0 := fun h => by rw [rv_rr, h, rr_zero]; split <;> grind
  rw [v0 z.1, v0 z.2, v0 (show Fl.rg 0 = 0 by decide), e]
  exact ⟨⟨by omega, by decide⟩, ⟨hb, fb⟩, by grind⟩
 ·
  rw [if_neg z] at h
  exact root_true ha hb fa fb (fun e => z ((big_zero na nb).1 e)) h
end Go.Proofs.YtfgfofedacehiaaGreat.Rt

