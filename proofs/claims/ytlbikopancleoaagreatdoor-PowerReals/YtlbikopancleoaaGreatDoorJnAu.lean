/-
  OWN TEXT: a float made whole, in numbers.
-/
import Derived.Test.YtlbikopancleoaaGreatDoorJnAo
import Derived.Test.YtlbikopancleoaaGreatDoorJnAe
import Derived.Test.YtlbikopancleoaaGreatDoorJnAt
namespace Go.Proofs.YtlbikopancleoaaGreatDoor.Fl
set_option linter.unusedVariables false
theorem whF_fin {x : Nat} (c : Nat) (hc : c = 1074) (hf : rg x < 9218868437227405312) : whF x = wd (sg x) (rq (rne (vl (rg x)) c * 2 ^ c) 0) := by
  obtain ⟨m, k, hm, em⟩ := read_fin hf
  unfold whF
  rw [hm]
  unfold Ieee.Datum.integral
  simp only []
  rw [cut_even]
  have e : rne (m <<< (-1074 + (k : Int)).toNat) (-(-1074 + (k : Int))).toNat = rne (vl (rg x)) c := by
    rw [← em, Nat.shiftLeft_eq]
    by_cases h : 1074 ≤ k
    · obtain ⟨j, rfl⟩ : ∃ j, k = j + c := ⟨k - c, by omega⟩
      rw [show (-1074 + ((j + c : Nat) : Int)).toNat = j by omega, show (-(-1074 + ((j + c : Nat) : Int))).toNat = 0 by omega, rne_zero, Nat.pow_add, ← Nat.mul_assoc, rne_exact]
    · rw [show (-1074 + (k : Int)).toNat = 0 by omega, Nat.pow_zero, Nat.mul_one]
      have := rne_mul m (c - k) k
      rw [show c - k + k = c by omega] at this
      rw [this]
      congr 1
      omega
  rw [e]
  have h := nearest_eq (sg x) (rne (vl (rg x)) c) c 0
  rw [show -1074 + (c : Int) - ((0 : Nat) : Int) = 0 by omega] at h
  exact h
theorem cut_zero (neg : Bool) (n s : Nat) : Ieee.Toward.zero.cut neg n s = n / 2 ^ s := by
  unfold Ieee.Toward.cut
  simp only [Bool.toNat_false, Nat.add_zero, Nat.shiftLeft_eq, Nat.one_mul]
  by_cases h : s ≤ n.log2 + 2
  · rw [Nat.min_eq_left h]
  · rw [Nat.min_eq_right (by omega)]
    have h1 : n < 2 ^ (n.log2 + 2) := by
      by_cases z : n = 0
      · rw [z]; exact Nat.two_pow_pos _
      · exact Nat.lt_trans (log2_lt n z) (Nat.pow_lt_pow_right (by omega) (by omega))
    rw [Nat.div_eq_of_lt h1, Nat.div_eq_of_lt (Nat.lt_trans h1 (Nat.pow_lt_pow_right (by omega) (by omega)))]
theorem toInt_fin {x : Nat} (c : Nat) (hc : c = 1074) (hf : rg x < 9218868437227405312) (hs : sg x = false) : (Ieee.double.read x).toInt .zero = some ((vl (rg x) / 2 ^ c : Nat) : Int) := by
  obtain ⟨m, k, hm, em⟩ := read_fin hf
  unfold Ieee.Datum.toInt
  rw [hm, hs]
  unfold Ieee.Datum.integral
  simp only []
  rw [cut_zero]
  have e : m <<< (-1074 + (k : Int)).toNat / 2 ^ (-(-1074 + (k : Int))).toNat = vl (rg x) / 2 ^ c := by
    rw [← em, Nat.shiftLeft_eq]
    by_cases h : 1074 ≤ k
    · obtain ⟨j, rfl⟩ : ∃ j, k = j + c := ⟨k - c, by omega⟩
      rw [show (-1074 + ((j + c : Nat) : Int)).toNat = j by omega, show (-(-1074 + ((j + c : Nat) : Int))).toNat = 0 by omega, Nat.pow_add, ← Nat.mul_assoc, Nat.mul_div_cancel _ (Nat.two_pow_pos c), Nat.pow_zero, Nat.div_one]
    · rw [show (-1074 + (k : Int)).toNat = 0 by omega, Nat.pow_zero, Nat.mul_one, show (-(-1074 + (k : Int))).toNat = c - k by omega]
      have e2 : 2 ^ c = 2 ^ (c - k) * 2 ^ k := by rw [← Nat.pow_add, show c - k + k = c by omega]
      rw [e2, Nat.mul_div_mul_right _ _ (Nat.two_pow_pos k)]
  rw [e]
  unfold Ieee.signed
  rw [if_neg (by decide), Nat.shiftLeft_zero]
theorem wd_false (r : Nat) : wd false r = r := rfl
theorem pow_pred (c : Nat) (h : 1 ≤ c) : 2 ^ c = 2 ^ (c - 1) * 2 := by
  cases c with
  | zero => omega
  | succ b => rw [Nat.add_sub_cancel]; exact Nat.pow_succ 2 b
theorem vl_pow (e c : Nat) (hc : c = 51 + e) (he : 1 ≤ e) : vl (e * 4503599627370496) = 2 ^ c := by
  have := vl_comb (e - 1) 4503599627370496 (by omega) (Or.inr (by omega))
  rw [show (e - 1) * 4503599627370496 + 4503599627370496 = e * 4503599627370496 by omega] at this
  rw [this, show (4503599627370496 : Nat) = 2 ^ 52 by decide, ← Nat.pow_add]
  congr 1
  omega
theorem rep_mod (V c : Nat) (h : ∃ M k : Nat, V = M * 2 ^ k ∧ M ≤ 9007199254740992) : ∃ M k : Nat, V % 2 ^ c = M * 2 ^ k ∧ M ≤ 9007199254740992 := by
  obtain ⟨M, k, e, hM⟩ := h
  by_cases hk : c ≤ k
  · refine ⟨0, 0, ?_, by omega⟩
    obtain ⟨j, rfl⟩ : ∃ j, k = j + c := ⟨k - c, by omega⟩
    rw [e, Nat.pow_add, ← Nat.mul_assoc, Nat.mul_mod_left]
  · refine ⟨M % 2 ^ (c - k), k, ?_, Nat.le_trans (Nat.mod_le _ _) hM⟩
    have e2 : 2 ^ c = 2 ^ (c - k) * 2 ^ k := by rw [← Nat.pow_add, show c - k + k = c by omega]
    rw [e, e2, Nat.mul_mod_mul_right]
end Go.Proofs.YtlbikopancleoaaGreatDoor.Fl
namespace Go.Proofs.YtlbikopancleoaaGreatDoor
set_option linter.unusedVariables false
open Go.ChangeShapes Go.WideShapes Go.ChangeAt Go.RowKit
/-- the steps of making a small float whole -/
theorem wh_facts (r c : Nat) (hc : c = 1074) (hr : r < 4841369599423283200) (hz : ¬ r = 0) : ∃ q T : Nat, Fl.vl r = q * 2 ^ c + T ∧ T < 2 ^ c ∧ q < 4503599627370496 ∧
    floatToIntVal .f64 r .u64 = some (q : Int) ∧ floatBits .sub .f64 r (floatOfInt .f64 (q : Int)) = some (Fl.rq T 0) ∧
    Fl.ltF 4602678819172646912 (Fl.rq T 0) = decide (2 ^ c < 2 * T) ∧ Fl.eqF (Fl.rq T 0) 4602678819172646912 = decide (2 ^ c = 2 * T) ∧
    floatBits .add .f64 (floatOfInt .f64 (q : Int)) 4607182418800017408 = some (floatOfInt .f64 ((q + 1 : Nat) : Int)) := by
  have hp := Nat.two_pow_pos c
  have hrg : Fl.rg r = r := by unfold Fl.rg; omega
  have hsg : Fl.sg r = false := by unfold Fl.sg; rw [show r / 9223372036854775808 = 0 by omega]; rfl
  obtain ⟨M, k, eM, hM, _⟩ := Fl.rep_vl r (by omega)
  have hrep : ∃ M k : Nat, Fl.vl r = M * 2 ^ k ∧ M ≤ 9007199254740992 := ⟨M, k, eM, by omega⟩
  have hVt : Fl.vl r < 4503599627370496 * 2 ^ c := by
    have h1 := Fl.vl_mono hr
    have h2 := Fl.vl_pow 1075 (52 + c) (by omega) (by omega)
    rw [show 1075 * 4503599627370496 = 4841369599423283200 by decide, Nat.pow_add] at h2
    rw [h2] at h1
    exact h1
  have hq : Fl.vl r / 2 ^ c < 4503599627370496 := (Nat.div_lt_iff_lt_mul hp).2 hVt
  have hdm := Nat.div_add_mod (Fl.vl r) (2 ^ c)
  have hm := Nat.mod_lt (Fl.vl r) hp
  obtain ⟨q, hqe⟩ : ∃ q, q = Fl.vl r / 2 ^ c := ⟨_, rfl⟩
  obtain ⟨T, hTe⟩ : ∃ T, T = Fl.vl r % 2 ^ c := ⟨_, rfl⟩
  have hV : Fl.vl r = q * 2 ^ c + T := by rw [hqe, hTe, Nat.mul_comm]; exact hdm.symm
  have hTlt : T < 2 ^ c := by rw [hTe]; exact hm
  have hTrep : ∃ M k : Nat, T = M * 2 ^ k ∧ M ≤ 9007199254740992 := by rw [hTe]; exact Fl.rep_mod _ c hrep
  have hTlog : T.log2 < 2098 := by
    by_cases z : T = 0
    · rw [z]; decide
    · have := (Nat.log2_lt z).2 hTlt
      omega
  obtain ⟨t1, t2⟩ := Fl.rq_rep T hTrep hTlog
  have hqlog : ∀ j, j ≤ 9007199254740992 → (j * 2 ^ c).log2 < 2098 := by
    intro j hj
    by_cases z : j = 0
    · rw [z, Nat.zero_mul]; decide
    · rw [Fl.log2_mul j c z]
      have := (Nat.log2_lt z (k := 54)).2 (by omega)
      omega
  have hnw : ∀ j : Nat, j ≤ 9007199254740992 → floatOfInt .f64 (j : Int) = Fl.rq (j * 2 ^ c) 0 ∧ Fl.vl (Fl.rq (j * 2 ^ c) 0) = j * 2 ^ c ∧ Fl.rq (j * 2 ^ c) 0 < 9218868437227405312 := by
    intro j hj
    obtain ⟨a1, a2⟩ := Fl.rq_rep (j * 2 ^ c) ⟨j, c, rfl, hj⟩ (hqlog j hj)
    exact ⟨(float_of_nat j c hc).trans (Fl.wd_false _), a1, a2⟩
  have hq' : q ≤ 9007199254740992 := by omega
  obtain ⟨n1, n2, n3⟩ := hnw q (by omega)
  obtain ⟨m1, m2, m3⟩ := hnw (q + 1) (by omega)
  have rgw : ∀ y, y < 9223372036854775808 → Fl.rg y = y ∧ Fl.sg y = false := fun y hy => ⟨by unfold Fl.rg; omega, by unfold Fl.sg; rw [show y / 9223372036854775808 = 0 by omega]; rfl⟩
  have vw : ∀ y, y < 9223372036854775808 → Fl.val y = Fl.vl y := fun y hy => by unfold Fl.val; rw [(rgw y hy).1, (rgw y hy).2]; rfl
  have half : Fl.vl 4602678819172646912 * 2 = 2 ^ c := by
    have h2 := Fl.vl_pow 1022 (c - 1) (by omega) (by omega)
    rw [show 1022 * 4503599627370496 = 4602678819172646912 by decide] at h2
    rw [h2]; exact (Fl.pow_pred c (by omega)).symm
  have one : Fl.vl 4607182418800017408 = 2 ^ c := by
    have h2 := Fl.vl_pow 1023 c (by omega) (by omega)
    rw [show 1023 * 4503599627370496 = 4607182418800017408 by decide] at h2
    exact h2
  refine ⟨q, T, hV, hTlt, by omega, ?_, ?_, ?_, ?_, ?_⟩
  · unfold floatToIntVal
    have h1 := Fl.toInt_fin (x := r) c hc (by rw [hrg]; omega) hsg
    rw [hrg, ← hqe] at h1
    have hd : FloatKind.f64.decode r = Ieee.double.read r := rfl
    rw [hd, h1]
    have e1 : IntKind.u64.min = 0 := rfl
    have e2 : IntKind.u64.max = 18446744073709551615 := rfl
    simp only [e1, e2]
    rw [if_pos (by omega)]
  · rw [n1]
    show Ieee.double.sub _ _ = _
    rw [Fl.sub_fin (by omega) (by rw [hrg]; omega) (by rw [(rgw _ (by omega)).1]; omega)]
    have e1 : Fl.val r - Fl.val (Fl.rq (q * 2 ^ c) 0) = (T : Int) := by
      rw [vw r (by omega), vw _ (by omega), n2, hV]; omega
    rw [e1, hsg]
    have e2 : (if (T : Int) = 0 then false && !Fl.sg (Fl.rq (q * 2 ^ c) 0) else decide ((T : Int) < 0)) = false := by
      split
      · rfl
      · exact decide_eq_false (by omega)
    rw [e2, Fl.wd_false, Int.natAbs_natCast]
  · have hk := Fl.key_wd false (Fl.rq T 0) (by omega)
    rw [Fl.wd_false, if_neg (by decide)] at hk
    have hn : Fl.nan (Fl.rq T 0) = false := by unfold Fl.nan; rw [(rgw _ (by omega)).1]; exact decide_eq_false (by omega)
    unfold Fl.ltF
    rw [hn, show Fl.nan 4602678819172646912 = false from by decide, show Fl.key 4602678819172646912 = 4602678819172646912 from by decide, hk]
    simp only [Bool.not_false, Bool.true_and, decide_eq_decide]
    rw [← half]
    have h1 := Fl.vl_lt_iff (r := 4602678819172646912) (s := Fl.rq T 0)
    rw [t1] at h1
    constructor
    · intro h; have := h1.2 (by omega); omega
    · intro h; have := h1.1 (by omega); omega
  · have hk := Fl.key_wd false (Fl.rq T 0) (by omega)
    rw [Fl.wd_false, if_neg (by decide)] at hk
    have hn : Fl.nan (Fl.rq T 0) = false := by unfold Fl.nan; rw [(rgw _ (by omega)).1]; exact decide_eq_false (by omega)
    unfold Fl.eqF
    rw [hn, show Fl.nan 4602678819172646912 = false from by decide, show Fl.key 4602678819172646912 = 4602678819172646912 from by decide, hk]
    simp only [Bool.not_false, Bool.true_and, decide_eq_decide]
    rw [← half]
    have h1 := Fl.vl_inj (r := Fl.rq T 0) (s := 4602678819172646912)
    rw [t1] at h1
    constructor
    · intro h; have := h1.2 (by omega); omega
    · intro h; have := h1.1 (by omega); omega
  · rw [n1, m1]
    show Ieee.double.add _ _ = _
    rw [Fl.add_fin (by rw [(rgw _ (by omega)).1]; omega) (by rw [(rgw _ (by omega)).1]; omega)]
    have e1 : Fl.val (Fl.rq (q * 2 ^ c) 0) + Fl.val 4607182418800017408 = (((q + 1) * 2 ^ c : Nat) : Int) := by
      rw [vw _ (by omega), vw _ (by omega), n2, one, Nat.add_mul, Nat.one_mul]; rfl
    rw [e1]
    have hne : ¬ (((q + 1) * 2 ^ c : Nat) : Int) = 0 := by
      have : 0 < (q + 1) * 2 ^ c := Nat.mul_pos (by omega) hp
      omega
    rw [if_neg hne, decide_eq_false (by omega), Fl.wd_false, Int.natAbs_natCast]
end Go.Proofs.YtlbikopancleoaaGreatDoor
/-
  OWN TEXT: what Whole of the reference returns, for every float.
-/
namespace Go.Proofs.YtlbikopancleoaaGreatDoor
open Go.ChangeShapes Go.WideShapes Go.ChangeAt Go.RowKit
set_option linter.unusedVariables false
attribute [local go_sem] frombits_call tobits_call run_neg
/-- whether it is too great for a part behind the point -/
theorem great_tests (x : Nat) (hx : x < 18446744073709551616) (hn : Fl.nan x = false) :
    Fl.leF 4841369599423283200 x = (!Fl.sg x && decide (4841369599423283200 ≤ Fl.rg x)) ∧ Fl.leF x 14064741636278059008 = (Fl.sg x && decide (4841369599423283200 ≤ Fl.rg x)) ∧ (¬ Fl.rg x = 0 → Fl.ltF x 0 = Fl.sg x) := by
  have hl := Fl.nan_le hn
  have hk := Fl.key_wd (Fl.sg x) (Fl.rg x) (by omega)
  rw [Fl.wd_self hx] at hk
  unfold Fl.leF Fl.ltF
  rw [hn, hk, show Fl.nan 4841369599423283200 = false from by decide, show Fl.nan 14064741636278059008 = false from by decide, show Fl.nan 0 = false from by decide, show Fl.key 4841369599423283200 = 4841369599423283200 from by decide, show Fl.key 14064741636278059008 = -4841369599423283200 from by decide, show Fl.key 0 = 0 from by decide]
  cases Fl.sg x
  · simp only [Bool.not_false, Bool.true_and, Bool.false_and, Bool.false_eq_true, if_false, decide_eq_false_iff_not, decide_eq_decide]
    refine ⟨?_, ?_, ?_⟩ <;> omega
  · simp only [Bool.not_false, Bool.not_true, Bool.true_and, Bool.false_and, if_true, decide_eq_false_iff_not, decide_eq_decide, decide_eq_true_eq]
    refine ⟨?_, ?_, ?_⟩ <;> omega
/-- what is not changed by being made whole -/
theorem wh_stay (x c : Nat) (hc : c = 1074) (hx : x < 18446744073709551616) (hn : Fl.nan x = false) (h : Fl.rg x = 0 ∨ 4841369599423283200 ≤ Fl.rg x) : Fl.whF x = x := by
  by_cases hi : Fl.rg x < 9218868437227405312
  · rw [Fl.whF_fin c hc hi]
    rcases h with h | h
    · rw [h, show Fl.vl 0 = 0 by decide, show Fl.rne 0 c = 0 by unfold Fl.rne; simp, Nat.zero_mul, show Fl.rq 0 0 = 0 from rfl]
      have := Fl.wd_self hx
      rw [h] at this
      exact this
    · have hv := Fl.vl_big (r := Fl.rg x) (by omega)
      obtain ⟨j, hj⟩ : ∃ j, Fl.rg x / 4503599627370496 - 1 = j + c := ⟨Fl.rg x / 4503599627370496 - 1 - c, by omega⟩
      rw [hj, Nat.pow_add, ← Nat.mul_assoc] at hv
      rw [hv, Fl.rne_exact, ← hv, Fl.rq_vl _ (by omega)]
      exact Fl.wd_self hx
  · have hl := Fl.nan_le hn
    have e : Fl.rg x = 9218868437227405312 := by omega
    unfold Fl.whF
    rw [Fl.read_inf e]
    show Ieee.double.write (.infinity (Fl.sg x)) = x
    have := Fl.wd_self hx
    rw [e] at this
    rw [← this, Fl.sg_wd _ _ (by omega)]
    cases Fl.sg x <;> rfl
set_option maxHeartbeats 8000000 in
theorem rwhole_stay (x : Nat) (w : World) (hx : x < 18446744073709551616) (h : Fl.nan x = true ∨ Fl.rg x = 0 ∨ 4841369599423283200 ≤ Fl.rg x) :
    Calls Tryz.prog 100 #[.float .f64 x] w fun e w' => e = .returned (.float .f64 x) ∧ w' = w := by
  cases hp : plainB x
  · clear h
    go_enter Tryz.func100, Tryz.ntmps100
    go_wp2_with (go_at_call 101; refine (plain_any _ _ (by assumption)).mono ?_; rintro e w ⟨rfl, rfl⟩)
    go_ret
    exact ⟨rfl, rfl⟩
  · have hpp := hp
    unfold plainB Fl.finB at hpp
    rw [Bool.and_eq_true, Bool.not_eq_true', decide_eq_true_eq, decide_eq_false_iff_not] at hpp
    have hn : Fl.nan x = false := by unfold Fl.nan; exact decide_eq_false (by omega)
    have hr : 4841369599423283200 ≤ Fl.rg x := by
      rcases h with h | h | h
      · rw [hn] at h; cases h
      · exact absurd h hpp.2
      · exact h
    obtain ⟨t1, t2, _⟩ := great_tests x hx hn
    have g1 := Fl.o_ge x 4841369599423283200
    have g2 := Fl.o_le x 14064741636278059008
    rw [t1, decide_eq_true hr, Bool.and_true] at g1
    rw [t2, decide_eq_true hr, Bool.and_true] at g2
    clear t1 t2 hr h hpp hn
    cases hs : Fl.sg x
    all_goals
      rw [hs] at g1 g2
      go_enter Tryz.func100, Tryz.ntmps100
      go_wp2_with (go_at_call 101; refine (plain_any _ _ (by assumption)).mono ?_; rintro e w ⟨rfl, rfl⟩)
      go_ret
      exact ⟨rfl, rfl⟩
theorem rsigned_pos (r x : Nat) (hr : r ≤ 9218868437227405312) (hn : Fl.nan x = false) : rsignedF (Fl.wd false r) x = Fl.wd (Fl.sg x) r := by
  have n1 : Fl.nan (Fl.wd false r) = false := by unfold Fl.nan; rw [Fl.rg_wd _ _ (by omega)]; exact decide_eq_false (by omega)
  have s1 : Fl.sg (Fl.wd false r) = false := Fl.sg_wd _ _ (by omega)
  have e1 : Fl.ng (Fl.wd false r) = Fl.wd true r := by
    rw [Fl.wd_false]
    unfold Fl.ng Fl.wd
    rw [if_pos (by omega), if_pos rfl, Nat.add_comm]
  unfold rsignedF Fl.minusB
  rw [n1, hn, s1, e1]
  cases Fl.sg x
  · rw [if_neg (by decide)]
  · rw [if_pos (by decide)]
set_option maxHeartbeats 8000000 in
theorem rwhole_small (x : Nat) (w : World) (hx : x < 18446744073709551616) (hz : ¬ Fl.rg x = 0) (hr : Fl.rg x < 4841369599423283200) :
    Calls Tryz.prog 100 #[.float .f64 x] w fun e w' => e = .returned (.float .f64 (Fl.whF x)) ∧ w' = w := by
  have hn : Fl.nan x = false := by unfold Fl.nan; exact decide_eq_false (by omega)
  have hp : plainB x = true := by unfold plainB Fl.finB; rw [decide_eq_true (by omega), decide_eq_false hz]; rfl
  obtain ⟨t1, t2, t3⟩ := great_tests x hx hn
  have g1 := Fl.o_ge x 4841369599423283200
  have g2 := Fl.o_le x 14064741636278059008
  have g3 := Fl.o_lt x 0
  rw [t1, decide_eq_false (by omega), Bool.and_false] at g1
  rw [t2, decide_eq_false (by omega), Bool.and_false] at g2
  rw [t3 hz] at g3
  obtain ⟨c, hc⟩ : ∃ c, c = 1074 := ⟨_, rfl⟩
  obtain ⟨q, T, hV, hT, hq, f1, f2, f3, f4, f5⟩ := wh_facts (Fl.rg x) c hc hr hz
  have hW := Fl.whF_fin c hc (x := x) (by omega)
  have hrne : Fl.rne (Fl.vl (Fl.rg x)) c = q + (if 2 ^ c < 2 * T ∨ (2 ^ c = 2 * T ∧ q % 2 = 1) then 1 else 0) := by
    unfold Fl.rne
    rw [hV, Nat.mul_comm q, Nat.mul_add_div (Nat.two_pow_pos c), Nat.div_eq_of_lt hT, Nat.add_zero, Nat.mul_add_mod, Nat.mod_eq_of_lt hT]
  have hneg : Fl.sg x = true → Op.negFloat .f64 x = Fl.rg x := by
    intro hs
    rw [Fl.neg_eq hx]
    have := Fl.sg_key hx
    have h2 := Fl.wd_self hx
    rw [hs] at h2
    unfold Fl.wd at h2
    rw [if_pos rfl] at h2
    unfold Fl.ng
    rw [if_neg (by omega)]; omega
  have hpos : Fl.sg x = false → x = Fl.rg x := by
    intro hs
    have h2 := Fl.wd_self hx
    rw [hs, Fl.wd_false] at h2
    exact h2.symm
  have SG : Hid (∀ (N : Nat) wz, N ≤ 9007199254740992 → Calls Tryz.prog 94 #[.float .f64 (floatOfInt .f64 (N : Int)), .float .f64 x] wz fun e w' => e = .returned (.float .f64 (Fl.wd (Fl.sg x) (Fl.rq (N * 2 ^ c) 0))) ∧ w' = wz) := by
    intro N wz hN
    have e1 := float_of_nat N c hc
    have hle := Fl.rq_le (N * 2 ^ c) 0
    have hlt : floatOfInt .f64 (N : Int) < 18446744073709551616 := by rw [e1]; exact Fl.wd_lt _ _ (by omega)
    have := rsigned_any (floatOfInt .f64 (N : Int)) x wz hlt hx
    have e2 : rsignedF (floatOfInt .f64 (N : Int)) x = Fl.wd (Fl.sg x) (Fl.rq (N * 2 ^ c) 0) := by
      rw [e1]
      exact rsigned_pos _ x hle hn
    rw [e2] at this
    exact this
  have hoo : ((q : Int) % 2 == 1) = decide (q % 2 = 1) := by rw [Bool.eq_iff_iff, beq_iff_eq, decide_eq_true_eq]; omega
  have hqq : (q : Int) + 1 = ((q + 1 : Nat) : Int) := rfl
  rw [hrne] at hW
  have HW : Hid _ := hW
  have e1 := fun (t1 t2 : TypeId) w h1 h2 => run_convert_float_int (P := Tryz.prog) (w := w) t1 t2 .f64 .u64 _ _ h1 h2 f1
  have e2 := fun (t : TypeId) w => run_float_arith (P := Tryz.prog) w .sub t .f64 _ _ _ f2
  have e3 := fun (t : TypeId) w => run_float_arith (P := Tryz.prog) w .add t .f64 _ _ _ f5
  have o1 := Fl.o_gt (Fl.rq T 0) 4602678819172646912
  have o2 := Fl.o_eq (Fl.rq T 0) 4602678819172646912
  rw [f3] at o1
  rw [f4] at o2
  have hq0 : (0 : Int) ≤ (q : Int) := by omega
  have hqI : (q : Int) < 4503599627370496 := by omega
  have S1 : Hid (∀ wz, Calls Tryz.prog 94 #[.float .f64 (floatOfInt .f64 (q : Int)), .float .f64 x] wz fun e w' => e = .returned (.float .f64 (Fl.wd (Fl.sg x) (Fl.rq (q * 2 ^ c) 0))) ∧ w' = wz) := fun wz => SG.out q wz (by omega)
  have S2 : Hid (∀ wz, Calls Tryz.prog 94 #[.float .f64 (floatOfInt .f64 ((q + 1 : Nat) : Int)), .float .f64 x] wz fun e w' => e = .returned (.float .f64 (Fl.wd (Fl.sg x) (Fl.rq ((q + 1) * 2 ^ c) 0))) ∧ w' = wz) := fun wz => SG.out (q + 1) wz (by omega)
  generalize floatOfInt .f64 ((q + 1 : Nat) : Int) = nW1 at *
  generalize Fl.rq T 0 = rT at *
  have cases3 : (decide (2 ^ c < 2 * T) = true ∧ Fl.whF x = Fl.wd (Fl.sg x) (Fl.rq ((q + 1) * 2 ^ c) 0)) ∨
      (decide (2 ^ c < 2 * T) = false ∧ decide (2 ^ c = 2 * T) = true ∧ ((q : Int) % 2 == 1) = true ∧ Fl.whF x = Fl.wd (Fl.sg x) (Fl.rq ((q + 1) * 2 ^ c) 0)) ∨
      (decide (2 ^ c < 2 * T) = false ∧ decide (2 ^ c = 2 * T) = true ∧ ((q : Int) % 2 == 1) = false ∧ Fl.whF x = Fl.wd (Fl.sg x) (Fl.rq (q * 2 ^ c) 0)) ∨
      (decide (2 ^ c < 2 * T) = false ∧ decide (2 ^ c = 2 * T) = false ∧ Fl.whF x = Fl.wd (Fl.sg x) (Fl.rq (q * 2 ^ c) 0)) := by
    rw [hoo]
    by_cases c1 : 2 ^ c < 2 * T
    · exact Or.inl ⟨decide_eq_true c1, by rw [HW.out, if_pos (Or.inl c1)]⟩
    · by_cases c2 : 2 ^ c = 2 * T
      · by_cases c3 : q % 2 = 1
        · exact Or.inr (Or.inl ⟨decide_eq_false c1, decide_eq_true c2, decide_eq_true c3, by rw [HW.out, if_pos (Or.inr ⟨c2, c3⟩)]⟩)
        · exact Or.inr (Or.inr (Or.inl ⟨decide_eq_false c1, decide_eq_true c2, decide_eq_false c3, by rw [HW.out, if_neg (by omega), Nat.add_zero]⟩))
      · exact Or.inr (Or.inr (Or.inr ⟨decide_eq_false c1, decide_eq_false c2, by rw [HW.out, if_neg (by omega), Nat.add_zero]⟩))
  have HC : Hid _ := cases3
  have HN : Hid _ := hneg
  have HP : Hid _ := hpos
  clear cases3 hneg hpos HW hW hrne hV hT SG t1 t2 t3 f1 f2 f3 f4 f5 hoo hc hq
  generalize Fl.wd (Fl.sg x) (Fl.rq ((q + 1) * 2 ^ c) 0) = R1 at *
  generalize Fl.wd (Fl.sg x) (Fl.rq (q * 2 ^ c) 0) = R0 at *
  generalize decide (2 ^ c < 2 * T) = b1 at *
  generalize decide (2 ^ c = 2 * T) = b2 at *
  generalize Fl.whF x = W at *
  cases hs : Fl.sg x
  · have hxr := HP.out hs
    rw [← hxr] at e1 e2
    rw [hs] at g3
    clear HN HP hxr hz hr hn
    rcases HC.out with ⟨h1, h4⟩ | ⟨h1, h2, h3, h4⟩ | ⟨h1, h2, h3, h4⟩ | ⟨h1, h2, h4⟩
    · rw [h4]
      rw [h1] at o1
      clear HC h4 hqq S1 h1 o2
      go_enter Tryz.func100, Tryz.ntmps100
      go_wp2_with (first
        | (go_at_call 101; refine (plain_any _ _ (by assumption)).mono ?_; rintro e w ⟨rfl, rfl⟩)
        | fail)
      refine (S2.out _).mono ?_
      rintro e w ⟨rfl, rfl⟩
      go_wp2
      go_ret
      exact ⟨rfl, rfl⟩
    · rw [h4]
      rw [h1] at o1
      rw [h2] at o2
      clear HC h4 hqq S1 h1 h2
      go_enter Tryz.func100, Tryz.ntmps100
      go_wp2_with (first
        | (go_at_call 101; refine (plain_any _ _ (by assumption)).mono ?_; rintro e w ⟨rfl, rfl⟩)
        | fail)
      refine (S2.out _).mono ?_
      rintro e w ⟨rfl, rfl⟩
      go_wp2
      go_ret
      exact ⟨rfl, rfl⟩
    · rw [h4]
      rw [h1] at o1
      rw [h2] at o2
      clear HC h4 hqq e3 S2 h1 h2
      go_enter Tryz.func100, Tryz.ntmps100
      go_wp2_with (first
        | (go_at_call 101; refine (plain_any _ _ (by assumption)).mono ?_; rintro e w ⟨rfl, rfl⟩)
        | fail)
      refine (S1.out _).mono ?_
      rintro e w ⟨rfl, rfl⟩
      go_wp2
      go_ret
      exact ⟨rfl, rfl⟩
    · rw [h4]
      rw [h1] at o1
      rw [h2] at o2
      clear HC h4 hqq hq0 hqI e3 S2 h1 h2
      go_enter Tryz.func100, Tryz.ntmps100
      go_wp2_with (first
        | (go_at_call 101; refine (plain_any _ _ (by assumption)).mono ?_; rintro e w ⟨rfl, rfl⟩)
        | fail)
      refine (S1.out _).mono ?_
      rintro e w ⟨rfl, rfl⟩
      go_wp2
      go_ret
      exact ⟨rfl, rfl⟩
  · have hxr := HN.out hs
    rw [hs] at g3
    clear HN HP hz hr hn
    generalize Fl.rg x = r at *
    rcases HC.out with ⟨h1, h4⟩ | ⟨h1, h2, h3, h4⟩ | ⟨h1, h2, h3, h4⟩ | ⟨h1, h2, h4⟩
    · rw [h4]
      rw [h1] at o1
      clear HC h4 hqq S1 h1 o2
      go_enter Tryz.func100, Tryz.ntmps100
      go_wp2_with (first
        | (go_at_call 101; refine (plain_any _ _ (by assumption)).mono ?_; rintro e w ⟨rfl, rfl⟩)
        | fail)
      refine (S2.out _).mono ?_
      rintro e w ⟨rfl, rfl⟩
      go_wp2
      go_ret
      exact ⟨rfl, rfl⟩
    · rw [h4]
      rw [h1] at o1
      rw [h2] at o2
      clear HC h4 hqq S1 h1 h2
      go_enter Tryz.func100, Tryz.ntmps100
      go_wp2_with (first
        | (go_at_call 101; refine (plain_any _ _ (by assumption)).mono ?_; rintro e w ⟨rfl, rfl⟩)
        | fail)
      refine (S2.out _).mono ?_
      rintro e w ⟨rfl, rfl⟩
      go_wp2
      go_ret
      exact ⟨rfl, rfl⟩
    · rw [h4]
      rw [h1] at o1
      rw [h2] at o2
      clear HC h4 hqq e3 S2 h1 h2
      go_enter Tryz.func100, Tryz.ntmps100
      go_wp2_with (first
        | (go_at_call 101; refine (plain_any _ _ (by assumption)).mono ?_; rintro e w ⟨rfl, rfl⟩)
        | fail)
      refine (S1.out _).mono ?_
      rintro e w ⟨rfl, rfl⟩
      go_wp2
      go_ret
      exact ⟨rfl, rfl⟩
    · rw [h4]
      rw [h1] at o1
      rw [h2] at o2
      clear HC h4 hqq hq0 hqI e3 S2 h1 h2
      go_enter Tryz.func100, Tryz.ntmps100
      go_wp2_with (first
        | (go_at_call 101; refine (plain_any _ _ (by assumption)).mono ?_; rintro e w ⟨rfl, rfl⟩)
        | fail)
      refine (S1.out _).mono ?_
      rintro e w ⟨rfl, rfl⟩
      go_wp2
      go_ret
      exact ⟨rfl, rfl⟩
end Go.Proofs.YtlbikopancleoaaGreatDoor
