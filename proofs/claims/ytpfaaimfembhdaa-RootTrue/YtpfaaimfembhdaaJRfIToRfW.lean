/-
  OWN TEXT: a float made whole, in numbers.
-/
import Derived.Test.YtpfaaimfembhdaaJRfB
import Derived.Test.YtpfaaimfembhdaaJFnWhole
import Derived.Test.YtpfaaimfembhdaaJFlH
import Derived.Test.YtpfaaimfembhdaaJFnEqToFnSame
namespace Go.Proofs.Ytpfaaimfembhdaa.Fl
set_option linter.unusedVariables false
theorem whF_fin {x : Nat} (c : Nat) (hc : c = 1074) (hf : rg x < 9218868437227405312) : whF x = wd (sg x) (rq (rne (vl (rg x)) c * 2 ^ c) 0) := by
  obtain ⟨m, k, hm, em⟩ := read_fin hf
  unfold whF
  rw [hm]
  unfold Ieee.Datum.integral
  simp only []
  rw [cut_even]
  have e : rne (m <<< (-1074 + (k : Int)).toNat) (-(-1074 + (k : Int))).toNat = rne (vl (rg x)) c := by
    rw [← em, Nat.shiftLeft_eq]
    by_cases h : 1074 ≤ k
    · obtain ⟨j, rfl⟩ : ∃ j, k = j + c := ⟨k - c, by omega⟩
      rw [show (-1074 + ((j + c : Nat) : Int)).toNat = j by omega, show (-(-1074 + ((j + c : Nat) : Int))).toNat = 0 by omega, rne_zero, Nat.pow_add, ← Nat.mul_assoc, rne_exact]
    · rw [show (-1074 + (k : Int)).toNat = 0 by omega, Nat.pow_zero, Nat.mul_one]
      have := rne_mul m (c - k) k
      rw [show c - k + k = c by omega] at this
      rw [this]
      congr 1
      omega
  rw [e]
  have h := nearest_eq (sg x) (rne (vl (rg x)) c) c 0
  rw [show -1074 + (c : Int) - ((0 : Nat) : Int) = 0 by omega] at h
  exact h
theorem cut_zero (neg : Bool) (n s : Nat) : Ieee.Toward.zero.cut neg n s = n / 2 ^ s := by
  unfold Ieee.Toward.cut
  simp only [Bool.toNat_false, Nat.add_zero, Nat.shiftLeft_eq, Nat.one_mul]
  by_cases h : s ≤ n.log2 + 2
  · rw [Nat.min_eq_left h]
  · rw [Nat.min_eq_right (by omega)]
    have h1 : n < 2 ^ (n.log2 + 2) := by
      by_cases z : n = 0
      · rw [z]; exact Nat.two_pow_pos _
      · exact Nat.lt_trans (log2_lt n z) (Nat.pow_lt_pow_right (by omega) (by omega))
    rw [Nat.div_eq_of_lt h1, Nat.div_eq_of_lt (Nat.lt_trans h1 (Nat.pow_lt_pow_right (by omega) (by omega)))]
theorem toInt_fin {x : Nat} (c : Nat) (hc : c = 1074) (hf : rg x < 9218868437227405312) (hs : sg x = false) : (Ieee.double.read x).toInt .zero = some ((vl (rg x) / 2 ^ c : Nat) : Int) := by
  obtain ⟨m, k, hm, em⟩ := read_fin hf
  unfold Ieee.Datum.toInt
  rw [hm, hs]
  unfold Ieee.Datum.integral
  simp only []
  rw [cut_zero]
  have e : m <<< (-1074 + (k : Int)).toNat / 2 ^ (-(-1074 + (k : Int))).toNat = vl (rg x) / 2 ^ c := by
    rw [← em, Nat.shiftLeft_eq]
    by_cases h : 1074 ≤ k
    · obtain ⟨j, rfl⟩ : ∃ j, k = j + c := ⟨k - c, by omega⟩
      rw [show (-1074 + ((j + c : Nat) : Int)).toNat = j by omega, show (-(-1074 + ((j + c : Nat) : Int))).toNat = 0 by omega, Nat.pow_add, ← Nat.mul_assoc, Nat.mul_div_cancel _ (Nat.two_pow_pos c), Nat.pow_zero, Nat.div_one]
    · rw [show (-1074 + (k : Int)).toNat = 0 by omega, Nat.pow_zero, Nat.mul_one, show (-(-1074 + (k : Int))).toNat = c - k by omega]
      have e2 : 2 ^ c = 2 ^ (c - k) * 2 ^ k := by rw [← Nat.pow_add, show c - k + k = c by omega]
      rw [e2, Nat.mul_div_mul_right _ _ (Nat.two_pow_pos k)]
  rw [e]
  unfold Ieee.signed
  rw [if_neg (by decide), Nat.shiftLeft_zero]
theorem wd_false (r : Nat) : wd false r = r := rfl
theorem pow_pred (c : Nat) (h : 1 ≤ c) : 2 ^ c = 2 ^ (c - 1) * 2 := by
  cases c with
  | zero => omega
  | succ b => rw [Nat.add_sub_cancel]; exact Nat.pow_succ 2 b
theorem vl_pow (e c : Nat) (hc : c = 51 + e) (he : 1 ≤ e) : vl (e * 4503599627370496) = 2 ^ c := by
  have := vl_comb (e - 1) 4503599627370496 (by omega) (Or.inr (by omega))
  rw [show (e - 1) * 4503599627370496 + 4503599627370496 = e * 4503599627370496 by omega] at this
  rw [this, show (4503599627370496 : Nat) = 2 ^ 52 by decide, ← Nat.pow_add]
  congr 1
  omega
theorem rep_mod (V c : Nat) (h : ∃ M k : Nat, V = M * 2 ^ k ∧ M ≤ 9007199254740992) : ∃ M k : Nat, V % 2 ^ c = M * 2 ^ k ∧ M ≤ 9007199254740992 := by
  obtain ⟨M, k, e, hM⟩ := h
  by_cases hk : c ≤ k
  · refine ⟨0, 0, ?_, by omega⟩
    obtain ⟨j, rfl⟩ : ∃ j, k = j + c := ⟨k - c, by omega⟩
    rw [e, Nat.pow_add, ← Nat.mul_assoc, Nat.mul_mod_left]
  · refine ⟨M % 2 ^ (c - k), k, ?_, Nat.le_trans (Nat.mod_le _ _) hM⟩
    have e2 : 2 ^ c = 2 ^ (c - k) * 2 ^ k := by rw [← Nat.pow_add, show c - k + k = c by omega]
    rw [e, e2, Nat.mul_mod_mul_right]
end Go.Proofs.Ytpfaaimfembhdaa.Fl
namespace Go.Proofs.Ytpfaaimfembhdaa
set_option linter.unusedVariables false
open Go.ChangeShapes Go.WideShapes Go.ChangeAt Go.RowKit
/-- the steps of making a small float whole -/
theorem wh_facts (r c : Nat) (hc : c = 1074) (hr : r < 4841369599423283200) (hz : ¬ r = 0) : ∃ q T : Nat, Fl.vl r = q * 2 ^ c + T ∧ T < 2 ^ c ∧ q < 4503599627370496 ∧
    floatToIntVal .f64 r .u64 = some (q : Int) ∧ floatBits .sub .f64 r (floatOfInt .f64 (q : Int)) = some (Fl.rq T 0) ∧
    Fl.ltF 4602678819172646912 (Fl.rq T 0) = decide (2 ^ c < 2 * T) ∧ Fl.eqF (Fl.rq T 0) 4602678819172646912 = decide (2 ^ c = 2 * T) ∧
    floatBits .add .f64 (floatOfInt .f64 (q : Int)) 4607182418800017408 = some (floatOfInt .f64 ((q + 1 : Nat) : Int)) := by
  have hp := Nat.two_pow_pos c
  have hrg : Fl.rg r = r := by unfold Fl.rg; omega
  have hsg : Fl.sg r = false := by unfold Fl.sg; rw [show r / 9223372036854775808 = 0 by omega]; rfl
  obtain ⟨M, k, eM, hM, _⟩ := Fl.rep_vl r (by omega)
  have hrep : ∃ M k : Nat, Fl.vl r = M * 2 ^ k ∧ M ≤ 9007199254740992 := ⟨M, k, eM, by omega⟩
  have hVt : Fl.vl r < 4503599627370496 * 2 ^ c := by
    have h1 := Fl.vl_mono hr
    have h2 := Fl.vl_pow 1075 (52 + c) (by omega) (by omega)
    rw [show 1075 * 4503599627370496 = 4841369599423283200 by decide, Nat.pow_add] at h2
    rw [h2] at h1
    exact h1
  have hq : Fl.vl r / 2 ^ c < 4503599627370496 := (Nat.div_lt_iff_lt_mul hp).2 hVt
  have hdm := Nat.div_add_mod (Fl.vl r) (2 ^ c)
  have hm := Nat.mod_lt (Fl.vl r) hp
  obtain ⟨q, hqe⟩ : ∃ q, q = Fl.vl r / 2 ^ c := ⟨_, rfl⟩
  obtain ⟨T, hTe⟩ : ∃ T, T = Fl.vl r % 2 ^ c := ⟨_, rfl⟩
  have hV : Fl.vl r = q * 2 ^ c + T := by rw [hqe, hTe, Nat.mul_comm]; exact hdm.symm
  have hTlt : T < 2 ^ c := by rw [hTe]; exact hm
  have hTrep : ∃ M k : Nat, T = M * 2 ^ k ∧ M ≤ 9007199254740992 := by rw [hTe]; exact Fl.rep_mod _ c hrep
  have hTlog : T.log2 < 2098 := by
    by_cases z : T = 0
    · rw [z]; decide
    · have := (Nat.log2_lt z).2 hTlt
      omega
  obtain ⟨t1, t2⟩ := Fl.rq_rep T hTrep hTlog
  have hqlog : ∀ j, j ≤ 9007199254740992 → (j * 2 ^ c).log2 < 2098 := by
    intro j hj
    by_cases z : j = 0
    · rw [z, Nat.zero_mul]; decide
    · rw [Fl.log2_mul j c z]
      have := (Nat.log2_lt z (k := 54)).2 (by omega)
      omega
  have hnw : ∀ j : Nat, j ≤ 9007199254740992 → floatOfInt .f64 (j : Int) = Fl.rq (j * 2 ^ c) 0 ∧ Fl.vl (Fl.rq (j * 2 ^ c) 0) = j * 2 ^ c ∧ Fl.rq (j * 2 ^ c) 0 < 9218868437227405312 := by
    intro j hj
    obtain ⟨a1, a2⟩ := Fl.rq_rep (j * 2 ^ c) ⟨j, c, rfl, hj⟩ (hqlog j hj)
    exact ⟨(float_of_nat j c hc).trans (Fl.wd_false _), a1, a2⟩
  have hq' : q ≤ 9007199254740992 := by omega
  obtain ⟨n1, n2, n3⟩ := hnw q (by omega)
  obtain ⟨m1, m2, m3⟩ := hnw (q + 1) (by omega)
  have rgw : ∀ y, y < 9223372036854775808 → Fl.rg y = y ∧ Fl.sg y = false := fun y hy => ⟨by unfold Fl.rg; omega, by unfold Fl.sg; rw [show y / 9223372036854775808 = 0 by omega]; rfl⟩
  have vw : ∀ y, y < 9223372036854775808 → Fl.val y = Fl.vl y := fun y hy => by unfold Fl.val; rw [(rgw y hy).1, (rgw y hy).2]; rfl
  have half : Fl.vl 4602678819172646912 * 2 = 2 ^ c := by
    have h2 := Fl.vl_pow 1022 (c - 1) (by omega) (by omega)
    rw [show 1022 * 4503599627370496 = 4602678819172646912 by decide] at h2
    rw [h2]; exact (Fl.pow_pred c (by omega)).symm
  have one : Fl.vl 4607182418800017408 = 2 ^ c := by
    have h2 := Fl.vl_pow 1023 c (by omega) (by omega)
    rw [show 1023 * 4503599627370496 = 4607182418800017408 by decide] at h2
    exact h2
  refine ⟨q, T, hV, hTlt, by omega, ?_, ?_, ?_, ?_, ?_⟩
  · unfold floatToIntVal
    have h1 := Fl.toInt_fin (x := r) c hc (by rw [hrg]; omega) hsg
    rw [hrg, ← hqe] at h1
    have hd : FloatKind.f64.decode r = Ieee.double.read r := rfl
    rw [hd, h1]
    have e1 : IntKind.u64.min = 0 := rfl
    have e2 : IntKind.u64.max = 18446744073709551615 := rfl
    simp only [e1, e2]
    rw [if_pos (by omega)]
  · rw [n1]
    show Ieee.double.sub _ _ = _
    rw [Fl.sub_fin (by omega) (by rw [hrg]; omega) (by rw [(rgw _ (by omega)).1]; omega)]
    have e1 : Fl.val r - Fl.val (Fl.rq (q * 2 ^ c) 0) = (T : Int) := by
      rw [vw r (by omega), vw _ (by omega), n2, hV]; omega
    rw [e1, hsg]
    have e2 : (if (T : Int) = 0 then false && !Fl.sg (Fl.rq (q * 2 ^ c) 0) else decide ((T : Int) < 0)) = false := by
      split
      · rfl
      · exact decide_eq_false (by omega)
    rw [e2, Fl.wd_false, Int.natAbs_natCast]
  · have hk := Fl.key_wd false (Fl.rq T 0) (by omega)
    rw [Fl.wd_false, if_neg (by decide)] at hk
    have hn : Fl.nan (Fl.rq T 0) = false := by unfold Fl.nan; rw [(rgw _ (by omega)).1]; exact decide_eq_false (by omega)
    unfold Fl.ltF
    rw [hn, show Fl.nan 4602678819172646912 = false from by decide, show Fl.key 4602678819172646912 = 4602678819172646912 from by decide, hk]
    simp only [Bool.not_false, Bool.true_and, decide_eq_decide]
    rw [← half]
    have h1 := Fl.vl_lt_iff (r := 4602678819172646912) (s := Fl.rq T 0)
    rw [t1] at h1
    constructor
    · intro h; have := h1.2 (by omega); omega
    · intro h; have := h1.1 (by omega); omega
  · have hk := Fl.key_wd false (Fl.rq T 0) (by omega)
    rw [Fl.wd_false, if_neg (by decide)] at hk
    have hn : Fl.nan (Fl.rq T 0) = false := by unfold Fl.nan; rw [(rgw _ (by omega)).1]; exact decide_eq_false (by omega)
    unfold Fl.eqF
    rw [hn, show Fl.nan 4602678819172646912 = false from by decide, show Fl.key 4602678819172646912 = 4602678819172646912 from by decide, hk]
    simp only [Bool.not_false, Bool.true_and, decide_eq_decide]
    rw [← half]
    have h1 := Fl.vl_inj (r := Fl.rq T 0) (s := 4602678819172646912)
    rw [t1] at h1
    constructor
    · intro h; have := h1.2 (by omega); omega
    · intro h; have := h1.1 (by omega); omega
  · rw [n1, m1]
    show Ieee.double.add _ _ = _
    rw [Fl.add_fin (by rw [(rgw _ (by omega)).1]; omega) (by rw [(rgw _ (by omega)).1]; omega)]
    have e1 : Fl.val (Fl.rq (q * 2 ^ c) 0) + Fl.val 4607182418800017408 = (((q + 1) * 2 ^ c : Nat) : Int) := by
      rw [vw _ (by omega), vw _ (by omega), n2, one, Nat.add_mul, Nat.one_mul]; rfl
    rw [e1]
    have hne : ¬ (((q + 1) * 2 ^ c : Nat) : Int) = 0 := by
      have : 0 < (q + 1) * 2 ^ c := Nat.mul_pos (by omega) hp
      omega
    rw [if_neg hne, decide_eq_false (by omega), Fl.wd_false, Int.natAbs_natCast]
end Go.Proofs.Ytpfaaimfembhdaa
/-
  OWN TEXT: what Parts of the reference returns, for every float.
-/
namespace Go.Proofs.Ytpfaaimfembhdaa
open Go.ChangeShapes Go.WideShapes Go.ChangeAt Go.RowKit
set_option linter.unusedVariables false
attribute [local go_sem] frombits_call tobits_call run_neg
/-- a finite number other than the noughts -/
def plainB (x : Nat) : Bool := Fl.finB x && !decide (Fl.rg x = 0)
/-- what the tests of a word's size come to -/
theorem size_tests (s : Bool) (r : Nat) (hr : r < 9218868437227405312) (hz : ¬ r = 0) :
    Fl.leF 4607182418800017408 (Fl.wd s r) = (!s && decide (4607182418800017408 ≤ r)) ∧ Fl.leF (Fl.wd s r) 13830554455654793216 = (s && decide (4607182418800017408 ≤ r)) ∧
    Fl.ltF 13826050856027422720 (Fl.wd s r) = (!s || decide (r < 4602678819172646912)) ∧ Fl.ltF (Fl.wd s r) 4602678819172646912 = (s || decide (r < 4602678819172646912)) := by
  have hk := Fl.key_wd s r (by omega)
  have hn : Fl.nan (Fl.wd s r) = false := by unfold Fl.nan; rw [Fl.rg_wd s r (by omega)]; exact decide_eq_false (by omega)
  unfold Fl.leF Fl.ltF
  rw [hn, hk, show Fl.nan 4607182418800017408 = false from by decide, show Fl.nan 13830554455654793216 = false from by decide, show Fl.nan 13826050856027422720 = false from by decide, show Fl.nan 4602678819172646912 = false from by decide,
    show Fl.key 4607182418800017408 = 4607182418800017408 from by decide, show Fl.key 13830554455654793216 = -4607182418800017408 from by decide, show Fl.key 13826050856027422720 = -4602678819172646912 from by decide, show Fl.key 4602678819172646912 = 4602678819172646912 from by decide]
  cases s
  · simp only [Bool.not_false, Bool.true_and, Bool.false_and, Bool.true_or, Bool.false_or, Bool.false_eq_true, if_false, decide_eq_true_eq, decide_eq_false_iff_not, decide_eq_decide]
    refine ⟨?_, ?_, ?_, ?_⟩ <;> omega
  · simp only [Bool.not_false, Bool.not_true, Bool.true_and, Bool.false_and, Bool.true_or, Bool.false_or, if_true, decide_eq_true_eq, decide_eq_false_iff_not, decide_eq_decide]
    refine ⟨?_, ?_, ?_, ?_⟩ <;> omega
theorem dbl_facts (r : Nat) (h : r < 4602678819172646912) (hz : ¬ r = 0) : Fl.vl (Fl.rq (Fl.vl r * 2) 0) = Fl.vl r * 2 ∧ Fl.rq (Fl.vl r * 2) 0 < 4607182418800017408 ∧ ¬ Fl.rq (Fl.vl r * 2) 0 = 0 := by
  have hv := Fl.vl_pos hz
  have h1 := Fl.vl_mono h
  have e := Fl.vl_up 4602678819172646912 1 (by omega)
  rw [show 4602678819172646912 + 1 * 4503599627370496 = 4607182418800017408 by omega, Nat.pow_one] at e
  have hlog : (Fl.vl r * 2).log2 < 2098 := by
    refine (Nat.log2_lt (by omega)).2 ?_
    have := Fl.vl_lt (r := 4607182418800017408) (by omega)
    omega
  obtain ⟨M, k, e1, hM, _⟩ := Fl.rep_vl r (by omega)
  obtain ⟨h2, h3⟩ := Fl.rq_rep (Fl.vl r * 2) ⟨M, k + 1, by rw [e1, Nat.pow_succ, Nat.mul_assoc], by omega⟩ hlog
  refine ⟨h2, ?_, ?_⟩
  · refine Fl.vl_lt_iff.1 ?_
    rw [h2, e]; omega
  · intro z
    rw [z] at h2
    have : Fl.vl 0 = 0 := by decide
    omega
theorem pow_bound (v j c : Nat) (hv : ¬ v = 0) (h : v * 2 ^ j < 2 ^ c) : j < c := by
  refine (Nat.pow_lt_pow_iff_right (a := 2) (by omega)).1 ?_
  refine Nat.lt_of_le_of_lt ?_ h
  exact Nat.le_mul_of_pos_left _ (by omega)
/-- the first loop: halved i times -/
def PL1 (x : Nat) (w : World) (a n : Value) (wr : World) : Prop := ∃ (i r : Nat), a = .float .f64 (Fl.wd (Fl.sg x) r) ∧ n = .int .i64 (i : Int) ∧ r + i * 4503599627370496 = Fl.rg x ∧ (i = 0 ∨ 4602678819172646912 ≤ r) ∧ wr = w
/-- the second loop: doubled j times -/
def PL2 (x r i : Nat) (w : World) (a n : Value) (wr : World) : Prop := ∃ (j r' : Nat), a = .float .f64 (Fl.wd (Fl.sg x) r') ∧ n = .int .i64 ((i : Int) - (j : Int)) ∧ Fl.vl r' = Fl.vl r * 2 ^ j ∧ r' < 4607182418800017408 ∧ ¬ r' = 0 ∧ j < 1074 ∧ wr = w
end Go.Proofs.Ytpfaaimfembhdaa
/-
  OWN TEXT: what Whole of the reference returns, for every float.
-/
namespace Go.Proofs.Ytpfaaimfembhdaa
open Go.ChangeShapes Go.WideShapes Go.ChangeAt Go.RowKit
set_option linter.unusedVariables false
attribute [local go_sem] frombits_call tobits_call run_neg
/-- whether it is too great for a part behind the point -/
theorem great_tests (x : Nat) (hx : x < 18446744073709551616) (hn : Fl.nan x = false) :
    Fl.leF 4841369599423283200 x = (!Fl.sg x && decide (4841369599423283200 ≤ Fl.rg x)) ∧ Fl.leF x 14064741636278059008 = (Fl.sg x && decide (4841369599423283200 ≤ Fl.rg x)) ∧ (¬ Fl.rg x = 0 → Fl.ltF x 0 = Fl.sg x) := by
  have hl := Fl.nan_le hn
  have hk := Fl.key_wd (Fl.sg x) (Fl.rg x) (by omega)
  rw [Fl.wd_self hx] at hk
  unfold Fl.leF Fl.ltF
  rw [hn, hk, show Fl.nan 4841369599423283200 = false from by decide, show Fl.nan 14064741636278059008 = false from by decide, show Fl.nan 0 = false from by decide, show Fl.key 4841369599423283200 = 4841369599423283200 from by decide, show Fl.key 14064741636278059008 = -4841369599423283200 from by decide, show Fl.key 0 = 0 from by decide]
  cases Fl.sg x
  · simp only [Bool.not_false, Bool.true_and, Bool.false_and, Bool.false_eq_true, if_false, decide_eq_false_iff_not, decide_eq_decide]
    refine ⟨?_, ?_, ?_⟩ <;> omega
  · simp only [Bool.not_false, Bool.not_true, Bool.true_and, Bool.false_and, if_true, decide_eq_false_iff_not, decide_eq_decide, decide_eq_true_eq]
    refine ⟨?_, ?_, ?_⟩ <;> omega
/-- what is not changed by being made whole -/
theorem wh_stay (x c : Nat) (hc : c = 1074) (hx : x < 18446744073709551616) (hn : Fl.nan x = false) (h : Fl.rg x = 0 ∨ 4841369599423283200 ≤ Fl.rg x) : Fl.whF x = x := by
  by_cases hi : Fl.rg x < 9218868437227405312
  · rw [Fl.whF_fin c hc hi]
    rcases h with h | h
    · rw [h, show Fl.vl 0 = 0 by decide, show Fl.rne 0 c = 0 by unfold Fl.rne; simp, Nat.zero_mul, show Fl.rq 0 0 = 0 from rfl]
      have := Fl.wd_self hx
      rw [h] at this
      exact this
    · have hv := Fl.vl_big (r := Fl.rg x) (by omega)
      obtain ⟨j, hj⟩ : ∃ j, Fl.rg x / 4503599627370496 - 1 = j + c := ⟨Fl.rg x / 4503599627370496 - 1 - c, by omega⟩
      rw [hj, Nat.pow_add, ← Nat.mul_assoc] at hv
      rw [hv, Fl.rne_exact, ← hv, Fl.rq_vl _ (by omega)]
      exact Fl.wd_self hx
  · have hl := Fl.nan_le hn
    have e : Fl.rg x = 9218868437227405312 := by omega
    unfold Fl.whF
    rw [Fl.read_inf e]
    show Ieee.double.write (.infinity (Fl.sg x)) = x
    have := Fl.wd_self hx
    rw [e] at this
    rw [← this, Fl.sg_wd _ _ (by omega)]
    cases Fl.sg x <;> rfl
theorem rsigned_pos (r x : Nat) (hr : r ≤ 9218868437227405312) (hn : Fl.nan x = false) : rsignedF (Fl.wd false r) x = Fl.wd (Fl.sg x) r := by
  have n1 : Fl.nan (Fl.wd false r) = false := by unfold Fl.nan; rw [Fl.rg_wd _ _ (by omega)]; exact decide_eq_false (by omega)
  have s1 : Fl.sg (Fl.wd false r) = false := Fl.sg_wd _ _ (by omega)
  have e1 : Fl.ng (Fl.wd false r) = Fl.wd true r := by
    rw [Fl.wd_false]
    unfold Fl.ng Fl.wd
    rw [if_pos (by omega), if_pos rfl, Nat.add_comm]
  unfold rsignedF Fl.minusB
  rw [n1, hn, s1, e1]
  cases Fl.sg x
  · rw [if_neg (by decide)]
  · rw [if_pos (by decide)]
end Go.Proofs.Ytpfaaimfembhdaa
/-
  OWN TEXT: the reference's float made whole (eddyref01.Whole), for every float.
-/
namespace Go.Proofs.Ytpfaaimfembhdaa
open Go.ChangeShapes Go.WideShapes Go.ChangeAt Go.RowKit
set_option linter.unusedVariables false
theorem same_self (z : Nat) : Fl.sameB z z = true := by unfold Fl.sameB; simp
end Go.Proofs.Ytpfaaimfembhdaa
