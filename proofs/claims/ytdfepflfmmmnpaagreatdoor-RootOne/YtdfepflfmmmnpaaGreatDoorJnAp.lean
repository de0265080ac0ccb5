/-
  OWN TEXT: a float made whole, in numbers.
-/
import Derived.Test.YtdfepflfmmmnpaaGreatDoorJnAo
import Derived.Test.YtdfepflfmmmnpaaGreatDoorJnAe
import Derived.Test.YtdfepflfmmmnpaaGreatDoorJnAl
namespace Go.Proofs.YtdfepflfmmmnpaaGreatDoor.Fl
set_option linter.unusedVariables false
theorem whF_fin {x : Nat} (c : Nat) (hc : c = 1074) (hf : rg x < 9218868437227405312) : whF x = wd (sg x) (rq (rne (vl (rg x)) c * 2 ^ c) 0) := by
  obtain ⟨m, k, hm, em⟩ := read_fin hf
  unfold whF
  rw [hm]
  unfold Ieee.Datum.integral
  simp only []
  rw [cut_even]
  have e : rne (m <<< (-1074 + (k : Int)).toNat) (-(-1074 + (k : Int))).toNat = rne (vl (rg x)) c := by
    rw [← em, Nat.shiftLeft_eq]
    by_cases h : 1074 ≤ k
    · obtain ⟨j, rfl⟩ : ∃ j, k = j + c := ⟨k - c, by omega⟩
      rw [show (-1074 + ((j + c : Nat) : Int)).toNat = j by omega, show (-(-1074 + ((j + c : Nat) : Int))).toNat = 0 by omega, rne_zero, Nat.pow_add, ← Nat.mul_assoc, rne_exact]
    · rw [show (-1074 + (k : Int)).toNat = 0 by omega, Nat.pow_zero, Nat.mul_one]
      have := rne_mul m (c - k) k
      rw [show c - k + k = c by omega] at this
      rw [this]
      congr 1
      omega
  rw [e]
  have h := nearest_eq (sg x) (rne (vl (rg x)) c) c 0
  rw [show -1074 + (c : Int) - ((0 : Nat) : Int) = 0 by omega] at h
  exact h
theorem cut_zero (neg : Bool) (n s : Nat) : Ieee.Toward.zero.cut neg n s = n / 2 ^ s := by
  unfold Ieee.Toward.cut
  simp only [Bool.toNat_false, Nat.add_zero, Nat.shiftLeft_eq, Nat.one_mul]
  by_cases h : s ≤ n.log2 + 2
  · rw [Nat.min_eq_left h]
  · rw [Nat.min_eq_right (by omega)]
    have h1 : n < 2 ^ (n.log2 + 2) := by
      by_cases z : n = 0
      · rw [z]; exact Nat.two_pow_pos _
      · exact Nat.lt_trans (log2_lt n z) (Nat.pow_lt_pow_right (by omega) (by omega))
    rw [Nat.div_eq_of_lt h1, Nat.div_eq_of_lt (Nat.lt_trans h1 (Nat.pow_lt_pow_right (by omega) (by omega)))]
theorem toInt_fin {x : Nat} (c : Nat) (hc : c = 1074) (hf : rg x < 9218868437227405312) (hs : sg x = false) : (Ieee.double.read x).toInt .zero = some ((vl (rg x) / 2 ^ c : Nat) : Int) := by
  obtain ⟨m, k, hm, em⟩ := read_fin hf
  unfold Ieee.Datum.toInt
  rw [hm, hs]
  unfold Ieee.Datum.integral
  simp only []
  rw [cut_zero]
  have e : m <<< (-1074 + (k : Int)).toNat / 2 ^ (-(-1074 + (k : Int))).toNat = vl (rg x) / 2 ^ c := by
    rw [← em, Nat.shiftLeft_eq]
    by_cases h : 1074 ≤ k
    · obtain ⟨j, rfl⟩ : ∃ j, k = j + c := ⟨k - c, by omega⟩
      rw [show (-1074 + ((j + c : Nat) : Int)).toNat = j by omega, show (-(-1074 + ((j + c : Nat) : Int))).toNat = 0 by omega, Nat.pow_add, ← Nat.mul_assoc, Nat.mul_div_cancel _ (Nat.two_pow_pos c), Nat.pow_zero, Nat.div_one]
    · rw [show (-1074 + (k : Int)).toNat = 0 by omega, Nat.pow_zero, Nat.mul_one, show (-(-1074 + (k : Int))).toNat = c - k by omega]
      have e2 : 2 ^ c = 2 ^ (c - k) * 2 ^ k := by rw [← Nat.pow_add, show c - k + k = c by omega]
      rw [e2, Nat.mul_div_mul_right _ _ (Nat.two_pow_pos k)]
  rw [e]
  unfold Ieee.signed
  rw [if_neg (by decide), Nat.shiftLeft_zero]
theorem wd_false (r : Nat) : wd false r = r := rfl
theorem pow_pred (c : Nat) (h : 1 ≤ c) : 2 ^ c = 2 ^ (c - 1) * 2 := by
  cases c with
  | zero => omega
  | succ b => rw [Nat.add_sub_cancel]; exact Nat.pow_succ 2 b
theorem vl_pow (e c : Nat) (hc : c = 51 + e) (he : 1 ≤ e) : vl (e * 4503599627370496) = 2 ^ c := by
  have := vl_comb (e - 1) 4503599627370496 (by omega) (Or.inr (by omega))
  rw [show (e - 1) * 4503599627370496 + 4503599627370496 = e * 4503599627370496 by omega] at this
  rw [this, show (4503599627370496 : Nat) = 2 ^ 52 by decide, ← Nat.pow_add]
  congr 1
  omega
theorem rep_mod (V c : Nat) (h : ∃ M k : Nat, V = M * 2 ^ k ∧ M ≤ 9007199254740992) : ∃ M k : Nat, V % 2 ^ c = M * 2 ^ k ∧ M ≤ 9007199254740992 := by
  obtain ⟨M, k, e, hM⟩ := h
  by_cases hk : c ≤ k
  · refine ⟨0, 0, ?_, by omega⟩
    obtain ⟨j, rfl⟩ : ∃ j, k = j + c := ⟨k - c, by omega⟩
    rw [e, Nat.pow_add, ← Nat.mul_assoc, Nat.mul_mod_left]
  · refine ⟨M % 2 ^ (c - k), k, ?_, Nat.le_trans (Nat.mod_le _ _) hM⟩
    have e2 : 2 ^ c = 2 ^ (c - k) * 2 ^ k := by rw [← Nat.pow_add, show c - k + k = c by omega]
    rw [e, e2, Nat.mul_mod_mul_right]
end Go.Proofs.YtdfepflfmmmnpaaGreatDoor.Fl
namespace Go.Proofs.YtdfepflfmmmnpaaGreatDoor
set_option linter.unusedVariables false
open Go.ChangeShapes Go.WideShapes Go.ChangeAt Go.RowKit
/-- the steps of making a small float whole -/
theorem wh_facts (r c : Nat) (hc : c = 1074) (hr : r < 4841369599423283200) (hz : ¬ r = 0) : ∃ q T : Nat, Fl.vl r = q * 2 ^ c + T ∧ T < 2 ^ c ∧ q < 4503599627370496 ∧
    floatToIntVal .f64 r .u64 = some (q : Int) ∧ floatBits .sub .f64 r (floatOfInt .f64 (q : Int)) = some (Fl.rq T 0) ∧
    Fl.ltF 4602678819172646912 (Fl.rq T 0) = decide (2 ^ c < 2 * T) ∧ Fl.eqF (Fl.rq T 0) 4602678819172646912 = decide (2 ^ c = 2 * T) ∧
    floatBits .add .f64 (floatOfInt .f64 (q : Int)) 4607182418800017408 = some (floatOfInt .f64 ((q + 1 : Nat) : Int)) := by
  have hp := Nat.two_pow_pos c
  have hrg : Fl.rg r = r := by unfold Fl.rg; omega
  have hsg : Fl.sg r = false := by unfold Fl.sg; rw [show r / 9223372036854775808 = 0 by omega]; rfl
  obtain ⟨M, k, eM, hM, _⟩ := Fl.rep_vl r (by omega)
  have hrep : ∃ M k : Nat, Fl.vl r = M * 2 ^ k ∧ M ≤ 9007199254740992 := ⟨M, k, eM, by omega⟩
  have hVt : Fl.vl r < 4503599627370496 * 2 ^ c := by
    have h1 := Fl.vl_mono hr
    have h2 := Fl.vl_pow 1075 (52 + c) (by omega) (by omega)
    rw [show 1075 * 4503599627370496 = 4841369599423283200 by decide, Nat.pow_add] at h2
    rw [h2] at h1
    exact h1
  have hq : Fl.vl r / 2 ^ c < 4503599627370496 := (Nat.div_lt_iff_lt_mul hp).2 hVt
  have hdm := Nat.div_add_mod (Fl.vl r) (2 ^ c)
  have hm := Nat.mod_lt (Fl.vl r) hp
  obtain ⟨q, hqe⟩ : ∃ q, q = Fl.vl r / 2 ^ c := ⟨_, rfl⟩
  obtain ⟨T, hTe⟩ : ∃ T, T = Fl.vl r % 2 ^ c := ⟨_, rfl⟩
  have hV : Fl.vl r = q * 2 ^ c + T := by rw [hqe, hTe, Nat.mul_comm]; exact hdm.symm
  have hTlt : T < 2 ^ c := by rw [hTe]; exact hm
  have hTrep : ∃ M k : Nat, T = M * 2 ^ k ∧ M ≤ 9007199254740992 := by rw [hTe]; exact Fl.rep_mod _ c hrep
  have hTlog : T.log2 < 2098 := by
    by_cases z : T = 0
    · rw [z]; decide
    · have := (Nat.log2_lt z).2 hTlt
      omega
  obtain ⟨t1, t2⟩ := Fl.rq_rep T hTrep hTlog
  have hqlog : ∀ j, j ≤ 9007199254740992 → (j * 2 ^ c).log2 < 2098 := by
    intro j hj
    by_cases z : j = 0
    · rw [z, Nat.zero_mul]; decide
    · rw [Fl.log2_mul j c z]
      have := (Nat.log2_lt z (k := 54)).2 (by omega)
      omega
  have hnw : ∀ j : Nat, j ≤ 9007199254740992 → floatOfInt .f64 (j : Int) = Fl.rq (j * 2 ^ c) 0 ∧ Fl.vl (Fl.rq (j * 2 ^ c) 0) = j * 2 ^ c ∧ Fl.rq (j * 2 ^ c) 0 < 9218868437227405312 := by
    intro j hj
    obtain ⟨a1, a2⟩ := Fl.rq_rep (j * 2 ^ c) ⟨j, c, rfl, hj⟩ (hqlog j hj)
    exact ⟨(float_of_nat j c hc).trans (Fl.wd_false _), a1, a2⟩
  have hq' : q ≤ 9007199254740992 := by omega
  obtain ⟨n1, n2, n3⟩ := hnw q (by omega)
  obtain ⟨m1, m2, m3⟩ := hnw (q + 1) (by omega)
  have rgw : ∀ y, y < 9223372036854775808 → Fl.rg y = y ∧ Fl.sg y = false := fun y hy => ⟨by unfold Fl.rg; omega, by unfold Fl.sg; rw [show y / 9223372036854775808 = 0 by omega]; rfl⟩
  have vw : ∀ y, y < 9223372036854775808 → Fl.val y = Fl.vl y := fun y hy => by unfold Fl.val; rw [(rgw y hy).1, (rgw y hy).2]; rfl
  have half : Fl.vl 4602678819172646912 * 2 = 2 ^ c := by
    have h2 := Fl.vl_pow 1022 (c - 1) (by omega) (by omega)
    rw [show 1022 * 4503599627370496 = 4602678819172646912 by decide] at h2
    rw [h2]; exact (Fl.pow_pred c (by omega)).symm
  have one : Fl.vl 4607182418800017408 = 2 ^ c := by
    have h2 := Fl.vl_pow 1023 c (by omega) (by omega)
    rw [show 1023 * 4503599627370496 = 4607182418800017408 by decide] at h2
    exact h2
  refine ⟨q, T, hV, hTlt, by omega, ?_, ?_, ?_, ?_, ?_⟩
  · unfold floatToIntVal
    have h1 := Fl.toInt_fin (x := r) c hc (by rw [hrg]; omega) hsg
    rw [hrg, ← hqe] at h1
    have hd : FloatKind.f64.decode r = Ieee.double.read r := rfl
    rw [hd, h1]
    have e1 : IntKind.u64.min = 0 := rfl
    have e2 : IntKind.u64.max = 18446744073709551615 := rfl
    simp only [e1, e2]
    rw [if_pos (by omega)]
  · rw [n1]
    show Ieee.double.sub _ _ = _
    rw [Fl.sub_fin (by omega) (by rw [hrg]; omega) (by rw [(rgw _ (by omega)).1]; omega)]
    have e1 : Fl.val r - Fl.val (Fl.rq (q * 2 ^ c) 0) = (T : Int) := by
      rw [vw r (by omega), vw _ (by omega), n2, hV]; omega
    rw [e1, hsg]
    have e2 : (if (T : Int) = 0 then false && !Fl.sg (Fl.rq (q * 2 ^ c) 0) else decide ((T : Int) < 0)) = false := by
      split
      · rfl
      · exact decide_eq_false (by omega)
    rw [e2, Fl.wd_false, Int.natAbs_natCast]
  · have hk := Fl.key_wd false (Fl.rq T 0) (by omega)
    rw [Fl.wd_false, if_neg (by decide)] at hk
    have hn : Fl.nan (Fl.rq T 0) = false := by unfold Fl.nan; rw [(rgw _ (by omega)).1]; exact decide_eq_false (by omega)
    unfold Fl.ltF
    rw [hn, show Fl.nan 4602678819172646912 = false from by decide, show Fl.key 4602678819172646912 = 4602678819172646912 from by decide, hk]
    simp only [Bool.not_false, Bool.true_and, decide_eq_decide]
    rw [← half]
    have h1 := Fl.vl_lt_iff (r := 4602678819172646912) (s := Fl.rq T 0)
    rw [t1] at h1
    constructor
    · intro h; have := h1.2 (by omega); omega
    · intro h; have := h1.1 (by omega); omega
  · have hk := Fl.key_wd false (Fl.rq T 0) (by omega)
    rw [Fl.wd_false, if_neg (by decide)] at hk
    have hn : Fl.nan (Fl.rq T 0) = false := by unfold Fl.nan; rw [(rgw _ (by omega)).1]; exact decide_eq_false (by omega)
    unfold Fl.eqF
    rw [hn, show Fl.nan 4602678819172646912 = false from by decide, show Fl.key 4602678819172646912 = 4602678819172646912 from by decide, hk]
    simp only [Bool.not_false, Bool.true_and, decide_eq_decide]
    rw [← half]
    have h1 := Fl.vl_inj (r := Fl.rq T 0) (s := 4602678819172646912)
    rw [t1] at h1
    constructor
    · intro h; have := h1.2 (by omega); omega
    · intro h; have := h1.1 (by omega); omega
  · rw [n1, m1]
    show Ieee.double.add _ _ = _
    rw [Fl.add_fin (by rw [(rgw _ (by omega)).1]; omega) (by rw [(rgw _ (by omega)).1]; omega)]
    have e1 : Fl.val (Fl.rq (q * 2 ^ c) 0) + Fl.val 4607182418800017408 = (((q + 1) * 2 ^ c : Nat) : Int) := by
      rw [vw _ (by omega), vw _ (by omega), n2, one, Nat.add_mul, Nat.one_mul]; rfl
    rw [e1]
    have hne : ¬ (((q + 1) * 2 ^ c : Nat) : Int) = 0 := by
      have : 0 < (q + 1) * 2 ^ c := Nat.mul_pos (by omega) hp
      omega
    rw [if_neg hne, decide_eq_false (by omega), Fl.wd_false, Int.natAbs_natCast]
end Go.Proofs.YtdfepflfmmmnpaaGreatDoor
/-
  OWN TEXT: what Parts of the reference returns, for every float.
-/
namespace Go.Proofs.YtdfepflfmmmnpaaGreatDoor
open Go.ChangeShapes Go.WideShapes Go.ChangeAt Go.RowKit
set_option linter.unusedVariables false
attribute [local go_sem] frombits_call tobits_call run_neg
/-- a finite number other than the noughts -/
def plainB (x : Nat) : Bool := Fl.finB x && !decide (Fl.rg x = 0)
theorem plain_any (x : Nat) (w : World) (hx : x < 18446744073709551616) : Calls Tryz.prog 66 #[.float .f64 x] w fun e w' => e = .returned (.bool (plainB x)) ∧ w' = w := by
  have g := Fl.o_ne x 0
  cases hf : Fl.finB x
  · have H : Hid (plainB x = false) := by show plainB x = false; unfold plainB; rw [hf]; rfl
    go_enter Tryz.func66, Tryz.ntmps66
    go_wp2_with (go_at_call 65; refine (rfinite_any _ _).mono ?_; rintro e w' ⟨rfl, rfl⟩)
    go_ret
    exact ⟨rb H.out.symm, rfl⟩
  · have hn : Fl.nan x = false := by
      have := of_decide_eq_true hf
      unfold Fl.nan; exact decide_eq_false (by omega)
    obtain ⟨_, t2, _⟩ := up_tests hx hn
    rw [t2] at g
    have H : Hid (plainB x = !decide (Fl.rg x = 0)) := by show plainB x = _; unfold plainB; rw [hf]; rfl
    go_enter Tryz.func66, Tryz.ntmps66
    go_wp2_with (go_at_call 65; refine (rfinite_any _ _).mono ?_; rintro e w' ⟨rfl, rfl⟩)
    go_ret
    exact ⟨rb H.out.symm, rfl⟩
/-- what the tests of a word's size come to -/
theorem size_tests (s : Bool) (r : Nat) (hr : r < 9218868437227405312) (hz : ¬ r = 0) :
    Fl.leF 4607182418800017408 (Fl.wd s r) = (!s && decide (4607182418800017408 ≤ r)) ∧ Fl.leF (Fl.wd s r) 13830554455654793216 = (s && decide (4607182418800017408 ≤ r)) ∧
    Fl.ltF 13826050856027422720 (Fl.wd s r) = (!s || decide (r < 4602678819172646912)) ∧ Fl.ltF (Fl.wd s r) 4602678819172646912 = (s || decide (r < 4602678819172646912)) := by
  have hk := Fl.key_wd s r (by omega)
  have hn : Fl.nan (Fl.wd s r) = false := by unfold Fl.nan; rw [Fl.rg_wd s r (by omega)]; exact decide_eq_false (by omega)
  unfold Fl.leF Fl.ltF
  rw [hn, hk, show Fl.nan 4607182418800017408 = false from by decide, show Fl.nan 13830554455654793216 = false from by decide, show Fl.nan 13826050856027422720 = false from by decide, show Fl.nan 4602678819172646912 = false from by decide,
    show Fl.key 4607182418800017408 = 4607182418800017408 from by decide, show Fl.key 13830554455654793216 = -4607182418800017408 from by decide, show Fl.key 13826050856027422720 = -4602678819172646912 from by decide, show Fl.key 4602678819172646912 = 4602678819172646912 from by decide]
  cases s
  · simp only [Bool.not_false, Bool.true_and, Bool.false_and, Bool.true_or, Bool.false_or, Bool.false_eq_true, if_false, decide_eq_true_eq, decide_eq_false_iff_not, decide_eq_decide]
    refine ⟨?_, ?_, ?_, ?_⟩ <;> omega
  · simp only [Bool.not_false, Bool.not_true, Bool.true_and, Bool.false_and, Bool.true_or, Bool.false_or, if_true, decide_eq_true_eq, decide_eq_false_iff_not, decide_eq_decide]
    refine ⟨?_, ?_, ?_, ?_⟩ <;> omega
theorem dbl_facts (r : Nat) (h : r < 4602678819172646912) (hz : ¬ r = 0) : Fl.vl (Fl.rq (Fl.vl r * 2) 0) = Fl.vl r * 2 ∧ Fl.rq (Fl.vl r * 2) 0 < 4607182418800017408 ∧ ¬ Fl.rq (Fl.vl r * 2) 0 = 0 := by
  have hv := Fl.vl_pos hz
  have h1 := Fl.vl_mono h
  have e := Fl.vl_up 4602678819172646912 1 (by omega)
  rw [show 4602678819172646912 + 1 * 4503599627370496 = 4607182418800017408 by omega, Nat.pow_one] at e
  have hlog : (Fl.vl r * 2).log2 < 2098 := by
    refine (Nat.log2_lt (by omega)).2 ?_
    have := Fl.vl_lt (r := 4607182418800017408) (by omega)
    omega
  obtain ⟨M, k, e1, hM, _⟩ := Fl.rep_vl r (by omega)
  obtain ⟨h2, h3⟩ := Fl.rq_rep (Fl.vl r * 2) ⟨M, k + 1, by rw [e1, Nat.pow_succ, Nat.mul_assoc], by omega⟩ hlog
  refine ⟨h2, ?_, ?_⟩
  · refine Fl.vl_lt_iff.1 ?_
    rw [h2, e]; omega
  · intro z
    rw [z] at h2
    have : Fl.vl 0 = 0 := by decide
    omega
theorem pow_bound (v j c : Nat) (hv : ¬ v = 0) (h : v * 2 ^ j < 2 ^ c) : j < c := by
  refine (Nat.pow_lt_pow_iff_right (a := 2) (by omega)).1 ?_
  refine Nat.lt_of_le_of_lt ?_ h
  exact Nat.le_mul_of_pos_left _ (by omega)
/-- the first loop: halved i times -/
def PL1 (x : Nat) (w : World) (a n : Value) (wr : World) : Prop := ∃ (i r : Nat), a = .float .f64 (Fl.wd (Fl.sg x) r) ∧ n = .int .i64 (i : Int) ∧ r + i * 4503599627370496 = Fl.rg x ∧ (i = 0 ∨ 4602678819172646912 ≤ r) ∧ wr = w
/-- the second loop: doubled j times -/
def PL2 (x r i : Nat) (w : World) (a n : Value) (wr : World) : Prop := ∃ (j r' : Nat), a = .float .f64 (Fl.wd (Fl.sg x) r') ∧ n = .int .i64 ((i : Int) - (j : Int)) ∧ Fl.vl r' = Fl.vl r * 2 ^ j ∧ r' < 4607182418800017408 ∧ ¬ r' = 0 ∧ j < 1074 ∧ wr = w
set_option maxHeartbeats 8000000 in
theorem rparts_fin (x : Nat) (w : World) (hx : x < 18446744073709551616) (hf : Fl.rg x < 9218868437227405312) (hz : ¬ Fl.rg x = 0) :
    Calls Tryz.prog 34 #[.float .f64 x] w fun e w' => e = .returned (.tuple #[.float .f64 (ptF x), .int .i64 (ptE x)]) ∧ w' = w := by
  have hp : plainB x = true := by unfold plainB Fl.finB; rw [decide_eq_true hf, decide_eq_false hz]; rfl
  have hxs := Fl.wd_self hx
  have U : Hid (∀ r i j : Nat, 4602678819172646912 ≤ r → r < 4607182418800017408 → Fl.vl r * 2 ^ i = Fl.vl (Fl.rg x) * 2 ^ j → Fl.wd (Fl.sg x) r = ptF x ∧ (i : Int) - (j : Int) = ptE x) := fun r i j a b c => pt_uniq hx hf hz a b c
  have HX : Hid (Fl.wd (Fl.sg x) (Fl.rg x) = x) := hxs
  clear hxs
  generalize ptF x = pF at *
  generalize ptE x = pE at *
  go_enter Tryz.func34, Tryz.ntmps34
  go_wp2_with (first | (go_at_call 66; refine (plain_any _ _ (by assumption)).mono ?_; rintro e w ⟨rfl, rfl⟩) | fail)
  go_loopw [0, 4] (PL1 x w) (fun _ n _ => 4000 - (intOf n).toNat)
  case atStart => exact ⟨0, Fl.rg x, by rw [HX.out], rfl, by omega, Or.inl rfl, rfl⟩
  case round =>
    obtain ⟨i, r, rfl, rfl, hr, hi, rfl⟩ := hrel
    have hi2 : i < 2048 := by omega
    obtain ⟨t1, t2, t3, t4⟩ := size_tests (Fl.sg x) r (by omega) (by omega)
    have g1 := Fl.o_ge (Fl.wd (Fl.sg x) r) 4607182418800017408
    have g2 := Fl.o_le (Fl.wd (Fl.sg x) r) 13830554455654793216
    rw [t1] at g1
    rw [t2] at g2
    clear t1 t2 t3 t4 hp
    have hrr := Fl.rg_wd (Fl.sg x) r (by omega)
    have hss := Fl.sg_wd (Fl.sg x) r (by omega)
    by_cases c : 4607182418800017408 ≤ r
    · have ha : floatBits .quo .f64 (Fl.wd (Fl.sg x) r) 4611686018427387904 = some (Fl.wd (Fl.sg x) (r - 4503599627370496)) := by
        show Ieee.double.div _ _ = _
        rw [Fl.div_two (by rw [hrr]; omega), hrr, hss, Fl.half_step r (by omega) (by omega)]
      have e1 := fun (t : TypeId) w => run_float_arith (P := Tryz.prog) w .quo t .f64 _ _ _ ha
      clear ha hrr hss
      rw [decide_eq_true c] at g1 g2
      have REL : PL1 x wr (.float .f64 (Fl.wd (Fl.sg x) (r - 4503599627370496))) (.int .i64 ((i : Int) + 1)) wr := ⟨i + 1, r - 4503599627370496, rfl, by simp, by omega, Or.inr (by omega), rfl⟩
      have HR : Hid (PL1 x wr (.float .f64 (Fl.wd (Fl.sg x) (r - 4503599627370496))) (.int .i64 ((i : Int) + 1)) wr) := REL
      clear REL c hr hi
      generalize Fl.wd (Fl.sg x) r = a at *
      generalize Fl.wd (Fl.sg x) (r - 4503599627370496) = a' at *
      cases hs : Fl.sg x
      · rw [hs] at g1 g2
        go_wp2
        go_roundw
        case rel => exact HR.out
        case measure => simp [intOf]; omega
      · rw [hs] at g1 g2
        go_wp2
        go_roundw
        case rel => exact HR.out
        case measure => simp [intOf]; omega
    · have hc : r < 4607182418800017408 := by omega
      rw [decide_eq_false c] at g1 g2
      have hz' : ¬ r = 0 := by omega
      have HV : Hid (Fl.vl (Fl.rg x) = Fl.vl r * 2 ^ i) := by
        show _ = _
        rcases hi with e | e
        · subst e; rw [← hr]; simp
        · rw [← hr]; exact Fl.vl_up r i (by omega)
      have hvr := Fl.vl_pos hz'
      obtain ⟨cc, hcc⟩ : ∃ c, c = 1074 := ⟨_, rfl⟩
      have HT : Hid (Fl.vl 4607182418800017408 = 2 ^ cc) := by
        have := Fl.vl_comb 1022 4503599627370496 (by omega) (Or.inr (by omega))
        show _ = _
        rw [hcc]
        decide +kernel
      have HCC : Hid (cc = 1074) := hcc
      clear hcc hr hi c hrr hss
      have START : PL2 x r i wr (.float .f64 (Fl.wd (Fl.sg x) r)) (.int .i64 (i : Int)) wr :=
        ⟨0, r, rfl, by simp, by simp, hc, hz', by omega, rfl⟩
      have HS : Hid (PL2 x r i wr (.float .f64 (Fl.wd (Fl.sg x) r)) (.int .i64 (i : Int)) wr) := START
      clear START
      generalize hgen : Fl.wd (Fl.sg x) r = a0 at *
      have hb1 : ∀ s : Bool, (!s && false) = false := fun s => by cases s <;> rfl
      have hb2 : ∀ s : Bool, (s && false) = false := fun s => by cases s <;> rfl
      rw [hb1] at g1
      rw [hb2] at g2
      clear hb1 hb2
      go_wp2_with fail
      go_loopw [0, 4] (PL2 x r i wr) (fun _ n _ => (intOf n + 5000).toNat)
      case atStart => exact HS.out
      case round =>
        clear HS g1 g2
        obtain ⟨j, q, rfl, rfl, hv, hq, hqz, hj, rfl⟩ := hrel
        obtain ⟨t1, t2, t3, t4⟩ := size_tests (Fl.sg x) q (by omega) hqz
        have g3 := Fl.o_gt (Fl.wd (Fl.sg x) q) 13826050856027422720
        have g4 := Fl.o_lt (Fl.wd (Fl.sg x) q) 4602678819172646912
        rw [t3] at g3
        rw [t4] at g4
        clear t1 t2 t3 t4
        have hrr := Fl.rg_wd (Fl.sg x) q (by omega)
        have hss := Fl.sg_wd (Fl.sg x) q (by omega)
        by_cases c : q < 4602678819172646912
        · have ha : floatBits .mul .f64 (Fl.wd (Fl.sg x) q) 4611686018427387904 = some (Fl.wd (Fl.sg x) (Fl.rq (Fl.vl q * 2) 0)) := by
            show Ieee.double.mul _ _ = _
            rw [Fl.mul_two' (by rw [hrr]; omega), hrr, hss]
          have e1 := fun (t : TypeId) w => run_float_arith (P := Tryz.prog) w .mul t .f64 _ _ _ ha
          obtain ⟨d1, d2, d3⟩ := dbl_facts q c hqz
          rw [decide_eq_true c] at g3 g4
          have hj1 : j + 1 < 1074 := by
            have h1 := Fl.vl_mono d2
            rw [HT.out, d1, hv, Nat.mul_assoc, ← Nat.pow_succ] at h1
            have := pow_bound _ _ _ hvr h1
            have := HCC.out
            omega
          have REL : PL2 x r i wr (.float .f64 (Fl.wd (Fl.sg x) (Fl.rq (Fl.vl q * 2) 0))) (.int .i64 ((i : Int) - (j : Int) - 1)) wr :=
            ⟨j + 1, _, rfl, by rw [show (i : Int) - (j : Int) - 1 = (i : Int) - ((j + 1 : Nat) : Int) by omega], by rw [d1, hv, Nat.mul_assoc, ← Nat.pow_succ], d2, d3, hj1, rfl⟩
          have HR : Hid (PL2 x r i wr (.float .f64 (Fl.wd (Fl.sg x) (Fl.rq (Fl.vl q * 2) 0))) (.int .i64 ((i : Int) - (j : Int) - 1)) wr) := REL
          clear REL ha hrr hss d1 d2 d3 hv hq hqz hj c
          generalize Fl.wd (Fl.sg x) q = a at *
          generalize Fl.wd (Fl.sg x) (Fl.rq (Fl.vl q * 2) 0) = a' at *
          cases hs : Fl.sg x
          · rw [hs] at g3 g4
            go_wp2
            go_roundw
            case rel => exact HR.out
            case measure => simp [intOf]; omega
          · rw [hs] at g3 g4
            go_wp2
            go_roundw
            case rel => exact HR.out
            case measure => simp [intOf]; omega
        · rw [decide_eq_false c] at g3 g4
          obtain ⟨u1, u2⟩ := U.out q i j (by omega) hq (by rw [HV.out, hv, Nat.mul_right_comm])
          have HU1 : Hid _ := u1
          have HU2 : Hid _ := u2
          clear u1 u2 hrr hss hv hq hqz c
          generalize Fl.wd (Fl.sg x) q = a at *
          cases hs : Fl.sg x
          · rw [hs] at g3 g4
            go_wp2
            go_ret2
            exact ⟨by rw [HU1.out, HU2.out]; rfl, rfl⟩
          · rw [hs] at g3 g4
            go_wp2
            go_ret2
            exact ⟨by rw [HU1.out, HU2.out]; rfl, rfl⟩
theorem rparts_any (x : Nat) (w : World) (hx : x < 18446744073709551616) :
    Calls Tryz.prog 34 #[.float .f64 x] w fun e w' => e = .returned (.tuple #[.float .f64 (paF x), .int .i64 (paE x)]) ∧ w' = w := by
  by_cases c : Fl.rg x = 0 ∨ 9218868437227405312 ≤ Fl.rg x
  · have hp : plainB x = false := by
      unfold plainB Fl.finB
      rcases c with c | c
      · rw [decide_eq_true c]; simp
      · rw [decide_eq_false (by omega)]; rfl
    have e1 : paF x = x := if_pos c
    have e2 : paE x = 0 := if_pos c
    rw [e1, e2]
    clear e1 e2 c
    go_enter Tryz.func34, Tryz.ntmps34
    go_wp2_with (first | (go_at_call 66; refine (plain_any _ _ (by assumption)).mono ?_; rintro e w ⟨rfl, rfl⟩) | fail)
    go_ret2
    exact ⟨rfl, rfl⟩
  · have e1 : paF x = ptF x := if_neg c
    have e2 : paE x = ptE x := if_neg c
    rw [e1, e2]
    exact rparts_fin x w hx (by omega) (by omega)
end Go.Proofs.YtdfepflfmmmnpaaGreatDoor
