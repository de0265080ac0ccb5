/-
  OWN TEXT: what Parts of the reference returns, for every float.
-/
import Derived.Test.YthhikidlnpndjaaRfB
import Derived.Test.YthhikidlnpndjaaFnSame
namespace Go.Proofs.Ythhikidlnpndjaa
open Go.ChangeShapes Go.WideShapes Go.ChangeAt Go.RowKit
set_option linter.unusedVariables false
attribute [local go_sem] frombits_call tobits_call run_neg
/-- a finite number other than the noughts -/
def plainB (x : Nat) : Bool := Fl.finB x && !decide (Fl.rg x = 0)
/-- what the tests of a word's size come to -/
theorem size_tests (s : Bool) (r : Nat) (hr : r < 9218868437227405312) (hz : ¬ r = 0) :
    Fl.leF 4607182418800017408 (Fl.wd s r) = (!s && decide (4607182418800017408 ≤ r)) ∧ Fl.leF (Fl.wd s r) 13830554455654793216 = (s && decide (4607182418800017408 ≤ r)) ∧
    Fl.ltF 13826050856027422720 (Fl.wd s r) = (!s || decide (r < 4602678819172646912)) ∧ Fl.ltF (Fl.wd s r) 4602678819172646912 = (s || decide (r < 4602678819172646912)) := by
  have hk := Fl.key_wd s r (by omega)
  have hn : Fl.nan (Fl.wd s r) = false := by unfold Fl.nan; rw [Fl.rg_wd s r (by omega)]; exact decide_eq_false (by omega)
  unfold Fl.leF Fl.ltF
  rw [hn, hk, show Fl.nan 4607182418800017408 = false from by decide, show Fl.nan 13830554455654793216 = false from by decide, show Fl.nan 13826050856027422720 = false from by decide, show Fl.nan 4602678819172646912 = false from by decide,
    show Fl.key 4607182418800017408 = 4607182418800017408 from by decide, show Fl.key 13830554455654793216 = -4607182418800017408 from by decide, show Fl.key 13826050856027422720 = -4602678819172646912 from by decide, show Fl.key 4602678819172646912 = 4602678819172646912 from by decide]
  cases s
  · simp only [Bool.not_false, Bool.true_and, Bool.false_and, Bool.true_or, Bool.false_or, Bool.false_eq_true, if_false, decide_eq_true_eq, decide_eq_false_iff_not, decide_eq_decide]
    refine ⟨?_, ?_, ?_, ?_⟩ <;> omega
  · simp only [Bool.not_false, Bool.not_true, Bool.true_and, Bool.false_and, Bool.true_or, Bool.false_or, if_true, decide_eq_true_eq, decide_eq_false_iff_not, decide_eq_decide]
    refine ⟨?_, ?_, ?_, ?_⟩ <;> omega
theorem dbl_facts (r : Nat) (h : r < 4602678819172646912) (hz : ¬ r = 0) : Fl.vl (Fl.rq (Fl.vl r * 2) 0) = Fl.vl r * 2 ∧ Fl.rq (Fl.vl r * 2) 0 < 4607182418800017408 ∧ ¬ Fl.rq (Fl.vl r * 2) 0 = 0 := by
  have hv := Fl.vl_pos hz
  have h1 := Fl.vl_mono h
  have e := Fl.vl_up 4602678819172646912 1 (by omega)
  rw [show 4602678819172646912 + 1 * 4503599627370496 = 4607182418800017408 by omega, Nat.pow_one] at e
  have hlog : (Fl.vl r * 2).log2 < 2098 := by
    refine (Nat.log2_lt (by omega)).2 ?_
    have := Fl.vl_lt (r := 4607182418800017408) (by omega)
    omega
  obtain ⟨M, k, e1, hM, _⟩ := Fl.rep_vl r (by omega)
  obtain ⟨h2, h3⟩ := Fl.rq_rep (Fl.vl r * 2) ⟨M, k + 1, by rw [e1, Nat.pow_succ, Nat.mul_assoc], by omega⟩ hlog
  refine ⟨h2, ?_, ?_⟩
  · refine Fl.vl_lt_iff.1 ?_
    rw [h2, e]; omega
  · intro z
    rw [z] at h2
    have : Fl.vl 0 = 0 := by decide
    omega
theorem pow_bound (v j c : Nat) (hv : ¬ v = 0) (h : v * 2 ^ j < 2 ^ c) : j < c := by
  refine (Nat.pow_lt_pow_iff_right (a := 2) (by omega)).1 ?_
  refine Nat.lt_of_le_of_lt ?_ h
  exact Nat.le_mul_of_pos_left _ (by omega)
/-- the first loop: halved i times -/
def PL1 (x : Nat) (w : World) (a n : Value) (wr : World) : Prop := ∃ (i r : Nat), a = .float .f64 (Fl.wd (Fl.sg x) r) ∧ n = .int .i64 (i : Int) ∧ r + i * 4503599627370496 = Fl.rg x ∧ (i = 0 ∨ 4602678819172646912 ≤ r) ∧ wr = w
/-- the second loop: doubled j times -/
def PL2 (x r i : Nat) (w : World) (a n : Value) (wr : World) : Prop := ∃ (j r' : Nat), a = .float .f64 (Fl.wd (Fl.sg x) r') ∧ n = .int .i64 ((i : Int) - (j : Int)) ∧ Fl.vl r' = Fl.vl r * 2 ^ j ∧ r' < 4607182418800017408 ∧ ¬ r' = 0 ∧ j < 1074 ∧ wr = w
end Go.Proofs.Ythhikidlnpndjaa
