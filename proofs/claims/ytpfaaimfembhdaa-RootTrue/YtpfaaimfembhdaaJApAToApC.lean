/-
  OWN TEXT: package angle's sine, cosine, pieces of quarters (eddy/angle.sine, cosine, fit, without), for every float.
-/
import Derived.Test.YtpfaaimfembhdaaJAnBToAnC
import Derived.Test.YtpfaaimfembhdaaJFnWhole
import Derived.Test.YtpfaaimfembhdaaJFnEqToFnSame
import Derived.Test.YtpfaaimfembhdaaJFnLdexpToFnParts
namespace Go.Proofs.Ytpfaaimfembhdaa
open Go.ChangeShapes Go.WideShapes Go.ChangeAt Go.RowKit
set_option linter.unusedVariables false
attribute [local go_sem] frombits_call tobits_call run_neg
theorem nan5_any (w : World) : Calls Try.prog 29 #[] w fun e w' => e = .returned (.float .f64 9221120237041090561) ∧ w' = w := by
  go_enter Try.func29, Try.ntmps29
  go_wp2_with go_in
  go_ret
  exact ⟨rfl, rfl⟩
theorem tw_sin : ∀ i : Nat, i < 9 → floatBits .add .f64 (floatOfInt .f64 (2 * (9 - (i : Int)))) 4607182418800017408 = some (floatOfInt .f64 (2 * (9 - (i : Int)) + 1)) ∧ floatBits .mul .f64 (floatOfInt .f64 (2 * (9 - (i : Int)))) (floatOfInt .f64 (2 * (9 - (i : Int)) + 1)) = some (floatOfInt .f64 (2 * (9 - (i : Int)) * (2 * (9 - (i : Int)) + 1))) := by decide +kernel
theorem tw_cos : ∀ i : Nat, i < 9 → floatBits .sub .f64 (floatOfInt .f64 (2 * (9 - (i : Int)))) 4607182418800017408 = some (floatOfInt .f64 (2 * (9 - (i : Int)) - 1)) ∧ floatBits .mul .f64 (floatOfInt .f64 (2 * (9 - (i : Int)) - 1)) (floatOfInt .f64 (2 * (9 - (i : Int)))) = some (floatOfInt .f64 ((2 * (9 - (i : Int)) - 1) * (2 * (9 - (i : Int))))) := by decide +kernel

end Go.Proofs.Ytpfaaimfembhdaa
/-
  OWN TEXT: package angle's quarters and turns (eddy/angle.Quarter, Turn), for every float.
-/
namespace Go.Proofs.Ytpfaaimfembhdaa
open Go.ChangeShapes Go.WideShapes Go.ChangeAt Go.RowKit
set_option linter.unusedVariables false
attribute [local go_sem] frombits_call tobits_call run_neg
theorem fol_p {x c p : Nat} (hc : Fl.rg c ≤ 4607182418800017408) (hr : Fl.rg x ≤ 4697254411347427328) (h1 : opR .mul x c p) : Fl.nan p = false := by
  have hm := Fl.mul_fin (x := x) (y := c) (by omega) (by omega)
  have e1 : p = Fl.wd (Fl.sg x ^^ Fl.sg c) (Fl.rq (Fl.vl (Fl.rg x) * Fl.vl (Fl.rg c)) 1074) := by
    rcases h1.2 with k | k
    · exact (Option.some.inj (hm.symm.trans k)).symm
    · exact absurd (hm.symm.trans k.1) (by intro c; cases c)
  rw [e1]
  exact Fl.nan_wd _ _ (Fl.rq_le _ _)
theorem whR_num (p : Nat) (hp : p < 18446744073709551616) (h : Fl.nan p = false) : whR p (Fl.whF p) := ⟨(Fl.whF_ng hp h).2.1, by rw [if_neg (by rw [h]; decide)]⟩
theorem and3 (n : Int) : bits .and .i64 n 3 = n % 4 := by
  have h3 : (BitVec.ofInt 64 3).toNat = 2 ^ 2 - 1 := by decide
  have key : (BitVec.ofInt 64 n &&& BitVec.ofInt 64 3).toNat = (n % ((2 ^ 64 : Nat) : Int)).toNat % 2 ^ 2 := by
    rw [BitVec.toNat_and, BitVec.toNat_ofInt, h3, Nat.and_two_pow_sub_one_eq_mod]
  show IntKind.i64.wrap ((BitVec.ofInt 64 n &&& BitVec.ofInt 64 3).toNat : Nat) = n % 4
  rw [key, IntKind.wrap_i64]
  omega
theorem sinR_nan {y s : Nat} (h : sinR y s) (hn : Fl.nan y = true) : Fl.nan s = true := by
  obtain ⟨z, t, _, _, h3⟩ := h
  exact h3.nan (nan_left _ isMul hn)
theorem cosR_nan {y s : Nat} (h : cosR y s) (hn : Fl.nan y = true) : Fl.nan s = true := by
  obtain ⟨z, h1, h2⟩ := h
  have hz := h1.nan (nan_left _ isMul hn)
  obtain ⟨t, d, p, _, k2, k3, k4⟩ := h2
  have hd := k2.nan (nan_left _ isQuo hz)
  have hp := k3.nan (nan_left _ isMul hd)
  exact k4.nan (nan_right _ isSub hp)
end Go.Proofs.Ytpfaaimfembhdaa
/-
  OWN TEXT: package angle's angles (eddy/angle.arc, slope, first, across, Of, Tan), for every float.
-/
namespace Go.Proofs.Ytpfaaimfembhdaa
open Go.ChangeShapes Go.WideShapes Go.ChangeAt Go.RowKit
set_option linter.unusedVariables false
attribute [local go_sem] frombits_call tobits_call run_neg
/-- the angle's steps of a number: at most 0.4140625, or above -/
theorem le_lt {a t : Nat} (ha : Fl.nan a = false) (ht : Fl.nan t = false) : Fl.leF t a = !Fl.ltF a t := by
  rw [Fl.leF_of ht ha, Fl.ltF_of ha ht]
  by_cases c : Fl.key t ≤ Fl.key a
  · rw [decide_eq_true c, decide_eq_false (by omega)]; rfl
  · rw [decide_eq_false c, decide_eq_true (by omega)]; rfl
theorem h4 (ty : TypeId) (w : World) : (binOp .quo ty (.float .f64 4614256656552045848) (.float .f64 4616189618054758400)).run Try.prog w = .ok (.float .f64 4605249457297304856) w := run_float_arith w .quo ty .f64 _ _ _ (by decide +kernel)
theorem l4 (ty : TypeId) (w : World) : (binOp .quo ty (.float .f64 4368955796522032135) (.float .f64 4616189618054758400)).run Try.prog w = .ok (.float .f64 4359948597267291143) w := run_float_arith w .quo ty .f64 _ _ _ (by decide +kernel)
theorem h2 (ty : TypeId) (w : World) : (binOp .quo ty (.float .f64 4614256656552045848) (.float .f64 4611686018427387904)).run Try.prog w = .ok (.float .f64 4609753056924675352) w := run_float_arith w .quo ty .f64 _ _ _ (by decide +kernel)
theorem l2 (ty : TypeId) (w : World) : (binOp .quo ty (.float .f64 4368955796522032135) (.float .f64 4611686018427387904)).run Try.prog w = .ok (.float .f64 4364452196894661639) w := run_float_arith w .quo ty .f64 _ _ _ (by decide +kernel)
theorem angQ_ex (z : Nat) (w : World) : ∀ i, ∃ s, angQ z i s
  | 0 => ⟨0, rfl⟩
  | i + 1 => by
    obtain ⟨s, hs⟩ := angQ_ex z w i
    obtain ⟨d, _, hd, _, _⟩ := op_run .quo isQuo 4607182418800017408 (floatOfInt .f64 (2 * (24 - (i : Int)) + 1)) w
    obtain ⟨p, _, hp, _, _⟩ := op_run .mul isMul z s w
    obtain ⟨t, _, ht, _, _⟩ := op_run .sub isSub d p w
    exact ⟨t, s, d, p, hs, hd, hp, ht⟩
theorem angU_nan {t v : Nat} (w : World) (ht : Fl.nan t = true) (hv : Fl.nan v = true) (hl : v < 18446744073709551616) : angU t v := by
  obtain ⟨z, _, hz, _, _⟩ := op_run .mul isMul t t w
  obtain ⟨s, hs⟩ := angQ_ex z w 25
  exact ⟨z, s, hz, hs, hl, Or.inr ⟨nan_left _ isMul ht, hv⟩⟩
theorem slope_up {t v : Nat} (w : World) (hc : Fl.leF t 4601130706800738304 = false) (hl : v < 18446744073709551616) (h : ∃ a b u w x, opR .sub t 4607182418800017408 a ∧ opR .add t 4607182418800017408 b ∧ opR .quo a b u ∧ angU u w ∧ opR .add w 4359948597267291143 x ∧ opR .add 4605249457297304856 x v) : angR t v := by
  unfold angR
  cases hn : Fl.nan t
  · rw [le_lt (by decide) hn] at hc
    rw [if_pos (by simpa using hc)]; exact h
  · rw [if_neg (by unfold Fl.ltF; rw [hn]; simp)]
    obtain ⟨a, b, u, y, x, h1, h2, h3, ⟨z, s, h4, h5, h6⟩, h7, h8⟩ := h
    have na := h1.nan (nan_left _ isSub hn)
    have nu := h3.nan (nan_left _ isQuo na)
    have ny := h6.nan (nan_left _ isMul nu)
    have nx := h7.nan (nan_left _ isAdd ny)
    exact angU_nan w hn (h8.nan (nan_right _ isAdd nx)) hl
end Go.Proofs.Ytpfaaimfembhdaa
