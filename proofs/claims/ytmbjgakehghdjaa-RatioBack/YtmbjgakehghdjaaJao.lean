/-
  OWN TEXT: the reference's cosine, quarter, turn (eddyref05.cosine, Quarter, Turn), for every float.
-/
import Derived.Test.YtmbjgakehghdjaaJan
import Derived.Test.YtmbjgakehghdjaaJad
namespace Go.Proofs.Ytmbjgakehghdjaa
open Go.ChangeShapes Go.WideShapes Go.ChangeAt Go.RowKit
set_option linter.unusedVariables false
attribute [local go_sem] frombits_call tobits_call run_neg
theorem mod4 (q : Int) (h1 : -4194304 ≤ q) (h2 : q ≤ 4194304) : q.tmod 4 = (if q.tmod 4 < 0 then q % 4 - 4 else q % 4) ∧ -4 < q.tmod 4 ∧ q.tmod 4 < 4 := by
  have a := Int.tmod_eq_emod (a := q) (b := 4)
  have b := Int.emod_nonneg q (b := 4) (by decide)
  have c := Int.emod_lt_of_pos q (b := 4) (by decide)
  have d := Int.lt_tmod_of_pos q (b := 4) (by decide)
  have e := Int.tmod_lt_of_pos q (b := 4) (by decide)
  refine ⟨?_, by omega, by omega⟩
  rw [a]
  split <;> split <;> omega
end Go.Proofs.Ytmbjgakehghdjaa
/-
  OWN TEXT: package angle's sine, cosine, pieces of quarters (eddy/angle.sine, cosine, fit, without), for every float.
-/
namespace Go.Proofs.Ytmbjgakehghdjaa
open Go.ChangeShapes Go.WideShapes Go.ChangeAt Go.RowKit
set_option linter.unusedVariables false
attribute [local go_sem] frombits_call tobits_call run_neg
theorem nan5_any (w : World) : Calls Try.prog 10 #[] w fun e w' => e = .returned (.float .f64 9221120237041090561) ∧ w' = w := by
  go_enter Try.func10, Try.ntmps10
  go_wp2_with go_in
  go_ret
  exact ⟨rfl, rfl⟩
theorem tw_sin : ∀ i : Nat, i < 9 → floatBits .add .f64 (floatOfInt .f64 (2 * (9 - (i : Int)))) 4607182418800017408 = some (floatOfInt .f64 (2 * (9 - (i : Int)) + 1)) ∧ floatBits .mul .f64 (floatOfInt .f64 (2 * (9 - (i : Int)))) (floatOfInt .f64 (2 * (9 - (i : Int)) + 1)) = some (floatOfInt .f64 (2 * (9 - (i : Int)) * (2 * (9 - (i : Int)) + 1))) := by decide +kernel
theorem tw_cos : ∀ i : Nat, i < 9 → floatBits .sub .f64 (floatOfInt .f64 (2 * (9 - (i : Int)))) 4607182418800017408 = some (floatOfInt .f64 (2 * (9 - (i : Int)) - 1)) ∧ floatBits .mul .f64 (floatOfInt .f64 (2 * (9 - (i : Int)) - 1)) (floatOfInt .f64 (2 * (9 - (i : Int)))) = some (floatOfInt .f64 ((2 * (9 - (i : Int)) - 1) * (2 * (9 - (i : Int))))) := by decide +kernel

end Go.Proofs.Ytmbjgakehghdjaa
/-
  OWN TEXT: package angle's quarters and turns (eddy/angle.Quarter, Turn), for every float.
-/
namespace Go.Proofs.Ytmbjgakehghdjaa
open Go.ChangeShapes Go.WideShapes Go.ChangeAt Go.RowKit
set_option linter.unusedVariables false
attribute [local go_sem] frombits_call tobits_call run_neg
theorem fol_p {x c p : Nat} (hc : Fl.rg c ≤ 4607182418800017408) (hr : Fl.rg x ≤ 4697254411347427328) (h1 : opR .mul x c p) : Fl.nan p = false := by
  have hm := Fl.mul_fin (x := x) (y := c) (by omega) (by omega)
  have e1 : p = Fl.wd (Fl.sg x ^^ Fl.sg c) (Fl.rq (Fl.vl (Fl.rg x) * Fl.vl (Fl.rg c)) 1074) := by
    rcases h1.2 with k | k
    · exact (Option.some.inj (hm.symm.trans k)).symm
    · exact absurd (hm.symm.trans k.1) (by intro c; cases c)
  rw [e1]
  exact Fl.nan_wd _ _ (Fl.rq_le _ _)
theorem whR_num (p : Nat) (hp : p < 18446744073709551616) (h : Fl.nan p = false) : whR p (Fl.whF p) := ⟨(Fl.whF_ng hp h).2.1, by rw [if_neg (by rw [h]; decide)]⟩
theorem and3 (n : Int) : bits .and .i64 n 3 = n % 4 := by
  have h3 : (BitVec.ofInt 64 3).toNat = 2 ^ 2 - 1 := by decide
  have key : (BitVec.ofInt 64 n &&& BitVec.ofInt 64 3).toNat = (n % ((2 ^ 64 : Nat) : Int)).toNat % 2 ^ 2 := by
    rw [BitVec.toNat_and, BitVec.toNat_ofInt, h3, Nat.and_two_pow_sub_one_eq_mod]
  show IntKind.i64.wrap ((BitVec.ofInt 64 n &&& BitVec.ofInt 64 3).toNat : Nat) = n % 4
  rw [key, IntKind.wrap_i64]
  omega
theorem sinR_nan {y s : Nat} (h : sinR y s) (hn : Fl.nan y = true) : Fl.nan s = true := by
  obtain ⟨z, t, _, _, h3⟩ := h
  exact h3.nan (nan_left _ isMul hn)
theorem cosR_nan {y s : Nat} (h : cosR y s) (hn : Fl.nan y = true) : Fl.nan s = true := by
  obtain ⟨z, h1, h2⟩ := h
  have hz := h1.nan (nan_left _ isMul hn)
  obtain ⟨t, d, p, _, k2, k3, k4⟩ := h2
  have hd := k2.nan (nan_left _ isQuo hz)
  have hp := k3.nan (nan_left _ isMul hd)
  exact k4.nan (nan_right _ isSub hp)
end Go.Proofs.Ytmbjgakehghdjaa
