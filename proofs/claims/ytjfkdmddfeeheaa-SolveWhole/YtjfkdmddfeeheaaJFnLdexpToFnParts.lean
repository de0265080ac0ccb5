/-
 OWN TEXT: what math.Ldexp and Scale of package float return: the word nearest to the float times the power of two.
-/
import Derived.Test.YtjfkdmddfeeheaaJFnToFnStairs
import Derived.Test.YtjfkdmddfeeheaaJFlCToFlG
namespace Go.Proofs.Ytjfkdmddfeeheaa
open Go.ChangeShapes Go.WideShapes Go.ChangeAt Go.RowKit
set_option linter.unusedVariables false
attribute [local go_sem] frombits_call tobits_call run_neg
theorem mul_bits (x y : Nat) : floatBits .mul .f64 x y = Ieee.double.mul x y := rfl
theorem sub_normal {x : Nat} (hn : Fl.nan x = false) : (FloatKind.f64.format.order (Fl.rg x) 4503599627370496 == some .lt) = decide (Fl.rg x < 4503599627370496) := by
 rw [Fl.o_lt, Fl.ltF_of (by rw [Fl.nan_rg]; exact hn) (by decide), Fl.key_rg, show Fl.key 4503599627370496 = 4503599627370496 from by decide, decide_eq_decide]; omega
/-- a float made normal, and by which power of two it was made so -/
def nmF (x : Nat) : Nat := if Fl.rg x < 4503599627370496 then Fl.wd (Fl.sg x) (Fl.rq (Fl.vl (Fl.rg x) * 2 ^ 52) 0) else x
def nmE (x : Nat) : Int := if Fl.rg x < 4503599627370496 then -52 else 0
theorem isNaN_any (x : Nat) (w : World) : Calls Try.prog 105 #[.float .f64 x] w fun e w' => e = .returned (.bool (Fl.nan x)) ∧ w' = w := by
 go_enter Try.func105, Try.ntmps105
 go_wp2
 go_ret
 exact ⟨rb (by rw [Fl.o_ne, Fl.eqF_self]; simp), rfl⟩
theorem field_of {y : Nat} (hy : y < 18446744073709551616) : bits BinOp.and IntKind.i64 ((y : Int) / 4503599627370496) 2047 = ((Fl.rg y / 4503599627370496 : Nat) : Int) := by
 rw [Fl.and2047]; unfold Fl.rg; omega
theorem inf_any (s : Int) (w : World) (hs : s = 1 ∨ s = -1) : Calls Try.prog 12 #[.int .i64 s] w fun e w' => e = .returned (.float .f64 (Fl.wd (decide (s < 0)) 9218868437227405312)) ∧ w' = w := by
 rcases hs with rfl | rfl
 all_goals
  go_enter Try.func12, Try.ntmps12
  go_wp2
  go_ret
  exact ⟨rfl, rfl⟩
/-- what a float made normal is -/
theorem nm_facts {x : Nat} (hx : x < 18446744073709551616) (hf : Fl.rg x < 9218868437227405312) (hz : ¬ Fl.rg x = 0) :
  nmF x < 18446744073709551616 ∧ Fl.sg (nmF x) = Fl.sg x ∧ 4503599627370496 ≤ Fl.rg (nmF x) ∧ Fl.rg (nmF x) < 9218868437227405312 ∧ -52 ≤ nmE x ∧ nmE x ≤ 0 ∧ Fl.vl (Fl.rg (nmF x)) = Fl.vl (Fl.rg x) * 2 ^ (-nmE x).toNat := by
 by_cases c : Fl.rg x < 4503599627370496
 ·
  obtain ⟨h1, h2, h3⟩ := Fl.rq_52 (Fl.rg x) c hz
  have e1 : nmF x = Fl.wd (Fl.sg x) (Fl.rq (Fl.vl (Fl.rg x) * 2 ^ 52) 0) := if_pos c
  have e2 : nmE x = -52 := if_pos c
  rw [e1, e2]
  generalize hq : Fl.rq (Fl.vl (Fl.rg x) * 2 ^ 52) 0 = q at *
  rw [Fl.sg_wd _ _ (by omega), Fl.rg_wd _ _ (by omega)]
  exact ⟨Fl.wd_lt _ _ (by omega), rfl, h2, by omega, by omega, by omega, h1⟩
 ·
  have e1 : nmF x = x := if_neg c
  have e2 : nmE x = 0 := if_neg c
  rw [e1, e2]
  exact ⟨hx, rfl, by omega, hf, by omega, by omega, by simp⟩
theorem norm_target (v v' M Fm : Nat) (n c E : Int) (hc : c ≤ 0) (h1 : v' = v * 2 ^ (-c).toNat) (h2 : v' = M * 2 ^ Fm) (hE : E + 1022 = n + c + Fm) : Fl.rz v n = Fl.rz M (E + 1022) := by
 have e1 := Fl.rz_shift v (-c).toNat (n + c)
 rw [show n + c + ((-c).toNat : Int) = n by omega, ← h1, h2] at e1
 rw [← e1, Fl.rz_shift, hE]
/-- a float times 2 to the power of n, rounded once -/
def scF (x : Nat) (n : Int) : Nat := if Fl.finB x && !decide (Fl.rg x = 0) then Fl.wd (Fl.sg x) (Fl.rz (Fl.vl (Fl.rg x)) n) else x
theorem rz_in (M : Nat) (k : Nat) (h1 : 4503599627370496 ≤ M) (h2 : M < 9007199254740992) (hk : k ≤ 2045) : Fl.rz M (k : Int) = k * 4503599627370496 + M := by
 unfold Fl.rz
 rw [show ((k : Int)).toNat = k by omega, show (-(k : Int)).toNat = 0 by omega, ← Fl.vl_comb k M (by omega) (Or.inr h1), Fl.rq_vl _ (by omega)]
theorem scF_fin {x : Nat} (hf : Fl.rg x < 9218868437227405312) (hz : ¬ Fl.rg x = 0) (n : Int) : scF x n = Fl.wd (Fl.sg x) (Fl.rz (Fl.vl (Fl.rg x)) n) := by
 unfold scF; rw [if_pos (by simp [Fl.finB, hf, hz])]
theorem scF_stay {x : Nat} (h : Fl.rg x = 0 ∨ 9218868437227405312 ≤ Fl.rg x) (n : Int) : scF x n = x := by
 unfold scF
 rw [if_neg]
 simp only [Fl.finB, Bool.and_eq_true, decide_eq_true_eq, Bool.not_eq_true', decide_eq_false_iff_not]
 omega
theorem scF_lt {x : Nat} (hx : x < 18446744073709551616) (n : Int) : scF x n < 18446744073709551616 := by
 unfold scF
 have := Fl.rz_le (Fl.vl (Fl.rg x)) n
 split
 · exact Fl.wd_lt _ _ (by omega)
 · exact hx
theorem scF_clamp {x : Nat} (n : Int) : scF x (min (max n (-4096)) 4096) = scF x n := by
 by_cases h : Fl.rg x = 0 ∨ 9218868437227405312 ≤ Fl.rg x
 · rw [scF_stay h, scF_stay h]
 ·
  have h1 : Fl.rg x < 9218868437227405312 := by omega
  have h2 : ¬ Fl.rg x = 0 := by omega
  rw [scF_fin h1 h2, scF_fin h1 h2, Fl.rz_clamp _ _ (Fl.vl_pos h2) (Fl.vl_lt h1)]
end Go.Proofs.Ytjfkdmddfeeheaa
/-
 OWN TEXT: what math.Frexp and Parts of package float return, for every float.
-/
namespace Go.Proofs.Ytjfkdmddfeeheaa
open Go.ChangeShapes Go.WideShapes Go.ChangeAt Go.RowKit
set_option linter.unusedVariables false
attribute [local go_sem] frombits_call tobits_call run_neg
theorem field_u {y : Nat} (hy : y < 18446744073709551616) : bits BinOp.and IntKind.u64 ((y : Int) / 4503599627370496) 2047 = ((Fl.rg y / 4503599627370496 : Nat) : Int) := by
 have e := u64_and_nat (y / 4503599627370496) 2047 (by omega) (by omega)
 rw [show ((2047 : Nat) : Int) = 2047 from rfl, show ((y / 4503599627370496 : Nat) : Int) = (y : Int) / 4503599627370496 from by omega] at e
 rw [e]
 have h := Nat.and_two_pow_sub_one_eq_mod (y / 4503599627370496) 11
 rw [show 2 ^ 11 - 1 = 2047 from rfl] at h
 rw [h]
 unfold Fl.rg
 omega
/-- a float's part from 1/2 to below 1, and its power of two -/
def ptF (x : Nat) : Nat := Fl.wd (Fl.sg x) (4602678819172646912 + Fl.rg (nmF x) % 4503599627370496)
def ptE (x : Nat) : Int := nmE x + (((Fl.rg (nmF x) / 4503599627370496 : Nat) : Int) - 1023 + 1)
/-- what Parts tells -/
def paF (x : Nat) : Nat := if Fl.rg x = 0 ∨ 9218868437227405312 ≤ Fl.rg x then x else ptF x
def paE (x : Nat) : Int := if Fl.rg x = 0 ∨ 9218868437227405312 ≤ Fl.rg x then 0 else ptE x
end Go.Proofs.Ytjfkdmddfeeheaa
