/-
 OWN TEXT: plain laws of halving and doubling floats, and of a float made whole.
-/
import Derived.Test.YtfgfofedacehiaaGreatJFnEqToBhM
import Derived.Test.YtfgfofedacehiaaGreatJFnLdexpToFnParts
namespace Go.Proofs.YtfgfofedacehiaaGreat.Fl
set_option linter.unusedVariables false

/-- half a float -/
theorem div_two {x : Nat} (hx : rg x < 9218868437227405312) : Ieee.double.div x 4611686018427387904 = some (wd (sg x) (rq (vl (rg x)) 1)) := by
 obtain ⟨m, k, hm, em⟩ := read_fin hx
 have r2 : Ieee.double.read 4611686018427387904 = .number false 4503599627370496 (-51) := rfl
 unfold Ieee.Format.div
 rw [hm, r2]
 unfold Ieee.Datum.quotient
 simp only []
 rw [if_neg (by omega), show (4503599627370496 : Nat).log2 = 52 by decide]
 have hfb : Ieee.double.fractionBits = 52 := rfl
 rw [hfb]
 by_cases z : m = 0
 ·
  subst z
  have hv : vl (rg x) = 0 := by rw [← em, Nat.zero_mul]
  rw [hv, show Nat.log2 0 = 0 from rfl, Nat.zero_shiftLeft]
  simp only [Nat.zero_div, Nat.zero_mod, Nat.mul_zero, Option.map_some]
  rw [Bool.xor_false, show rq 0 1 = 0 from rfl]
  show some (Ieee.double.nearest (sg x) 0 _) = _
  unfold Ieee.Format.nearest
  rw [if_pos rfl]
  cases sg x <;> rfl
 ·
  have hml : m.log2 ≤ 53 := by
   by_cases c : rg x < 4503599627370496
   ·
    have h1 : m * 2 ^ k < 4503599627370496 := by rw [em, vl_small c]; exact c
    have h2 : m ≤ m * 2 ^ k := Nat.le_mul_of_pos_right m (Nat.two_pow_pos k)
    have := (Nat.log2_lt z (k := 52)).2 (by omega)
    omega
   ·
    have h1 := read_eq x
    rw [hm, if_neg c, if_pos hx] at h1
    injection h1 with _ h1 _
    have := (Nat.log2_lt z (k := 53)).2 (by omega)
    omega
  obtain ⟨t, ht⟩ : ∃ t, 52 + 2 + 52 - m.log2 = 52 + t := ⟨52 + 2 + 52 - m.log2 - 52, by omega⟩
  rw [ht, Nat.shiftLeft_eq, Nat.pow_add, show (2 : Nat) ^ 52 = 4503599627370496 by decide, Nat.mul_left_comm, Nat.mul_div_cancel_left _ (by omega), Nat.mul_mod_right]
  simp only [bne_self_eq_false, Bool.toNat_false, Nat.add_zero, Option.map_some, Bool.xor_false]
  have h := nearest_eq (sg x) (2 * (m * 2 ^ t)) k (t + 2)
  rw [show -1074 + (k : Int) - ((t + 2 : Nat) : Int) = -1074 + (k : Int) - -51 - ((52 + t : Nat) : Int) - 1 by omega] at h
  show some (Ieee.double.nearest _ _ _) = _
  rw [h, show 2 * (m * 2 ^ t) * 2 ^ k = m * 2 ^ k * 2 ^ (t + 1) by rw [Nat.pow_succ, Nat.mul_assoc m, Nat.mul_comm (2 ^ k), ← Nat.mul_assoc m, ← Nat.mul_assoc m]; rw [Nat.mul_comm 2, Nat.mul_right_comm], show t + 2 = 1 + (t + 1) by omega, rq_mul, em]
/-- up a binade -/
theorem vl_up (r i : Nat) (h : 4503599627370496 ≤ r) : vl (r + i * 4503599627370496) = vl r * 2 ^ i := by
 rw [vl_big h, vl_big (by omega), Nat.mul_assoc, ← Nat.pow_add]
 congr 2
 · omega
 · omega
end Go.Proofs.YtfgfofedacehiaaGreat.Fl
namespace Go.Proofs.YtfgfofedacehiaaGreat
end Go.Proofs.YtfgfofedacehiaaGreat

/-
 OWN TEXT: what Parts of the reference returns, for every float.
-/
namespace Go.Proofs.YtfgfofedacehiaaGreat
open Go.ChangeShapes Go.WideShapes Go.ChangeAt Go.RowKit
set_option linter.unusedVariables false
attribute [local go_sem] frombits_call tobits_call run_neg
end Go.Proofs.YtfgfofedacehiaaGreat

