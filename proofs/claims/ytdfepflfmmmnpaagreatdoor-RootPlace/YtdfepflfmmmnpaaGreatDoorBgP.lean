/-
  OWN TEXT: what topBits of package eddybig returns, for all words: 64 bits out of the middle.
-/
import Derived.Test.YtdfepflfmmmnpaaGreatDoorBgN
namespace Go.Proofs.YtdfepflfmmmnpaaGreatDoor
open Go.ChangeShapes Go.WideShapes Go.ChangeAt Go.RowKit
open Bg
set_option linter.unusedVariables false
/-- 64 bits of a number, out of three words -/
theorem top_val (w0 w1 w2 R s : Nat) (h0 : w0 < 4294967296) (h1 : w1 < 4294967296) (hs : s < 32) :
    (w0 + 4294967296 * (w1 + 4294967296 * (w2 + 4294967296 * R))) / 2 ^ s % 18446744073709551616 = w2 * 2 ^ (64 - s) % 18446744073709551616 + w1 * 2 ^ (32 - s) + w0 / 2 ^ s ∧ w0 / 2 ^ s < 2 ^ (32 - s) ∧ w1 * 2 ^ (32 - s) < 2 ^ (64 - s) ∧ 2 ^ (64 - s) ∣ w2 * 2 ^ (64 - s) % 18446744073709551616 ∧ 2 ^ (32 - s) ∣ w2 * 2 ^ (64 - s) % 18446744073709551616 + w1 * 2 ^ (32 - s) ∧ w2 * 2 ^ (64 - s) % 18446744073709551616 + w1 * 2 ^ (32 - s) < 18446744073709551616 := by
  have p1 : 2 ^ s * 2 ^ (32 - s) = 4294967296 := by rw [← Nat.pow_add, show s + (32 - s) = 32 by omega]
  have p2 : 2 ^ (32 - s) * 4294967296 = 2 ^ (64 - s) := by rw [show 4294967296 = 2 ^ 32 by rfl, ← Nat.pow_add, show 32 - s + 32 = 64 - s by omega]
  have p3 : 2 ^ s * 2 ^ (64 - s) = 18446744073709551616 := by rw [← Nat.pow_add, show s + (64 - s) = 64 by omega]
  have q1 : 0 < 2 ^ s := Nat.pow_pos (by omega)
  have q2 : 0 < 2 ^ (32 - s) := Nat.pow_pos (by omega)
  generalize 2 ^ s = P at *
  generalize 2 ^ (32 - s) = Q at *
  generalize 2 ^ (64 - s) = T at *
  have a0 : w0 / P < Q := Nat.div_lt_of_lt_mul (by rw [p1]; exact h0)
  have a1 : w1 * Q + w0 / P < T := by
    have : (w1 + 1) * Q ≤ 4294967296 * Q := Nat.mul_le_mul_right _ h1
    rw [Nat.add_mul, Nat.one_mul, Nat.mul_comm 4294967296, p2] at this
    omega
  have e1 : (w0 + 4294967296 * (w1 + 4294967296 * (w2 + 4294967296 * R))) / P = w0 / P + Q * (w1 + 4294967296 * (w2 + 4294967296 * R)) := by
    rw [← p1, Nat.mul_assoc P, Nat.add_mul_div_left _ _ q1]
  have e2 : Q * (w1 + 4294967296 * (w2 + 4294967296 * R)) = w1 * Q + w2 * T + 18446744073709551616 * (Q * R) := by
    rw [← p2]
    rw [Nat.mul_add Q w1, Nat.mul_left_comm Q 4294967296, Nat.mul_add Q w2, Nat.mul_left_comm Q 4294967296 R, Nat.mul_comm Q w1, Nat.mul_left_comm w2 Q, Nat.mul_comm w2 4294967296, Nat.mul_left_comm Q 4294967296 w2]
    omega
  rw [e1, e2]
  clear e1 e2
  generalize w0 / P = z at *
  have e3 : w2 * T % 18446744073709551616 = T * (w2 % P) := by
    rw [← p3, Nat.mul_comm w2, Nat.mul_comm P, Nat.mul_mod_mul_left]
  have hT : T * (w2 % P) + T ≤ 18446744073709551616 := by
    rw [← p3, Nat.mul_comm P, ← Nat.mul_succ]
    exact Nat.mul_le_mul_left _ (Nat.mod_lt _ q1)
  refine ⟨?_, a0, by omega, ?_, ?_, by rw [e3]; omega⟩
  · rw [← Nat.add_assoc, Nat.add_mul_mod_self_left]
    have e4 := Nat.div_add_mod (w2 * T) 18446744073709551616
    rw [e3] at e4 ⊢
    rw [← e4]
    rw [show z + (w1 * Q + (18446744073709551616 * (w2 * T / 18446744073709551616) + T * (w2 % P))) = (z + w1 * Q + T * (w2 % P)) + 18446744073709551616 * (w2 * T / 18446744073709551616) by omega, Nat.add_mul_mod_self_left, Nat.mod_eq_of_lt (by omega)]
    omega
  · rw [e3]; exact Nat.dvd_mul_right _ _
  · rw [e3]
    refine Nat.dvd_add ?_ (Nat.dvd_mul_left _ _)
    rw [← p2]; exact Nat.dvd_trans (Nat.dvd_mul_right _ _) (Nat.dvd_mul_right _ _)
theorem or64 (x y s : Nat) (hy : y < 2 ^ s) (hx : 2 ^ s ∣ x) (h : x + y < 18446744073709551616) : bits BinOp.or IntKind.u64 (x : Int) (y : Int) = ((x + y : Nat) : Int) := by
  rw [u64_or_nat x y (by omega) (by omega), Nat.or_comm, or_low y x s hy hx, Nat.add_comm]
end Go.Proofs.YtdfepflfmmmnpaaGreatDoor
