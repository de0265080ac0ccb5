/-
  OWN TEXT: what topBits of package eddybig returns, for all words: 64 bits out of the middle.
-/
import Derived.Test.YtlbikopancleoaaDoorJnBj
import Derived.Test.YtlbikopancleoaaDoorJnBk
namespace Go.Proofs.YtlbikopancleoaaDoor
open Go.ChangeShapes Go.WideShapes Go.ChangeAt Go.RowKit
open Bg
set_option linter.unusedVariables false
/-- 64 bits of a number, out of three words -/
theorem top_val (w0 w1 w2 R s : Nat) (h0 : w0 < 4294967296) (h1 : w1 < 4294967296) (hs : s < 32) :
    (w0 + 4294967296 * (w1 + 4294967296 * (w2 + 4294967296 * R))) / 2 ^ s % 18446744073709551616 = w2 * 2 ^ (64 - s) % 18446744073709551616 + w1 * 2 ^ (32 - s) + w0 / 2 ^ s ∧ w0 / 2 ^ s < 2 ^ (32 - s) ∧ w1 * 2 ^ (32 - s) < 2 ^ (64 - s) ∧ 2 ^ (64 - s) ∣ w2 * 2 ^ (64 - s) % 18446744073709551616 ∧ 2 ^ (32 - s) ∣ w2 * 2 ^ (64 - s) % 18446744073709551616 + w1 * 2 ^ (32 - s) ∧ w2 * 2 ^ (64 - s) % 18446744073709551616 + w1 * 2 ^ (32 - s) < 18446744073709551616 := by
  have p1 : 2 ^ s * 2 ^ (32 - s) = 4294967296 := by rw [← Nat.pow_add, show s + (32 - s) = 32 by omega]
  have p2 : 2 ^ (32 - s) * 4294967296 = 2 ^ (64 - s) := by rw [show 4294967296 = 2 ^ 32 by rfl, ← Nat.pow_add, show 32 - s + 32 = 64 - s by omega]
  have p3 : 2 ^ s * 2 ^ (64 - s) = 18446744073709551616 := by rw [← Nat.pow_add, show s + (64 - s) = 64 by omega]
  have q1 : 0 < 2 ^ s := Nat.pow_pos (by omega)
  have q2 : 0 < 2 ^ (32 - s) := Nat.pow_pos (by omega)
  generalize 2 ^ s = P at *
  generalize 2 ^ (32 - s) = Q at *
  generalize 2 ^ (64 - s) = T at *
  have a0 : w0 / P < Q := Nat.div_lt_of_lt_mul (by rw [p1]; exact h0)
  have a1 : w1 * Q + w0 / P < T := by
    have : (w1 + 1) * Q ≤ 4294967296 * Q := Nat.mul_le_mul_right _ h1
    rw [Nat.add_mul, Nat.one_mul, Nat.mul_comm 4294967296, p2] at this
    omega
  have e1 : (w0 + 4294967296 * (w1 + 4294967296 * (w2 + 4294967296 * R))) / P = w0 / P + Q * (w1 + 4294967296 * (w2 + 4294967296 * R)) := by
    rw [← p1, Nat.mul_assoc P, Nat.add_mul_div_left _ _ q1]
  have e2 : Q * (w1 + 4294967296 * (w2 + 4294967296 * R)) = w1 * Q + w2 * T + 18446744073709551616 * (Q * R) := by
    rw [← p2]
    rw [Nat.mul_add Q w1, Nat.mul_left_comm Q 4294967296, Nat.mul_add Q w2, Nat.mul_left_comm Q 4294967296 R, Nat.mul_comm Q w1, Nat.mul_left_comm w2 Q, Nat.mul_comm w2 4294967296, Nat.mul_left_comm Q 4294967296 w2]
    omega
  rw [e1, e2]
  clear e1 e2
  generalize w0 / P = z at *
  have e3 : w2 * T % 18446744073709551616 = T * (w2 % P) := by
    rw [← p3, Nat.mul_comm w2, Nat.mul_comm P, Nat.mul_mod_mul_left]
  have hT : T * (w2 % P) + T ≤ 18446744073709551616 := by
    rw [← p3, Nat.mul_comm P, ← Nat.mul_succ]
    exact Nat.mul_le_mul_left _ (Nat.mod_lt _ q1)
  refine ⟨?_, a0, by omega, ?_, ?_, by rw [e3]; omega⟩
  · rw [← Nat.add_assoc, Nat.add_mul_mod_self_left]
    have e4 := Nat.div_add_mod (w2 * T) 18446744073709551616
    rw [e3] at e4 ⊢
    rw [← e4]
    rw [show z + (w1 * Q + (18446744073709551616 * (w2 * T / 18446744073709551616) + T * (w2 % P))) = (z + w1 * Q + T * (w2 % P)) + 18446744073709551616 * (w2 * T / 18446744073709551616) by omega, Nat.add_mul_mod_self_left, Nat.mod_eq_of_lt (by omega)]
    omega
  · rw [e3]; exact Nat.dvd_mul_right _ _
  · rw [e3]
    refine Nat.dvd_add ?_ (Nat.dvd_mul_left _ _)
    rw [← p2]; exact Nat.dvd_trans (Nat.dvd_mul_right _ _) (Nat.dvd_mul_right _ _)
theorem or64 (x y s : Nat) (hy : y < 2 ^ s) (hx : 2 ^ s ∣ x) (h : x + y < 18446744073709551616) : bits BinOp.or IntKind.u64 (x : Int) (y : Int) = ((x + y : Nat) : Int) := by
  rw [u64_or_nat x y (by omega) (by omega), Nat.or_comm, or_low y x s hy hx, Nat.add_comm]
end Go.Proofs.YtlbikopancleoaaDoor
/-
  OWN TEXT: what blend of package eddybig returns: one number times p and another times q, together.
-/
namespace Go.Proofs.YtlbikopancleoaaDoor
open Go.ChangeShapes Go.WideShapes Go.ChangeAt Go.RowKit
open Bg
set_option linter.unusedVariables false
theorem blend_step (vo vl vm P p q c c' d x y t : Int) (h : vo + c * P = p * vl + q * vm) (ht : t = p * x + c + q * y) (hd : t = c' * 4294967296 + d) : vo + d * P + c' * (P * 4294967296) = p * (vl + x * P) + q * (vm + y * P) := by
  have e : t * P = t * P := rfl
  have e1 : t * P = p * x * P + c * P + q * y * P := by rw [ht, Int.add_mul, Int.add_mul]
  have e2 : t * P = c' * 4294967296 * P + d * P := by rw [hd, Int.add_mul]
  have e3 : c' * (P * 4294967296) = c' * 4294967296 * P := by rw [Int.mul_comm P, ← Int.mul_assoc]
  rw [Int.mul_add, Int.mul_add, e3, ← Int.mul_assoc p, ← Int.mul_assoc q]
  omega
/-- a product of a small factor and a word, with its bounds -/
theorem pb_pos (p : Int) (x : Nat) (h0 : 0 ≤ p) (h1 : p ≤ 1073741824) (hx : x < 4294967296) : 0 ≤ p * x ∧ p * x ≤ 4611686018427387904 := by
  obtain ⟨k, rfl⟩ : ∃ k : Nat, p = k := ⟨p.toNat, by omega⟩
  have h := Nat.mul_le_mul (show k ≤ 1073741824 by omega) (show x ≤ 4294967296 by omega)
  have e : (k : Int) * x = ((k * x : Nat) : Int) := by simp
  rw [e]
  omega
theorem pb_neg (p : Int) (x : Nat) (h0 : p ≤ 0) (h1 : -1073741824 ≤ p) (hx : x < 4294967296) : -4611686018427387904 ≤ p * x ∧ p * x ≤ 0 := by
  have := pb_pos (-p) x (by omega) (by omega) hx
  rw [Int.neg_mul] at this
  omega
def Two (p q : Int) : Prop := (0 ≤ p ∧ p ≤ 1073741824 ∧ q ≤ 0 ∧ -1073741824 ≤ q) ∨ (p ≤ 0 ∧ -1073741824 ≤ p ∧ 0 ≤ q ∧ q ≤ 1073741824)
theorem two_bounds (p q : Int) (h : Two p q) (x y : Nat) (hx : x < 4294967296) (hy : y < 4294967296) : -4611686018427387904 ≤ p * x ∧ p * x ≤ 4611686018427387904 ∧ -4611686018427387904 ≤ q * y ∧ q * y ≤ 4611686018427387904 ∧ -4611686018427387904 ≤ p * x + q * y ∧ p * x + q * y ≤ 4611686018427387904 := by
  rcases h with ⟨a, b, c, d⟩ | ⟨a, b, c, d⟩
  · have h1 := pb_pos p x a b hx
    have h2 := pb_neg q y c d hy
    omega
  · have h1 := pb_neg p x a b hx
    have h2 := pb_pos q y c d hy
    omega
end Go.Proofs.YtlbikopancleoaaDoor
