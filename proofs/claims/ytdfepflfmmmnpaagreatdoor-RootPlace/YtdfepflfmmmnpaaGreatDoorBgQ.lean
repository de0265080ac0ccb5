/-
  OWN TEXT: what blend of package eddybig returns: one number times p and another times q, together.
-/
import Derived.Test.YtdfepflfmmmnpaaGreatDoorBgO
namespace Go.Proofs.YtdfepflfmmmnpaaGreatDoor
open Go.ChangeShapes Go.WideShapes Go.ChangeAt Go.RowKit
open Bg
set_option linter.unusedVariables false
theorem blend_step (vo vl vm P p q c c' d x y t : Int) (h : vo + c * P = p * vl + q * vm) (ht : t = p * x + c + q * y) (hd : t = c' * 4294967296 + d) : vo + d * P + c' * (P * 4294967296) = p * (vl + x * P) + q * (vm + y * P) := by
  have e : t * P = t * P := rfl
  have e1 : t * P = p * x * P + c * P + q * y * P := by rw [ht, Int.add_mul, Int.add_mul]
  have e2 : t * P = c' * 4294967296 * P + d * P := by rw [hd, Int.add_mul]
  have e3 : c' * (P * 4294967296) = c' * 4294967296 * P := by rw [Int.mul_comm P, ← Int.mul_assoc]
  rw [Int.mul_add, Int.mul_add, e3, ← Int.mul_assoc p, ← Int.mul_assoc q]
  omega
/-- a product of a small factor and a word, with its bounds -/
theorem pb_pos (p : Int) (x : Nat) (h0 : 0 ≤ p) (h1 : p ≤ 1073741824) (hx : x < 4294967296) : 0 ≤ p * x ∧ p * x ≤ 4611686018427387904 := by
  obtain ⟨k, rfl⟩ : ∃ k : Nat, p = k := ⟨p.toNat, by omega⟩
  have h := Nat.mul_le_mul (show k ≤ 1073741824 by omega) (show x ≤ 4294967296 by omega)
  have e : (k : Int) * x = ((k * x : Nat) : Int) := by simp
  rw [e]
  omega
theorem pb_neg (p : Int) (x : Nat) (h0 : p ≤ 0) (h1 : -1073741824 ≤ p) (hx : x < 4294967296) : -4611686018427387904 ≤ p * x ∧ p * x ≤ 0 := by
  have := pb_pos (-p) x (by omega) (by omega) hx
  rw [Int.neg_mul] at this
  omega
def Two (p q : Int) : Prop := (0 ≤ p ∧ p ≤ 1073741824 ∧ q ≤ 0 ∧ -1073741824 ≤ q) ∨ (p ≤ 0 ∧ -1073741824 ≤ p ∧ 0 ≤ q ∧ q ≤ 1073741824)
theorem two_bounds (p q : Int) (h : Two p q) (x y : Nat) (hx : x < 4294967296) (hy : y < 4294967296) : -4611686018427387904 ≤ p * x ∧ p * x ≤ 4611686018427387904 ∧ -4611686018427387904 ≤ q * y ∧ q * y ≤ 4611686018427387904 ∧ -4611686018427387904 ≤ p * x + q * y ∧ p * x + q * y ≤ 4611686018427387904 := by
  rcases h with ⟨a, b, c, d⟩ | ⟨a, b, c, d⟩
  · have h1 := pb_pos p x a b hx
    have h2 := pb_neg q y c d hy
    omega
  · have h1 := pb_neg p x a b hx
    have h2 := pb_pos q y c d hy
    omega
end Go.Proofs.YtdfepflfmmmnpaaGreatDoor
