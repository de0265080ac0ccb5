/-
  OWN TEXT: package eddybig's fractions as Lean's: Mul.
-/
import Derived.Test.YtpfaaimfembhdaaJSwH
import Derived.Test.YtpfaaimfembhdaaJBhB
namespace Go.Proofs.Ytpfaaimfembhdaa
open Go.ChangeShapes Go.WideShapes Go.ChangeAt Go.RowKit
open Bg
set_option linter.unusedVariables false
theorem qmul_any (B C E k k' : Nat) (r r' : Rat) (w : World) (s0 : Bool) (A0 D0 : Nat) (hz : Rt w B s0 A0 D0) (hx : Rf w C r k) (hy : Rf w E r' k') (hne : E ≠ B) (hk : k + k' + 2 < 16000000) :
    Calls Try.prog 17 #[.pointer (some ⟨B, 0, none⟩), .pointer (some ⟨C, 0, none⟩), .pointer (some ⟨E, 0, none⟩)] w fun e w' => Sf w B (r * r') (k + k' + 2) e w' := by
  obtain ⟨p, q, h1, h2, h3⟩ := hx
  obtain ⟨p', q', g1, g2, g3⟩ := hy
  refine (rmul_any B C E p p' q q' k k' s0 A0 D0 w hz h3 g3 hne hk).mono fun e w' h => ?_
  refine h.sf (Nat.mul_pos h1 g1) ?_
  rw [Rat.natCast_mul, Rat.intCast_mul, ← h2, ← g2]
  grind
end Go.Proofs.Ytpfaaimfembhdaa
