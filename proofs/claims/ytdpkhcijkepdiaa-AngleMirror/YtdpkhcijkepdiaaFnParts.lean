/-
  OWN TEXT: what math.Frexp and Parts of package float return, for every float.
-/
import Derived.Test.YtdpkhcijkepdiaaFnLdexp
namespace Go.Proofs.Ytdpkhcijkepdiaa
open Go.ChangeShapes Go.WideShapes Go.ChangeAt Go.RowKit
set_option linter.unusedVariables false
attribute [local go_sem] frombits_call tobits_call run_neg
theorem field_u {y : Nat} (hy : y < 18446744073709551616) : bits BinOp.and IntKind.u64 ((y : Int) / 4503599627370496) 2047 = ((Fl.rg y / 4503599627370496 : Nat) : Int) := by
  have e := u64_and_nat (y / 4503599627370496) 2047 (by omega) (by omega)
  rw [show ((2047 : Nat) : Int) = 2047 from rfl, show ((y / 4503599627370496 : Nat) : Int) = (y : Int) / 4503599627370496 from by omega] at e
  rw [e]
  have h := Nat.and_two_pow_sub_one_eq_mod (y / 4503599627370496) 11
  rw [show 2 ^ 11 - 1 = 2047 from rfl] at h
  rw [h]
  unfold Fl.rg
  omega
/-- a float's part from 1/2 to below 1, and its power of two -/
def ptF (x : Nat) : Nat := Fl.wd (Fl.sg x) (4602678819172646912 + Fl.rg (nmF x) % 4503599627370496)
def ptE (x : Nat) : Int := nmE x + (((Fl.rg (nmF x) / 4503599627370496 : Nat) : Int) - 1023 + 1)
/-- what Parts tells -/
def paF (x : Nat) : Nat := if Fl.rg x = 0 ∨ 9218868437227405312 ≤ Fl.rg x then x else ptF x
def paE (x : Nat) : Int := if Fl.rg x = 0 ∨ 9218868437227405312 ≤ Fl.rg x then 0 else ptE x
end Go.Proofs.Ytdpkhcijkepdiaa
