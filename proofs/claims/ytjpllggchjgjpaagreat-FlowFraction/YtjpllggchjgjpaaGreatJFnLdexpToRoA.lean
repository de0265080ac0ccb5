/-
 OWN TEXT: what math.Ldexp and Scale of package float return: the word nearest to the float times the power of two.
-/
import Derived.Test.YtjpllggchjgjpaaGreatJFnToFnStairs
import Derived.Test.YtjpllggchjgjpaaGreatJFlCToFlG
import Derived.Test.YtjpllggchjgjpaaGreatJAnA
namespace Go.Proofs.YtjpllggchjgjpaaGreat
open Go.ChangeShapes Go.WideShapes Go.ChangeAt Go.RowKit
set_option linter.unusedVariables false
attribute [local go_sem] frombits_call tobits_call run_neg
/-- a float made normal, and by which power of two it was made so -/
def nmF (x : Nat) : Nat := if Fl.rg x < 4503599627370496 then Fl.wd (Fl.sg x) (Fl.rq (Fl.vl (Fl.rg x) * 2 ^ 52) 0) else x
def nmE (x : Nat) : Int := if Fl.rg x < 4503599627370496 then -52 else 0
/-- a float times 2 to the power of n, rounded once -/
def scF (x : Nat) (n : Int) : Nat := if Fl.finB x && !decide (Fl.rg x = 0) then Fl.wd (Fl.sg x) (Fl.rz (Fl.vl (Fl.rg x)) n) else x
end Go.Proofs.YtjpllggchjgjpaaGreat

/-
 OWN TEXT: what math.Frexp and Parts of package float return, for every float.
-/
namespace Go.Proofs.YtjpllggchjgjpaaGreat
open Go.ChangeShapes Go.WideShapes Go.ChangeAt Go.RowKit
set_option linter.unusedVariables false
attribute [local go_sem] frombits_call tobits_call run_neg
/-- a float's part from 1/2 to below 1, and its power of two -/
def ptF (x : Nat) : Nat := Fl.wd (Fl.sg x) (4602678819172646912 + Fl.rg (nmF x) % 4503599627370496)
def ptE (x : Nat) : Int := nmE x + (((Fl.rg (nmF x) / 4503599627370496 : Nat) : Int) - 1023 + 1)
/-- what Parts tells -/
def paF (x : Nat) : Nat := if Fl.rg x = 0 ∨ 9218868437227405312 ≤ Fl.rg x then x else ptF x
def paE (x : Nat) : Int := if Fl.rg x = 0 ∨ 9218868437227405312 ≤ Fl.rg x then 0 else ptE x
end Go.Proofs.YtjpllggchjgjpaaGreat

/-
 OWN TEXT: lengths, roots, polar forms, units of complex numbers: what the chapter's steps come to.
-/
namespace Go.Proofs.YtjpllggchjgjpaaGreat
open Go.ChangeShapes Go.WideShapes Go.ChangeAt Go.RowKit
set_option linter.unusedVariables false
/-- y is the root of x -/
def sqtR (x y : Nat) : Prop := y < 18446744073709551616 ∧ (Ieee.double.sqrt x = some y ∨ (Ieee.double.sqrt x = none ∧ Fl.nan y = true))
def sqaR (a b r : Nat) : Prop := ∃ p q, opR .mul a a p ∧ opR .mul b b q ∧ opR .add p q r
def togR (u v r : Nat) : Prop := ∃ s, sqaR u v s ∧ sqtR s r
/-- the greater part without its sign, and the lesser one -/
def bigF (a b : Nat) : Nat := if Fl.ltF (Fl.rg a) (Fl.rg b) = true then Fl.rg b else Fl.rg a
def smaF (a b : Nat) : Nat := if Fl.ltF (Fl.rg a) (Fl.rg b) = true then Fl.rg a else Fl.rg b
/-- the length of a number whose parts are finite -/
def lenP (a b r : Nat) : Prop := ∃ l, togR (scF (bigF a b) (-paE (bigF a b))) (scF (smaF a b) (-paE (bigF a b))) l ∧ r = scF l (paE (bigF a b))
def lenR (a b r : Nat) : Prop := r < 18446744073709551616 ∧
 if Fl.rg a = 9218868437227405312 ∨ Fl.rg b = 9218868437227405312 then r = 9218868437227405312 else if Fl.nan a = true ∨ Fl.nan b = true then Fl.nan r = true else if bigF a b = 0 then r = 0 else lenP a b r
end Go.Proofs.YtjpllggchjgjpaaGreat

