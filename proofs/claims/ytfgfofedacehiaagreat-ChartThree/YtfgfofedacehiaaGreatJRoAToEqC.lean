/-
 OWN TEXT: lengths, roots, polar forms, units of complex numbers: what the chapter's steps come to.
-/
import Derived.Test.YtfgfofedacehiaaGreatJFnWholeToAnA
import Derived.Test.YtfgfofedacehiaaGreatJFnLdexpToFnParts
import Derived.Test.YtfgfofedacehiaaGreatJEoA
namespace Go.Proofs.YtfgfofedacehiaaGreat
open Go.ChangeShapes Go.WideShapes Go.ChangeAt Go.RowKit
set_option linter.unusedVariables false
/-- y is the root of x -/
def sqtR (x y : Nat) : Prop := y < 18446744073709551616 ∧ (Ieee.double.sqrt x = some y ∨ (Ieee.double.sqrt x = none ∧ Fl.nan y = true))
def sqaR (a b r : Nat) : Prop := ∃ p q, opR .mul a a p ∧ opR .mul b b q ∧ opR .add p q r
def togR (u v r : Nat) : Prop := ∃ s, sqaR u v s ∧ sqtR s r
theorem tog_lt {u v r : Nat} (h : togR u v r) : r < 18446744073709551616 := by obtain ⟨_, _, h⟩ := h; exact h.1
/-- the greater part without its sign, and the lesser one -/
def bigF (a b : Nat) : Nat := if Fl.ltF (Fl.rg a) (Fl.rg b) = true then Fl.rg b else Fl.rg a
def smaF (a b : Nat) : Nat := if Fl.ltF (Fl.rg a) (Fl.rg b) = true then Fl.rg a else Fl.rg b
theorem big_lt (a b : Nat) : bigF a b < 9223372036854775808 := by unfold bigF; split; exact Fl.rg_lt _; exact Fl.rg_lt _
/-- the length of a number whose parts are finite -/
def lenP (a b r : Nat) : Prop := ∃ l, togR (scF (bigF a b) (-paE (bigF a b))) (scF (smaF a b) (-paE (bigF a b))) l ∧ r = scF l (paE (bigF a b))
def lenR (a b r : Nat) : Prop := r < 18446744073709551616 ∧
 if Fl.rg a = 9218868437227405312 ∨ Fl.rg b = 9218868437227405312 then r = 9218868437227405312 else if Fl.nan a = true ∨ Fl.nan b = true then Fl.nan r = true else if bigF a b = 0 then r = 0 else lenP a b r
/-- near one another -/
def neaR (a b c d most : Nat) (r : Bool) : Prop := ∃ x y l, opR .sub a c x ∧ opR .sub b d y ∧ lenR x y l ∧ r = Fl.leF l most
end Go.Proofs.YtfgfofedacehiaaGreat

/-
 OWN TEXT: the reference's rising sum (eddyref04.Rising), for every float.
-/
namespace Go.Proofs.YtfgfofedacehiaaGreat
open Go.ChangeShapes Go.WideShapes Go.ChangeAt Go.RowKit
set_option linter.unusedVariables false
attribute [local go_sem] frombits_call tobits_call run_neg
end Go.Proofs.YtfgfofedacehiaaGreat

/-
 OWN TEXT: the exponential, and that less 1, for every float: what they come to.
-/
namespace Go.Proofs.YtfgfofedacehiaaGreat
open Go.ChangeShapes Go.WideShapes Go.ChangeAt Go.RowKit
set_option linter.unusedVariables false
attribute [local go_sem] frombits_call tobits_call run_neg
end Go.Proofs.YtfgfofedacehiaaGreat

/-
 OWN TEXT: the program's rising sum (elem.rising), for every float.
-/
namespace Go.Proofs.YtfgfofedacehiaaGreat
open Go.ChangeShapes Go.WideShapes Go.ChangeAt Go.RowKit
set_option linter.unusedVariables false
attribute [local go_sem] frombits_call tobits_call run_neg
end Go.Proofs.YtfgfofedacehiaaGreat

/-
 OWN TEXT: the program's odd sum and its two floats (elem.odd, elem.Two), for every float.
-/
namespace Go.Proofs.YtfgfofedacehiaaGreat
open Go.ChangeShapes Go.WideShapes Go.ChangeAt Go.RowKit
set_option linter.unusedVariables false
attribute [local go_sem] frombits_call tobits_call run_neg
end Go.Proofs.YtfgfofedacehiaaGreat

/-
 OWN TEXT: the program's rising sum, exponential, and that less 1 (elem.rising, elem.folds, elem.Exp, elem.Less), for every float.
-/
namespace Go.Proofs.YtfgfofedacehiaaGreat
open Go.ChangeShapes Go.WideShapes Go.ChangeAt Go.RowKit
set_option linter.unusedVariables false
attribute [local go_sem] frombits_call tobits_call run_neg
end Go.Proofs.YtfgfofedacehiaaGreat

