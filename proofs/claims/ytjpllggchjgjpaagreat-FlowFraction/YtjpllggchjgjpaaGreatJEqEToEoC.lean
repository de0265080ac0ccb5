/-
 OWN TEXT: half the sum and half the difference of exponentials, for every float: what they come to, and the program's (elem.Cosh, elem.Sinh).
-/
import Derived.Test.YtjpllggchjgjpaaGreatJEoEToFnSame
import Derived.Test.YtjpllggchjgjpaaGreatJFlCToFlG
import Derived.Test.YtjpllggchjgjpaaGreatJFnLdexpToRoA
import Derived.Test.YtjpllggchjgjpaaGreatJEoA
namespace Go.Proofs.YtjpllggchjgjpaaGreat
open Go.ChangeShapes Go.WideShapes Go.ChangeAt Go.RowKit
set_option linter.unusedVariables false
attribute [local go_sem] frombits_call tobits_call run_neg
end Go.Proofs.YtjpllggchjgjpaaGreat

/-
 OWN TEXT: plain laws on a float's last unit: the neighbour away from nought, the unit between them, its half; a sum's loss is at most that half.
-/
set_option linter.unusedVariables false
namespace Go.Proofs.YtjpllggchjgjpaaGreat.Fl
/-- the rung of 2 to the power of k units -/
def r2 (k : Nat) : Nat := if k ≤ 52 then 2 ^ k else (k - 51) * 4503599627370496
end Go.Proofs.YtjpllggchjgjpaaGreat.Fl

/-
 OWN TEXT: plain laws of rounding a fraction whose worth is a whole number of halves, quarters ..
-/
namespace Go.Proofs.YtjpllggchjgjpaaGreat.Fl
set_option linter.unusedVariables false

end Go.Proofs.YtjpllggchjgjpaaGreat.Fl

/-
 OWN TEXT: plain laws of halving and doubling floats, and of a float made whole.
-/
namespace Go.Proofs.YtjpllggchjgjpaaGreat.Fl
set_option linter.unusedVariables false

end Go.Proofs.YtjpllggchjgjpaaGreat.Fl
namespace Go.Proofs.YtjpllggchjgjpaaGreat
end Go.Proofs.YtjpllggchjgjpaaGreat

/-
 OWN TEXT: what Parts of the reference returns, for every float.
-/
namespace Go.Proofs.YtjpllggchjgjpaaGreat
open Go.ChangeShapes Go.WideShapes Go.ChangeAt Go.RowKit
set_option linter.unusedVariables false
attribute [local go_sem] frombits_call tobits_call run_neg
end Go.Proofs.YtjpllggchjgjpaaGreat

/-
 OWN TEXT: the reference's logarithm (eddyref04.Log), for every float.
-/
namespace Go.Proofs.YtjpllggchjgjpaaGreat
open Go.ChangeShapes Go.WideShapes Go.ChangeAt Go.RowKit
set_option linter.unusedVariables false
attribute [local go_sem] frombits_call tobits_call run_neg
/-- the logarithm of a finite number above nought: of its parts m and e -/
def logP (m : Nat) (e : Int) (y : Nat) : Prop := ∃ a b f o nh nl t, opR .sub m 4607182418800017408 a ∧ opR .add m 4607182418800017408 b ∧ opR .quo a b f ∧ oddR f o ∧
 opR .mul (floatOfInt .f64 e) 4604418534311723008 nh ∧ opR .mul (floatOfInt .f64 e) 4461442080421002358 nl ∧ opR .add nl o t ∧ opR .add nh t y
def logF (x y : Nat) : Prop := if Fl.ltF (paF x) 4604544271217802189 = true then ∃ m, opR .mul 4611686018427387904 (paF x) m ∧ logP m (paE x - 1) y else logP (paF x) (paE x) y
end Go.Proofs.YtjpllggchjgjpaaGreat

/-
 OWN TEXT: the reference's logarithm for every float, and that of 1 and x (eddyref04.Log, eddyref04.More).
-/
namespace Go.Proofs.YtjpllggchjgjpaaGreat
open Go.ChangeShapes Go.WideShapes Go.ChangeAt Go.RowKit
set_option linter.unusedVariables false
attribute [local go_sem] frombits_call tobits_call run_neg
/-- what the logarithm of x is: y -/
def logR (x y : Nat) : Prop :=
 ((Fl.nan x = true ∨ Fl.ltF x 0 = true) ∧ Fl.nan y = true) ∨
 (Fl.nan x = false ∧ Fl.rg x = 0 ∧ y = 18442240474082181120) ∨
 (x = 9218868437227405312 ∧ y = x) ∨
 (Fl.rg x < 9218868437227405312 ∧ ¬ Fl.rg x = 0 ∧ Fl.sg x = false ∧ logF x y)
end Go.Proofs.YtjpllggchjgjpaaGreat

