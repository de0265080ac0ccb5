/-
 OWN TEXT: the reference's rising sum (eddyref04.Rising), for every float.
-/
import Derived.Test.YtjpllggchjgjpaaGreatJEoA
import Derived.Test.YtjpllggchjgjpaaGreatJFnWholeToEqA
import Derived.Test.YtjpllggchjgjpaaGreatJFnLdexpToRoA
import Derived.Test.YtjpllggchjgjpaaGreatJFnToFnStairs
namespace Go.Proofs.YtjpllggchjgjpaaGreat
open Go.ChangeShapes Go.WideShapes Go.ChangeAt Go.RowKit
set_option linter.unusedVariables false
attribute [local go_sem] frombits_call tobits_call run_neg
/-- the rising sum of r, behind i rounds -/
def risQ (r : Nat) : Nat → Nat → Prop
 | 0, t => t = 4607182418800017408
 | i + 1, t' => ∃ t p d, risQ r i t ∧ opR .mul r t p ∧ opR .quo p (floatOfInt .f64 (13 - (i : Int))) d ∧ opR .add 4607182418800017408 d t'
end Go.Proofs.YtjpllggchjgjpaaGreat

/-
 OWN TEXT: the exponential, and that less 1, for every float: what they come to.
-/
namespace Go.Proofs.YtjpllggchjgjpaaGreat
open Go.ChangeShapes Go.WideShapes Go.ChangeAt Go.RowKit
set_option linter.unusedVariables false
attribute [local go_sem] frombits_call tobits_call run_neg
/-- the rest of x less n times the logarithm of 2 -/
def restR (x n r : Nat) : Prop := ∃ nh d nl, opR .mul n 4604418534311723008 nh ∧ opR .sub x nh d ∧ opR .mul n 4461442080421002358 nl ∧ opR .sub d nl r
/-- the exponential of x in the middle -/
def exP (x y : Nat) : Prop := ∃ n r t q, foldR x n ∧ restR x n r ∧ risQ r 13 t ∧ floatToIntVal .f64 n .i64 = some q ∧ y = scF t q
def expR (x y : Nat) : Prop := y < 18446744073709551616 ∧
 if Fl.nan x = true then Fl.nan y = true
 else if Fl.ltF 4649454594685214392 x = true then y = 9218868437227405312
 else if Fl.ltF x 13873137573428325253 = true then y = 0
 else exP x y
end Go.Proofs.YtjpllggchjgjpaaGreat

/-
 OWN TEXT: the program's rising sum (elem.rising), for every float.
-/
namespace Go.Proofs.YtjpllggchjgjpaaGreat
open Go.ChangeShapes Go.WideShapes Go.ChangeAt Go.RowKit
set_option linter.unusedVariables false
attribute [local go_sem] frombits_call tobits_call run_neg
end Go.Proofs.YtjpllggchjgjpaaGreat

/-
 OWN TEXT: the program's odd sum and its two floats (elem.odd, elem.Two), for every float.
-/
namespace Go.Proofs.YtjpllggchjgjpaaGreat
open Go.ChangeShapes Go.WideShapes Go.ChangeAt Go.RowKit
set_option linter.unusedVariables false
attribute [local go_sem] frombits_call tobits_call run_neg
end Go.Proofs.YtjpllggchjgjpaaGreat

/-
 OWN TEXT: the program's rising sum, exponential, and that less 1 (elem.rising, elem.folds, elem.Exp, elem.Less), for every float.
-/
namespace Go.Proofs.YtjpllggchjgjpaaGreat
open Go.ChangeShapes Go.WideShapes Go.ChangeAt Go.RowKit
set_option linter.unusedVariables false
attribute [local go_sem] frombits_call tobits_call run_neg
end Go.Proofs.YtjpllggchjgjpaaGreat

/-
 OWN TEXT: what Same of package float and math.Signbit return, for every float.
-/
namespace Go.Proofs.YtjpllggchjgjpaaGreat
open Go.ChangeShapes Go.WideShapes Go.ChangeAt Go.RowKit
attribute [local go_sem] frombits_call tobits_call run_neg
theorem sameB_bits (x y : Nat) : ((Fl.bitsF x : Int) == Fl.bitsF y) = Fl.sameB x y := by
 rw [Bool.eq_iff_iff]
 unfold Fl.sameB Fl.bitsF
 cases h1 : Fl.nan x <;> cases h2 : Fl.nan y <;> simp
 · omega
 ·
  intro e; have : x = 9221120237041090560 := by omega
  subst this; simp [Fl.nan, Fl.rg] at h1
 ·
  intro e; have : y = 9221120237041090560 := by omega
  subst this; simp [Fl.nan, Fl.rg] at h2
theorem same_any (x y : Nat) (w : World) : Calls Tryz.prog 94 #[.float .f64 x, .float .f64 y] w fun e w' => e = .returned (.bool (Fl.sameB x y)) ∧ w' = w := by
 go_enter Tryz.func94, Tryz.ntmps94
 go_wp2_with (go_at_call 99; refine (bits_any _ _).mono ?_; rintro e w' ⟨rfl, rfl⟩)
 go_ret
 exact ⟨rb (sameB_bits x y), rfl⟩
end Go.Proofs.YtjpllggchjgjpaaGreat

/-
 OWN TEXT: what Same, Minus, Signed and the reference of layer 1 return, for every float.
-/
namespace Go.Proofs.YtjpllggchjgjpaaGreat
open Go.ChangeShapes Go.WideShapes Go.ChangeAt Go.RowKit
attribute [local go_sem] frombits_call tobits_call run_neg
end Go.Proofs.YtjpllggchjgjpaaGreat

