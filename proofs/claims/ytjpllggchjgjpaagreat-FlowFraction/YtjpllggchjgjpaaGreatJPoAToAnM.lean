/-
 OWN TEXT: exponentials, logarithms, powers, sines of complex numbers: what the chapter's steps come to.
-/
import Derived.Test.YtjpllggchjgjpaaGreatJFnLdexpToRoA
import Derived.Test.YtjpllggchjgjpaaGreatJEqEToEoC
import Derived.Test.YtjpllggchjgjpaaGreatJAnA
namespace Go.Proofs.YtjpllggchjgjpaaGreat
open Go.ChangeShapes Go.WideShapes Go.ChangeAt Go.RowKit
set_option linter.unusedVariables false
/-- the exponential of a complex number -/
def cexR (a b re im : Nat) : Prop := ∃ e, expR a e ∧ if Fl.eqF b 0 = true then re = e ∧ im = b else ∃ s c, turR b s c ∧ opR .mul e c re ∧ opR .mul e s im
/-- the logarithm of a complex number -/
def cloR (a b re im : Nat) : Prop := ∃ l, lenR a b l ∧ logR l re ∧ offR b a im ∧ im < 18446744073709551616
/-- a to a real power -/
def creR (a b p re im : Nat) : Prop := if Fl.eqF p 0 = true then re = 4607182418800017408 ∧ im = 0 else ∃ x y u v, cloR a b x y ∧ opR .mul x p u ∧ opR .mul y p v ∧ cexR u v re im
/-- a product of complex numbers -/
def cmuR (p q r s re im : Nat) : Prop := ∃ a b c d, opR .mul p r a ∧ opR .mul q s b ∧ opR .sub a b re ∧ opR .mul p s c ∧ opR .mul q r d ∧ opR .add c d im
end Go.Proofs.YtjpllggchjgjpaaGreat

/-
 OWN TEXT: the values of sines, cosines, quarters, angles at given floats, by computation.
-/
namespace Go.Proofs.YtjpllggchjgjpaaGreat
open Go.ChangeShapes Go.WideShapes Go.ChangeAt Go.RowKit
set_option linter.unusedVariables false
end Go.Proofs.YtjpllggchjgjpaaGreat

/-
 OWN TEXT: the values of lengths, roots, units at given numbers, by computation.
-/
namespace Go.Proofs.YtjpllggchjgjpaaGreat
open Go.ChangeShapes Go.WideShapes Go.ChangeAt Go.RowKit
set_option linter.unusedVariables false
end Go.Proofs.YtjpllggchjgjpaaGreat

/-
 OWN TEXT: floats with their signs turned: products, differences, whole numbers; that no rest of a quarter is nought.
-/
namespace Go.Proofs.YtjpllggchjgjpaaGreat.Fl
set_option linter.unusedVariables false
end Go.Proofs.YtjpllggchjgjpaaGreat.Fl
namespace Go.Proofs.YtjpllggchjgjpaaGreat
open Go.ChangeShapes Go.WideShapes Go.ChangeAt Go.RowKit
set_option linter.unusedVariables false
end Go.Proofs.YtjpllggchjgjpaaGreat

