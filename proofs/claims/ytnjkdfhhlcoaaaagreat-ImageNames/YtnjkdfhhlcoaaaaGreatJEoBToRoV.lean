/-
 OWN TEXT: the reference's logarithm (eddyref04.Log), for every float.
-/
import Derived.Test.YtnjkdfhhlcoaaaaGreatJEoA
import Derived.Test.YtnjkdfhhlcoaaaaGreatJLsAToRfC
import Derived.Test.YtnjkdfhhlcoaaaaGreatJFnLdexpToEoE
import Derived.Test.YtnjkdfhhlcoaaaaGreatJEqBToEqE
import Derived.Test.YtnjkdfhhlcoaaaaGreatJEqAToAnA
namespace Go.Proofs.YtnjkdfhhlcoaaaaGreat
open Go.ChangeShapes Go.WideShapes Go.ChangeAt Go.RowKit
set_option linter.unusedVariables false
attribute [local go_sem] frombits_call tobits_call run_neg
end Go.Proofs.YtnjkdfhhlcoaaaaGreat

/-
 OWN TEXT: the reference's logarithm for every float, and that of 1 and x (eddyref04.Log, eddyref04.More).
-/
namespace Go.Proofs.YtnjkdfhhlcoaaaaGreat
open Go.ChangeShapes Go.WideShapes Go.ChangeAt Go.RowKit
set_option linter.unusedVariables false
attribute [local go_sem] frombits_call tobits_call run_neg
end Go.Proofs.YtnjkdfhhlcoaaaaGreat

/-
 OWN TEXT: exponentials, logarithms, powers, sines of complex numbers: what the chapter's steps come to.
-/
namespace Go.Proofs.YtnjkdfhhlcoaaaaGreat
open Go.ChangeShapes Go.WideShapes Go.ChangeAt Go.RowKit
set_option linter.unusedVariables false
end Go.Proofs.YtnjkdfhhlcoaaaaGreat

/-
 OWN TEXT: the values of sines, cosines, quarters, angles at given floats, by computation.
-/
namespace Go.Proofs.YtnjkdfhhlcoaaaaGreat
open Go.ChangeShapes Go.WideShapes Go.ChangeAt Go.RowKit
set_option linter.unusedVariables false
end Go.Proofs.YtnjkdfhhlcoaaaaGreat

/-
 OWN TEXT: the values of lengths, roots, units at given numbers, by computation.
-/
namespace Go.Proofs.YtnjkdfhhlcoaaaaGreat
open Go.ChangeShapes Go.WideShapes Go.ChangeAt Go.RowKit
set_option linter.unusedVariables false
end Go.Proofs.YtnjkdfhhlcoaaaaGreat

