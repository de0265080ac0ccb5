/-
 OWN TEXT: what math.Ldexp and Scale of package float return: the word nearest to the float times the power of two.
-/
import Derived.Test.YtnjkdfhhlcoaaaaGreatJFnToFnStairs
import Derived.Test.YtnjkdfhhlcoaaaaGreatJFlCToFlG
import Derived.Test.YtnjkdfhhlcoaaaaGreatJEqAToAnA
import Derived.Test.YtnjkdfhhlcoaaaaGreatJEoA
namespace Go.Proofs.YtnjkdfhhlcoaaaaGreat
open Go.ChangeShapes Go.WideShapes Go.ChangeAt Go.RowKit
set_option linter.unusedVariables false
attribute [local go_sem] frombits_call tobits_call run_neg
end Go.Proofs.YtnjkdfhhlcoaaaaGreat

/-
 OWN TEXT: what math.Frexp and Parts of package float return, for every float.
-/
namespace Go.Proofs.YtnjkdfhhlcoaaaaGreat
open Go.ChangeShapes Go.WideShapes Go.ChangeAt Go.RowKit
set_option linter.unusedVariables false
attribute [local go_sem] frombits_call tobits_call run_neg
end Go.Proofs.YtnjkdfhhlcoaaaaGreat

/-
 OWN TEXT: lengths, roots, polar forms, units of complex numbers: what the chapter's steps come to.
-/
namespace Go.Proofs.YtnjkdfhhlcoaaaaGreat
open Go.ChangeShapes Go.WideShapes Go.ChangeAt Go.RowKit
set_option linter.unusedVariables false
end Go.Proofs.YtnjkdfhhlcoaaaaGreat

/-
 OWN TEXT: the reference's rising sum (eddyref04.Rising), for every float.
-/
namespace Go.Proofs.YtnjkdfhhlcoaaaaGreat
open Go.ChangeShapes Go.WideShapes Go.ChangeAt Go.RowKit
set_option linter.unusedVariables false
attribute [local go_sem] frombits_call tobits_call run_neg
end Go.Proofs.YtnjkdfhhlcoaaaaGreat

