/-
 OWN TEXT: two complex numbers are the same (eddyref02.Same, eddylaw06.same).
-/
import Derived.Test.YtnjkdfhhlcoaaaaGreatJFnEqToFnSame
import Derived.Test.YtnjkdfhhlcoaaaaGreatJEoA
import Derived.Test.YtnjkdfhhlcoaaaaGreatJFnToFnStairs
import Derived.Test.YtnjkdfhhlcoaaaaGreatJFlCToFlG
import Derived.Test.YtnjkdfhhlcoaaaaGreatJLsAToRfC
import Derived.Test.YtnjkdfhhlcoaaaaGreatJFnWhole
namespace Go.Proofs.YtnjkdfhhlcoaaaaGreat
open Go.ChangeShapes Go.WideShapes Go.ChangeAt Go.RowKit
set_option linter.unusedVariables false
attribute [local go_sem] frombits_call tobits_call run_neg
end Go.Proofs.YtnjkdfhhlcoaaaaGreat

/-
 OWN TEXT: a small whole number as a float.
-/
namespace Go.Proofs.YtnjkdfhhlcoaaaaGreat
open Go.ChangeShapes Go.WideShapes Go.ChangeAt Go.RowKit
set_option linter.unusedVariables false
end Go.Proofs.YtnjkdfhhlcoaaaaGreat

/-
 OWN TEXT: a float made whole, in numbers.
-/
namespace Go.Proofs.YtnjkdfhhlcoaaaaGreat.Fl
set_option linter.unusedVariables false
end Go.Proofs.YtnjkdfhhlcoaaaaGreat.Fl
namespace Go.Proofs.YtnjkdfhhlcoaaaaGreat
set_option linter.unusedVariables false
open Go.ChangeShapes Go.WideShapes Go.ChangeAt Go.RowKit
end Go.Proofs.YtnjkdfhhlcoaaaaGreat

/-
 OWN TEXT: what Whole of the reference returns, for every float.
-/
namespace Go.Proofs.YtnjkdfhhlcoaaaaGreat
open Go.ChangeShapes Go.WideShapes Go.ChangeAt Go.RowKit
set_option linter.unusedVariables false
attribute [local go_sem] frombits_call tobits_call run_neg
end Go.Proofs.YtnjkdfhhlcoaaaaGreat

/-
 OWN TEXT: the reference's float made whole (eddyref01.Whole), for every float.
-/
namespace Go.Proofs.YtnjkdfhhlcoaaaaGreat
open Go.ChangeShapes Go.WideShapes Go.ChangeAt Go.RowKit
set_option linter.unusedVariables false
end Go.Proofs.YtnjkdfhhlcoaaaaGreat

