/-
 OWN TEXT: plain laws on a float's last unit: the neighbour away from nought, the unit between them, its half; a sum's loss is at most that half.
-/
import Derived.Test.YtnjkdfhhlcoaaaaGreatJFlCToFlG
import Derived.Test.YtnjkdfhhlcoaaaaGreatJFnLdexpToEoE
import Derived.Test.YtnjkdfhhlcoaaaaGreatJFnEqToFnSame
set_option linter.unusedVariables false
namespace Go.Proofs.YtnjkdfhhlcoaaaaGreat.Fl
/-- the rung of 2 to the power of k units -/
def r2 (k : Nat) : Nat := if k ≤ 52 then 2 ^ k else (k - 51) * 4503599627370496
end Go.Proofs.YtnjkdfhhlcoaaaaGreat.Fl

/-
 OWN TEXT: plain laws of rounding a fraction whose worth is a whole number of halves, quarters ..
-/
namespace Go.Proofs.YtnjkdfhhlcoaaaaGreat.Fl
set_option linter.unusedVariables false

end Go.Proofs.YtnjkdfhhlcoaaaaGreat.Fl

/-
 OWN TEXT: plain laws of halving and doubling floats, and of a float made whole.
-/
namespace Go.Proofs.YtnjkdfhhlcoaaaaGreat.Fl
set_option linter.unusedVariables false

end Go.Proofs.YtnjkdfhhlcoaaaaGreat.Fl
namespace Go.Proofs.YtnjkdfhhlcoaaaaGreat
end Go.Proofs.YtnjkdfhhlcoaaaaGreat

/-
 OWN TEXT: what Parts of the reference returns, for every float.
-/
namespace Go.Proofs.YtnjkdfhhlcoaaaaGreat
open Go.ChangeShapes Go.WideShapes Go.ChangeAt Go.RowKit
set_option linter.unusedVariables false
attribute [local go_sem] frombits_call tobits_call run_neg
end Go.Proofs.YtnjkdfhhlcoaaaaGreat

