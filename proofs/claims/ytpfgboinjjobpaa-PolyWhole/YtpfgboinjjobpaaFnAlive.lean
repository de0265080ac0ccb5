/-
  OWN TEXT: eddylaw01.alive returns true.
-/
import Derived.Test.YtpfgboinjjobpaaFnUp
namespace Go.Proofs.Ytpfgboinjjobpaa
open Go.ChangeShapes Go.WideShapes Go.ChangeAt Go.RowKit
attribute [local go_sem] frombits_call tobits_call run_neg
end Go.Proofs.Ytpfgboinjjobpaa
