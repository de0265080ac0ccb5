/-
 OWN TEXT: zeros.Square of whole zeros.
-/
import Derived.Test.YtfgfofedacehiaaGreatJZqIToZqK
namespace Go.Proofs.YtfgfofedacehiaaGreat
open Go.ChangeShapes Go.WideShapes Go.ChangeAt Go.RowKit
set_option linter.unusedVariables false
end Go.Proofs.YtfgfofedacehiaaGreat

