/-
 OWN TEXT: complex numbers as functions of one row of bits a part (all that is no number is one): products, quotients, logarithms, real powers.
-/
import Derived.Test.YtfgfofedacehiaaGreatJSvA
import Derived.Test.YtfgfofedacehiaaGreatJPoTToPoQ
import Derived.Test.YtfgfofedacehiaaGreatJAnPToEpL
import Derived.Test.YtfgfofedacehiaaGreatJEqCToBhM
import Derived.Test.YtfgfofedacehiaaGreatJFnWholeToAnA
import Derived.Test.YtfgfofedacehiaaGreatJBhL
namespace Go.Proofs.YtfgfofedacehiaaGreat
open Go.ChangeShapes Go.WideShapes Go.ChangeAt Go.RowKit
set_option linter.unusedVariables false
namespace El
abbrev Z := Nat × Nat
def c2 (x y : Nat) : Z := (Fl.bitsF x, Fl.bitsF y)
def zmul (a b : Z) : Z := (Sv.op .sub (Sv.op .mul a.1 b.1) (Sv.op .mul a.2 b.2), Sv.op .add (Sv.op .mul a.1 b.2) (Sv.op .mul a.2 b.1))
def zscale (a : Z) (s : Nat) : Z := (Sv.op .mul a.1 s, Sv.op .mul a.2 s)
def fin (a : Z) : Bool := Fl.finB a.1 && Fl.finB a.2
end El
end Go.Proofs.YtfgfofedacehiaaGreat

/-
 OWN TEXT: package element's small functions: places, noughts, whole powers, what is told; the kinds.
-/
namespace Go.Proofs.YtfgfofedacehiaaGreat
open Go.ChangeShapes Go.WideShapes Go.ChangeAt Go.RowKit
set_option linter.unusedVariables false
attribute [local go_sem] frombits_call tobits_call run_neg
namespace El
/-- an element -/
def E (k : Int) (a b s t p : Nat) : Value := .agg #[.int .u8 k, .complex .f64 a b, .complex .f64 s t, .float .f64 p]
theorem run_store_cx {P : Program} {w : World} {a : Addr} {m : Mode} (x y : Nat) : (store a (.complex .f64 x y) m).run P w = stored P w a (.complex .f64 x y) m := run_store P w a _ m rfl
theorem run_store_fl {P : Program} {w : World} {a : Addr} {m : Mode} (x : Nat) : (store a (.float .f64 x) m).run P w = stored P w a (.float .f64 x) m := run_store P w a _ m rfl
end El
attribute [local go_sem] El.run_store_cx El.run_store_fl
end Go.Proofs.YtfgfofedacehiaaGreat

