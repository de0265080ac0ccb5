/-
 OWN TEXT: complex numbers as functions of one row of bits a part (all that is no number is one): products, quotients, logarithms, real powers.
-/
import Derived.Test.YtnjkdfhhlcoaaaaGreatJSvA
import Derived.Test.YtnjkdfhhlcoaaaaGreatJPoTToPoQ
import Derived.Test.YtnjkdfhhlcoaaaaGreatJAnPToRoP
namespace Go.Proofs.YtnjkdfhhlcoaaaaGreat
open Go.ChangeShapes Go.WideShapes Go.ChangeAt Go.RowKit
set_option linter.unusedVariables false
namespace El
theorem hid {p : Prop} (h : p) : Hid p := h
abbrev Z := Nat × Nat
def c2 (x y : Nat) : Z := (Fl.bitsF x, Fl.bitsF y)
def zmul (a b : Z) : Z := (Sv.op .sub (Sv.op .mul a.1 b.1) (Sv.op .mul a.2 b.2), Sv.op .add (Sv.op .mul a.1 b.2) (Sv.op .mul a.2 b.1))
def zscale (a : Z) (s : Nat) : Z := (Sv.op .mul a.1 s, Sv.op .mul a.2 s)
def fin (a : Z) : Bool := Fl.finB a.1 && Fl.finB a.2
theorem fin_c (x y : Nat) : (Fl.finB x && Fl.finB y) = fin (c2 x y) := by
 show _ = (Fl.finB (Fl.bitsF x) && Fl.finB (Fl.bitsF y))
 rw [Sv.fin_c, Sv.fin_c]
end El
end Go.Proofs.YtnjkdfhhlcoaaaaGreat

