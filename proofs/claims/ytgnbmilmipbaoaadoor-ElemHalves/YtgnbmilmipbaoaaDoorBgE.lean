/-
  OWN TEXT: what mulWords of package eddybig returns, for all words.
-/
import Derived.Test.YtgnbmilmipbaoaaDoorBgD
namespace Go.Proofs.YtgnbmilmipbaoaaDoor
open Go.ChangeShapes Go.WideShapes Go.ChangeAt Go.RowKit
open Bg
set_option linter.unusedVariables false
theorem Ow.drewN {w : World} {B : Nat} {o : List Nat} (h : Ow w B o) (n : Nat) : Ow (w.drewN n) B o := h
end Go.Proofs.YtgnbmilmipbaoaaDoor
