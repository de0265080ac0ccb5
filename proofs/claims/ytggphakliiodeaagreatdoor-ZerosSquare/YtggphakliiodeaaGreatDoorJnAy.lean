/-
  OWN TEXT: package poly: Mul, of lists of whole complex numbers.
-/
import Derived.Test.YtggphakliiodeaaGreatDoorJnAx
import Derived.Test.YtggphakliiodeaaGreatDoorBhL
namespace Go.Proofs.YtggphakliiodeaaGreatDoor
open Go.ChangeShapes Go.WideShapes Go.ChangeAt Go.RowKit
set_option linter.unusedVariables false
attribute [local go_sem] frombits_call tobits_call run_neg run_store_cx
theorem wrap_small (g : Nat) (h : g < 1000000) : IntKind.i64.wrap (g : Int) = g := by
  rw [IntKind.wrap_i64]
  omega
theorem ts_begin (a b : List Py.G) (k f : Nat) (h : k < f + b.length) (h2 : f = 0 ∨ k = f + (b.length - 1)) (hf : f ≤ k) : Py.ts a b k (f + 1) = Py.gm (Py.co a f) (Py.co b (k - f)) := by
  rw [Py.ts, if_pos hf]
  have := Py.ts_far a b k 0 f (fun i _ q1 q2 => by rw [Py.co_out (l := b) (by omega), Py.gm_nought])
  rw [Nat.zero_add] at this
  rw [this]
  exact Py.nought_ga _
end Go.Proofs.YtggphakliiodeaaGreatDoor
/-
  OWN TEXT: package poly: Mul, of lists of whole complex numbers.
-/
namespace Go.Proofs.YtggphakliiodeaaGreatDoor
open Go.ChangeShapes Go.WideShapes Go.ChangeAt Go.RowKit
set_option linter.unusedVariables false
attribute [local go_sem] frombits_call tobits_call run_neg run_store_cx
end Go.Proofs.YtggphakliiodeaaGreatDoor
/-
  OWN TEXT: package poly: Shift, of lists of whole complex numbers.
-/
namespace Go.Proofs.YtggphakliiodeaaGreatDoor
open Go.ChangeShapes Go.WideShapes Go.ChangeAt Go.RowKit
set_option linter.unusedVariables false
attribute [local go_sem] frombits_call tobits_call run_neg run_store_cx
end Go.Proofs.YtggphakliiodeaaGreatDoor
