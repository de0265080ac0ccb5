/-
 OWN TEXT: package poly: values at a place (steps, At), of lists of whole complex numbers.
-/
import Derived.Test.YtnjkdfhhlcoaaaaGreatJPyDToPyG
import Derived.Test.YtnjkdfhhlcoaaaaGreatJBhL
import Derived.OwnWalk
namespace Go.Proofs.YtnjkdfhhlcoaaaaGreat
open Go.ChangeShapes Go.WideShapes Go.ChangeAt Go.RowKit
set_option linter.unusedVariables false
attribute [local go_sem] frombits_call tobits_call run_neg
end Go.Proofs.YtnjkdfhhlcoaaaaGreat

/-
 OWN TEXT: package poly: At, Add, of lists of whole complex numbers.
-/
namespace Go.Proofs.YtnjkdfhhlcoaaaaGreat
open Go.ChangeShapes Go.WideShapes Go.ChangeAt Go.RowKit
set_option linter.unusedVariables false
attribute [local go_sem] frombits_call tobits_call run_neg run_store_cx
/-- an answered polynomial: its coefficients are those of F -/
def Ans (c : Nat) (w w' : World) (e : Ending) (N : Nat) (F : Nat → Py.G) : Prop := ∃ B m l, e = .returned (.tuple #[.slice (some ⟨B, 0, none⟩) (m + 1) (m + 1), .int .i64 0]) ∧ May m l ∧ m + 1 ≤ N ∧ Gl c w' B 0 l ∧ w.heap.size ≤ B ∧ Bw w w' ∧ ∀ i, Py.co l i = F i
theorem Ans.of {c : Nat} {w w' : World} {B n : Nat} {l : List Py.G} (hn : l.length = n) (h0 : 0 < n) (hm : n ≤ 65) (h : Gl c w' B 0 l) (hB : w.heap.size ≤ B) (hb : Bw w w') (hl : ∀ i, Py.Le (Py.co l i) 1099511627776) : Ans c w w' (.returned (.tuple #[.slice (some ⟨B, 0, none⟩) (Py.tl l n) (Py.tl l n), .int .i64 0])) n (Py.co l) := by
 have hp := Py.tl_pos l n h0
 have hle := Py.tl_le l n
 have hlast := Py.tl_last l n
 have hlen := Py.tr_len l
 rw [hn] at hlen
 obtain ⟨m, hm'⟩ : ∃ m, Py.tl l n = m + 1 := ⟨Py.tl l n - 1, by omega⟩
 refine ⟨B, m, Py.tr l, by rw [hm'], ⟨by omega, by omega, ?_, fun i _ => by rw [Py.co_tr]; exact hl i⟩, by omega, ?_, hB, hb, Py.co_tr l⟩
 ·
  rw [hm'] at hlast
  rw [Py.co_tr]
  rcases hlast with k | k | k
  · omega
  · left; omega
  · right; rw [Nat.add_sub_cancel] at k; exact k
 · unfold Py.tr; rw [hn]; exact h.take _
end Go.Proofs.YtnjkdfhhlcoaaaaGreat

/-
 OWN TEXT: package poly: Mul, of lists of whole complex numbers.
-/
namespace Go.Proofs.YtnjkdfhhlcoaaaaGreat
open Go.ChangeShapes Go.WideShapes Go.ChangeAt Go.RowKit
set_option linter.unusedVariables false
attribute [local go_sem] frombits_call tobits_call run_neg run_store_cx
end Go.Proofs.YtnjkdfhhlcoaaaaGreat

/-
 OWN TEXT: package poly: Mul, of lists of whole complex numbers.
-/
namespace Go.Proofs.YtnjkdfhhlcoaaaaGreat
open Go.ChangeShapes Go.WideShapes Go.ChangeAt Go.RowKit
set_option linter.unusedVariables false
attribute [local go_sem] frombits_call tobits_call run_neg run_store_cx
end Go.Proofs.YtnjkdfhhlcoaaaaGreat

/-
 OWN TEXT: package poly: Shift, of lists of whole complex numbers.
-/
namespace Go.Proofs.YtnjkdfhhlcoaaaaGreat
open Go.ChangeShapes Go.WideShapes Go.ChangeAt Go.RowKit
set_option linter.unusedVariables false
attribute [local go_sem] frombits_call tobits_call run_neg run_store_cx
end Go.Proofs.YtnjkdfhhlcoaaaaGreat

/-
 OWN TEXT: package poly: Of, of lists of whole complex numbers.
-/
namespace Go.Proofs.YtnjkdfhhlcoaaaaGreat
open Go.ChangeShapes Go.WideShapes Go.ChangeAt Go.RowKit
set_option linter.unusedVariables false
attribute [local go_sem] frombits_call tobits_call run_neg run_store_cx
end Go.Proofs.YtnjkdfhhlcoaaaaGreat

/-
 OWN TEXT: package poly: Of, of lists of whole complex numbers.
-/
namespace Go.Proofs.YtnjkdfhhlcoaaaaGreat
open Go.ChangeShapes Go.WideShapes Go.ChangeAt Go.RowKit
set_option linter.unusedVariables false
attribute [local go_sem] frombits_call tobits_call run_neg run_store_cx
end Go.Proofs.YtnjkdfhhlcoaaaaGreat

/-
 OWN TEXT: package poly: a product divided by one of its factors, of lists of whole complex numbers.
-/
namespace Go.Proofs.YtnjkdfhhlcoaaaaGreat
open Go.ChangeShapes Go.WideShapes Go.ChangeAt Go.RowKit
set_option linter.unusedVariables false
attribute [local go_sem] frombits_call tobits_call run_neg run_store_cx
theorem Gw.bw {c : Nat} {w w' : World} {B : Nat} {l : List Py.G} (h : Gw c w B l) (k : Bw w w') : Gw c w' B l :=
 ⟨h.1.bw k, fun i => (Below.frozen k (p := ⟨B, i, none⟩) h.1.1).trans (h.2 i)⟩
theorem Gw.drew {c : Nat} {w : World} {B : Nat} {l : List Py.G} (h : Gw c w B l) : Gw c w.drew B l := ⟨⟨h.1.1, h.1.2⟩, h.2⟩
end Go.Proofs.YtnjkdfhhlcoaaaaGreat

/-
 OWN TEXT: package poly: Div of a product by one of its factors, of lists of whole complex numbers.
-/
namespace Go.Proofs.YtnjkdfhhlcoaaaaGreat
open Go.ChangeShapes Go.WideShapes Go.ChangeAt Go.RowKit
set_option linter.unusedVariables false
attribute [local go_sem] frombits_call tobits_call run_neg run_store_cx
end Go.Proofs.YtnjkdfhhlcoaaaaGreat

