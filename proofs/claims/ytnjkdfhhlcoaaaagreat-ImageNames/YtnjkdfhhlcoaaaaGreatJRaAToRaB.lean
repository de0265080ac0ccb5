/-
 OWN TEXT: package ratio over whole complex numbers: its tests.
-/
import Derived.Test.YtnjkdfhhlcoaaaaGreatJPyHToPyP
import Derived.Defers
namespace Go.Proofs.YtnjkdfhhlcoaaaaGreat
open Go.ChangeShapes Go.WideShapes Go.ChangeAt Go.RowKit
set_option linter.unusedVariables false
attribute [local go_sem] frombits_call tobits_call run_neg run_store_cx
/-- two slices in a block: a fraction -/
def Fc (w : World) (W : Nat) (s t : Value) : Prop := W < w.heap.size ∧ w.cell? ⟨W, 0, none⟩ = some s ∧ w.cell? ⟨W, 1, none⟩ = some t
theorem Fc.bw {w w' : World} {W : Nat} {s t : Value} (h : Fc w W s t) (k : Bw w w') : Fc w' W s t :=
 ⟨Nat.lt_of_lt_of_le h.1 (Below.size k), (Below.cell k (p := ⟨W, 0, none⟩) h.1).trans h.2.1, (Below.cell k (p := ⟨W, 1, none⟩) h.1).trans h.2.2⟩
theorem Fc.made (w : World) (s t : Value) (T : TypeId) : Fc (w.alloc (.cells #[s, t] T)) w.heap.size s t := ⟨by simp, by simp, by simp⟩
end Go.Proofs.YtnjkdfhhlcoaaaaGreat

/-
 OWN TEXT: package poly: Mul, of lists of whole complex numbers, the nought polynomial too; what it answers may be written.
-/
namespace Go.Proofs.YtnjkdfhhlcoaaaaGreat
open Go.ChangeShapes Go.WideShapes Go.ChangeAt Go.RowKit
set_option linter.unusedVariables false
attribute [local go_sem] frombits_call tobits_call run_neg run_store_cx
theorem Gw.take {c : Nat} {w : World} {B : Nat} {l : List Py.G} (h : Gw c w B l) (n : Nat) : Gw c w B (l.take n) := ⟨h.1.take n, h.2⟩
/-- an answered polynomial that may be written -/
def AnsW (c : Nat) (w w' : World) (e : Ending) (N : Nat) (F : Nat → Py.G) : Prop := ∃ B m l, e = .returned (.tuple #[.slice (some ⟨B, 0, none⟩) (m + 1) (m + 1), .int .i64 0]) ∧ May m l ∧ m + 1 ≤ N ∧ Gw c w' B l ∧ w.heap.size ≤ B ∧ Bw w w' ∧ ∀ i, Py.co l i = F i
theorem AnsW.of {c : Nat} {w w' : World} {B n : Nat} {l : List Py.G} (hn : l.length = n) (h0 : 0 < n) (hm : n ≤ 65) (h : Gw c w' B l) (hB : w.heap.size ≤ B) (hb : Bw w w') (hl : ∀ i, Py.Le (Py.co l i) 1099511627776) : AnsW c w w' (.returned (.tuple #[.slice (some ⟨B, 0, none⟩) (Py.tl l n) (Py.tl l n), .int .i64 0])) n (Py.co l) := by
 have hp := Py.tl_pos l n h0
 have hle := Py.tl_le l n
 have hlast := Py.tl_last l n
 have hlen := Py.tr_len l
 rw [hn] at hlen
 obtain ⟨m, hm'⟩ : ∃ m, Py.tl l n = m + 1 := ⟨Py.tl l n - 1, by omega⟩
 refine ⟨B, m, Py.tr l, by rw [hm'], ⟨by omega, by omega, ?_, fun i _ => by rw [Py.co_tr]; exact hl i⟩, by omega, ?_, hB, hb, Py.co_tr l⟩
 ·
  rw [hm'] at hlast
  rw [Py.co_tr]
  rcases hlast with k | k | k
  · omega
  · left; omega
  · right; rw [Nat.add_sub_cancel] at k; exact k
 · unfold Py.tr; rw [hn]; exact h.take _
theorem May.nought : May 0 [(0, 0)] := ⟨rfl, by omega, Or.inl rfl, fun i _ => by cases i <;> exact Py.Le.nought _⟩
end Go.Proofs.YtnjkdfhhlcoaaaaGreat

