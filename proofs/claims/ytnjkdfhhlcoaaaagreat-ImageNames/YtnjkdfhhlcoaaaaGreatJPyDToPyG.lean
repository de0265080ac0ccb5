/-
 OWN TEXT: whole complex numbers as the program has them: signs, quotients by 1, tests; package poly's tests of one number.
-/
import Derived.Test.YtnjkdfhhlcoaaaaGreatJPyC
import Derived.Test.YtnjkdfhhlcoaaaaGreatJRpA
import Derived.Laws.IdiomCopy
namespace Go.Proofs.YtnjkdfhhlcoaaaaGreat
open Go.ChangeShapes Go.WideShapes Go.ChangeAt Go.RowKit
set_option linter.unusedVariables false
attribute [local go_sem] frombits_call tobits_call run_neg
end Go.Proofs.YtnjkdfhhlcoaaaaGreat

/-
 OWN TEXT: lists of whole complex numbers in memory; package poly's tests of lists.
-/
namespace Go.Proofs.YtnjkdfhhlcoaaaaGreat
open Go.ChangeShapes Go.WideShapes Go.ChangeAt Go.RowKit
set_option linter.unusedVariables false
attribute [local go_sem] frombits_call tobits_call run_neg
/-- the list l lies at block b, from o on -/
def Gl (c : Nat) (w : World) (b o : Nat) (l : List Py.G) : Prop := b < w.heap.size ∧ ∀ i, i < l.length → ∃ x y, w.cell? ⟨b, o + i, none⟩ = some (.complex .f64 x y) ∧ wC c x y (Py.co l i)
theorem Gl.bw {c : Nat} {w w' : World} {b o : Nat} {l : List Py.G} (h : Gl c w b o l) (k : Bw w w') : Gl c w' b o l := by
 obtain ⟨h1, h2⟩ := h
 have hs : w.heap.size ≤ w'.heap.size := Below.size k
 refine ⟨by omega, fun i hi => ?_⟩
 obtain ⟨x, y, e, q⟩ := h2 i hi
 exact ⟨x, y, (Below.cell k (p := ⟨b, o + i, none⟩) h1).trans e, q⟩
/-- the same, and it may be written -/
def Gw (c : Nat) (w : World) (B : Nat) (l : List Py.G) : Prop := Gl c w B 0 l ∧ ∀ i, w.frozen? ⟨B, i, none⟩ = false
theorem Gw.set {c : Nat} {w : World} {B : Nat} {l : List Py.G} (h : Gw c w B l) (i x y : Nat) (g : Py.G) (hi : i < l.length) (hg : wC c x y g) : Gw c (w.setCell ⟨B, i, none⟩ (.complex .f64 x y)) B (l.set i g) := by
 obtain ⟨⟨h1, h2⟩, h3⟩ := h
 refine ⟨⟨by simpa [World.setCell] using h1, fun j hj => ?_⟩, fun j => (World.frozen?_setCell _ _ _ _).trans (h3 j)⟩
 rw [List.length_set] at hj
 rw [Py.co_set _ _ _ _ hi]
 obtain ⟨x', y', e, q⟩ := h2 j hj
 by_cases k : j = i
 ·
  subst k
  rw [if_pos rfl]
  exact ⟨x, y, by rw [Nat.zero_add] at e ⊢; exact World.cell?_setCell_same _ _ _ e, hg⟩
 ·
  rw [if_neg k]
  refine ⟨x', y', ?_, q⟩
  rw [World.cell?_setCell_other]
  · exact e
  · intro e'; cases e'; omega
end Go.Proofs.YtnjkdfhhlcoaaaaGreat

/-
 OWN TEXT: package poly: Check, copies, answers, of lists of whole complex numbers.
-/
namespace Go.Proofs.YtnjkdfhhlcoaaaaGreat
open Go.ChangeShapes Go.WideShapes Go.ChangeAt Go.RowKit
set_option linter.unusedVariables false
attribute [local go_sem] frombits_call tobits_call run_neg
theorem hide {p : Prop} (h : p) : Hid p := h
/-- a polynomial that may be, of the degree n -/
def May (n : Nat) (l : List Py.G) : Prop := l.length = n + 1 ∧ n ≤ 64 ∧ (n = 0 ∨ Py.co l n ≠ (0, 0)) ∧ ∀ i, i < n + 1 → Py.Le (Py.co l i) 1099511627776
theorem bw_alloc (w : World) (x : Obj) : Bw w (w.alloc x) := Below.alloc (Bw.refl w) (Nat.le_refl _) _
end Go.Proofs.YtnjkdfhhlcoaaaaGreat

/-
 OWN TEXT: package poly: copies and answers, of lists of whole complex numbers.
-/
namespace Go.Proofs.YtnjkdfhhlcoaaaaGreat
open Go.ChangeShapes Go.WideShapes Go.ChangeAt Go.RowKit
set_option linter.unusedVariables false
attribute [local go_sem] frombits_call tobits_call run_neg
theorem run_store_cx {P : Program} {w : World} {a : Addr} {m : Mode} (k : FloatKind) (x y : Nat) : (store a (.complex k x y) m).run P w = stored P w a (.complex k x y) m := run_store P w a _ m rfl
/-- noughts, as make lays them -/
def zcC (n : Nat) : Array Value := madeCells #[.complex .f64 0 0] n
theorem make_c (c : Int) (n : Nat) (hc : c = n) (h : n ≤ 1000000) (w : World) :
  (Instr.makeSlice 37 (.int .i64 c) (.int .i64 c)).run Tryz.prog w = .ok (.slice (some ⟨w.heap.size, 0, none⟩) n n) (w.alloc (.cells (zcC n) 24)) := by
 subst hc
 have k : (Tryz.prog.info? 24).map (fun i => (i.zero, i.size, i.bytes)) = some (some (.complex .f64 0 0), 1, 16) := by kernel_rfl
 obtain ⟨i, hi, he⟩ := Option.map_eq_some_iff.1 k
 simp only [Prod.mk.injEq] at he
 have hr := run_make (P := Tryz.prog) w 37 24 i (.complex .f64 0 0) (by kernel_rfl) hi he.1 .i64 .i64 n n (by omega) (by omega) (by rw [he.2.2]; omega) (by omega)
 rw [he.2.1] at hr
 simp only [Int.toNat_natCast, Nat.mul_one] at hr
 exact hr
theorem co_rep (n i : Nat) : Py.co (List.replicate n (0, 0)) i = (0, 0) := by
 unfold Py.co
 simp only [List.getD, List.getElem?_replicate]
 split <;> rfl
theorem Gw.made (c : Nat) (w : World) (n : Nat) (t : TypeId) : Gw c (w.alloc (.cells (zcC n) t)) w.heap.size (List.replicate n (0, 0)) := by
 refine ⟨⟨by simp, fun i hi => ?_⟩, fun i => ?_⟩
 ·
  rw [List.length_replicate] at hi
  rw [co_rep]
  refine ⟨0, 0, ?_, wC.nought c⟩
  rw [World.cell?_alloc_at _ _ _ _ rfl]
  unfold zcC madeCells
  simp [hi, Nat.mod_one]
 · exact World.frozen?_alloc_at _ _ _ _ rfl
theorem Gl.take {c : Nat} {w : World} {b o : Nat} {l : List Py.G} (h : Gl c w b o l) (n : Nat) : Gl c w b o (l.take n) := by
 refine ⟨h.1, fun i hi => ?_⟩
 rw [List.length_take] at hi
 rw [Py.co_take, if_pos (by omega)]
 exact h.2 i (by omega)
end Go.Proofs.YtnjkdfhhlcoaaaaGreat

