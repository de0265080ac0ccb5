/-
 OWN TEXT: lists of whole complex numbers in memory; package poly's tests of lists.
-/
import Derived.Test.YtfgfofedacehiaaGreatJPnEToPyD
import Derived.Laws.IdiomCopy
import Derived.Test.YtfgfofedacehiaaGreatJBhL
namespace Go.Proofs.YtfgfofedacehiaaGreat
open Go.ChangeShapes Go.WideShapes Go.ChangeAt Go.RowKit
set_option linter.unusedVariables false
attribute [local go_sem] frombits_call tobits_call run_neg
/-- the list l lies at block b, from o on -/
def Gl (c : Nat) (w : World) (b o : Nat) (l : List Py.G) : Prop := b < w.heap.size ∧ ∀ i, i < l.length → ∃ x y, w.cell? ⟨b, o + i, none⟩ = some (.complex .f64 x y) ∧ wC c x y (Py.co l i)
theorem Gl.bw {c : Nat} {w w' : World} {b o : Nat} {l : List Py.G} (h : Gl c w b o l) (k : Bw w w') : Gl c w' b o l := by
 obtain ⟨h1, h2⟩ := h
 have hs : w.heap.size ≤ w'.heap.size := Below.size k
 refine ⟨by omega, fun i hi => ?_⟩
 obtain ⟨x, y, e, q⟩ := h2 i hi
 exact ⟨x, y, (Below.cell k (p := ⟨b, o + i, none⟩) h1).trans e, q⟩
/-- the same, and it may be written -/
def Gw (c : Nat) (w : World) (B : Nat) (l : List Py.G) : Prop := Gl c w B 0 l ∧ ∀ i, w.frozen? ⟨B, i, none⟩ = false
theorem Gw.set {c : Nat} {w : World} {B : Nat} {l : List Py.G} (h : Gw c w B l) (i x y : Nat) (g : Py.G) (hi : i < l.length) (hg : wC c x y g) : Gw c (w.setCell ⟨B, i, none⟩ (.complex .f64 x y)) B (l.set i g) := by
 obtain ⟨⟨h1, h2⟩, h3⟩ := h
 refine ⟨⟨by simpa [World.setCell] using h1, fun j hj => ?_⟩, fun j => (World.frozen?_setCell _ _ _ _).trans (h3 j)⟩
 rw [List.length_set] at hj
 rw [Py.co_set _ _ _ _ hi]
 obtain ⟨x', y', e, q⟩ := h2 j hj
 by_cases k : j = i
 ·
  subst k
  rw [if_pos rfl]
  exact ⟨x, y, by rw [Nat.zero_add] at e ⊢; exact World.cell?_setCell_same _ _ _ e, hg⟩
 ·
  rw [if_neg k]
  refine ⟨x', y', ?_, q⟩
  rw [World.cell?_setCell_other]
  · exact e
  · intro e'; cases e'; omega
end Go.Proofs.YtfgfofedacehiaaGreat

/-
 OWN TEXT: package poly: Check, copies, answers, of lists of whole complex numbers.
-/
namespace Go.Proofs.YtfgfofedacehiaaGreat
open Go.ChangeShapes Go.WideShapes Go.ChangeAt Go.RowKit
set_option linter.unusedVariables false
attribute [local go_sem] frombits_call tobits_call run_neg
theorem hide {p : Prop} (h : p) : Hid p := h
/-- a polynomial that may be, of the degree n -/
def May (n : Nat) (l : List Py.G) : Prop := l.length = n + 1 ∧ n ≤ 64 ∧ (n = 0 ∨ Py.co l n ≠ (0, 0)) ∧ ∀ i, i < n + 1 → Py.Le (Py.co l i) 1099511627776
theorem bw_alloc (w : World) (x : Obj) : Bw w (w.alloc x) := Below.alloc (Bw.refl w) (Nat.le_refl _) _
end Go.Proofs.YtfgfofedacehiaaGreat

/-
 OWN TEXT: package poly: copies and answers, of lists of whole complex numbers.
-/
namespace Go.Proofs.YtfgfofedacehiaaGreat
open Go.ChangeShapes Go.WideShapes Go.ChangeAt Go.RowKit
set_option linter.unusedVariables false
attribute [local go_sem] frombits_call tobits_call run_neg
theorem run_store_cx {P : Program} {w : World} {a : Addr} {m : Mode} (k : FloatKind) (x y : Nat) : (store a (.complex k x y) m).run P w = stored P w a (.complex k x y) m := run_store P w a _ m rfl
theorem Gl.take {c : Nat} {w : World} {b o : Nat} {l : List Py.G} (h : Gl c w b o l) (n : Nat) : Gl c w b o (l.take n) := by
 refine ⟨h.1, fun i hi => ?_⟩
 rw [List.length_take] at hi
 rw [Py.co_take, if_pos (by omega)]
 exact h.2 i (by omega)
end Go.Proofs.YtfgfofedacehiaaGreat

/-
 OWN TEXT: package poly: values at a place (steps, At), of lists of whole complex numbers.
-/
namespace Go.Proofs.YtfgfofedacehiaaGreat
open Go.ChangeShapes Go.WideShapes Go.ChangeAt Go.RowKit
set_option linter.unusedVariables false
attribute [local go_sem] frombits_call tobits_call run_neg
end Go.Proofs.YtfgfofedacehiaaGreat

/-
 OWN TEXT: package poly: At, Add, of lists of whole complex numbers.
-/
namespace Go.Proofs.YtfgfofedacehiaaGreat
open Go.ChangeShapes Go.WideShapes Go.ChangeAt Go.RowKit
set_option linter.unusedVariables false
attribute [local go_sem] frombits_call tobits_call run_neg run_store_cx
/-- an answered polynomial: its coefficients are those of F -/
def Ans (c : Nat) (w w' : World) (e : Ending) (N : Nat) (F : Nat → Py.G) : Prop := ∃ B m l, e = .returned (.tuple #[.slice (some ⟨B, 0, none⟩) (m + 1) (m + 1), .int .i64 0]) ∧ May m l ∧ m + 1 ≤ N ∧ Gl c w' B 0 l ∧ w.heap.size ≤ B ∧ Bw w w' ∧ ∀ i, Py.co l i = F i
theorem Ans.of {c : Nat} {w w' : World} {B n : Nat} {l : List Py.G} (hn : l.length = n) (h0 : 0 < n) (hm : n ≤ 65) (h : Gl c w' B 0 l) (hB : w.heap.size ≤ B) (hb : Bw w w') (hl : ∀ i, Py.Le (Py.co l i) 1099511627776) : Ans c w w' (.returned (.tuple #[.slice (some ⟨B, 0, none⟩) (Py.tl l n) (Py.tl l n), .int .i64 0])) n (Py.co l) := by
 have hp := Py.tl_pos l n h0
 have hle := Py.tl_le l n
 have hlast := Py.tl_last l n
 have hlen := Py.tr_len l
 rw [hn] at hlen
 obtain ⟨m, hm'⟩ : ∃ m, Py.tl l n = m + 1 := ⟨Py.tl l n - 1, by omega⟩
 refine ⟨B, m, Py.tr l, by rw [hm'], ⟨by omega, by omega, ?_, fun i _ => by rw [Py.co_tr]; exact hl i⟩, by omega, ?_, hB, hb, Py.co_tr l⟩
 ·
  rw [hm'] at hlast
  rw [Py.co_tr]
  rcases hlast with k | k | k
  · omega
  · left; omega
  · right; rw [Nat.add_sub_cancel] at k; exact k
 · unfold Py.tr; rw [hn]; exact h.take _
end Go.Proofs.YtfgfofedacehiaaGreat

/-
 OWN TEXT: package poly: Mul, of lists of whole complex numbers.
-/
namespace Go.Proofs.YtfgfofedacehiaaGreat
open Go.ChangeShapes Go.WideShapes Go.ChangeAt Go.RowKit
set_option linter.unusedVariables false
attribute [local go_sem] frombits_call tobits_call run_neg run_store_cx
end Go.Proofs.YtfgfofedacehiaaGreat

/-
 OWN TEXT: package poly: Mul, of lists of whole complex numbers.
-/
namespace Go.Proofs.YtfgfofedacehiaaGreat
open Go.ChangeShapes Go.WideShapes Go.ChangeAt Go.RowKit
set_option linter.unusedVariables false
attribute [local go_sem] frombits_call tobits_call run_neg run_store_cx
end Go.Proofs.YtfgfofedacehiaaGreat

/-
 OWN TEXT: package poly: Shift, of lists of whole complex numbers.
-/
namespace Go.Proofs.YtfgfofedacehiaaGreat
open Go.ChangeShapes Go.WideShapes Go.ChangeAt Go.RowKit
set_option linter.unusedVariables false
attribute [local go_sem] frombits_call tobits_call run_neg run_store_cx
end Go.Proofs.YtfgfofedacehiaaGreat

/-
 OWN TEXT: package poly: Of, of lists of whole complex numbers.
-/
namespace Go.Proofs.YtfgfofedacehiaaGreat
open Go.ChangeShapes Go.WideShapes Go.ChangeAt Go.RowKit
set_option linter.unusedVariables false
attribute [local go_sem] frombits_call tobits_call run_neg run_store_cx
end Go.Proofs.YtfgfofedacehiaaGreat

/-
 OWN TEXT: package poly: Of, of lists of whole complex numbers.
-/
namespace Go.Proofs.YtfgfofedacehiaaGreat
open Go.ChangeShapes Go.WideShapes Go.ChangeAt Go.RowKit
set_option linter.unusedVariables false
attribute [local go_sem] frombits_call tobits_call run_neg run_store_cx
end Go.Proofs.YtfgfofedacehiaaGreat

