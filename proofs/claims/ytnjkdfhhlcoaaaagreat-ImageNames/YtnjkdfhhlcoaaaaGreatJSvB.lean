/-
 OWN TEXT: rows of floats, and rows of such rows, in memory: read, owned, written.
-/
import Derived.Test.YtnjkdfhhlcoaaaaGreatJSvA
import Derived.Deep.AppendLies
import Derived.Laws.OwnMore
import Derived.Laws.IdiomCopy
namespace Go.Proofs.YtnjkdfhhlcoaaaaGreat
open Go.ChangeShapes Go.WideShapes Go.ChangeAt Go.RowKit
set_option linter.unusedVariables false
attribute [local go_sem] frombits_call tobits_call run_neg

namespace Sv
theorem hid {p : Prop} (h : p) : Hid p := h
/-- the first n floats, as values -/
def fv (X : Nat → Nat) (n : Nat) : List Value := (List.range n).map fun j => Value.float .f64 (X j)
theorem fv_len (X : Nat → Nat) (n : Nat) : (fv X n).length = n := by simp [fv]
theorem fv_get (X : Nat → Nat) (n j : Nat) (h : j < n) : (fv X n)[j]? = some (.float .f64 (X j)) := by simp [fv, h]
theorem fv_set (X : Nat → Nat) (n i x : Nat) : (fv X n).set i (.float .f64 x) = fv (fun t => if t = i then x else X t) n := by
 apply List.ext_getElem?
 intro j
 by_cases hj : j < n
 ·
  rw [fv_get _ _ _ hj, List.getElem?_set]
  by_cases e : i = j
  · subst e; rw [if_pos rfl, if_pos (by rw [fv_len]; exact hj), if_pos rfl]
  · rw [if_neg e, fv_get _ _ _ hj, if_neg (fun h => e h.symm)]
 · rw [List.getElem?_eq_none (by rw [List.length_set, fv_len]; omega), List.getElem?_eq_none (by rw [fv_len]; omega)]
/-- n floats lie at block b, from o on -/
def Rd (w : World) (b o n : Nat) (F : Nat → Nat) : Prop := b < w.heap.size ∧ ∀ j, j < n → ∃ x, w.cell? ⟨b, o + j, none⟩ = some (.float .f64 x) ∧ x < 18446744073709551616 ∧ Fl.bitsF x = F j
theorem Rd.block {w w' : World} {b o n : Nat} {F : Nat → Nat} (h : Rd w b o n F) (hs : w.heap.size ≤ w'.heap.size) (k : w'.heap[b]? = w.heap[b]?) : Rd w' b o n F := by
 refine ⟨by have := h.1; omega, fun j hj => ?_⟩
 obtain ⟨x, e, l, q⟩ := h.2 j hj
 exact ⟨x, (World.cell?_of_block (w := w) (a := ⟨b, o + j, none⟩) k).trans e, l, q⟩
theorem Rd.bw {w w' : World} {b o n : Nat} {F : Nat → Nat} (h : Rd w b o n F) (k : Bw w w') : Rd w' b o n F := h.block k.size (k.block b h.1)
theorem Rd.gb {w w' : World} {b o n : Nat} {F : Nat → Nat} {r : Option Nat} (h : Rd w b o n F) (k : w.grownBy w' r) (hr : some b ≠ r) : Rd w' b o n F := h.block k.size (k.block b h.1 hr)
theorem Rd.less {w : World} {b o n : Nat} {F : Nat → Nat} (h : Rd w b o n F) {m : Nat} (hm : m ≤ n) : Rd w b o m F := ⟨h.1, fun j hj => h.2 j (by omega)⟩
theorem Rd.ext {w : World} {b o n : Nat} {F G : Nat → Nat} (h : Rd w b o n F) (e : ∀ j, j < n → F j = G j) : Rd w b o n G := ⟨h.1, fun j hj => by obtain ⟨x, a, l, q⟩ := h.2 j hj; exact ⟨x, a, l, q.trans (e j hj)⟩⟩
/-- v is an empty slice -/
def emp (v : Value) : Prop := ∃ p c, v = .slice p 0 c ∧ (p = none → c = 0)
theorem emp.nil : emp (.slice none 0 0) := ⟨none, 0, rfl, fun _ => rfl⟩
/-- v is a slice of n floats -/
def Ls (w : World) (v : Value) (n : Nat) (F : Nat → Nat) : Prop := (emp v ∧ n = 0) ∨ ∃ b o c, v = .slice (some ⟨b, o, none⟩) n c ∧ n ≤ c ∧ Rd w b o n F
theorem Ls.bw {w w' : World} {v : Value} {n : Nat} {F : Nat → Nat} (h : Ls w v n F) (k : Bw w w') : Ls w' v n F := by
 rcases h with h | ⟨b, o, c, e, l, h⟩
 · exact Or.inl h
 · exact Or.inr ⟨b, o, c, e, l, h.bw k⟩
theorem Ls.ext {w : World} {v : Value} {n : Nat} {F G : Nat → Nat} (h : Ls w v n F) (e : ∀ j, j < n → F j = G j) : Ls w v n G := by
 rcases h with h | ⟨b, o, c, e1, l, h⟩
 · exact Or.inl h
 · exact Or.inr ⟨b, o, c, e1, l, h.ext e⟩
/-- v is a slice of n slices of floats -/
def Lm (w : World) (v : Value) (n : Nat) (l : Nat → Nat) (A : M) : Prop := (emp v ∧ n = 0) ∨ ∃ b o c, v = .slice (some ⟨b, o, none⟩) n c ∧ n ≤ c ∧ b < w.heap.size ∧ ∀ i, i < n → ∃ r, w.cell? ⟨b, o + i, none⟩ = some r ∧ Ls w r (l i) (A i)
theorem Lm.bw {w w' : World} {v : Value} {n : Nat} {l : Nat → Nat} {A : M} (h : Lm w v n l A) (k : Bw w w') : Lm w' v n l A := by
 rcases h with h | ⟨b, o, c, e, hl, hb, h⟩
 · exact Or.inl h
 ·
  refine Or.inr ⟨b, o, c, e, hl, by have := k.size; omega, fun i hi => ?_⟩
  obtain ⟨r, e, q⟩ := h i hi
  exact ⟨r, (Below.cell k (p := ⟨b, o + i, none⟩) hb).trans e, q.bw k⟩
theorem gb_bw {w w' : World} (h : Bw w w') (r : Option Nat) : w.grownBy w' r := ⟨h.os, h.tape, h.output, h.size, fun k hk _ => h.block k hk⟩
/-- a row of n floats of the call's own lies in block B -/
def Rw (w : World) (base B n c : Nat) (F : Nat → Nat) : Prop := ∃ X : Nat → Nat, w.ownsRow base 26 1 (.slice (some ⟨B, 0, none⟩) n c) n (fv X n) ∧ ∀ j, j < n → X j < 18446744073709551616 ∧ Fl.bitsF (X j) = F j
theorem Rw.lt {w : World} {base B n c : Nat} {F : Nat → Nat} (h : Rw w base B n c F) : base ≤ B ∧ B < w.heap.size := by
 obtain ⟨X, h, _⟩ := h
 exact h.lt B rfl
theorem Rw.cell {w : World} {base B n c : Nat} {F : Nat → Nat} (h : Rw w base B n c F) {j : Nat} (hj : j < n) : ∃ x, w.cell? ⟨B, j, none⟩ = some (.float .f64 x) ∧ x < 18446744073709551616 ∧ Fl.bitsF x = F j := by
 obtain ⟨X, h, k⟩ := h
 exact ⟨X j, (h.cellAt j (by omega)).trans (fv_get _ _ _ hj), k j hj⟩
theorem Rw.frozen {w : World} {base B n c : Nat} {F : Nat → Nat} (h : Rw w base B n c F) (j : Nat) : w.frozen? ⟨B, j, none⟩ = false := by
 obtain ⟨X, h, _⟩ := h
 exact h.frozenAt j
theorem Rw.gb {w w' : World} {base B n c : Nat} {F : Nat → Nat} {r : Option Nat} (h : Rw w base B n c F) (k : w.grownBy w' r) (hr : some B ≠ r) : Rw w' base B n c F := by
 obtain ⟨X, h, q⟩ := h
 exact ⟨X, h.kept k (Or.inr hr), q⟩
theorem Rw.bw {w w' : World} {base B n c : Nat} {F : Nat → Nat} (h : Rw w base B n c F) (k : Bw w w') : Rw w' base B n c F := h.gb (gb_bw k none) (by simp)
theorem Rw.ext {w : World} {base B n c : Nat} {F G : Nat → Nat} (h : Rw w base B n c F) (e : ∀ j, j < n → F j = G j) : Rw w base B n c G := by
 obtain ⟨X, h, q⟩ := h
 exact ⟨X, h, fun j hj => ⟨(q j hj).1, (q j hj).2.trans (e j hj)⟩⟩
theorem Rw.rd {w : World} {base B n c : Nat} {F : Nat → Nat} (h : Rw w base B n c F) : Rd w B 0 n F := ⟨h.lt.2, fun j hj => by rw [Nat.zero_add]; exact h.cell hj⟩
theorem Rw.set {w : World} {base B n c : Nat} {F : Nat → Nat} (h : Rw w base B n c F) (i x : Nat) (hx : x < 18446744073709551616) : Rw (w.setCell ⟨B, i, none⟩ (.float .f64 x)) base B n c (fun j => if j = i then Fl.bitsF x else F j) ∧ w.grownBy (w.setCell ⟨B, i, none⟩ (.float .f64 x)) (some B) := by
 obtain ⟨X, h, q⟩ := h
 obtain ⟨h1, h2⟩ := h.stored i (.float .f64 x)
 rw [fv_set] at h1
 refine ⟨⟨_, h1, fun j hj => ?_⟩, h2⟩
 by_cases e : j = i
 · simp only [e, if_true]; exact ⟨hx, trivial⟩
 · simp only [if_neg e]; exact q j hj
end Sv
end Go.Proofs.YtnjkdfhhlcoaaaaGreat

