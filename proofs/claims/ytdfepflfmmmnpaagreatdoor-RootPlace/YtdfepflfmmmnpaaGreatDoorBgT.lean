/-
  OWN TEXT: what the method set of package eddybig's whole numbers does.
-/
import Derived.Test.YtdfepflfmmmnpaaGreatDoorBgS
namespace Go.Proofs.YtdfepflfmmmnpaaGreatDoor
open Go.ChangeShapes Go.WideShapes Go.ChangeAt Go.RowKit
open Bg
set_option linter.unusedVariables false
/-- what a value of words is: no bool, no number of 32 bits -/
def Nw (w : World) (B : Nat) : Prop := B < w.heap.size ∧ (∀ i x, w.cell? ⟨B, i, none⟩ ≠ some (.int .u32 x)) ∧ ∀ i, w.frozen? ⟨B, i, none⟩ = false
theorem Nw.mono {w w' : World} {B : Nat} (h : Nw w B) (f : Fr w w') : Nw w' B :=
  ⟨Nat.lt_of_lt_of_le h.1 f.1.size, fun i x => by rw [f.1.cell (p := ⟨B, i, none⟩) h.1]; exact h.2.1 i x, fun i => (f.2 _).trans (h.2.2 i)⟩
theorem Nw.set {w : World} {B : Nat} (h : Nw w B) (i : Nat) (v u : Value) (hc : w.cell? ⟨B, i, none⟩ = some u) (hv : ∀ x, v ≠ .int .u32 x) : Nw (w.setCell ⟨B, i, none⟩ v) B := by
  refine ⟨by simpa [World.setCell] using h.1, fun j x => ?_, fun j => (World.frozen?_setCell _ _ _ _).trans (h.2.2 j)⟩
  by_cases e : i = j
  · subst e
    rw [World.cell?_setCell_same _ _ _ hc]; intro k; exact hv x (by simpa using k)
  · rw [World.cell?_setCell_other _ _ _ _ (by intro k; cases k; exact e rfl)]
    exact h.2.1 j x
theorem Nm.off {w : World} {v : Value} {N B : Nat} (h : Nm w v N) (k : Nw w B) (i : Nat) (u : Value) : Nm (w.setCell ⟨B, i, none⟩ u) v N := by
  obtain ⟨a, l, cap, h1, h2, h3, h4, h5⟩ := h
  refine ⟨a, l, cap, h1, h2, h3, ?_, h5⟩
  rcases h4 with h4 | ⟨b, o, e1, e2, e3⟩
  · exact Or.inl h4
  · by_cases z : l = []
    · exact Or.inl z
    · right
      have hb : b ≠ B := by
        rintro rfl
        have := e3 0 (List.length_pos_iff.2 z)
        exact k.2.1 _ _ this
      refine ⟨b, o, e1, by simpa [World.setCell] using e2, fun j hj => ?_⟩
      rw [World.cell?_of_block (w := w) (a := ⟨b, o + j, none⟩) (Below.heap_setCell _ _ _ _ hb)]
      exact e3 j hj
theorem nm_slice {w : World} {v : Value} {N : Nat} (h : Nm w v N) : ∃ a n c, v = .slice a n c ∧ (n = 0 ↔ N = 0) := by
  obtain ⟨a, n, c, e, _, _, z, _⟩ := nm_zero h
  exact ⟨a, n, c, e, z⟩
theorem trim_same (v : Value) (N : Nat) (w : World) (h : Nm w v N) : Calls Tryz.prog 103 #[v] w fun e w' => e = .returned v ∧ w' = w := by
  obtain ⟨a, l, cap, rfl, h2, h3, h4, h5, h6, h7⟩ := h
  refine (trim_any a l cap w h4 h2 h3).mono ?_
  rintro e w' ⟨rfl, rfl⟩
  exact ⟨by rw [h7], rfl⟩
def den (D : Nat) : Nat := if D = 0 then 1 else D
theorem den_pos (D : Nat) : 0 < den D := by unfold den; split <;> omega
def st (w : World) (B : Nat) (s : Bool) (x d : Value) : World := ((w.setCell ⟨B, 1, none⟩ x).setCell ⟨B, 0, none⟩ (.bool s)).setCell ⟨B, 2, none⟩ d
/-- a fraction lies at block B: its sign, its words above the line, its words below it (none: 1) -/
structure Rt (w : World) (B : Nat) (s : Bool) (A D : Nat) : Prop where
  nw : Nw w B
  c0 : w.cell? ⟨B, 0, none⟩ = some (.bool s)
  c1 : ∃ v, w.cell? ⟨B, 1, none⟩ = some v ∧ Nm w v A
  c2 : ∃ v, w.cell? ⟨B, 2, none⟩ = some v ∧ Nm w v D
theorem Rt.mono {w w' : World} {B : Nat} {s : Bool} {A D : Nat} (h : Rt w B s A D) (f : Fr w w') : Rt w' B s A D := by
  have g : ∀ i, w'.cell? ⟨B, i, none⟩ = w.cell? ⟨B, i, none⟩ := fun i => f.1.cell (p := ⟨B, i, none⟩) h.nw.1
  obtain ⟨v, h1, h2⟩ := h.c1
  obtain ⟨u, h3, h4⟩ := h.c2
  exact ⟨h.nw.mono f, (g 0).trans h.c0, ⟨v, (g 1).trans h1, h2.mono f⟩, ⟨u, (g 2).trans h3, h4.mono f⟩⟩
theorem Rt.st {w : World} {B : Nat} {s0 : Bool} {A0 D0 : Nat} (h : Rt w B s0 A0 D0) {x d : Value} {A D : Nat} (hx : Nm w x A) (hd : Nm w d D) (s : Bool) : Rt (st w B s x d) B s A D := by
  obtain ⟨v, h1, h2⟩ := h.c1
  obtain ⟨u, h3, h4⟩ := h.c2
  obtain ⟨a, n, c, rfl, _⟩ := nm_slice hx
  obtain ⟨a', n', c', rfl, _⟩ := nm_slice hd
  have n1 := h.nw.set 1 (.slice a n c) v h1 (by intro x k; cases k)
  have e0 : (w.setCell ⟨B, 1, none⟩ (.slice a n c)).cell? ⟨B, 0, none⟩ = some (.bool s0) := (World.cell?_setCell_other _ _ _ _ (by intro k; cases k)).trans h.c0
  have e2 : (w.setCell ⟨B, 1, none⟩ (.slice a n c)).cell? ⟨B, 2, none⟩ = some u := (World.cell?_setCell_other _ _ _ _ (by intro k; cases k)).trans h3
  have e1 : (w.setCell ⟨B, 1, none⟩ (.slice a n c)).cell? ⟨B, 1, none⟩ = some (.slice a n c) := World.cell?_setCell_same _ _ _ h1
  have n2 := n1.set 0 (.bool s) _ e0 (by intro x k; cases k)
  have g2 := (World.cell?_setCell_other (w.setCell ⟨B, 1, none⟩ (.slice a n c)) (a := ⟨B, 0, none⟩) (b := ⟨B, 2, none⟩) (.bool s) (by intro k; cases k)).trans e2
  have g1 := (World.cell?_setCell_other (w.setCell ⟨B, 1, none⟩ (.slice a n c)) (a := ⟨B, 0, none⟩) (b := ⟨B, 1, none⟩) (.bool s) (by intro k; cases k)).trans e1
  have g0 := World.cell?_setCell_same (w.setCell ⟨B, 1, none⟩ (.slice a n c)) ⟨B, 0, none⟩ (.bool s) e0
  have n3 := n2.set 2 (.slice a' n' c') _ g2 (by intro x k; cases k)
  refine ⟨n3, (World.cell?_setCell_other _ _ _ _ (by intro k; cases k)).trans g0, ⟨_, (World.cell?_setCell_other _ _ _ _ (by intro k; cases k)).trans g1, ((hx.off h.nw _ _).off n1 _ _).off n2 _ _⟩, ⟨_, World.cell?_setCell_same _ _ _ g2, ((hd.off h.nw _ _).off n1 _ _).off n2 _ _⟩⟩
theorem Fr.st {a b : World} (h : Fr a b) {B : Nat} (hB : a.heap.size ≤ B) (s : Bool) (x d : Value) : Fr a (st b B s x d) :=
  ((h.setCell (p := ⟨B, 1, none⟩) hB x).setCell (p := ⟨B, 0, none⟩) hB _).setCell (p := ⟨B, 2, none⟩) hB _
theorem nm_one {w : World} {v : Value} {N : Nat} (h : Nm w v N) : (∃ b o c, v = .slice (some ⟨b, o, none⟩) 1 c ∧ w.cell? ⟨b, o, none⟩ = some (.int .u32 (N : Nat)) ∧ 1 ≤ c ∧ c ≤ 1099511627776 ∧ b < w.heap.size ∧ N < 4294967296) ∨ (∃ a n c, v = .slice a n c ∧ n ≠ 1 ∧ N ≠ 1 ∧ n ≤ c ∧ c ≤ 1099511627776) := by
  obtain ⟨a, l, c, rfl, h1, h2, h3, h4, rfl, h6⟩ := h
  by_cases z : l.length = 1
  · left
    obtain ⟨x, rfl⟩ := List.length_eq_one_iff.1 z
    obtain ⟨b, o, rfl, hb, hc⟩ := hs_len h3 (by simp)
    refine ⟨b, o, c, rfl, ?_, h1, h2, hb, ?_⟩
    · have := hc 0 (by simp)
      rw [vL_one]
      simpa using this
    · rw [vL_one]
      exact h4 0
  · right
    refine ⟨a, l.length, c, rfl, z, ?_, h1, h2⟩
    intro e
    have a1 := vL_ge l h6 (by intro k; subst k; simp [vL] at e)
    rw [e] at a1
    have : l.length - 1 = 0 := by
      rcases Nat.eq_zero_or_pos (l.length - 1) with h | h
      · exact h
      · have : 4294967296 ^ 1 ≤ 4294967296 ^ (l.length - 1) := Nat.pow_le_pow_right (by omega) h
        omega
    have : l = [] := List.length_eq_zero_iff.1 (by omega)
    subst this
    simp [vL] at e
end Go.Proofs.YtdfepflfmmmnpaaGreatDoor
