/-
  OWN TEXT: what the methods added and Add of package eddybig's whole numbers do.
-/
import Derived.Test.YthfdcembajhgcaaBgV
namespace Go.Proofs.Ythfdcembajhgcaa
open Go.ChangeShapes Go.WideShapes Go.ChangeAt Go.RowKit
open Bg
set_option linter.unusedVariables false
/-- a whole number lies at block B -/
structure Iv (w : World) (B : Nat) (s : Bool) (A : Nat) : Prop where
  nw : Nw w B
  c0 : w.cell? ⟨B, 0, none⟩ = some (.bool s)
  c1 : ∃ v, w.cell? ⟨B, 1, none⟩ = some v ∧ Nm w v A
theorem Iv.mono {w w' : World} {B : Nat} {s : Bool} {A : Nat} (h : Iv w B s A) (f : Fr w w') : Iv w' B s A := by
  have g : ∀ i, w'.cell? ⟨B, i, none⟩ = w.cell? ⟨B, i, none⟩ := fun i => f.1.cell (p := ⟨B, i, none⟩) h.nw.1
  obtain ⟨v, h1, h2⟩ := h.c1
  exact ⟨h.nw.mono f, (g 0).trans h.c0, ⟨v, (g 1).trans h1, h2.mono f⟩⟩
def siW (w : World) (B : Nat) (s : Bool) (x : Value) : World := (w.setCell ⟨B, 1, none⟩ x).setCell ⟨B, 0, none⟩ (.bool s)
theorem Fr.si {a b : World} (h : Fr a b) {B : Nat} (hB : a.heap.size ≤ B) (s : Bool) (x : Value) : Fr a (siW b B s x) :=
  (h.setCell (p := ⟨B, 1, none⟩) hB x).setCell (p := ⟨B, 0, none⟩) hB _
theorem Iv.si {w : World} {B : Nat} {s0 : Bool} {A0 : Nat} (h : Iv w B s0 A0) {x : Value} {A : Nat} (hx : Nm w x A) (s : Bool) : Iv (siW w B s x) B s A := by
  obtain ⟨v, h1, h2⟩ := h.c1
  obtain ⟨a, n, c, rfl, _⟩ := nm_slice hx
  have n1 := h.nw.set 1 (.slice a n c) v h1 (by intro x k; cases k)
  have e0 : (w.setCell ⟨B, 1, none⟩ (.slice a n c)).cell? ⟨B, 0, none⟩ = some (.bool s0) := (World.cell?_setCell_other _ _ _ _ (by intro k; cases k)).trans h.c0
  have e1 : (w.setCell ⟨B, 1, none⟩ (.slice a n c)).cell? ⟨B, 1, none⟩ = some (.slice a n c) := World.cell?_setCell_same _ _ _ h1
  have n2 := n1.set 0 (.bool s) _ e0 (by intro x k; cases k)
  exact ⟨n2, World.cell?_setCell_same _ _ _ e0, ⟨_, (World.cell?_setCell_other _ _ _ _ (by intro k; cases k)).trans e1, (hx.off h.nw _ _).off n1 _ _⟩⟩
/-- the number at B stays while another block is set -/
theorem Iv.other {w : World} {B C : Nat} {s t : Bool} {A E : Nat} (h : Iv w B s A) (k : Iv w C t E) (hne : B ≠ C) (s' : Bool) {x : Value} {X : Nat} (hx : Nm w x X) : Iv (siW w C s' x) B s A := by
  obtain ⟨v, h1, h2⟩ := h.c1
  obtain ⟨u, k1, k2⟩ := k.c1
  obtain ⟨a, n, c, rfl, _⟩ := nm_slice hx
  have n1 := k.nw.set 1 (.slice a n c) u k1 (by intro x k; cases k)
  have g : ∀ i, (siW w C s' (.slice a n c)).cell? ⟨B, i, none⟩ = w.cell? ⟨B, i, none⟩ := fun i =>
    (World.cell?_of_block (a := ⟨B, i, none⟩) (Below.heap_setCell _ _ _ _ hne)).trans (World.cell?_of_block (a := ⟨B, i, none⟩) (Below.heap_setCell _ _ _ _ hne))
  refine ⟨⟨by simpa [siW, World.setCell] using h.nw.1, fun i x => by rw [g]; exact h.nw.2.1 i x, fun i => by unfold siW; rw [World.frozen?_setCell, World.frozen?_setCell]; exact h.nw.2.2 i⟩, (g 0).trans h.c0, ⟨v, (g 1).trans h1, (h2.off k.nw _ _).off n1 _ _⟩⟩
theorem Nm.si {w : World} {C : Nat} {t : Bool} {E : Nat} {v : Value} {N : Nat} (h : Nm w v N) (k : Iv w C t E) (s' : Bool) {x : Value} {X : Nat} (hx : Nm w x X) : Nm (siW w C s' x) v N := by
  obtain ⟨u, k1, k2⟩ := k.c1
  obtain ⟨a, n, c, rfl, _⟩ := nm_slice hx
  exact (h.off k.nw _ _).off (k.nw.set 1 (.slice a n c) u k1 (by intro x k; cases k)) _ _
theorem log2_add (a b : Nat) (k : Nat) (ha : a.log2 < k) (hb : b.log2 < k) : (a + b).log2 < k + 1 := by
  have h1 := Nat.lt_log2_self (n := a)
  have h2 := Nat.lt_log2_self (n := b)
  have h3 : 2 ^ (a.log2 + 1) ≤ 2 ^ k := Nat.pow_le_pow_right (by omega) (by omega)
  have h4 : 2 ^ (b.log2 + 1) ≤ 2 ^ k := Nat.pow_le_pow_right (by omega) (by omega)
  refine log2_lt_of _ _ ?_ (by omega)
  rw [Nat.pow_succ]; omega
def Si (w : World) (B : Nat) (X : Int) (K : Nat) (e : Ending) (w' : World) : Prop :=
  ∃ w1 xv A s, e = .returned (.pointer (some ⟨B, 0, none⟩)) ∧ Fr w w1 ∧ Nm w1 xv A ∧ w' = siW w1 B s xv ∧ sv s A = X ∧ A ≤ K
theorem sv_and (s : Bool) (A : Nat) : sv (s && decide (A ≠ 0)) A = sv s A := by
  by_cases h : A = 0
  · subst h; cases s <;> rfl
  · simp [h]
set_option maxHeartbeats 4000000 in
theorem iadded_any (B : Nat) (v u : Value) (N M : Nat) (s t s0 : Bool) (A0 : Nat) (w : World) (hz : Iv w B s0 A0) (hv : Nm w v N) (hu : Nm w u M) (hN : N.log2 < 32000000) (hM : M.log2 < 32000000) :
    Calls Try.prog 79 #[.pointer (some ⟨B, 0, none⟩), v, .bool s, u, .bool t] w fun e w' => Si w B (sv s N + sv t M) (N + M) e w' := by
  have fin : ∀ w1 xv A m X, Fr w w1 → Nm w1 xv A → sv m A = X → A ≤ N + M → Calls Try.prog 39 #[.pointer (some ⟨B, 0, none⟩), .bool m, xv] w1 fun e w' => e = .returned (.pointer (some ⟨B, 0, none⟩)) ∧ Si w B X (N + M) e w' := by
    intro w1 xv A m X hf hx e1 e2
    have g := hz.mono hf
    obtain ⟨y1, hy1, hy2⟩ := g.c1
    refine (iset_any B m xv A w1 g.nw hx _ _ g.c0 hy1).mono ?_
    rintro e w' ⟨rfl, rfl⟩
    exact ⟨rfl, w1, xv, A, m && decide (A ≠ 0), rfl, hf, hx, rfl, by rw [sv_and]; exact e1, e2⟩
  have FIN : Hid _ := fin
  clear fin
  by_cases hst : s = t
  · subst hst
    have HE : Hid (sv s (N + M) = sv s N + sv s M) := by show _ = _; cases s <;> simp [sv] <;> omega
    generalize sv s N + sv s M = X at *
    go_enter Try.func79, Try.ntmps79
    go_wp2_with (first
      | (go_at_call 81; refine (addWords_any _ _ N M _ hv hu hN hM).mono ?_; rintro e w1 ⟨x, rfl, hx, hf1⟩)
      | (go_at_call 39; refine (FIN.out _ _ _ _ _ hf1 hx HE.out (Nat.le_refl _)).mono ?_; rintro e w2 ⟨rfl, hsi⟩))
    go_ret
    exact hsi
  · have hcm : (cmpI N M < 0 ∧ N < M) ∨ (¬ cmpI N M < 0 ∧ M ≤ N) := by
      unfold cmpI
      split
      · left; omega
      · split <;> (right; omega)
    have hst' : ∀ b : Bool, b = (s == t) → b = false := by intro b hb; rw [hb]; simpa using hst
    rcases hcm with ⟨hc, hlt⟩ | ⟨hc, hle⟩
    · have HE : Hid (sv t (M - N) = sv s N + sv t M) := by show _ = _; cases s <;> cases t <;> simp [sv] at hst ⊢ <;> omega
      generalize sv s N + sv t M = X at *
      generalize hci : cmpI N M = ci at *
      cases s <;> cases t <;> (try (exfalso; exact hst rfl))
      all_goals
        clear hst hst'
        go_enter Try.func79, Try.ntmps79
        go_wp2_with (first
          | (go_at_call 46; refine (cmpWords_any _ _ N M _ hv hu).mono ?_; rintro e w1 ⟨rfl, hf1⟩; rw [hci])
          | (go_at_call 82; refine (subWords_any _ _ M N _ (hu.mono hf1) (hv.mono hf1) hM (Nat.le_of_lt hlt)).mono ?_; rintro e w2 ⟨x, rfl, hx, hf2⟩)
          | (go_at_call 39; refine (FIN.out _ _ _ _ _ (hf1.trans hf2) hx HE.out (by omega)).mono ?_; rintro e w3 ⟨rfl, hsi⟩))
        go_ret
        exact hsi
    · have HE : Hid (sv s (N - M) = sv s N + sv t M) := by show _ = _; cases s <;> cases t <;> simp [sv] at hst ⊢ <;> omega
      generalize sv s N + sv t M = X at *
      generalize hci : cmpI N M = ci at *
      cases s <;> cases t <;> (try (exfalso; exact hst rfl))
      all_goals
        clear hst hst'
        go_enter Try.func79, Try.ntmps79
        go_wp2_with (first
          | (go_at_call 46; refine (cmpWords_any _ _ N M _ hv hu).mono ?_; rintro e w1 ⟨rfl, hf1⟩; rw [hci])
          | (go_at_call 82; refine (subWords_any _ _ N M _ (hv.mono hf1) (hu.mono hf1) hN hle).mono ?_; rintro e w2 ⟨x, rfl, hx, hf2⟩)
          | (go_at_call 39; refine (FIN.out _ _ _ _ _ (hf1.trans hf2) hx HE.out (by omega)).mono ?_; rintro e w3 ⟨rfl, hsi⟩))
        go_ret
        exact hsi
set_option maxHeartbeats 4000000 in
theorem iadd_any (B C E : Nat) (N M : Nat) (s t s0 : Bool) (A0 : Nat) (w : World) (hz : Iv w B s0 A0) (hx : Iv w C s N) (hy : Iv w E t M) (hN : N.log2 < 32000000) (hM : M.log2 < 32000000) :
    Calls Try.prog 67 #[.pointer (some ⟨B, 0, none⟩), .pointer (some ⟨C, 0, none⟩), .pointer (some ⟨E, 0, none⟩)] w fun e w' => Si w B (sv s N + sv t M) (N + M) e w' := by
  obtain ⟨v, h1, h2⟩ := hx.c1
  obtain ⟨u, k1, k2⟩ := hy.c1
  have h0 := hx.c0
  have k0 := hy.c0
  obtain ⟨va, vn, vc, rfl, _⟩ := nm_slice h2
  obtain ⟨ua, un, uc, rfl, _⟩ := nm_slice k2
  have HH : Hid (∀ wz, Fr w wz → Calls Try.prog 79 #[.pointer (some ⟨B, 0, none⟩), .slice va vn vc, .bool s, .slice ua un uc, .bool t] wz fun e w' => e = .returned (.pointer (some ⟨B, 0, none⟩)) ∧ Si w B (sv s N + sv t M) (N + M) e w') := by
    intro wz hz'
    refine (iadded_any B _ _ N M s t s0 A0 wz (hz.mono hz') (h2.mono hz') (k2.mono hz') hN hM).mono ?_
    rintro e w1 ⟨w2, xv, A, s1, rfl, r2, r3, r4, r5, r6⟩
    exact ⟨rfl, w2, xv, A, s1, rfl, hz'.trans r2, r3, r4, r5, r6⟩
  generalize sv s N + sv t M = X at *
  generalize N + M = K at *
  go_enter Try.func67, Try.ntmps67
  go_wp2_with fail
  go_region_with (first
    | (go_at_call 79; refine (HH.out _ ?_).mono ?_; exact (Fr.refl _).drew; rintro e w1 ⟨rfl, hsi⟩))
  all_goals (try go_wp2)
  all_goals go_ret
  all_goals exact hsi
end Go.Proofs.Ythfdcembajhgcaa
