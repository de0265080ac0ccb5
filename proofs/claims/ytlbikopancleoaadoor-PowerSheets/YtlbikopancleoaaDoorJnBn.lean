/-
  OWN TEXT: what the method set of package eddybig's whole numbers does.
-/
import Derived.Test.YtlbikopancleoaaDoorJnBm
import Derived.Test.YtlbikopancleoaaDoorJnBk
import Derived.Test.YtlbikopancleoaaDoorJnBa
namespace Go.Proofs.YtlbikopancleoaaDoor
open Go.ChangeShapes Go.WideShapes Go.ChangeAt Go.RowKit
open Bg
set_option linter.unusedVariables false
/-- what a value of words is: no bool, no number of 32 bits -/
def Nw (w : World) (B : Nat) : Prop := B < w.heap.size ∧ (∀ i x, w.cell? ⟨B, i, none⟩ ≠ some (.int .u32 x)) ∧ ∀ i, w.frozen? ⟨B, i, none⟩ = false
theorem Nw.mono {w w' : World} {B : Nat} (h : Nw w B) (f : Fr w w') : Nw w' B :=
  ⟨Nat.lt_of_lt_of_le h.1 f.1.size, fun i x => by rw [f.1.cell (p := ⟨B, i, none⟩) h.1]; exact h.2.1 i x, fun i => (f.2 _).trans (h.2.2 i)⟩
theorem Nw.set {w : World} {B : Nat} (h : Nw w B) (i : Nat) (v u : Value) (hc : w.cell? ⟨B, i, none⟩ = some u) (hv : ∀ x, v ≠ .int .u32 x) : Nw (w.setCell ⟨B, i, none⟩ v) B := by
  refine ⟨by simpa [World.setCell] using h.1, fun j x => ?_, fun j => (World.frozen?_setCell _ _ _ _).trans (h.2.2 j)⟩
  by_cases e : i = j
  · subst e
    rw [World.cell?_setCell_same _ _ _ hc]; intro k; exact hv x (by simpa using k)
  · rw [World.cell?_setCell_other _ _ _ _ (by intro k; cases k; exact e rfl)]
    exact h.2.1 j x
theorem Nm.off {w : World} {v : Value} {N B : Nat} (h : Nm w v N) (k : Nw w B) (i : Nat) (u : Value) : Nm (w.setCell ⟨B, i, none⟩ u) v N := by
  obtain ⟨a, l, cap, h1, h2, h3, h4, h5⟩ := h
  refine ⟨a, l, cap, h1, h2, h3, ?_, h5⟩
  rcases h4 with h4 | ⟨b, o, e1, e2, e3⟩
  · exact Or.inl h4
  · by_cases z : l = []
    · exact Or.inl z
    · right
      have hb : b ≠ B := by
        rintro rfl
        have := e3 0 (List.length_pos_iff.2 z)
        exact k.2.1 _ _ this
      refine ⟨b, o, e1, by simpa [World.setCell] using e2, fun j hj => ?_⟩
      rw [World.cell?_of_block (w := w) (a := ⟨b, o + j, none⟩) (Below.heap_setCell _ _ _ _ hb)]
      exact e3 j hj
theorem nm_slice {w : World} {v : Value} {N : Nat} (h : Nm w v N) : ∃ a n c, v = .slice a n c ∧ (n = 0 ↔ N = 0) := by
  obtain ⟨a, n, c, e, _, _, z, _⟩ := nm_zero h
  exact ⟨a, n, c, e, z⟩
theorem trim_same (v : Value) (N : Nat) (w : World) (h : Nm w v N) : Calls Tryd.prog 83 #[v] w fun e w' => e = .returned v ∧ w' = w := by
  obtain ⟨a, l, cap, rfl, h2, h3, h4, h5, h6, h7⟩ := h
  refine (trim_any a l cap w h4 h2 h3).mono ?_
  rintro e w' ⟨rfl, rfl⟩
  exact ⟨by rw [h7], rfl⟩
def den (D : Nat) : Nat := if D = 0 then 1 else D
theorem den_pos (D : Nat) : 0 < den D := by unfold den; split <;> omega
def st (w : World) (B : Nat) (s : Bool) (x d : Value) : World := ((w.setCell ⟨B, 1, none⟩ x).setCell ⟨B, 0, none⟩ (.bool s)).setCell ⟨B, 2, none⟩ d
/-- a fraction lies at block B: its sign, its words above the line, its words below it (none: 1) -/
structure Rt (w : World) (B : Nat) (s : Bool) (A D : Nat) : Prop where
  nw : Nw w B
  c0 : w.cell? ⟨B, 0, none⟩ = some (.bool s)
  c1 : ∃ v, w.cell? ⟨B, 1, none⟩ = some v ∧ Nm w v A
  c2 : ∃ v, w.cell? ⟨B, 2, none⟩ = some v ∧ Nm w v D
theorem Rt.mono {w w' : World} {B : Nat} {s : Bool} {A D : Nat} (h : Rt w B s A D) (f : Fr w w') : Rt w' B s A D := by
  have g : ∀ i, w'.cell? ⟨B, i, none⟩ = w.cell? ⟨B, i, none⟩ := fun i => f.1.cell (p := ⟨B, i, none⟩) h.nw.1
  obtain ⟨v, h1, h2⟩ := h.c1
  obtain ⟨u, h3, h4⟩ := h.c2
  exact ⟨h.nw.mono f, (g 0).trans h.c0, ⟨v, (g 1).trans h1, h2.mono f⟩, ⟨u, (g 2).trans h3, h4.mono f⟩⟩
theorem Rt.st {w : World} {B : Nat} {s0 : Bool} {A0 D0 : Nat} (h : Rt w B s0 A0 D0) {x d : Value} {A D : Nat} (hx : Nm w x A) (hd : Nm w d D) (s : Bool) : Rt (st w B s x d) B s A D := by
  obtain ⟨v, h1, h2⟩ := h.c1
  obtain ⟨u, h3, h4⟩ := h.c2
  obtain ⟨a, n, c, rfl, _⟩ := nm_slice hx
  obtain ⟨a', n', c', rfl, _⟩ := nm_slice hd
  have n1 := h.nw.set 1 (.slice a n c) v h1 (by intro x k; cases k)
  have e0 : (w.setCell ⟨B, 1, none⟩ (.slice a n c)).cell? ⟨B, 0, none⟩ = some (.bool s0) := (World.cell?_setCell_other _ _ _ _ (by intro k; cases k)).trans h.c0
  have e2 : (w.setCell ⟨B, 1, none⟩ (.slice a n c)).cell? ⟨B, 2, none⟩ = some u := (World.cell?_setCell_other _ _ _ _ (by intro k; cases k)).trans h3
  have e1 : (w.setCell ⟨B, 1, none⟩ (.slice a n c)).cell? ⟨B, 1, none⟩ = some (.slice a n c) := World.cell?_setCell_same _ _ _ h1
  have n2 := n1.set 0 (.bool s) _ e0 (by intro x k; cases k)
  have g2 := (World.cell?_setCell_other (w.setCell ⟨B, 1, none⟩ (.slice a n c)) (a := ⟨B, 0, none⟩) (b := ⟨B, 2, none⟩) (.bool s) (by intro k; cases k)).trans e2
  have g1 := (World.cell?_setCell_other (w.setCell ⟨B, 1, none⟩ (.slice a n c)) (a := ⟨B, 0, none⟩) (b := ⟨B, 1, none⟩) (.bool s) (by intro k; cases k)).trans e1
  have g0 := World.cell?_setCell_same (w.setCell ⟨B, 1, none⟩ (.slice a n c)) ⟨B, 0, none⟩ (.bool s) e0
  have n3 := n2.set 2 (.slice a' n' c') _ g2 (by intro x k; cases k)
  refine ⟨n3, (World.cell?_setCell_other _ _ _ _ (by intro k; cases k)).trans g0, ⟨_, (World.cell?_setCell_other _ _ _ _ (by intro k; cases k)).trans g1, ((hx.off h.nw _ _).off n1 _ _).off n2 _ _⟩, ⟨_, World.cell?_setCell_same _ _ _ g2, ((hd.off h.nw _ _).off n1 _ _).off n2 _ _⟩⟩
theorem Fr.st {a b : World} (h : Fr a b) {B : Nat} (hB : a.heap.size ≤ B) (s : Bool) (x d : Value) : Fr a (st b B s x d) :=
  ((h.setCell (p := ⟨B, 1, none⟩) hB x).setCell (p := ⟨B, 0, none⟩) hB _).setCell (p := ⟨B, 2, none⟩) hB _
theorem nm_one {w : World} {v : Value} {N : Nat} (h : Nm w v N) : (∃ b o c, v = .slice (some ⟨b, o, none⟩) 1 c ∧ w.cell? ⟨b, o, none⟩ = some (.int .u32 (N : Nat)) ∧ 1 ≤ c ∧ c ≤ 1099511627776 ∧ b < w.heap.size ∧ N < 4294967296) ∨ (∃ a n c, v = .slice a n c ∧ n ≠ 1 ∧ N ≠ 1 ∧ n ≤ c ∧ c ≤ 1099511627776) := by
  obtain ⟨a, l, c, rfl, h1, h2, h3, h4, rfl, h6⟩ := h
  by_cases z : l.length = 1
  · left
    obtain ⟨x, rfl⟩ := List.length_eq_one_iff.1 z
    obtain ⟨b, o, rfl, hb, hc⟩ := hs_len h3 (by simp)
    refine ⟨b, o, c, rfl, ?_, h1, h2, hb, ?_⟩
    · have := hc 0 (by simp)
      rw [vL_one]
      simpa using this
    · rw [vL_one]
      exact h4 0
  · right
    refine ⟨a, l.length, c, rfl, z, ?_, h1, h2⟩
    intro e
    have a1 := vL_ge l h6 (by intro k; subst k; simp [vL] at e)
    rw [e] at a1
    have : l.length - 1 = 0 := by
      rcases Nat.eq_zero_or_pos (l.length - 1) with h | h
      · exact h
      · have : 4294967296 ^ 1 ≤ 4294967296 ^ (l.length - 1) := Nat.pow_le_pow_right (by omega) h
        omega
    have : l = [] := List.length_eq_zero_iff.1 (by omega)
    subst this
    simp [vL] at e
end Go.Proofs.YtlbikopancleoaaDoor
/-
  OWN TEXT: what the methods of package eddybig's floats do to a number of at most 53 bits.
-/
namespace Go.Proofs.YtlbikopancleoaaDoor
open Go.ChangeShapes Go.WideShapes Go.ChangeAt Go.RowKit
open Bg
set_option linter.unusedVariables false
/-- a float of package eddybig lies at block B: its sign, its words, its power, how many bits it may have; it is not beyond all -/
structure Ft (w : World) (B : Nat) (s : Bool) (A : Nat) (e : Int) (m : Nat) : Prop where
  nw : Nw w B
  c0 : w.cell? ⟨B, 0, none⟩ = some (.bool s)
  c1 : ∃ v, w.cell? ⟨B, 1, none⟩ = some v ∧ Nm w v A
  c2 : w.cell? ⟨B, 2, none⟩ = some (.int .i64 e)
  c3 : w.cell? ⟨B, 3, none⟩ = some (.int .i64 (m : Int))
  c4 : w.cell? ⟨B, 4, none⟩ = some (.bool false)
theorem Ft.mono {w w' : World} {B : Nat} {s : Bool} {A : Nat} {e : Int} {m : Nat} (h : Ft w B s A e m) (f : Fr w w') : Ft w' B s A e m := by
  have g : ∀ i, w'.cell? ⟨B, i, none⟩ = w.cell? ⟨B, i, none⟩ := fun i => f.1.cell (p := ⟨B, i, none⟩) h.nw.1
  obtain ⟨v, h1, h2⟩ := h.c1
  exact ⟨h.nw.mono f, (g 0).trans h.c0, ⟨v, (g 1).trans h1, h2.mono f⟩, (g 2).trans h.c2, (g 3).trans h.c3, (g 4).trans h.c4⟩
/-- the world with the float at B set -/
def sf (w : World) (B : Nat) (s : Bool) (x : Value) (e : Int) : World := (((w.setCell ⟨B, 1, none⟩ x).setCell ⟨B, 2, none⟩ (.int .i64 e)).setCell ⟨B, 0, none⟩ (.bool s)).setCell ⟨B, 4, none⟩ (.bool false)
/-- what a call leaves that has set the float at B to N by the power e -/
def Sf (w : World) (B : Nat) (s : Bool) (N : Nat) (ex : Int) (e : Ending) (w' : World) : Prop :=
  e = .returned (.pointer (some ⟨B, 0, none⟩)) ∧ ∃ w1 x k, Fr w w1 ∧ Nm w1 x (N / 2 ^ k) ∧ 2 ^ k ∣ N ∧ k ≤ N.log2 ∧ w' = sf w1 B s x (ex + (k : Int))
set_option maxHeartbeats 4000000 in
theorem fset_walk (B : Nat) (s s0 : Bool) (v : Value) (N A0 : Nat) (ex e0 : Int) (w : World) (hz : Ft w B s0 A0 e0 53) (hv : Nm w v N) (hN : 0 < N) (hN2 : N < 9007199254740992) (hT : Tab w) (he : -100000 < ex) (he' : ex < 100000) :
    Calls Tryd.prog 76 #[.pointer (some ⟨B, 0, none⟩), .bool s, v, .int .i64 ex, .bool false] w fun x w' => Sf w B s N ex x w' := by
  have hlog : N.log2 < 53 := (Nat.log2_lt (by omega)).2 (by omega)
  have eb : bitLen N = N.log2 + 1 := by unfold bitLen; rw [if_neg (by omega)]
  obtain ⟨b, hb, hb0, hb1⟩ : ∃ b : Int, (bitLen N : Int) = b ∧ 0 < b ∧ b ≤ 53 := ⟨_, rfl, by omega, by omega⟩
  have BL : Hid (∀ wz, Nm wz v N → Calls Tryd.prog 84 #[v] wz fun e w' => e = .returned (.int .i64 b) ∧ w' = wz) := by
    intro wz hv
    rw [← hb]
    exact bitLen_any v N wz hv (by omega)
  have c3 := hz.c3
  have HZ : Hid _ := hz
  clear eb hb hz
  go_enter Tryd.func76, Tryd.ntmps76
  go_wp2_with fail
  refine (trim_same _ N _ hv).mono ?_
  rintro e w ⟨rfl, rfl⟩
  go_wp2_with fail
  have S0 : w.drew.cell? ⟨B, 3, none⟩ = some (.int .i64 53) := c3
  refine wp_region_K (fun w' => w'.cell? ⟨B, 3, none⟩ = some (.int .i64 53)) 6 8 #[false, false, false, false, false, false, false, false] (by kernel_rfl) (by kernel_rfl) (by kernel_rfl) ?_
  refine wpAnyK_take 0 17 (v := ?v0) rfl (by kernel_rfl) (by kernel_rfl) (by kernel_rfl) (by kernel_rfl) (by kernel_rfl) (fun _ _ _ h => h) rfl (Or.inl ⟨by rfl, ?h0⟩) (by assumption) ?r0
  case h0 => (intro w hSw; go_simp; with_reducible rfl)
  simp only [Act.put, List.setIfInBounds_toArray, List.set_cons_zero, List.set_cons_succ]
  refine wpAnyK_take 2 19 (v := ?v2) rfl (by kernel_rfl) (by kernel_rfl) (by kernel_rfl) (by kernel_rfl) (by kernel_rfl) (fun _ _ _ h => h) rfl (Or.inl ⟨by rfl, ?h2⟩) (by assumption) ?r2
  case h2 => (intro w hSw; go_simp; with_reducible rfl)
  simp only [Act.put, List.setIfInBounds_toArray, List.set_cons_zero, List.set_cons_succ]
  refine wpAnyK_take 3 20 (v := ?v3) rfl (by kernel_rfl) (by kernel_rfl) (by kernel_rfl) (by kernel_rfl) (by kernel_rfl) (fun _ _ _ h => h) rfl (Or.inl ⟨by rfl, ?h3⟩) (by assumption) ?r3
  case h3 => (intro w hSw; go_simp; with_reducible rfl)
  simp only [Act.put, List.setIfInBounds_toArray, List.set_cons_zero, List.set_cons_succ]
  refine wpAnyK_take 4 21 (v := ?v4) rfl (by kernel_rfl) (by kernel_rfl) (by kernel_rfl) (by kernel_rfl) (by kernel_rfl) (fun _ _ _ h => h) rfl (Or.inl ⟨by rfl, ?h4⟩) (by assumption) ?r4
  case h4 => (intro w hSw; go_simp; with_reducible rfl)
  simp only [Act.put, List.setIfInBounds_toArray, List.set_cons_zero, List.set_cons_succ]
  refine wpAnyK_take 5 22 (v := ?v5) rfl (by kernel_rfl) (by kernel_rfl) (by kernel_rfl) (by kernel_rfl) (by kernel_rfl) (fun _ _ _ h => h) rfl (Or.inl ⟨by rfl, ?h5⟩) (by assumption) ?r5
  case h5 => (intro w hSw; go_simp; with_reducible rfl)
  simp only [Act.put, List.setIfInBounds_toArray, List.set_cons_zero, List.set_cons_succ]
  refine wpAnyK_one 1 (by kernel_rfl) rfl (fun K hK => ?_)
  go_simp
  go_wp2_with (go_at_call 84; refine (BL.out _ (hv.mono (Fr.refl _).drew)).mono ?_; rintro e w9 ⟨rfl, hw9⟩; subst hw9)
  refine hK.out _ _ (fun _ _ => S0) ?_
  clear hK K
  simp only [List.setIfInBounds_toArray, List.set_cons_zero, List.set_cons_succ]
  refine wpAnyK_one 6 (by kernel_rfl) rfl (fun K hK => ?_)
  go_simp
  refine hK.out _ _ (fun h => absurd rfl h) ?_
  clear hK K
  simp only [List.setIfInBounds_toArray, List.set_cons_zero, List.set_cons_succ]
  refine wpAnyK_one 7 (by kernel_rfl) rfl (fun K hK => ?_)
  go_simp
  refine hK.out _ _ (fun _ h => absurd h (by decide)) ?_
  clear hK K
  simp only [List.setIfInBounds_toArray, List.set_cons_zero, List.set_cons_succ]
  refine wpAnyK_done (by kernel_rfl) ?_ _
  go_wp2_with fail
  refine (zeros_any v N _ (hv.mono (Fr.refl _).drew) hN (by omega) hT).mono ?_
  rintro e w2 ⟨k, rfl, hk1, hk2, hw2⟩
  subst hw2
  have hpk := Nat.two_pow_pos k
  have hq0 : 0 < N / 2 ^ k := Nat.div_pos (Nat.le_of_dvd hN hk1) hpk
  have hql : (N / 2 ^ k).log2 < 32000000 := by
    have : (N / 2 ^ k).log2 < 53 := (Nat.log2_lt (by omega)).2 (Nat.lt_of_le_of_lt (Nat.div_le_self _ _) (by omega))
    omega
  have HK : Hid (2 ^ k ∣ N) := hk1
  have hk3 : k < 53 := by omega
  have DW : Hid (∀ wz, Nm wz v N → Calls Tryd.prog 86 #[v, .int .i64 (k : Int)] wz fun e w' => ∃ x, e = .returned x ∧ Nm w' x (N / 2 ^ k) ∧ Fr wz w') := fun wz hv => down_words v N k wz hv (by omega) (by omega)
  clear hk1 hpk
  generalize hQ : N / 2 ^ k = Q at *
  have HQ : Hid (N / 2 ^ k = Q) := hQ
  clear hQ
  go_wp2_with fail
  refine (DW.out _ (hv.mono (Fr.refl _).drew)).mono ?_
  rintro e w2 ⟨x1, rfl, hx1, f2⟩
  go_wp2_with fail
  refine (copied_any x1 _ _ hx1 (by omega)).mono ?_
  rintro e w3 ⟨x2, rfl, hx2, f3⟩
  have f4 : Fr w w3 := ((Fr.refl w).drew.trans f2).trans f3
  have hz3 := HZ.out.mono f4
  obtain ⟨xa, xn, xc, rfl, hxn⟩ := nm_slice hx2
  have hxn' : ((xn : Int) == 0) = false := by rw [beq_eq_false_iff_ne]; intro e; have := hxn.1 (by omega); omega
  obtain ⟨v0, d1, _⟩ := hz3.c1
  have d0 := hz3.c0
  have d2 := hz3.c2
  have d4 := hz3.c4
  have g0 := hz3.nw.2.2 0
  have g1 := hz3.nw.2.2 1
  have g2 := hz3.nw.2.2 2
  have g4 := hz3.nw.2.2 4
  have FIN : Hid (∀ e, e = .returned (.pointer (some ⟨B, 0, none⟩)) → Sf w B s N ex e (sf w3 B s (.slice xa xn xc) (ex + (k : Int)))) := by
    intro e he
    exact ⟨he, w3, _, k, f4, by rw [HQ.out]; exact hx2, HK.out, hk2, rfl⟩
  clear HZ HK HQ DW BL hz3 f2 f3 f4 hx1 hx2 hxn c3 S0 hv hT
  go_wp2_with fail
  go_ret
  exact FIN.out _ rfl
/-- .. and it lies there -/
theorem sf_ft {w : World} {B : Nat} {s0 : Bool} {A0 : Nat} {e0 : Int} {m : Nat} (h : Ft w B s0 A0 e0 m) {x : Value} {A : Nat} (hx : Nm w x A) (s : Bool) (e : Int) : Ft (sf w B s x e) B s A e m := by
  obtain ⟨v, h1, h2⟩ := h.c1
  obtain ⟨a, n, c, rfl, _⟩ := nm_slice hx
  have oth : ∀ (w : World) (i j : Nat) (u : Value), i ≠ j → (w.setCell ⟨B, i, none⟩ u).cell? ⟨B, j, none⟩ = w.cell? ⟨B, j, none⟩ := fun w i j u hne => World.cell?_setCell_other _ _ _ _ (by intro k; cases k; exact hne rfl)
  have n1 := h.nw.set 1 (.slice a n c) v h1 (by intro x k; cases k)
  have n2 := n1.set 2 (.int .i64 e) _ ((oth _ 1 2 _ (by decide)).trans h.c2) (by intro x k; cases k)
  have n3 := n2.set 0 (.bool s) _ ((oth _ 2 0 _ (by decide)).trans ((oth _ 1 0 _ (by decide)).trans h.c0)) (by intro x k; cases k)
  have n4 := n3.set 4 (.bool false) _ ((oth _ 0 4 _ (by decide)).trans ((oth _ 2 4 _ (by decide)).trans ((oth _ 1 4 _ (by decide)).trans h.c4))) (by intro x k; cases k)
  refine ⟨n4, ?_, ⟨.slice a n c, ?_, (((hx.off h.nw _ _).off n1 _ _).off n2 _ _).off n3 _ _⟩, ?_, ?_, ?_⟩
  · exact (oth _ 4 0 _ (by decide)).trans (World.cell?_setCell_same _ _ _ ((oth _ 2 0 _ (by decide)).trans ((oth _ 1 0 _ (by decide)).trans h.c0)))
  · exact (oth _ 4 1 _ (by decide)).trans ((oth _ 0 1 _ (by decide)).trans ((oth _ 2 1 _ (by decide)).trans (World.cell?_setCell_same _ _ _ h1)))
  · exact (oth _ 4 2 _ (by decide)).trans ((oth _ 0 2 _ (by decide)).trans (World.cell?_setCell_same _ _ _ ((oth _ 1 2 _ (by decide)).trans h.c2)))
  · exact (oth _ 4 3 _ (by decide)).trans ((oth _ 0 3 _ (by decide)).trans ((oth _ 2 3 _ (by decide)).trans ((oth _ 1 3 _ (by decide)).trans h.c3)))
  · exact World.cell?_setCell_same _ _ _ ((oth _ 0 4 _ (by decide)).trans ((oth _ 2 4 _ (by decide)).trans ((oth _ 1 4 _ (by decide)).trans h.c4)))
theorem Fr.sf {a b : World} (h : Fr a b) {B : Nat} (hB : a.heap.size ≤ B) (s : Bool) (x : Value) (e : Int) : Fr a (sf b B s x e) :=
  (((h.setCell (p := ⟨B, 1, none⟩) hB x).setCell (p := ⟨B, 2, none⟩) hB _).setCell (p := ⟨B, 0, none⟩) hB _).setCell (p := ⟨B, 4, none⟩) hB _
/-- a float at B is worth V units of 2^-1074 by 2^n: it has at most 53 bits -/
def Fw (w : World) (B : Nat) (s : Bool) (N : Nat) (ex : Int) : Prop := ∃ A k : Nat, Ft w B s A (ex + (k : Int)) 53 ∧ A * 2 ^ k = N ∧ 0 < A ∧ A < 9007199254740992 ∧ k ≤ 53
theorem sf_fw {w w1 w' : World} {B N : Nat} {s s0 : Bool} {A0 : Nat} {e0 ex : Int} {e : Ending} (hz : Ft w B s0 A0 e0 53) (hN : 0 < N) (hN2 : N < 9007199254740992) (h : Sf w B s N ex e w') : Fw w' B s N ex := by
  obtain ⟨_, w1, x, k, h1, h2, h3, h4, rfl⟩ := h
  have hp := Nat.two_pow_pos k
  have hl : N.log2 < 53 := (Nat.log2_lt (by omega)).2 (by omega)
  exact ⟨N / 2 ^ k, k, sf_ft (hz.mono h1) h2 s _, Nat.div_mul_cancel h3, Nat.div_pos (Nat.le_of_dvd hN h3) hp, Nat.lt_of_le_of_lt (Nat.div_le_self _ _) hN2, by omega⟩
end Go.Proofs.YtlbikopancleoaaDoor
