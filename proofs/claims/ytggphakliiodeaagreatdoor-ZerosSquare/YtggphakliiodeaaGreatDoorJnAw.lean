/-
  OWN TEXT: lists of whole complex numbers in memory; package poly's tests of lists.
-/
import Derived.Test.YtggphakliiodeaaGreatDoorJnAt
namespace Go.Proofs.YtggphakliiodeaaGreatDoor
open Go.ChangeShapes Go.WideShapes Go.ChangeAt Go.RowKit
set_option linter.unusedVariables false
attribute [local go_sem] frombits_call tobits_call run_neg
/-- the list l lies at block b, from o on -/
def Gl (c : Nat) (w : World) (b o : Nat) (l : List Py.G) : Prop := b < w.heap.size ∧ ∀ i, i < l.length → ∃ x y, w.cell? ⟨b, o + i, none⟩ = some (.complex .f64 x y) ∧ wC c x y (Py.co l i)
theorem Gl.bw {c : Nat} {w w' : World} {b o : Nat} {l : List Py.G} (h : Gl c w b o l) (k : Bw w w') : Gl c w' b o l := by
  obtain ⟨h1, h2⟩ := h
  have hs : w.heap.size ≤ w'.heap.size := Below.size k
  refine ⟨by omega, fun i hi => ?_⟩
  obtain ⟨x, y, e, q⟩ := h2 i hi
  exact ⟨x, y, (Below.cell k (p := ⟨b, o + i, none⟩) h1).trans e, q⟩
/-- the same, and it may be written -/
def Gw (c : Nat) (w : World) (B : Nat) (l : List Py.G) : Prop := Gl c w B 0 l ∧ ∀ i, w.frozen? ⟨B, i, none⟩ = false
theorem Gw.set {c : Nat} {w : World} {B : Nat} {l : List Py.G} (h : Gw c w B l) (i x y : Nat) (g : Py.G) (hi : i < l.length) (hg : wC c x y g) : Gw c (w.setCell ⟨B, i, none⟩ (.complex .f64 x y)) B (l.set i g) := by
  obtain ⟨⟨h1, h2⟩, h3⟩ := h
  refine ⟨⟨by simpa [World.setCell] using h1, fun j hj => ?_⟩, fun j => (World.frozen?_setCell _ _ _ _).trans (h3 j)⟩
  rw [List.length_set] at hj
  rw [Py.co_set _ _ _ _ hi]
  obtain ⟨x', y', e, q⟩ := h2 j hj
  by_cases k : j = i
  · subst k
    rw [if_pos rfl]
    exact ⟨x, y, by rw [Nat.zero_add] at e ⊢; exact World.cell?_setCell_same _ _ _ e, hg⟩
  · rw [if_neg k]
    refine ⟨x', y', ?_, q⟩
    rw [World.cell?_setCell_other]
    · exact e
    · intro e'; cases e'; omega
theorem last8 {c : Nat} {w : World} {b o cap : Nat} {l : List Py.G} (n : Nat) (hn : l.length = n + 1) (hm : n < 1000000) (h : Gl c w b o l) : ∃ x y, wC c x y (Py.co l n) ∧ Calls Tryz.prog 48 #[.slice (some ⟨b, o, none⟩) (n + 1) cap] w fun e w' => e = .returned (.complex .f64 x y) ∧ w' = w := by
  obtain ⟨x, y, e, q⟩ := h.2 n (by omega)
  refine ⟨x, y, q, ?_⟩
  clear q h hn
  go_enter Tryz.func48, Tryz.ntmps48
  go_wp2
  go_ret
  exact ⟨rfl, rfl⟩
theorem places8 {c : Nat} (hc : c = 1074) {w : World} {b o cap : Nat} {l : List Py.G} (n : Nat) (hn : l.length = n) (hm : n < 1000000) (h : Gl c w b o l) (hl : ∀ i, i < n → Py.Le (Py.co l i) 1099511627776) : Calls Tryz.prog 14 #[.slice (some ⟨b, o, none⟩) n cap] w fun e w' => e = .returned (.bool true) ∧ Bw w w' := by
  have HL : Hid (∀ i, i < n → Py.Le (Py.co l i) 1099511627776) := hl
  have HG : Hid (Gl c w b o l) := h
  have HN : Hid (l.length = n) := hn
  clear hl h hn
  go_enter Tryz.func14, Tryz.ntmps14
  go_wp2
  go_loopw [7] (fun i wr => ∃ k : Nat, k ≤ n ∧ i = .int .i64 k ∧ Bw w wr) (fun i _ => n - (intOf i).toNat)
  case atStart => exact ⟨0, Nat.zero_le _, rfl, Bw.refl _⟩
  case round =>
    obtain ⟨k, hk, rfl, hbw⟩ := hrel
    by_cases hk1 : k < n
    · obtain ⟨x, y, e, q⟩ := (HG.out.bw hbw).2 k (by have := HN.out; omega)
      have P : Hid (∀ wz, Calls Tryz.prog 44 #[.complex .f64 x y] wz fun e w' => e = .returned (.bool true) ∧ w' = wz) := fun wz => pwithin8 hc q (HL.out k hk1) wz
      clear q
      have hk2 : (k : Int) < n := by omega
      go_wp2_with fail
      refine (P.out _).mono ?_
      rintro e' w1 ⟨rfl, rfl⟩
      clear P e
      go_wp2
      go_roundw
      case rel => exact ⟨k + 1, by omega, by simp, hbw⟩
      case measure => simp [intOf]; omega
    · have hk3 : k = n := by omega
      subst hk3
      go_wp2
      go_ret
      exact ⟨rfl, hbw⟩
end Go.Proofs.YtggphakliiodeaaGreatDoor
/-
  OWN TEXT: package poly: Check, copies, answers, of lists of whole complex numbers.
-/
namespace Go.Proofs.YtggphakliiodeaaGreatDoor
open Go.ChangeShapes Go.WideShapes Go.ChangeAt Go.RowKit
set_option linter.unusedVariables false
attribute [local go_sem] frombits_call tobits_call run_neg
theorem hide {p : Prop} (h : p) : Hid p := h
/-- a polynomial that may be, of the degree n -/
def May (n : Nat) (l : List Py.G) : Prop := l.length = n + 1 ∧ n ≤ 64 ∧ (n = 0 ∨ Py.co l n ≠ (0, 0)) ∧ ∀ i, i < n + 1 → Py.Le (Py.co l i) 1099511627776
theorem check8 {c : Nat} (hc : c = 1074) {w : World} {b o cap n : Nat} {l : List Py.G} (hm : May n l) (h : Gl c w b o l) : Calls Tryz.prog 17 #[.slice (some ⟨b, o, none⟩) (n + 1) cap] w fun e w' => e = .returned (.int .i64 0) ∧ Bw w w' := by
  obtain ⟨h1, h2, h3, h4⟩ := hm
  have A : Hid (∀ wz, Bw w wz → Calls Tryz.prog 14 #[.slice (some ⟨b, o, none⟩) (n + 1) cap] wz fun e w' => e = .returned (.bool true) ∧ Bw wz w') := fun wz hz => places8 hc (n + 1) h1 (by omega) (h.bw hz) h4
  by_cases z : n = 0
  · subst z
    clear h h1 h2 h3 h4
    go_enter Tryz.func17, Tryz.ntmps17
    go_wp2_with fail
    refine (A.out _ (Bw.refl _)).mono ?_
    rintro e' w1 ⟨rfl, hb⟩
    go_wp2
    go_ret
    exact ⟨rfl, hb⟩
  · obtain ⟨x, y, q, L⟩ := last8 (cap := cap) n h1 (by omega) h
    have HL := hide L
    have I : Hid (∀ wz, Calls Tryz.prog 47 #[.complex .f64 x y] wz fun e w' => e = .returned (.bool false) ∧ w' = wz) := fun wz => by
      have k := isnought8 q wz
      rw [decide_eq_false (h3.resolve_left z)] at k
      exact k
    have t1 : ((n : Int) + 1 == 0) = false := by rw [beq_eq_false_iff_ne]; omega
    have t2 : ¬ 65 < (n : Int) + 1 := by omega
    have t3 : 1 < (n : Int) + 1 := by omega
    clear L q h h1 h3 h4 z h2
    go_enter Tryz.func17, Tryz.ntmps17
    go_wp2_with fail
    refine HL.out.mono ?_
    rintro e' w ⟨rfl, rfl⟩
    go_wp2_with fail
    refine (I.out _).mono ?_
    rintro e' w ⟨rfl, rfl⟩
    go_wp2_with fail
    refine (A.out _ (Bw.refl _)).mono ?_
    rintro e' w1 ⟨rfl, hb⟩
    go_wp2
    go_ret
    exact ⟨rfl, hb⟩
theorem checkwith8 {c : Nat} (hc : c = 1074) {w : World} {b o cap n x y : Nat} {l : List Py.G} {g : Py.G} (hm : May n l) (h : Gl c w b o l) (hg : wC c x y g) (lg : Py.Le g 1099511627776) : Calls Tryz.prog 104 #[.slice (some ⟨b, o, none⟩) (n + 1) cap, .complex .f64 x y] w fun e w' => e = .returned (.int .i64 0) ∧ Bw w w' := by
  have A := hide (check8 (cap := cap) hc hm h)
  have I : Hid (∀ wz, Calls Tryz.prog 44 #[.complex .f64 x y] wz fun e w' => e = .returned (.bool true) ∧ w' = wz) := fun wz => pwithin8 hc hg lg wz
  clear hm h hg lg
  go_enter Tryz.func104, Tryz.ntmps104
  go_wp2_with fail
  refine A.out.mono ?_
  rintro e' w1 ⟨rfl, hb⟩
  clear A
  go_wp2_with fail
  refine (I.out _).mono ?_
  rintro e' w ⟨rfl, rfl⟩
  go_wp2
  go_ret
  exact ⟨rfl, hb⟩
theorem bw_alloc (w : World) (x : Obj) : Bw w (w.alloc x) := Below.alloc (Bw.refl w) (Nat.le_refl _) _
end Go.Proofs.YtggphakliiodeaaGreatDoor
