/-
  OWN TEXT: lists of whole complex numbers in memory; package poly's tests of lists.
-/
import Derived.Test.YtpfgboinjjobpaaPyD
namespace Go.Proofs.Ytpfgboinjjobpaa
open Go.ChangeShapes Go.WideShapes Go.ChangeAt Go.RowKit
set_option linter.unusedVariables false
attribute [local go_sem] frombits_call tobits_call run_neg
/-- the list l lies at block b, from o on -/
def Gl (c : Nat) (w : World) (b o : Nat) (l : List Py.G) : Prop := b < w.heap.size ∧ ∀ i, i < l.length → ∃ x y, w.cell? ⟨b, o + i, none⟩ = some (.complex .f64 x y) ∧ wC c x y (Py.co l i)
theorem Gl.bw {c : Nat} {w w' : World} {b o : Nat} {l : List Py.G} (h : Gl c w b o l) (k : Bw w w') : Gl c w' b o l := by
  obtain ⟨h1, h2⟩ := h
  have hs : w.heap.size ≤ w'.heap.size := Below.size k
  refine ⟨by omega, fun i hi => ?_⟩
  obtain ⟨x, y, e, q⟩ := h2 i hi
  exact ⟨x, y, (Below.cell k (p := ⟨b, o + i, none⟩) h1).trans e, q⟩
/-- the same, and it may be written -/
def Gw (c : Nat) (w : World) (B : Nat) (l : List Py.G) : Prop := Gl c w B 0 l ∧ ∀ i, w.frozen? ⟨B, i, none⟩ = false
theorem Gw.set {c : Nat} {w : World} {B : Nat} {l : List Py.G} (h : Gw c w B l) (i x y : Nat) (g : Py.G) (hi : i < l.length) (hg : wC c x y g) : Gw c (w.setCell ⟨B, i, none⟩ (.complex .f64 x y)) B (l.set i g) := by
  obtain ⟨⟨h1, h2⟩, h3⟩ := h
  refine ⟨⟨by simpa [World.setCell] using h1, fun j hj => ?_⟩, fun j => (World.frozen?_setCell _ _ _ _).trans (h3 j)⟩
  rw [List.length_set] at hj
  rw [Py.co_set _ _ _ _ hi]
  obtain ⟨x', y', e, q⟩ := h2 j hj
  by_cases k : j = i
  · subst k
    rw [if_pos rfl]
    exact ⟨x, y, by rw [Nat.zero_add] at e ⊢; exact World.cell?_setCell_same _ _ _ e, hg⟩
  · rw [if_neg k]
    refine ⟨x', y', ?_, q⟩
    rw [World.cell?_setCell_other]
    · exact e
    · intro e'; cases e'; omega
theorem last8 {c : Nat} {w : World} {b o cap : Nat} {l : List Py.G} (n : Nat) (hn : l.length = n + 1) (hm : n < 1000000) (h : Gl c w b o l) : ∃ x y, wC c x y (Py.co l n) ∧ Calls Try.prog 29 #[.slice (some ⟨b, o, none⟩) (n + 1) cap] w fun e w' => e = .returned (.complex .f64 x y) ∧ w' = w := by
  obtain ⟨x, y, e, q⟩ := h.2 n (by omega)
  refine ⟨x, y, q, ?_⟩
  clear q h hn
  go_enter Try.func29, Try.ntmps29
  go_wp2
  go_ret
  exact ⟨rfl, rfl⟩
theorem places8 {c : Nat} (hc : c = 1074) {w : World} {b o cap : Nat} {l : List Py.G} (n : Nat) (hn : l.length = n) (hm : n < 1000000) (h : Gl c w b o l) (hl : ∀ i, i < n → Py.Le (Py.co l i) 1099511627776) : Calls Try.prog 36 #[.slice (some ⟨b, o, none⟩) n cap] w fun e w' => e = .returned (.bool true) ∧ Bw w w' := by
  have HL : Hid (∀ i, i < n → Py.Le (Py.co l i) 1099511627776) := hl
  have HG : Hid (Gl c w b o l) := h
  have HN : Hid (l.length = n) := hn
  clear hl h hn
  go_enter Try.func36, Try.ntmps36
  go_wp2
  go_loopw [7] (fun i wr => ∃ k : Nat, k ≤ n ∧ i = .int .i64 k ∧ Bw w wr) (fun i _ => n - (intOf i).toNat)
  case atStart => exact ⟨0, Nat.zero_le _, rfl, Bw.refl _⟩
  case round =>
    obtain ⟨k, hk, rfl, hbw⟩ := hrel
    by_cases hk1 : k < n
    · obtain ⟨x, y, e, q⟩ := (HG.out.bw hbw).2 k (by have := HN.out; omega)
      have P : Hid (∀ wz, Calls Try.prog 48 #[.complex .f64 x y] wz fun e w' => e = .returned (.bool true) ∧ w' = wz) := fun wz => pwithin8 hc q (HL.out k hk1) wz
      clear q
      have hk2 : (k : Int) < n := by omega
      go_wp2_with fail
      refine (P.out _).mono ?_
      rintro e' w1 ⟨rfl, rfl⟩
      clear P e
      go_wp2
      go_roundw
      case rel => exact ⟨k + 1, by omega, by simp, hbw⟩
      case measure => simp [intOf]; omega
    · have hk3 : k = n := by omega
      subst hk3
      go_wp2
      go_ret
      exact ⟨rfl, hbw⟩
end Go.Proofs.Ytpfgboinjjobpaa
