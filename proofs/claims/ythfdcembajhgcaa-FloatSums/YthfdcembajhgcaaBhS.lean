/-
  OWN TEXT: sums of lists of floats (float.Sum, eddyref01.Sum), and sums with their loss, in the words of 'Fr'.
-/
import Derived.Test.YthfdcembajhgcaaBhR
namespace Go.Proofs.Ythfdcembajhgcaa
open Go.ChangeShapes Go.WideShapes Go.ChangeAt Go.RowKit
open Bg
set_option linter.unusedVariables false
attribute [local go_sem] frombits_call tobits_call run_neg
/-- x is what a and b come to -/
def addR (a b x : Nat) : Prop := x < 18446744073709551616 ∧ (floatBits .add .f64 a b = some x ∨ (floatBits .add .f64 a b = none ∧ Fl.nan x = true))
/-- x is what F 0 .. F k come to -/
def sumR (F : Nat → Nat) : Nat → Nat → Prop
  | 0, x => x = F 0
  | k + 1, x => ∃ y, sumR F k y ∧ addR y (F (k + 1)) x
set_option maxHeartbeats 4000000 in
theorem rsum_any (b off n cap : Nat) (F : Nat → Nat) (w : World) (hn : 0 < n) (hnm : n ≤ 140737488355328) (hb : b < w.heap.size) (hF : ∀ j, j < n → F j < 18446744073709551616) (hc : ∀ j, j < n → w.cell? ⟨b, off + j, none⟩ = some (.float .f64 (F j))) :
    Calls Try.prog 11 #[.slice (some ⟨b, off, none⟩) n cap] w fun e w' => ∃ x, e = .returned (.float .f64 x) ∧ sumR F (n - 1) x ∧ Fr w w' := by
  have h0 := hc 0 hn
  rw [Nat.add_zero] at h0
  have hF0 := hF 0 hn
  have HC : Hid _ := hc
  have HF : Hid _ := hF
  clear hc hF
  go_enter Try.func11, Try.ntmps11
  go_wp2
  go_loopw [3, 4] (fun s i wr => ∃ (k x : Nat), k < n ∧ s = .float .f64 x ∧ i = .int .i64 (k + 1) ∧ sumR F k x ∧ x < 18446744073709551616 ∧ Fr w wr) (fun _ i _ => n - (intOf i).toNat)
  case atStart => exact ⟨0, F 0, by omega, rfl, rfl, rfl, hF0, Fr.refl _⟩
  case round =>
    obtain ⟨k, x, hk, rfl, rfl, hs, hx, hf⟩ := hrel
    have HS : Hid _ := hs
    clear hs
    by_cases hk1 : k + 1 < n
    · have hcx : wr.cell? ⟨b, off + (k + 1), none⟩ = some (.float .f64 (F (k + 1))) := by
        have := (hf.1.cell (p := ⟨b, off + (k + 1), none⟩) hb).trans (HC.out (k + 1) hk1)
        rw [show off + (k + 1) = off + (k + 1) by omega]
        exact this
      have hFx := HF.out (k + 1) hk1
      have HX : Hid (k + 1 < n) := hk1
      cases ha : floatBits .add .f64 x (F (k + 1)) with
      | some z =>
        have hz := floatBits_lt ha
        have HA : Hid _ := ha
        have e1 := fun (t : TypeId) w => run_float_arith (P := Try.prog) w .add t .f64 _ _ _ ha
        clear ha
        go_wp2
        go_roundw
        case rel => exact ⟨k + 1, z, HX.out, rfl, by simp; try omega, ⟨x, HS.out, hz, Or.inl HA.out⟩, hz, hf⟩
        case measure => simp [intOf]; omega
      | none =>
        obtain ⟨z, hz, nz, e1⟩ := run_arith_none Try.prog .add x (F (k + 1)) wr (by simp) ha
        have HA : Hid _ := ha
        have HN : Hid _ := nz
        clear ha nz
        go_wp2
        go_roundw
        case rel => exact ⟨k + 1, z, HX.out, rfl, by simp; try omega, ⟨x, HS.out, hz, Or.inr ⟨HA.out, HN.out⟩⟩, hz, hf.drew⟩
        case measure => simp [intOf]; omega
    · have hk2 : n - 1 = k := by omega
      have HS2 : Hid (sumR F (n - 1) x) := by show sumR F (n - 1) x; rw [hk2]; exact HS.out
      have hk3 : n = k + 1 := by omega
      subst hk3
      clear hk1 hk2
      go_wp2
      go_ret
      exact ⟨x, rfl, HS2.out, hf⟩
set_option maxHeartbeats 4000000 in
theorem sum_any (b off n cap : Nat) (F : Nat → Nat) (w : World) (hn : 0 < n) (hnm : n ≤ 140737488355328) (hcap : n ≤ cap) (hcap1 : 1 < cap) (hb : b < w.heap.size) (hF : ∀ j, j < n → F j < 18446744073709551616) (hc : ∀ j, j < n → w.cell? ⟨b, off + j, none⟩ = some (.float .f64 (F j))) :
    Calls Try.prog 7 #[.slice (some ⟨b, off, none⟩) n cap] w fun e w' => ∃ x, e = .returned (.float .f64 x) ∧ sumR F (n - 1) x ∧ Fr w w' := by
  have h0 := hc 0 hn
  rw [Nat.add_zero] at h0
  have hF0 := hF 0 hn
  have HC : Hid _ := hc
  have HF : Hid _ := hF
  clear hc hF
  go_enter Try.func7, Try.ntmps7
  go_wp2
  go_loopw [3, 15] (fun s i wr => ∃ (k x : Nat), k < n ∧ s = .float .f64 x ∧ i = .int .i64 (k) ∧ sumR F k x ∧ x < 18446744073709551616 ∧ Fr w wr) (fun _ i _ => n - (intOf i).toNat)
  case atStart => exact ⟨0, F 0, by omega, rfl, rfl, rfl, hF0, Fr.refl _⟩
  case round =>
    obtain ⟨k, x, hk, rfl, rfl, hs, hx, hf⟩ := hrel
    have HS : Hid _ := hs
    clear hs
    by_cases hk1 : k + 1 < n
    · have hcx : wr.cell? ⟨b, off + 1 + k, none⟩ = some (.float .f64 (F (k + 1))) := by
        have := (hf.1.cell (p := ⟨b, off + (k + 1), none⟩) hb).trans (HC.out (k + 1) hk1)
        rw [show off + 1 + k = off + (k + 1) by omega]
        exact this
      have hFx := HF.out (k + 1) hk1
      have HX : Hid (k + 1 < n) := hk1
      cases ha : floatBits .add .f64 x (F (k + 1)) with
      | some z =>
        have hz := floatBits_lt ha
        have HA : Hid _ := ha
        have e1 := fun (t : TypeId) w => run_float_arith (P := Try.prog) w .add t .f64 _ _ _ ha
        clear ha
        go_wp2
        go_roundw
        case rel => exact ⟨k + 1, z, HX.out, rfl, by simp; try omega, ⟨x, HS.out, hz, Or.inl HA.out⟩, hz, hf⟩
        case measure => simp [intOf]; omega
      | none =>
        obtain ⟨z, hz, nz, e1⟩ := run_arith_none Try.prog .add x (F (k + 1)) wr (by simp) ha
        have HA : Hid _ := ha
        have HN : Hid _ := nz
        clear ha nz
        go_wp2
        go_roundw
        case rel => exact ⟨k + 1, z, HX.out, rfl, by simp; try omega, ⟨x, HS.out, hz, Or.inr ⟨HA.out, HN.out⟩⟩, hz, hf.drew⟩
        case measure => simp [intOf]; omega
    · have hk2 : n - 1 = k := by omega
      have HS2 : Hid (sumR F (n - 1) x) := by show sumR F (n - 1) x; rw [hk2]; exact HS.out
      have hk3 : n = k + 1 := by omega
      subst hk3
      clear hk1 hk2
      go_wp2
      go_ret
      exact ⟨x, rfl, HS2.out, hf⟩
end Go.Proofs.Ythfdcembajhgcaa
