/-
  OWN TEXT: noughts at the end of a number's words (package eddybig's zeros), over the library's table.
-/
import Derived.Test.YtdfepflfmmmnpaaGreatDoorBgO
import Derived.Shelf.Spec.TrailingZeros
namespace Go.Proofs.YtdfepflfmmmnpaaGreatDoor
open Go.ChangeShapes Go.WideShapes Go.ChangeAt Go.RowKit
open Bg
set_option linter.unusedVariables false
/-- the library's table lies in its variable -/
def Tab (w : World) : Prop := TabAt 1 Lib.deBruijn32tab w
theorem Tab.mono {w w' : World} (h : Tab w) (hs : 1 < w.heap.size) (f : Fr w w') : Tab w' := fun j hj => (f.1.cell (p := ⟨1, j, none⟩) hs).trans (h j hj)
set_option maxHeartbeats 2000000 in
theorem tz32_core (x k idx : Nat) (w : World) (hx : x < 4294967296) (hx0 : ((x : Int) == 0) = false)
    (key : bits BinOp.and IntKind.u32 (x : Int) (-(x : Int) % 4294967296) * 125613361 % 4294967296 / 134217728 = (idx : Int))
    (hi : idx < 32) (hk : k < 32) (hcell : w.cell? ⟨1, idx, none⟩ = some (.int .u8 k)) :
    Calls Tryz.prog 123 #[.int .u32 x] w fun e w' => e = .returned (.int .i64 k) ∧ w' = w := by
  go_enter Tryz.func123, Tryz.ntmps123
  go_wp2_with (simp only [key])
  go_ret
  exact ⟨rfl, rfl⟩
theorem tz32_any (x : Nat) (w : World) (hx : x < 4294967296) (hx0 : x ≠ 0) (hT : Tab w) :
    Calls Tryz.prog 123 #[.int .u32 x] w fun e w' => e = .returned (.int .i64 (Lib.ctz 32 x)) ∧ w' = w := by
  obtain ⟨hlow, hk⟩ := Lib.lowest_bit 32 x hx0 hx
  obtain ⟨hi, htab⟩ := Lib.deBruijn32_at _ hk
  have hcell := hT _ hi
  rw [htab] at hcell
  exact tz32_core x _ _ w hx (by simp; omega) (tz32_key x _ hx hx0 hlow) hi hk hcell
theorem ctz_dvd (x : Nat) (hx : x < 4294967296) (hx0 : x ≠ 0) : 2 ^ Lib.ctz 32 x ∣ x ∧ Lib.ctz 32 x < 32 := by
  obtain ⟨m, hm, hk⟩ := Lib.ctzFrom_spec 32 x (by omega) hx
  have e : Lib.ctz 32 x = Lib.ctzFrom 32 x := by simp [Lib.ctz, hx0]
  rw [e]
  exact ⟨⟨_, hm⟩, hk⟩
theorem dvd_words (t : Nat) (ht : t ≤ 32) : ∀ (n : Nat) (l : List Nat), (∀ i, i < n → l.getD i 0 = 0) → 2 ^ t ∣ l.getD n 0 → 2 ^ (32 * n + t) ∣ vL l
  | _, [], _, _ => ⟨0, rfl⟩
  | 0, x :: r, _, h => by
    have e : vL (x :: r) = x + 4294967296 * vL r := rfl
    have h2 : 2 ^ t ∣ 4294967296 := by
      rw [show (4294967296 : Nat) = 2 ^ 32 by decide]; exact Nat.pow_dvd_pow 2 ht
    rw [e, Nat.mul_zero, Nat.zero_add]
    exact Nat.dvd_add h (Nat.dvd_trans h2 (Nat.dvd_mul_right _ _))
  | n + 1, x :: r, hz, h => by
    have e : vL (x :: r) = x + 4294967296 * vL r := rfl
    have hx : x = 0 := hz 0 (by omega)
    have ih := dvd_words t ht n r (fun i hi => hz (i + 1) (by omega)) h
    rw [e, hx, Nat.zero_add, show 32 * (n + 1) + t = 32 + (32 * n + t) by omega, Nat.pow_add, show (2 : Nat) ^ 32 = 4294967296 by decide]
    exact Nat.mul_dvd_mul_left _ ih
/-- what zeros answers: so many noughts that the number can be divided by -/
def ZerosP (N : Nat) (w : World) (e : Ending) (w' : World) : Prop := ∃ k : Nat, e = .returned (.int .i64 (k : Int)) ∧ 2 ^ k ∣ N ∧ k ≤ N.log2 ∧ w' = w
set_option maxHeartbeats 4000000 in
theorem zeros_any (v : Value) (N : Nat) (w : World) (hv : Nm w v N) (hN : 0 < N) (hl : N.log2 < 32000000) (hT : Tab w) :
    Calls Tryz.prog 109 #[v] w fun e w' => ZerosP N w e w' := by
  obtain ⟨a, l, ca, rfl, hca, hma, hha, hda, rfl, hta, kl⟩ := hv.len 1000000 (by omega)
  have hne : l ≠ [] := by intro e; subst e; exact absurd hN (by decide)
  rcases hha with h | ⟨b, o, rfl, hb, hcell⟩
  · exact absurd h hne
  have hlen := List.length_pos_iff.2 hne
  have hlast : ¬ l.getD (l.length - 1) 0 = 0 := by
    have := tn_last l (by omega)
    rw [hta] at this
    exact this
  have HC : Hid _ := hcell
  have HD : Hid (Dg l) := hda
  have HL : Hid (∀ k : Nat, 2 ^ k ∣ vL l → k ≤ (vL l).log2) := fun k hk => (Nat.le_log2 (by omega)).2 (Nat.le_of_dvd hN hk)
  clear hcell hda
  generalize hn : l.length = n at *
  go_enter Tryz.func109, Tryz.ntmps109
  go_wp2
  go_loop [3] (fun t => ∃ k : Nat, k < n ∧ t = .int .i64 (k : Int) ∧ ∀ i, i < k → l.getD i 0 = 0) (fun t => n - (intOf t).toNat)
  case atStart => exact ⟨0, hlen, rfl, fun i hi => by omega⟩
  case round =>
    obtain ⟨k, hk, rfl, hz⟩ := hrel
    have HZ : Hid (∀ i, i < k → l.getD i 0 = 0) := hz
    clear hz
    have hc := HC.out k (by omega)
    have hd := HD.out k
    by_cases c : l.getD k 0 = 0
    · have hk1 : k + 1 < n := by
        by_cases e : k = n - 1
        · subst e; exact absurd c hlast
        · omega
      rw [c] at hc
      have HZ' : Hid (∀ i, i < k + 1 → l.getD i 0 = 0) := by
        intro i hi
        by_cases e : i = k
        · rw [e]; exact c
        · exact HZ.out i (by omega)
      clear c HC HZ hlast hd
      go_wp2
      go_round
      case rel => exact ⟨k + 1, by omega, by go_num, HZ'.out⟩
      case measure => simp [intOf]; omega
    · obtain ⟨d1, d2⟩ := ctz_dvd _ hd c
      have hdv := dvd_words _ (by omega) k l HZ.out d1
      have hlg := HL.out _ hdv
      have HDV : Hid _ := hdv
      have TZ : Hid (∀ wz, Tab wz → Calls Tryz.prog 123 #[.int .u32 ((l.getD k 0 : Nat) : Int)] wz fun e w' => e = .returned (.int .i64 (Lib.ctz 32 (l.getD k 0) : Int)) ∧ w' = wz) := fun wz hz => tz32_any _ wz hd c hz
      clear hdv HL HZ HC d1
      generalize Lib.ctz 32 (l.getD k 0) = t at *
      have cI : ((l.getD k 0 : Nat) : Int) ≠ 0 := by omega
      have cB : (((l.getD k 0 : Nat) : Int) == 0) = false := by simpa using c
      generalize l.getD k 0 = x at *
      have h32 : k < 1000000 := by omega
      go_wp2_with (go_at_call 123; refine (TZ.out _ hT).mono ?_; rintro e w' ⟨rfl, rfl⟩)
      go_ret
      exact ⟨32 * k + t, by simp, HDV.out, hlg, rfl⟩
end Go.Proofs.YtdfepflfmmmnpaaGreatDoor
