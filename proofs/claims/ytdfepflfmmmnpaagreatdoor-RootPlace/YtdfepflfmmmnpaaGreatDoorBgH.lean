/-
  OWN TEXT: what math/bits.LeadingZeros32 and bitLen of package eddybig return.
-/
import Derived.Test.YtdfepflfmmmnpaaGreatDoorBgG
import Derived.Test.YtdfepflfmmmnpaaGreatDoorBgL
import Derived.Laws.MathBits
namespace Go.Proofs.YtdfepflfmmmnpaaGreatDoor
open Go.ChangeShapes Go.WideShapes Go.ChangeAt Go.RowKit
open Bg
set_option linter.unusedVariables false
theorem bl_small : ∀ i : Fin 256, Lib.bitLen i.val = bitLen i.val := by decide +kernel
theorem bl_eq (x : Nat) (hx : x < 4294967296) : Lib.bitLen x = bitLen x := by
  by_cases c1 : x < 256
  · exact bl_small ⟨x, c1⟩
  by_cases c2 : x < 65536
  · rw [Lib.bitLen_shift8 x (by omega) (by omega), bitLen_shift x 8 (by omega), show 2 ^ 8 = 256 from rfl, bl_small ⟨x / 256, by omega⟩]
  by_cases c3 : x < 16777216
  · rw [Lib.bitLen_shift16 x (by omega) (by omega), bitLen_shift x 16 (by omega), show 2 ^ 16 = 65536 from rfl, bl_small ⟨x / 65536, by omega⟩]
  · rw [Lib.bitLen_shift24 x (by omega) (by omega), bitLen_shift x 24 (by omega), show 2 ^ 24 = 16777216 from rfl, bl_small ⟨x / 16777216, by omega⟩]
theorem bl_le (n k : Nat) (h : n < 2 ^ k) : bitLen n ≤ k := by
  unfold bitLen
  split
  · omega
  · rename_i z; have := (Nat.log2_lt z).2 h; omega
theorem len32_any (x : Nat) (w : World) (hx : x < 4294967296) :
    Calls Tryz.prog 122 #[.int .u32 (x : Int)] w fun e w' => e = .returned (.int .i64 (bitLen x : Int)) ∧ w' = w := by
  have := len32_lib (x : Int) w (by omega) (by omega)
  rwa [Int.toNat_natCast, bl_eq x hx] at this
theorem lead32_any (x : Nat) (w : World) (hx : x < 4294967296) :
    Calls Tryz.prog 125 #[.int .u32 (x : Int)] w fun e w' => e = .returned (.int .i64 ((32 - bitLen x : Nat) : Int)) ∧ w' = w := by
  have l := bl_le x 32 (by omega)
  go_enter Tryz.func125, Tryz.ntmps125
  go_wp2_with (go_at_call 122; refine (len32_any _ _ hx).mono ?_; rintro e w' ⟨rfl, rfl⟩)
  go_ret
  exact ⟨ri' (by show (32 : Int) - _ = _; omega), rfl⟩
/-- how many bits a number has, out of its last word -/
theorem bitLen_words (l : List Nat) (hd : Dg l) (ht : tn l = l.length) (hl : ¬ l.length = 0) : bitLen (vL l) = 32 * (l.length - 1) + bitLen (l.getD (l.length - 1) 0) := by
  have h1 := vL_take_succ l (l.length - 1) (by omega)
  rw [show l.length - 1 + 1 = l.length by omega, List.take_length] at h1
  have h2 := vL_lt (l.take (l.length - 1)) (Dg_take hd _)
  rw [List.length_take, show min (l.length - 1) l.length = l.length - 1 by omega] at h2
  have h3 := tn_last l (by omega)
  rw [ht] at h3
  have h4 : vL l / 2 ^ (32 * (l.length - 1)) = l.getD (l.length - 1) 0 := by
    rw [← pow32, h1, Nat.add_mul_div_right _ _ (Nat.pow_pos (by omega)), Nat.div_eq_of_lt h2, Nat.zero_add]
  have := bitLen_shift (vL l) (32 * (l.length - 1)) (by rw [h4]; exact h3)
  rwa [h4] at this
theorem bitLen_any (v : Value) (N : Nat) (w : World) (hv : Nm w v N) (hN : N.log2 < 32000000) :
    Calls Tryz.prog 104 #[v] w fun e w' => e = .returned (.int .i64 (bitLen N : Int)) ∧ w' = w := by
  obtain ⟨a, l, ca, rfl, hca, hma, hha, hda, rfl, hta, kl⟩ := hv.len 1000000 (by omega)
  by_cases c : l.length = 0
  · have e : l = [] := List.length_eq_zero_iff.1 c
    subst e
    go_enter Tryz.func104, Tryz.ntmps104
    go_wp2
    go_ret
    exact ⟨rfl, rfl⟩
  · obtain ⟨b, of, rfl, hb, hcell⟩ := hs_len hha c
    have H := bitLen_words l hda hta c
    obtain ⟨n, hn⟩ : ∃ n, l.length = n + 1 := ⟨l.length - 1, by omega⟩
    rw [hn] at H hcell hca kl ⊢
    rw [show n + 1 - 1 = n by omega] at H
    have h1 := hcell n (by omega)
    have x1 := hda n
    have HH : Hid (bitLen (vL l) = 32 * n + bitLen (l.getD n 0)) := H
    have hb2 := bl_le (l.getD n 0) 32 (by omega)
    generalize l.getD n 0 = x at *
    have t0 : (((n + 1 : Nat) : Int) == 0) = false := beq_eq_false_iff_ne.2 (by omega)
    clear hcell H c hn hta
    go_enter Tryz.func104, Tryz.ntmps104
    go_wp2_with (go_at_call 122; refine (len32_any _ _ x1).mono ?_; rintro e w' ⟨rfl, rfl⟩)
    go_ret
    exact ⟨ri' (by rw [HH.out]; show (32 : Int) * _ + _ = _; omega), rfl⟩
end Go.Proofs.YtdfepflfmmmnpaaGreatDoor
