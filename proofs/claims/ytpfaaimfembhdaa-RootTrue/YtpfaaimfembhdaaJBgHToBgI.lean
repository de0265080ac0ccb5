/-
  OWN TEXT: what math/bits.LeadingZeros32 and bitLen of package eddybig return.
-/
import Derived.Test.YtpfaaimfembhdaaJBgDToBgG
import Derived.Test.YtpfaaimfembhdaaJBgL
import Derived.Laws.MathBits
import Derived.Test.YtpfaaimfembhdaaJBgAToBgC
import Derived.Laws.IdiomCopy
namespace Go.Proofs.Ytpfaaimfembhdaa
open Go.ChangeShapes Go.WideShapes Go.ChangeAt Go.RowKit
open Bg
set_option linter.unusedVariables false
theorem bl_small : ∀ i : Fin 256, Lib.bitLen i.val = bitLen i.val := by decide +kernel
theorem bl_eq (x : Nat) (hx : x < 4294967296) : Lib.bitLen x = bitLen x := by
  by_cases c1 : x < 256
  · exact bl_small ⟨x, c1⟩
  by_cases c2 : x < 65536
  · rw [Lib.bitLen_shift8 x (by omega) (by omega), bitLen_shift x 8 (by omega), show 2 ^ 8 = 256 from rfl, bl_small ⟨x / 256, by omega⟩]
  by_cases c3 : x < 16777216
  · rw [Lib.bitLen_shift16 x (by omega) (by omega), bitLen_shift x 16 (by omega), show 2 ^ 16 = 65536 from rfl, bl_small ⟨x / 65536, by omega⟩]
  · rw [Lib.bitLen_shift24 x (by omega) (by omega), bitLen_shift x 24 (by omega), show 2 ^ 24 = 16777216 from rfl, bl_small ⟨x / 16777216, by omega⟩]
theorem bl_le (n k : Nat) (h : n < 2 ^ k) : bitLen n ≤ k := by
  unfold bitLen
  split
  · omega
  · rename_i z; have := (Nat.log2_lt z).2 h; omega
theorem len32_any (x : Nat) (w : World) (hx : x < 4294967296) :
    Calls Try.prog 92 #[.int .u32 (x : Int)] w fun e w' => e = .returned (.int .i64 (bitLen x : Int)) ∧ w' = w := by
  have := len32_lib (x : Int) w (by omega) (by omega)
  rwa [Int.toNat_natCast, bl_eq x hx] at this
theorem lead32_any (x : Nat) (w : World) (hx : x < 4294967296) :
    Calls Try.prog 80 #[.int .u32 (x : Int)] w fun e w' => e = .returned (.int .i64 ((32 - bitLen x : Nat) : Int)) ∧ w' = w := by
  have l := bl_le x 32 (by omega)
  go_enter Try.func80, Try.ntmps80
  go_wp2_with (go_at_call 92; refine (len32_any _ _ hx).mono ?_; rintro e w' ⟨rfl, rfl⟩)
  go_ret
  exact ⟨ri' (by show (32 : Int) - _ = _; omega), rfl⟩
/-- how many bits a number has, out of its last word -/
theorem bitLen_words (l : List Nat) (hd : Dg l) (ht : tn l = l.length) (hl : ¬ l.length = 0) : bitLen (vL l) = 32 * (l.length - 1) + bitLen (l.getD (l.length - 1) 0) := by
  have h1 := vL_take_succ l (l.length - 1) (by omega)
  rw [show l.length - 1 + 1 = l.length by omega, List.take_length] at h1
  have h2 := vL_lt (l.take (l.length - 1)) (Dg_take hd _)
  rw [List.length_take, show min (l.length - 1) l.length = l.length - 1 by omega] at h2
  have h3 := tn_last l (by omega)
  rw [ht] at h3
  have h4 : vL l / 2 ^ (32 * (l.length - 1)) = l.getD (l.length - 1) 0 := by
    rw [← pow32, h1, Nat.add_mul_div_right _ _ (Nat.pow_pos (by omega)), Nat.div_eq_of_lt h2, Nat.zero_add]
  have := bitLen_shift (vL l) (32 * (l.length - 1)) (by rw [h4]; exact h3)
  rwa [h4] at this
theorem bitLen_any (v : Value) (N : Nat) (w : World) (hv : Nm w v N) (hN : N.log2 < 32000000) :
    Calls Try.prog 74 #[v] w fun e w' => e = .returned (.int .i64 (bitLen N : Int)) ∧ w' = w := by
  obtain ⟨a, l, ca, rfl, hca, hma, hha, hda, rfl, hta, kl⟩ := hv.len 1000000 (by omega)
  by_cases c : l.length = 0
  · have e : l = [] := List.length_eq_zero_iff.1 c
    subst e
    go_enter Try.func74, Try.ntmps74
    go_wp2
    go_ret
    exact ⟨rfl, rfl⟩
  · obtain ⟨b, of, rfl, hb, hcell⟩ := hs_len hha c
    have H := bitLen_words l hda hta c
    obtain ⟨n, hn⟩ : ∃ n, l.length = n + 1 := ⟨l.length - 1, by omega⟩
    rw [hn] at H hcell hca kl ⊢
    rw [show n + 1 - 1 = n by omega] at H
    have h1 := hcell n (by omega)
    have x1 := hda n
    have HH : Hid (bitLen (vL l) = 32 * n + bitLen (l.getD n 0)) := H
    have hb2 := bl_le (l.getD n 0) 32 (by omega)
    generalize l.getD n 0 = x at *
    have t0 : (((n + 1 : Nat) : Int) == 0) = false := beq_eq_false_iff_ne.2 (by omega)
    clear hcell H c hn hta
    go_enter Try.func74, Try.ntmps74
    go_wp2_with (go_at_call 92; refine (len32_any _ _ x1).mono ?_; rintro e w' ⟨rfl, rfl⟩)
    go_ret
    exact ⟨ri' (by rw [HH.out]; show (32 : Int) * _ + _ = _; omega), rfl⟩
end Go.Proofs.Ytpfaaimfembhdaa
/-
  OWN TEXT: plain laws of long division, word by word: how long the shifted divisor is, what a round leaves, what comes out.
-/
namespace Go.Proofs.Ytpfaaimfembhdaa.Bg
open Go.ChangeShapes Go.WideShapes Go.ChangeAt Go.RowKit
set_option linter.unusedVariables false
theorem vL_app (P s : List Nat) : vL (P ++ s) = vL P + 4294967296 ^ P.length * vL s := by
  induction P with
  | nil => simp [vL]
  | cons x r ih =>
    show x + 4294967296 * vL (r ++ s) = x + 4294967296 * vL r + 4294967296 ^ (r.length + 1) * vL s
    rw [ih, Nat.mul_add, Nat.pow_succ, Nat.add_assoc, Nat.mul_comm (4294967296 ^ r.length) 4294967296, Nat.mul_assoc]
theorem vL_parts (l : List Nat) (k : Nat) : vL l = vL (l.take k) + 4294967296 ^ (l.take k).length * vL (l.drop k) := by
  rw [← vL_app, List.take_append_drop]
theorem vL_parts' (l : List Nat) (k : Nat) (h : k ≤ l.length) : vL l = vL (l.take k) + 4294967296 ^ k * vL (l.drop k) := by
  have := vL_parts l k
  rwa [List.length_take, Nat.min_eq_left h] at this
theorem getD_high (l : List Nat) (k : Nat) (hk : k ≤ l.length) (h : vL l < 4294967296 ^ k) : ∀ i, k ≤ i → l.getD i 0 = 0 := by
  intro i hi
  have h1 := vL_parts' l k hk
  have hp : 0 < 4294967296 ^ k := Nat.pow_pos (by omega)
  have h2 : vL (l.drop k) = 0 := by
    rcases Nat.eq_zero_or_pos (vL (l.drop k)) with z | z
    · exact z
    · have := Nat.mul_le_mul_left (4294967296 ^ k) z
      omega
  have h3 : (l.drop k).getD (i - k) 0 = 0 := by
    generalize i - k = j
    generalize l.drop k = r at h2
    clear h1 h hk hi hp
    induction r generalizing j with
    | nil => exact getD_nil j
    | cons x r ih =>
      have h2 : x + 4294967296 * vL r = 0 := h2
      cases j with
      | zero => show x = 0; omega
      | succ j => rw [getD_cons_succ]; exact ih j (by omega)
  rw [getD_drop, show k + (i - k) = i by omega] at h3
  exact h3
theorem vL_take_high (l : List Nat) (k : Nat) (hk : k ≤ l.length) (h : vL l < 4294967296 ^ k) : vL (l.take k) = vL l := vL_take l k (getD_high l k hk h)
/-- a trimmed row's length is told by its worth -/
theorem len_of (l : List Nat) (k : Nat) (hd : Dg l) (ht : tn l = l.length) (h1 : 4294967296 ^ k ≤ vL l) (h2 : vL l < 4294967296 ^ (k + 1)) : l.length = k + 1 := by
  have a := vL_lt l hd
  have hne : l ≠ [] := by
    rintro rfl
    have hp : 0 < 4294967296 ^ k := Nat.pow_pos (by omega)
    have : vL [] = 0 := rfl
    omega
  have b := vL_ge l ht hne
  have c1 : k < l.length := (Nat.pow_lt_pow_iff_right (by omega : 1 < 4294967296)).1 (Nat.lt_of_le_of_lt h1 a)
  have c2 : l.length - 1 < k + 1 := (Nat.pow_lt_pow_iff_right (by omega : 1 < 4294967296)).1 (Nat.lt_of_le_of_lt b h2)
  omega
theorem top_of (l : List Nat) (k : Nat) (hd : Dg l) (hl : l.length = k + 1) : l.getD k 0 = vL l / 4294967296 ^ k := by
  have h1 := vL_take_succ l k (by omega)
  rw [List.take_of_length_le (by omega)] at h1
  have h2 := vL_lt (l.take k) (Dg_take hd k)
  rw [List.length_take, Nat.min_eq_left (by omega)] at h2
  rw [h1, Nat.add_mul_div_right _ _ (Nat.pow_pos (by omega)), Nat.div_eq_of_lt h2, Nat.zero_add]
/-- the bounds of the shifted divisor -/
theorem shifted (m : List Nat) (k s : Nat) (hd : Dg m) (ht : tn m = m.length) (hl : m.length = k + 1) (hs : s = 32 - bitLen (m.getD k 0)) :
    2147483648 * 4294967296 ^ k ≤ vL m * 2 ^ s ∧ vL m * 2 ^ s < 4294967296 ^ (k + 1) ∧ s < 32 ∧ 4294967296 ^ k ≤ vL m := by
  rw [Nat.pow_succ]
  have h1 := vL_take_succ m k (by omega)
  rw [List.take_of_length_le (by omega)] at h1
  have h2 := vL_lt (m.take k) (Dg_take hd k)
  rw [List.length_take, Nat.min_eq_left (by omega)] at h2
  have h3 := tn_last m (by omega)
  rw [ht, hl, Nat.add_sub_cancel] at h3
  have h4 := hd k
  generalize m.getD k 0 = t at *
  have hb : bitLen t = t.log2 + 1 := by unfold bitLen; rw [if_neg h3]
  have hlg : t.log2 < 32 := (Nat.log2_lt h3).2 h4
  have e1 : 2 ^ t.log2 ≤ t := Nat.log2_self_le h3
  have e2 : t < 2 ^ (t.log2 + 1) := Nat.lt_log2_self
  have es : s + t.log2 = 31 := by omega
  have p1 : 2 ^ t.log2 * 2 ^ s = 2147483648 := by rw [← Nat.pow_add, Nat.add_comm, es]
  have p2 : 2 ^ (t.log2 + 1) * 2 ^ s = 4294967296 := by rw [← Nat.pow_add, show t.log2 + 1 + s = 32 by omega]
  generalize 4294967296 ^ k = P at *
  have q1 : 2147483648 * P ≤ t * 2 ^ s * P := Nat.mul_le_mul_right _ (by rw [← p1]; exact Nat.mul_le_mul_right _ e1)
  have q2 : (t + 1) * 2 ^ s ≤ 4294967296 := by rw [← p2]; exact Nat.mul_le_mul_right _ e2
  have q3 : (t + 1) * 2 ^ s * P ≤ 4294967296 * P := Nat.mul_le_mul_right _ q2
  have hp : 0 < 2 ^ s := Nat.pow_pos (by omega)
  refine ⟨?_, ?_, by omega, ?_⟩
  · rw [h1, Nat.add_mul, Nat.mul_right_comm t P]
    omega
  · have a1 : vL m < (t + 1) * P := by rw [h1, Nat.add_mul]; omega
    have a2 : vL m * 2 ^ s < (t + 1) * P * 2 ^ s := Nat.mul_lt_mul_of_pos_right a1 hp
    rw [Nat.mul_right_comm] at a2
    rw [Nat.mul_comm P]
    omega
  · rw [h1]
    have := Nat.mul_le_mul_right P (show 1 ≤ t by omega)
    omega
/-- ahead of the first round -/
theorem long_start (o : List Nat) (N M k t s : Nat) (hd : Dg o) (ho : vL o = N * 2 ^ s) (hN : N < 4294967296 ^ (t + k)) (hM : 4294967296 ^ k ≤ M) : vL (o.drop t) < M * 2 ^ s := by
  rw [vL_drop o t hd, ho]
  refine Nat.div_lt_of_lt_mul ?_
  rw [Nat.pow_add] at hN
  have hp : 0 < 2 ^ s := Nat.pow_pos (by omega)
  calc N * 2 ^ s < 4294967296 ^ t * 4294967296 ^ k * 2 ^ s := Nat.mul_lt_mul_of_pos_right hN hp
    _ ≤ 4294967296 ^ t * M * 2 ^ s := Nat.mul_le_mul_right _ (Nat.mul_le_mul_left _ hM)
    _ = _ := Nat.mul_assoc _ _ _
/-- a round: the row from its place on is below the divisor times a word, and is told by as many words as the divisor has and one -/
theorem long_in (o : List Nat) (V k j : Nat) (hd : Dg o) (hj : j + k + 1 ≤ o.length) (hV : V ≤ 4294967296 ^ k) (h : vL (o.drop (j + 1)) < V) :
    vL ((o.drop j).take (k + 1)) = vL (o.drop j) ∧ vL (o.drop j) < V * 4294967296 ∧ ∀ i, k + 1 ≤ i → (o.drop j).getD i 0 = 0 := by
  have h1 := vL_drop_succ o j (by omega)
  have h2 := hd j
  have h3 : vL (o.drop j) < V * 4294967296 := by omega
  have h4 : vL (o.drop j) < 4294967296 ^ (k + 1) := by rw [Nat.pow_succ]; exact Nat.lt_of_lt_of_le h3 (Nat.mul_le_mul_right _ hV)
  exact ⟨vL_take_high _ _ (by rw [List.length_drop]; omega) h4, h3, getD_high _ _ (by rw [List.length_drop]; omega) h4⟩
theorem long_out (o q s' : List Nat) (V W j fig : Nat) (hj : j < o.length) (hq : j < q.length) (hs : vL s' = vL (o.drop j) % V) (hf : fig = vL (o.drop j) / V) (h : vL o + V * vL (q.drop (j + 1)) * 4294967296 ^ (j + 1) = W) :
    vL (o.take j ++ s') + V * vL ((q.set j fig).drop j) * 4294967296 ^ j = W := by
  rw [vL_app, List.length_take, Nat.min_eq_left (by omega), hs, vL_drop_succ (q.set j fig) j (by rw [List.length_set]; omega), getD_set _ _ _ _ hq, if_pos rfl, drop_set, ← h, vL_parts' o j (by omega)]
  have e := Nat.div_add_mod (vL (o.drop j)) V
  rw [← hf] at e
  rw [Nat.pow_succ]
  generalize vL (o.drop j) % V = r at *
  generalize 4294967296 ^ j = P at *
  generalize vL (q.drop (j + 1)) = Q at *
  rw [← e, Nat.mul_add V, Nat.add_mul (V * fig), Nat.mul_add P]
  have a1 : V * (4294967296 * Q) * P = V * Q * (P * 4294967296) := by
    rw [Nat.mul_left_comm V, Nat.mul_comm P, ← Nat.mul_assoc (V * Q), Nat.mul_comm (V * Q)]
  have a2 : V * fig * P = P * (V * fig) := Nat.mul_comm _ _
  omega
theorem long_end (o q : List Nat) (N M s : Nat) (hM : 0 < M) (h : vL o + M * 2 ^ s * vL q = N * 2 ^ s) (hl : vL o < M * 2 ^ s) : vL q = N / M ∧ vL o / 2 ^ s = N % M := by
  have hp : 0 < 2 ^ s := Nat.pow_pos (by omega)
  have h1 : vL q = N * 2 ^ s / (M * 2 ^ s) := by
    rw [← h, Nat.add_mul_div_left _ _ (Nat.mul_pos hM hp), Nat.div_eq_of_lt hl, Nat.zero_add]
  have h2 : vL o = N * 2 ^ s % (M * 2 ^ s) := by
    rw [← h, Nat.add_mul_mod_self_left, Nat.mod_eq_of_lt hl]
  rw [Nat.mul_div_mul_right _ _ hp] at h1
  rw [Nat.mul_mod_mul_right] at h2
  exact ⟨h1, by rw [h2, Nat.mul_div_cancel _ hp]⟩
end Go.Proofs.Ytpfaaimfembhdaa.Bg
/-
  OWN TEXT: what topBits of package eddybig returns, for all words: 64 bits out of the middle.
-/
namespace Go.Proofs.Ytpfaaimfembhdaa
open Go.ChangeShapes Go.WideShapes Go.ChangeAt Go.RowKit
open Bg
set_option linter.unusedVariables false
/-- 64 bits of a number, out of three words -/
theorem top_val (w0 w1 w2 R s : Nat) (h0 : w0 < 4294967296) (h1 : w1 < 4294967296) (hs : s < 32) :
    (w0 + 4294967296 * (w1 + 4294967296 * (w2 + 4294967296 * R))) / 2 ^ s % 18446744073709551616 = w2 * 2 ^ (64 - s) % 18446744073709551616 + w1 * 2 ^ (32 - s) + w0 / 2 ^ s ∧ w0 / 2 ^ s < 2 ^ (32 - s) ∧ w1 * 2 ^ (32 - s) < 2 ^ (64 - s) ∧ 2 ^ (64 - s) ∣ w2 * 2 ^ (64 - s) % 18446744073709551616 ∧ 2 ^ (32 - s) ∣ w2 * 2 ^ (64 - s) % 18446744073709551616 + w1 * 2 ^ (32 - s) ∧ w2 * 2 ^ (64 - s) % 18446744073709551616 + w1 * 2 ^ (32 - s) < 18446744073709551616 := by
  have p1 : 2 ^ s * 2 ^ (32 - s) = 4294967296 := by rw [← Nat.pow_add, show s + (32 - s) = 32 by omega]
  have p2 : 2 ^ (32 - s) * 4294967296 = 2 ^ (64 - s) := by rw [show 4294967296 = 2 ^ 32 by rfl, ← Nat.pow_add, show 32 - s + 32 = 64 - s by omega]
  have p3 : 2 ^ s * 2 ^ (64 - s) = 18446744073709551616 := by rw [← Nat.pow_add, show s + (64 - s) = 64 by omega]
  have q1 : 0 < 2 ^ s := Nat.pow_pos (by omega)
  have q2 : 0 < 2 ^ (32 - s) := Nat.pow_pos (by omega)
  generalize 2 ^ s = P at *
  generalize 2 ^ (32 - s) = Q at *
  generalize 2 ^ (64 - s) = T at *
  have a0 : w0 / P < Q := Nat.div_lt_of_lt_mul (by rw [p1]; exact h0)
  have a1 : w1 * Q + w0 / P < T := by
    have : (w1 + 1) * Q ≤ 4294967296 * Q := Nat.mul_le_mul_right _ h1
    rw [Nat.add_mul, Nat.one_mul, Nat.mul_comm 4294967296, p2] at this
    omega
  have e1 : (w0 + 4294967296 * (w1 + 4294967296 * (w2 + 4294967296 * R))) / P = w0 / P + Q * (w1 + 4294967296 * (w2 + 4294967296 * R)) := by
    rw [← p1, Nat.mul_assoc P, Nat.add_mul_div_left _ _ q1]
  have e2 : Q * (w1 + 4294967296 * (w2 + 4294967296 * R)) = w1 * Q + w2 * T + 18446744073709551616 * (Q * R) := by
    rw [← p2]
    rw [Nat.mul_add Q w1, Nat.mul_left_comm Q 4294967296, Nat.mul_add Q w2, Nat.mul_left_comm Q 4294967296 R, Nat.mul_comm Q w1, Nat.mul_left_comm w2 Q, Nat.mul_comm w2 4294967296, Nat.mul_left_comm Q 4294967296 w2]
    omega
  rw [e1, e2]
  clear e1 e2
  generalize w0 / P = z at *
  have e3 : w2 * T % 18446744073709551616 = T * (w2 % P) := by
    rw [← p3, Nat.mul_comm w2, Nat.mul_comm P, Nat.mul_mod_mul_left]
  have hT : T * (w2 % P) + T ≤ 18446744073709551616 := by
    rw [← p3, Nat.mul_comm P, ← Nat.mul_succ]
    exact Nat.mul_le_mul_left _ (Nat.mod_lt _ q1)
  refine ⟨?_, a0, by omega, ?_, ?_, by rw [e3]; omega⟩
  · rw [← Nat.add_assoc, Nat.add_mul_mod_self_left]
    have e4 := Nat.div_add_mod (w2 * T) 18446744073709551616
    rw [e3] at e4 ⊢
    rw [← e4]
    rw [show z + (w1 * Q + (18446744073709551616 * (w2 * T / 18446744073709551616) + T * (w2 % P))) = (z + w1 * Q + T * (w2 % P)) + 18446744073709551616 * (w2 * T / 18446744073709551616) by omega, Nat.add_mul_mod_self_left, Nat.mod_eq_of_lt (by omega)]
    omega
  · rw [e3]; exact Nat.dvd_mul_right _ _
  · rw [e3]
    refine Nat.dvd_add ?_ (Nat.dvd_mul_left _ _)
    rw [← p2]; exact Nat.dvd_trans (Nat.dvd_mul_right _ _) (Nat.dvd_mul_right _ _)
theorem or64 (x y s : Nat) (hy : y < 2 ^ s) (hx : 2 ^ s ∣ x) (h : x + y < 18446744073709551616) : bits BinOp.or IntKind.u64 (x : Int) (y : Int) = ((x + y : Nat) : Int) := by
  rw [u64_or_nat x y (by omega) (by omega), Nat.or_comm, or_low y x s hy hx, Nat.add_comm]
set_option maxHeartbeats 4000000 in
theorem topBits_core (a : Option Addr) (l : List Nat) (ca k s : Nat) (w : World) (hha : Hs w a l) (hda : Dg l) (hca : l.length ≤ ca) (hma : ca ≤ 1099511627776) (hlen : l.length ≤ 1000000) (hk : k ≤ 1000000) (hs : s < 32) :
    Calls Try.prog 75 #[.slice a l.length ca, .int .i64 ((32 * k + s : Nat) : Int)] w fun e w' => e = .returned (.int .u64 ((vL l / 2 ^ (32 * k + s) % 18446744073709551616 : Nat) : Int)) ∧ Fr w w' := by
  have q1 : (((32 * k + s : Nat) : Int)) / 32 = k := by omega
  have q2 : (((32 * k + s : Nat) : Int)) % 32 = s := by omega
  have q3 : (0 : Int) ≤ ((32 * k + s : Nat) : Int) := by omega
  have q4 : ((32 * k + s : Nat) : Int) ≤ 32000032 := by omega
  have HV : Hid (vL l / 2 ^ (32 * k + s) = (l.getD k 0 + 4294967296 * (l.getD (k + 1) 0 + 4294967296 * (l.getD (k + 2) 0 + 4294967296 * vL (l.drop (k + 3))))) / 2 ^ s) := by
    show _ = _
    rw [Nat.pow_add, ← Nat.div_div_eq_div_mul, ← pow32, ← vL_drop l k hda]
    congr 1
    have st : ∀ j, vL (l.drop j) = l.getD j 0 + 4294967296 * vL (l.drop (j + 1)) := by
      intro j
      by_cases h : j < l.length
      · exact vL_drop_succ l j h
      · rw [List.drop_of_length_le (by omega), List.drop_of_length_le (by omega), getD_out (by omega)]; rfl
    rw [st k, st (k + 1), st (k + 2)]
  have HT := top_val (l.getD k 0) (l.getD (k + 1) 0) (l.getD (k + 2) 0) (vL (l.drop (k + 3))) s (hda k) (hda (k + 1)) hs
  rw [← HV.out] at HT
  generalize vL l / 2 ^ (32 * k + s) % 18446744073709551616 = ans at *
  generalize hN0 : ((32 * k + s : Nat) : Int) = n0 at *
  clear hN0 HV
  have hx : ∀ j, j < l.length → ∃ b of, a = some ⟨b, of, none⟩ ∧ w.cell? ⟨b, of + j, none⟩ = some (.int .u32 (l.getD j 0 : Nat)) := by
    intro j hj
    obtain ⟨b, of, rfl, hb, hcell⟩ := hs_len hha (by omega)
    exact ⟨b, of, rfl, hcell j hj⟩
  have HX : Hid _ := hx
  have HY : Hid _ := HT
  clear hx HT
  generalize hn : l.length = n at *
  have HN : Hid (l.length = n) := hn
  clear hn
  go_enter Try.func75, Try.ntmps75
  go_wp2
  simp only [q1, q2]
  clear q1 q2 q3 q4
  have x0 := hda k
  have x1 := hda (k + 1)
  have x2 := hda (k + 2)
  have HX0 := HX.out k
  have HX1 := HX.out (k + 1)
  have HX2 := HX.out (k + 2)
  have HZ : ∀ j, n ≤ j → l.getD j 0 = 0 := fun j hj => getD_out (by rw [HN.out]; exact hj)
  have HZ0 := HZ k
  have HZ1 := HZ (k + 1)
  have HZ2 := HZ (k + 2)
  generalize l.getD k 0 = w0 at *
  generalize l.getD (k + 1) 0 = w1 at *
  generalize l.getD (k + 2) 0 = w2 at *
  have H0 : Hid _ := HX0
  have H1 : Hid _ := HX1
  have H2 : Hid _ := HX2
  have Z0 : Hid _ := HZ0
  have Z1 : Hid _ := HZ1
  have Z2 : Hid _ := HZ2
  clear HX0 HX1 HX2 HZ0 HZ1 HZ2 HZ HX hha hda
  obtain ⟨y1, y2, y3, y4, y5, y6⟩ := HY.out
  have eW2 : IntKind.u64.wrap ((w2 : Int) * 2 ^ (64 - s)) = ((w2 * 2 ^ (64 - s) % 18446744073709551616 : Nat) : Int) := by
    rw [IntKind.wrap_u64, show (w2 : Int) * 2 ^ (64 - s) = ((w2 * 2 ^ (64 - s) : Nat) : Int) by simp]; omega
  have eW1 : IntKind.u64.wrap ((w1 : Int) * 2 ^ (32 - s)) = ((w1 * 2 ^ (32 - s) : Nat) : Int) := by
    rw [IntKind.wrap_u64, show (w1 : Int) * 2 ^ (32 - s) = ((w1 * 2 ^ (32 - s) : Nat) : Int) by simp]; omega
  have eW0 : (w0 : Int) / 2 ^ s = ((w0 / 2 ^ s : Nat) : Int) := by simp
  have eZ2 : s = 0 → w2 * 2 ^ (64 - s) % 18446744073709551616 = 0 := by
    rintro rfl
    show w2 * 18446744073709551616 % _ = 0
    exact Nat.mul_mod_left _ _
  have eY2 : w2 = 0 → w2 * 2 ^ (64 - s) % 18446744073709551616 = 0 := by rintro rfl; rw [Nat.zero_mul]
  have eY1 : w1 = 0 → w1 * 2 ^ (32 - s) = 0 := by rintro rfl; rw [Nat.zero_mul]
  have eY0 : w0 = 0 → w0 / 2 ^ s = 0 := by rintro rfl; rw [Nat.zero_div]
  generalize w2 * 2 ^ (64 - s) % 18446744073709551616 = t2 at *
  generalize w1 * 2 ^ (32 - s) = t1 at *
  generalize w0 / 2 ^ s = t0 at *
  have hlt : t2 + t1 + t0 < 18446744073709551616 := by
    have : 2 ^ (32 - s) ≤ 2 ^ 32 := Nat.pow_le_pow_right (by omega) (by omega)
    obtain ⟨c, hc⟩ := y5
    have p4 : 2 ^ (32 - s) * 2 ^ (32 + s) = 18446744073709551616 := by rw [← Nat.pow_add, show 32 - s + (32 + s) = 64 by omega]
    rw [hc] at y6 ⊢
    rw [← p4] at y6 ⊢
    have hc2 := Nat.lt_of_mul_lt_mul_left y6
    have := Nat.mul_le_mul_left (2 ^ (32 - s)) (show c + 1 ≤ 2 ^ (32 + s) from hc2)
    rw [Nat.mul_succ] at this
    omega
  have eO1 := or64 t2 t1 (64 - s) y3 y4 y6
  have eO0 := or64 (t2 + t1) t0 (32 - s) y2 y5 hlt
  rw [← y1] at eO0
  clear y1 y2 y3 y4 y5 HY
  have Y2 : Hid _ := eY2
  have Y1 : Hid _ := eY1
  have Y0 : Hid _ := eY0
  have E2 : Hid _ := eZ2
  have T12 : Hid (t2 + t1 < 18446744073709551616) := y6
  have hT1 : t1 < 18446744073709551616 := by omega
  have O1 : Hid _ := eO1
  have O0 : Hid _ := eO0
  have W1 : Hid _ := eW1
  have W2 : Hid _ := eW2
  have W0 : Hid _ := eW0
  clear eY2 eY1 eY0 eZ2 y6 hlt eO1 eO0 eW0 eW1 eW2
  generalize h21 : t2 + t1 = t21 at *
  clear h21
  go_loopw [7, 8] (fun x i wr => wr = w ∧ ((i = .int .i64 2 ∧ x = .int .u64 0) ∨ (i = .int .i64 1 ∧ x = .int .u64 (t2 : Int)) ∨ (i = .int .i64 0 ∧ x = .int .u64 (t21 : Int)) ∨ (i = .int .i64 (-1) ∧ x = .int .u64 (ans : Int)))) (fun _ i _ => (intOf i + 1).toNat)
  case atStart => exact ⟨rfl, Or.inl ⟨rfl, rfl⟩⟩
  case round =>
    obtain ⟨rfl, hc⟩ := hrel
    rcases hc with ⟨rfl, rfl⟩ | ⟨rfl, rfl⟩ | ⟨rfl, rfl⟩ | ⟨rfl, rfl⟩
    · have fin : ∀ z : Int, z = (t2 : Int) → (True ∧ (Value.int IntKind.i64 1 = Value.int IntKind.i64 2 ∧ Value.int IntKind.u64 z = Value.int IntKind.u64 0 ∨ Value.int IntKind.i64 1 = Value.int IntKind.i64 1 ∧ Value.int IntKind.u64 z = Value.int IntKind.u64 t2 ∨ Value.int IntKind.i64 1 = Value.int IntKind.i64 0 ∧ Value.int IntKind.u64 z = Value.int IntKind.u64 t21 ∨ Value.int IntKind.i64 1 = Value.int IntKind.i64 (-1) ∧ Value.int IntKind.u64 z = Value.int IntKind.u64 ans)) ∧ (intOf (Value.int IntKind.i64 1) + 1).toNat < (intOf (Value.int IntKind.i64 2) + 1).toNat := by
        rintro z rfl
        exact ⟨⟨trivial, Or.inr (Or.inl ⟨rfl, rfl⟩)⟩, by decide⟩
      have FIN : Hid _ := fin
      clear fin
      by_cases c : k + 2 < n
      · obtain ⟨b, of, rfl, hcell⟩ := H2.out c
        have cI : (k : Int) + 2 < n := by omega
        by_cases hs0 : s = 0
        · have E := E2.out hs0
          subst hs0
          go_wp2
          exact FIN.out _ (by rw [E]; rfl)
        · have hs1 : (0 : Int) < (s : Int) := by omega
          go_wp2
          exact FIN.out _ W2.out
      · have cI : ¬ (k : Int) + 2 < n := by omega
        have E := Y2.out (Z2.out (by omega))
        by_cases hs0 : s = 0
        · subst hs0
          go_wp2
          exact FIN.out _ (by rw [E]; rfl)
        · have hs1 : (0 : Int) < (s : Int) := by omega
          go_wp2
          exact FIN.out _ (by rw [E]; simp)
    · have fin : ∀ z : Int, z = (t21 : Int) → (True ∧ (Value.int IntKind.i64 0 = Value.int IntKind.i64 2 ∧ Value.int IntKind.u64 z = Value.int IntKind.u64 0 ∨ Value.int IntKind.i64 0 = Value.int IntKind.i64 1 ∧ Value.int IntKind.u64 z = Value.int IntKind.u64 t2 ∨ Value.int IntKind.i64 0 = Value.int IntKind.i64 0 ∧ Value.int IntKind.u64 z = Value.int IntKind.u64 t21 ∨ Value.int IntKind.i64 0 = Value.int IntKind.i64 (-1) ∧ Value.int IntKind.u64 z = Value.int IntKind.u64 ans)) ∧ (intOf (Value.int IntKind.i64 0) + 1).toNat < (intOf (Value.int IntKind.i64 1) + 1).toNat := by
        rintro z rfl
        exact ⟨⟨trivial, Or.inr (Or.inr (Or.inl ⟨rfl, rfl⟩))⟩, by decide⟩
      have FIN : Hid _ := fin
      clear fin
      by_cases c : k + 1 < n
      · obtain ⟨b, of, rfl, hcell⟩ := H1.out c
        have cI : (k : Int) + 1 < n := by omega
        go_wp2
        exact FIN.out _ (by rw [W1.out]; exact O1.out)
      · have cI : ¬ (k : Int) + 1 < n := by omega
        have E := Y1.out (Z1.out (by omega))
        go_wp2
        exact FIN.out _ (by have := O1.out; rw [E] at this; simpa [IntKind.wrap_u64] using this)
    · have fin : ∀ z : Int, z = (ans : Int) → (True ∧ (Value.int IntKind.i64 (-1) = Value.int IntKind.i64 2 ∧ Value.int IntKind.u64 z = Value.int IntKind.u64 0 ∨ Value.int IntKind.i64 (-1) = Value.int IntKind.i64 1 ∧ Value.int IntKind.u64 z = Value.int IntKind.u64 t2 ∨ Value.int IntKind.i64 (-1) = Value.int IntKind.i64 0 ∧ Value.int IntKind.u64 z = Value.int IntKind.u64 t21 ∨ Value.int IntKind.i64 (-1) = Value.int IntKind.i64 (-1) ∧ Value.int IntKind.u64 z = Value.int IntKind.u64 ans)) ∧ (intOf (Value.int IntKind.i64 (-1)) + 1).toNat < (intOf (Value.int IntKind.i64 0) + 1).toNat := by
        rintro z rfl
        exact ⟨⟨trivial, Or.inr (Or.inr (Or.inr ⟨rfl, rfl⟩))⟩, by decide⟩
      have FIN : Hid _ := fin
      clear fin
      by_cases c : k < n
      · obtain ⟨b, of, rfl, hcell⟩ := H0.out c
        have cI : (k : Int) < n := by omega
        go_wp2
        exact FIN.out _ (by rw [W0.out]; exact O0.out)
      · have cI : ¬ (k : Int) < n := by omega
        have E := Y0.out (Z0.out (by omega))
        go_wp2
        exact FIN.out _ (by have := O0.out; rw [E] at this; simpa using this)
    · go_wp2
      go_ret
      exact ⟨rfl, Fr.refl _⟩
theorem topBits_any (v : Value) (N n : Nat) (w : World) (hv : Nm w v N) (hN : N.log2 < 32000000) (hn : n < 32000000) :
    Calls Try.prog 75 #[v, .int .i64 (n : Int)] w fun e w' => e = .returned (.int .u64 ((N / 2 ^ n % 18446744073709551616 : Nat) : Int)) ∧ Fr w w' := by
  obtain ⟨a, l, ca, rfl, hca, hma, hha, hda, rfl, hta, kl⟩ := hv.len 1000000 (by omega)
  have := topBits_core a l ca (n / 32) (n % 32) w hha hda hca hma kl (by omega) (by omega)
  rw [show 32 * (n / 32) + n % 32 = n by omega] at this
  exact this
end Go.Proofs.Ytpfaaimfembhdaa
/-
  OWN TEXT: what divSmall and copied of package eddybig return, for all words.
-/
namespace Go.Proofs.Ytpfaaimfembhdaa
open Go.ChangeShapes Go.WideShapes Go.ChangeAt Go.RowKit
open Bg
set_option linter.unusedVariables false
set_option maxHeartbeats 4000000 in
theorem divSmall_core (a : Option Addr) (l : List Nat) (ca d : Nat) (w : World) (hha : Hs w a l) (hda : Dg l) (hca : l.length ≤ ca) (hma : ca ≤ 1099511627776) (hlen : l.length ≤ 1000000) (hd : 0 < d) (hd2 : d < 4294967296) :
    Calls Try.prog 79 #[.slice a l.length ca, .int .u32 (d : Int)] w fun e w' => ∃ v, e = .returned (.tuple #[v, .int .u32 ((vL l % d : Nat) : Int)]) ∧ Nm w' v (vL l / d) ∧ Fr w w' := by
  have hmk := make_words (l.length : Int) l.length rfl (by omega)
  generalize hn : l.length = n at *
  have HN : Hid (l.length = n) := hn
  clear hn
  have hd3 : ((d : Int) == 0) = false := beq_eq_false_iff_ne.2 (by omega)
  go_enter Try.func79, Try.ntmps79
  go_wp2
  go_loopw [7, 8] (fun rr i wr => ∃ k r : Nat, ∃ o : List Nat, k ≤ n ∧ i = .int .i64 ((k : Int) - 1) ∧ rr = .int .u64 r ∧ r < d ∧ o.length = n ∧ Dg o ∧ Ow wr w.heap.size o ∧ Fr w wr ∧ vL (l.drop k) = vL (o.drop k) * d + r) (fun _ i _ => (intOf i + 1).toNat)
  case atStart => exact ⟨n, 0, List.replicate n 0, Nat.le_refl _, rfl, rfl, hd, by simp, Dg_zeros _, Ow.made _ _ _, (Fr.refl _).alloc _ _, by rw [List.drop_of_length_le (by have := HN.out; omega), List.drop_of_length_le (by simp)]; simp [vL]⟩
  case round =>
    obtain ⟨k, r, o, hk, rfl, rfl, hr, ho, hdo, how, hf, hinv⟩ := hrel
    have HI : Hid (vL (l.drop k) = vL (o.drop k) * d + r) := hinv
    have HO : Hid (o.length = n) := ho
    clear hinv ho
    cases k with
    | zero =>
      have HV : Hid (vL o = vL l / d ∧ r = vL l % d) := by
        have h := HI.out
        rw [List.drop_zero, List.drop_zero] at h
        have h2 : vL l / d = vL o := by
          rw [h, Nat.mul_comm, Nat.mul_add_div hd, Nat.div_eq_of_lt hr, Nat.add_zero]
        have h3 : vL l % d = r := by
          rw [h, Nat.mul_comm, Nat.mul_add_mod, Nat.mod_eq_of_lt hr]
        exact ⟨h2.symm, h3.symm⟩
      go_wp2_with fail
      refine (nm_own how hdo HO.out (by omega)).mono ?_
      rintro e w1 ⟨v, rfl, hnm, rfl⟩
      rw [HV.out.1] at hnm
      have HNM := hnm
      have hr2 : r < 4294967296 := by omega
      go_wp2
      go_ret2
      exact ⟨v, by rw [← HV.out.2]; rfl, HNM, hf⟩
    | succ j =>
      obtain ⟨b, of, rfl, hb, hcell⟩ := hs_len hha (by have := HN.out; omega)
      have h1 : wr.cell? ⟨b, of + j, none⟩ = some (.int .u32 (l.getD j 0 : Nat)) := (hf.1.cell (p := ⟨b, of + j, none⟩) hb).trans (hcell j (by have := HN.out; omega))
      have x1 := hda j
      have hw1 := how.2.1 j (by have := HO.out; omega)
      have hw2 := how.2.2 j
      rw [show (((j + 1 : Nat) : Int) - 1) = (j : Int) by omega]
      have hjn : (j : Int) < n := by omega
      have HS : Hid (vL (l.drop j) = vL ((o.set j ((4294967296 * r + l.getD j 0) / d)).drop j) * d + (4294967296 * r + l.getD j 0) % d) := divs_step l o j d r _ (by have := HN.out; omega) (by have := HO.out; omega) hd rfl HI.out
      generalize l.getD j 0 = x at *
      generalize o.getD j 0 = z at *
      have eO := or32 x r x1 (by omega)
      have l1 : x + 4294967296 * r < 18446744073709551616 := by omega
      rw [Nat.add_comm x] at eO l1
      have l2 : (4294967296 * r + x) / d < 4294967296 := by
        refine (Nat.div_lt_iff_lt_mul hd).2 ?_
        have : 4294967296 * (r + 1) ≤ 4294967296 * d := Nat.mul_le_mul_left _ (by omega)
        omega
      have l3 : (4294967296 * r + x) % d < d := Nat.mod_lt _ hd
      generalize 4294967296 * r + x = t at *
      clear hcell HI
      go_wp2
      have e0 : (t : Int) / d = ((t / d : Nat) : Int) := by simp
      have e1 : IntKind.u64.wrap ((t : Int) / d) % 4294967296 = ((t / d : Nat) : Int) := by
        rw [e0]
        generalize t / d = qq at l2 ⊢
        rw [IntKind.wrap_u64]; omega
      have e2 : (t : Int) % d = ((t % d : Nat) : Int) := by simp
      rw [e1, e2]
      exact ⟨⟨j, t % d, o.set j (t / d), by omega, rfl, rfl, l3, by rw [List.length_set]; exact HO.out, Dg_set hdo _ _ l2, how.set _ _ (by have := HO.out; omega), hf.setCell (Nat.le_refl _) _, HS.out⟩, by simp [intOf]⟩
theorem fr_setCells {w0 : World} (B : Nat) (hB : w0.heap.size ≤ B) (vs : List Value) : ∀ (o : Nat) (w : World), Fr w0 w → Fr w0 (w.setCells B o vs) := by
  induction vs with
  | nil => intro o w h; exact h
  | cons v r ih => intro o w h; exact ih (o + 1) _ (h.setCell hB v)
theorem size_setCells (B : Nat) (vs : List Value) : ∀ (o : Nat) (w : World), (w.setCells B o vs).heap.size = w.heap.size := by
  induction vs with
  | nil => intro o w; rfl
  | cons v r ih => intro o w; show ((w.setCell _ v).setCells B (o + 1) r).heap.size = _; rw [ih]; simp [World.setCell]
/-- the words as values -/
def vs (l : List Nat) : List Value := l.map fun x => .int .u32 (x : Nat)
theorem vs_get (l : List Nat) (j : Nat) (h : j < l.length) : (vs l)[j]? = some (.int .u32 (l.getD j 0 : Nat)) := by
  unfold vs
  simp [h, List.getD]
theorem ow_splice {w : World} {B : Nat} {o l : List Nat} (h : Ow w B o) (hl : l.length ≤ o.length) : Ow (w.setCells B 0 (vs l)) B (l ++ o.drop l.length) := by
  have hvl : (vs l).length = l.length := by simp [vs]
  refine ⟨by rw [size_setCells]; exact h.1, fun i hi => ?_, fun i => (World.frozen?_setCells B _ _ _ _).trans (h.2.2 i)⟩
  by_cases c : i < l.length
  · have := World.cell?_setCells_in B (vs l) 0 w (fun j hj => by rw [Nat.zero_add, h.2.1 j (by omega)]; rfl) i (by omega)
    rw [Nat.zero_add] at this
    rw [this]
    have e := vs_get l i c
    rw [List.getElem?_eq_getElem (by omega)] at e
    rw [e]
    simp [List.getD, List.getElem?_append, c]
  · rw [World.cell?_setCells_out B (vs l) 0 w _ (fun _ _ => Or.inr (by simp; omega))]
    rw [List.length_append, List.length_drop] at hi
    rw [h.2.1 i (by omega)]
    simp only [List.getD, List.getElem?_append, c, if_false, List.getElem?_drop]
    rw [show l.length + (i - l.length) = i by omega]
theorem copy_call (B : Nat) (o l : List Nat) (a : Option Addr) (n m ca cb : Nat) (w : World) (how : Ow w B o) (hh : Hs w a l) (hn : l.length = n) (hm : o.length = m) (hno : n ≤ m) :
    (Builtin.copy_ #[39, 39] 3 #[.slice (some ⟨B, 0, none⟩) m cb, .slice a n ca]).run Try.prog w = .ok (.int .i64 n) (w.setCells B 0 (vs l)) := by
  subst hn hm
  have hu : Try.prog.underlying 39 = some (.slice 70) := by kernel_rfl
  have hs : (Try.prog.info? 70).map (·.size) = some 1 := by kernel_rfl
  have hvl : (vs l).length = l.length := by simp [vs]
  rcases hh with rfl | ⟨b, of, rfl, hb, hcell⟩
  · exact run_copy_none w _ _ _ _ _ _ _ _ _ _ hu hs (by simp)
  · have := run_copy_cells (P := Try.prog) w 39 39 3 70 B 0 o.length cb ⟨b, of, none⟩ l.length ca (vs l) hu hs (by rw [hvl]; exact (Nat.min_eq_left hno).symm) ?_ ?_ ?_ ?_
    · rw [hvl] at this; exact this
    · intro j v hj
      have hjl : j < l.length := by
        have := (List.getElem?_eq_some_iff.1 hj).1; omega
      rw [vs_get l j hjl] at hj
      cases hj
      have hc := hcell j hjl
      simp only [Addr.add]
      by_cases z : j = 0
      · subst z; simpa using hc
      · rw [if_neg z]; exact hc
    · intro j hj; rw [Nat.zero_add, how.2.1 j (by omega)]; rfl
    · intro j hj; exact how.2.2 _
    · intro v hv
      unfold vs at hv
      obtain ⟨x, _, rfl⟩ := List.mem_map.1 hv
      rfl
theorem copied_any (v : Value) (N : Nat) (w : World) (hv : Nm w v N) (hN : N.log2 < 32000000) :
    Calls Try.prog 77 #[v] w fun e w' => ∃ x, e = .returned x ∧ Nm w' x N ∧ Fr w w' := by
  obtain ⟨a, l, ca, rfl, hca, hma, hha, hda, rfl, hta, kl⟩ := hv.len 1000000 (by omega)
  have hmk := make_words (l.length : Int) l.length rfl (by omega)
  have hcp := copy_call w.heap.size (List.replicate l.length 0) l a l.length l.length ca l.length (w.alloc (.cells (zc l.length) 70)) (Ow.made _ _ _) (hha.mono ((Fr.refl _).alloc _ _)) rfl (by simp) (Nat.le_refl _)
  have how := ow_splice (l := l) (Ow.made w l.length 70) (by simp)
  have hfr : Fr w ((w.alloc (.cells (zc l.length) 70)).setCells w.heap.size 0 (vs l)) := fr_setCells _ (Nat.le_refl _) _ _ _ ((Fr.refl _).alloc _ _)
  have HW : Hid (Nm ((w.alloc (.cells (zc l.length) 70)).setCells w.heap.size 0 (vs l)) (.slice (some ⟨w.heap.size, 0, none⟩) l.length l.length) (vL l)) := by
    rw [List.drop_of_length_le (by simp), List.append_nil] at how
    exact ⟨_, l, l.length, rfl, Nat.le_refl _, by omega, how.hs, hda, rfl, hta⟩
  clear how
  generalize (w.alloc (.cells (zc l.length) 70)).setCells w.heap.size 0 (vs l) = w2 at *
  generalize l.length = n at *
  go_enter Try.func77, Try.ntmps77
  go_wp2
  go_ret
  exact ⟨_, rfl, HW.out, hfr⟩
end Go.Proofs.Ytpfaaimfembhdaa
