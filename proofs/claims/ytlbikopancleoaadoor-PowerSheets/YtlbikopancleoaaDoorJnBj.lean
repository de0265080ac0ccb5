/-
  OWN TEXT: what divWords of package eddybig returns where the divisor is the greater one or has one word; plain laws for the rest.
-/
import Derived.Test.YtlbikopancleoaaDoorJnBh
import Derived.Test.YtlbikopancleoaaDoorJnBi
namespace Go.Proofs.YtlbikopancleoaaDoor
open Go.ChangeShapes Go.WideShapes Go.ChangeAt Go.RowKit
open Bg
set_option linter.unusedVariables false
set_option maxHeartbeats 2000000 in
theorem divWords_less (v u : Value) (N M : Nat) (w : World) (hv : Nm w v N) (hu : Nm w u M) (hN : N.log2 < 32000000) (h : N < M) :
    Calls Tryd.prog 91 #[v, u] w fun e w' => ∃ q r, e = .returned (.tuple #[q, r]) ∧ Nm w' q (N / M) ∧ Nm w' r (N % M) ∧ Fr w w' := by
  have e1 : N / M = 0 := Nat.div_eq_of_lt h
  have e2 : N % M = N := Nat.mod_eq_of_lt h
  have e3 : cmpI N M = -1 := cmpI_lt h
  rw [e1, e2]
  clear e1 e2
  go_enter Tryd.func91, Tryd.ntmps91
  go_wp2_with fail
  refine (cmpWords_any v u N M _ hv hu).mono ?_
  rintro e w1 ⟨rfl, hf1⟩
  rw [e3]
  go_wp2_with fail
  refine (copied_any v N _ (hv.mono hf1) hN).mono ?_
  rintro e w2 ⟨x, rfl, hx, hf2⟩
  go_wp2
  go_ret2
  exact ⟨_, _, rfl, nm_nil _, hx, hf1.trans hf2⟩
theorem hs_one {w : World} (x : Nat) : Hs (w.alloc (.cells #[.int .u32 (x : Nat)] 64)) (some ⟨w.heap.size, 0, none⟩) [x] := by
  right
  refine ⟨_, _, rfl, by simp, fun i hi => ?_⟩
  simp only [List.length_cons, List.length_nil] at hi
  match i, hi with
  | 0, _ => simp
theorem dg_one (x : Nat) (h : x < 4294967296) : Dg [x] := by
  intro i
  match i with
  | 0 => exact h
  | n + 1 => show 0 < _; omega
theorem vL_one (x : Nat) : vL [x] = x := by simp [vL]
set_option maxHeartbeats 2000000 in
theorem divWords_one (v : Value) (c : Option Addr) (d cc : Nat) (N : Nat) (w : World) (hv : Nm w v N) (hh : Hs w c [d]) (hcc : 1 ≤ cc) (hcc2 : cc ≤ 1099511627776) (hN : N.log2 < 32000000) (hd : 0 < d) (hd2 : d < 4294967296) (h : d ≤ N) :
    Calls Tryd.prog 91 #[v, .slice c 1 cc] w fun e w' => ∃ q r, e = .returned (.tuple #[q, r]) ∧ Nm w' q (N / d) ∧ Nm w' r (N % d) ∧ Fr w w' := by
  have hdg : Dg [d] := by
    intro i
    match i with
    | 0 => exact hd2
    | n + 1 => show 0 < _; omega
  have hu : Nm w (.slice c 1 cc) d := ⟨c, [d], cc, rfl, hcc, hcc2, hh, hdg, by simp [vL], by simp [tn]; omega⟩
  have e3 : ¬ cmpI N d < 0 := by
    unfold cmpI
    rw [if_neg (by omega)]
    split <;> omega
  obtain ⟨a, l, ca, rfl, hca, hma, hha, hda, rfl, hta, kl⟩ := hv.len 1000000 (by omega)
  obtain ⟨b, of, rfl, hb, hcell⟩ := hs_len hh (by simp)
  have hc0 := hcell 0 (by simp)
  rw [Nat.add_zero] at hc0
  have hc0' : w.cell? ⟨b, of, none⟩ = some (.int .u32 (d : Nat)) := hc0
  clear hc0 hcell
  have hv : Nm w (.slice a l.length ca) (vL l) := ⟨a, l, ca, rfl, hca, hma, hha, hda, rfl, hta⟩
  clear hh
  go_enter Tryd.func91, Tryd.ntmps91
  go_wp2_with fail
  refine (cmpWords_any _ _ (vL l) d _ hv hu).mono ?_
  rintro e w1 ⟨rfl, hf1⟩
  have hc1 : w1.cell? ⟨b, of, none⟩ = some (.int .u32 (d : Nat)) := (hf1.1.cell (p := ⟨b, of, none⟩) hb).trans hc0'
  generalize cmpI (vL l) d = ci at *
  go_wp2_with fail
  refine (divSmall_core a l ca d _ (hha.mono hf1) hda hca hma kl hd hd2).mono ?_
  rintro e w2 ⟨q, rfl, hq, hf2⟩
  have hrl : vL l % d < 4294967296 := Nat.lt_trans (Nat.mod_lt _ hd) hd2
  have hF : Fr w w2 := hf1.trans hf2
  have HQ : Hid (Nm w2 q (vL l / d)) := hq
  clear hq hv hu hc0' hc1 hf1 hf2
  generalize hr : vL l % d = r at *
  have HR : Hid (vL l % d = r) := hr
  clear hr
  go_wp2_with fail
  refine (trim_nm _ [r] 1 1 _ (hs_one r) (dg_one r hrl) rfl (by omega) (by omega)).mono ?_
  rintro e w3 ⟨v, rfl, hnm, rfl⟩
  rw [vL_one] at hnm
  have HN := hnm
  go_wp2
  go_ret2
  exact ⟨_, _, rfl, HQ.out.mono ((Fr.refl _).alloc _ _), by rw [HR.out]; exact HN, hF.alloc _ _⟩
end Go.Proofs.YtlbikopancleoaaDoor
/-
  OWN TEXT: plain laws of long division, word by word: how long the shifted divisor is, what a round leaves, what comes out.
-/
namespace Go.Proofs.YtlbikopancleoaaDoor.Bg
open Go.ChangeShapes Go.WideShapes Go.ChangeAt Go.RowKit
set_option linter.unusedVariables false
theorem vL_app (P s : List Nat) : vL (P ++ s) = vL P + 4294967296 ^ P.length * vL s := by
  induction P with
  | nil => simp [vL]
  | cons x r ih =>
    show x + 4294967296 * vL (r ++ s) = x + 4294967296 * vL r + 4294967296 ^ (r.length + 1) * vL s
    rw [ih, Nat.mul_add, Nat.pow_succ, Nat.add_assoc, Nat.mul_comm (4294967296 ^ r.length) 4294967296, Nat.mul_assoc]
theorem vL_parts (l : List Nat) (k : Nat) : vL l = vL (l.take k) + 4294967296 ^ (l.take k).length * vL (l.drop k) := by
  rw [← vL_app, List.take_append_drop]
theorem vL_parts' (l : List Nat) (k : Nat) (h : k ≤ l.length) : vL l = vL (l.take k) + 4294967296 ^ k * vL (l.drop k) := by
  have := vL_parts l k
  rwa [List.length_take, Nat.min_eq_left h] at this
theorem getD_high (l : List Nat) (k : Nat) (hk : k ≤ l.length) (h : vL l < 4294967296 ^ k) : ∀ i, k ≤ i → l.getD i 0 = 0 := by
  intro i hi
  have h1 := vL_parts' l k hk
  have hp : 0 < 4294967296 ^ k := Nat.pow_pos (by omega)
  have h2 : vL (l.drop k) = 0 := by
    rcases Nat.eq_zero_or_pos (vL (l.drop k)) with z | z
    · exact z
    · have := Nat.mul_le_mul_left (4294967296 ^ k) z
      omega
  have h3 : (l.drop k).getD (i - k) 0 = 0 := by
    generalize i - k = j
    generalize l.drop k = r at h2
    clear h1 h hk hi hp
    induction r generalizing j with
    | nil => exact getD_nil j
    | cons x r ih =>
      have h2 : x + 4294967296 * vL r = 0 := h2
      cases j with
      | zero => show x = 0; omega
      | succ j => rw [getD_cons_succ]; exact ih j (by omega)
  rw [getD_drop, show k + (i - k) = i by omega] at h3
  exact h3
theorem vL_take_high (l : List Nat) (k : Nat) (hk : k ≤ l.length) (h : vL l < 4294967296 ^ k) : vL (l.take k) = vL l := vL_take l k (getD_high l k hk h)
/-- a trimmed row's length is told by its worth -/
theorem len_of (l : List Nat) (k : Nat) (hd : Dg l) (ht : tn l = l.length) (h1 : 4294967296 ^ k ≤ vL l) (h2 : vL l < 4294967296 ^ (k + 1)) : l.length = k + 1 := by
  have a := vL_lt l hd
  have hne : l ≠ [] := by
    rintro rfl
    have hp : 0 < 4294967296 ^ k := Nat.pow_pos (by omega)
    have : vL [] = 0 := rfl
    omega
  have b := vL_ge l ht hne
  have c1 : k < l.length := (Nat.pow_lt_pow_iff_right (by omega : 1 < 4294967296)).1 (Nat.lt_of_le_of_lt h1 a)
  have c2 : l.length - 1 < k + 1 := (Nat.pow_lt_pow_iff_right (by omega : 1 < 4294967296)).1 (Nat.lt_of_le_of_lt b h2)
  omega
theorem top_of (l : List Nat) (k : Nat) (hd : Dg l) (hl : l.length = k + 1) : l.getD k 0 = vL l / 4294967296 ^ k := by
  have h1 := vL_take_succ l k (by omega)
  rw [List.take_of_length_le (by omega)] at h1
  have h2 := vL_lt (l.take k) (Dg_take hd k)
  rw [List.length_take, Nat.min_eq_left (by omega)] at h2
  rw [h1, Nat.add_mul_div_right _ _ (Nat.pow_pos (by omega)), Nat.div_eq_of_lt h2, Nat.zero_add]
/-- the bounds of the shifted divisor -/
theorem shifted (m : List Nat) (k s : Nat) (hd : Dg m) (ht : tn m = m.length) (hl : m.length = k + 1) (hs : s = 32 - bitLen (m.getD k 0)) :
    2147483648 * 4294967296 ^ k ≤ vL m * 2 ^ s ∧ vL m * 2 ^ s < 4294967296 ^ (k + 1) ∧ s < 32 ∧ 4294967296 ^ k ≤ vL m := by
  rw [Nat.pow_succ]
  have h1 := vL_take_succ m k (by omega)
  rw [List.take_of_length_le (by omega)] at h1
  have h2 := vL_lt (m.take k) (Dg_take hd k)
  rw [List.length_take, Nat.min_eq_left (by omega)] at h2
  have h3 := tn_last m (by omega)
  rw [ht, hl, Nat.add_sub_cancel] at h3
  have h4 := hd k
  generalize m.getD k 0 = t at *
  have hb : bitLen t = t.log2 + 1 := by unfold bitLen; rw [if_neg h3]
  have hlg : t.log2 < 32 := (Nat.log2_lt h3).2 h4
  have e1 : 2 ^ t.log2 ≤ t := Nat.log2_self_le h3
  have e2 : t < 2 ^ (t.log2 + 1) := Nat.lt_log2_self
  have es : s + t.log2 = 31 := by omega
  have p1 : 2 ^ t.log2 * 2 ^ s = 2147483648 := by rw [← Nat.pow_add, Nat.add_comm, es]
  have p2 : 2 ^ (t.log2 + 1) * 2 ^ s = 4294967296 := by rw [← Nat.pow_add, show t.log2 + 1 + s = 32 by omega]
  generalize 4294967296 ^ k = P at *
  have q1 : 2147483648 * P ≤ t * 2 ^ s * P := Nat.mul_le_mul_right _ (by rw [← p1]; exact Nat.mul_le_mul_right _ e1)
  have q2 : (t + 1) * 2 ^ s ≤ 4294967296 := by rw [← p2]; exact Nat.mul_le_mul_right _ e2
  have q3 : (t + 1) * 2 ^ s * P ≤ 4294967296 * P := Nat.mul_le_mul_right _ q2
  have hp : 0 < 2 ^ s := Nat.pow_pos (by omega)
  refine ⟨?_, ?_, by omega, ?_⟩
  · rw [h1, Nat.add_mul, Nat.mul_right_comm t P]
    omega
  · have a1 : vL m < (t + 1) * P := by rw [h1, Nat.add_mul]; omega
    have a2 : vL m * 2 ^ s < (t + 1) * P * 2 ^ s := Nat.mul_lt_mul_of_pos_right a1 hp
    rw [Nat.mul_right_comm] at a2
    rw [Nat.mul_comm P]
    omega
  · rw [h1]
    have := Nat.mul_le_mul_right P (show 1 ≤ t by omega)
    omega
/-- ahead of the first round -/
theorem long_start (o : List Nat) (N M k t s : Nat) (hd : Dg o) (ho : vL o = N * 2 ^ s) (hN : N < 4294967296 ^ (t + k)) (hM : 4294967296 ^ k ≤ M) : vL (o.drop t) < M * 2 ^ s := by
  rw [vL_drop o t hd, ho]
  refine Nat.div_lt_of_lt_mul ?_
  rw [Nat.pow_add] at hN
  have hp : 0 < 2 ^ s := Nat.pow_pos (by omega)
  calc N * 2 ^ s < 4294967296 ^ t * 4294967296 ^ k * 2 ^ s := Nat.mul_lt_mul_of_pos_right hN hp
    _ ≤ 4294967296 ^ t * M * 2 ^ s := Nat.mul_le_mul_right _ (Nat.mul_le_mul_left _ hM)
    _ = _ := Nat.mul_assoc _ _ _
/-- a round: the row from its place on is below the divisor times a word, and is told by as many words as the divisor has and one -/
theorem long_in (o : List Nat) (V k j : Nat) (hd : Dg o) (hj : j + k + 1 ≤ o.length) (hV : V ≤ 4294967296 ^ k) (h : vL (o.drop (j + 1)) < V) :
    vL ((o.drop j).take (k + 1)) = vL (o.drop j) ∧ vL (o.drop j) < V * 4294967296 ∧ ∀ i, k + 1 ≤ i → (o.drop j).getD i 0 = 0 := by
  have h1 := vL_drop_succ o j (by omega)
  have h2 := hd j
  have h3 : vL (o.drop j) < V * 4294967296 := by omega
  have h4 : vL (o.drop j) < 4294967296 ^ (k + 1) := by rw [Nat.pow_succ]; exact Nat.lt_of_lt_of_le h3 (Nat.mul_le_mul_right _ hV)
  exact ⟨vL_take_high _ _ (by rw [List.length_drop]; omega) h4, h3, getD_high _ _ (by rw [List.length_drop]; omega) h4⟩
theorem long_out (o q s' : List Nat) (V W j fig : Nat) (hj : j < o.length) (hq : j < q.length) (hs : vL s' = vL (o.drop j) % V) (hf : fig = vL (o.drop j) / V) (h : vL o + V * vL (q.drop (j + 1)) * 4294967296 ^ (j + 1) = W) :
    vL (o.take j ++ s') + V * vL ((q.set j fig).drop j) * 4294967296 ^ j = W := by
  rw [vL_app, List.length_take, Nat.min_eq_left (by omega), hs, vL_drop_succ (q.set j fig) j (by rw [List.length_set]; omega), getD_set _ _ _ _ hq, if_pos rfl, drop_set, ← h, vL_parts' o j (by omega)]
  have e := Nat.div_add_mod (vL (o.drop j)) V
  rw [← hf] at e
  rw [Nat.pow_succ]
  generalize vL (o.drop j) % V = r at *
  generalize 4294967296 ^ j = P at *
  generalize vL (q.drop (j + 1)) = Q at *
  rw [← e, Nat.mul_add V, Nat.add_mul (V * fig), Nat.mul_add P]
  have a1 : V * (4294967296 * Q) * P = V * Q * (P * 4294967296) := by
    rw [Nat.mul_left_comm V, Nat.mul_comm P, ← Nat.mul_assoc (V * Q), Nat.mul_comm (V * Q)]
  have a2 : V * fig * P = P * (V * fig) := Nat.mul_comm _ _
  omega
theorem long_end (o q : List Nat) (N M s : Nat) (hM : 0 < M) (h : vL o + M * 2 ^ s * vL q = N * 2 ^ s) (hl : vL o < M * 2 ^ s) : vL q = N / M ∧ vL o / 2 ^ s = N % M := by
  have hp : 0 < 2 ^ s := Nat.pow_pos (by omega)
  have h1 : vL q = N * 2 ^ s / (M * 2 ^ s) := by
    rw [← h, Nat.add_mul_div_left _ _ (Nat.mul_pos hM hp), Nat.div_eq_of_lt hl, Nat.zero_add]
  have h2 : vL o = N * 2 ^ s % (M * 2 ^ s) := by
    rw [← h, Nat.add_mul_mod_self_left, Nat.mod_eq_of_lt hl]
  rw [Nat.mul_div_mul_right _ _ hp] at h1
  rw [Nat.mul_mod_mul_right] at h2
  exact ⟨h1, by rw [h2, Nat.mul_div_cancel _ hp]⟩
end Go.Proofs.YtlbikopancleoaaDoor.Bg
