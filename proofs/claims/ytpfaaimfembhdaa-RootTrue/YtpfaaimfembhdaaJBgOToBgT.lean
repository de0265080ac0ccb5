/-
  OWN TEXT: what divWords of package eddybig returns, for all words: the quotient and what is left.
-/
import Derived.Test.YtpfaaimfembhdaaJBgJToBgK
import Derived.Test.YtpfaaimfembhdaaJBgHToBgI
import Derived.Deep.RegionWith
namespace Go.Proofs.Ytpfaaimfembhdaa
open Go.ChangeShapes Go.WideShapes Go.ChangeAt Go.RowKit
open Bg
set_option linter.unusedVariables false
theorem Ow.mono {w w' : World} {B : Nat} {o : List Nat} (h : Ow w B o) (f : Fr w w') : Ow w' B o :=
  ⟨Nat.lt_of_lt_of_le h.1 f.1.size, fun i hi => (f.1.cell (p := ⟨B, i, none⟩) h.1).trans (h.2.1 i hi), fun i => (f.2 _).trans (h.2.2 i)⟩
theorem Ow.other {w : World} {B C : Nat} {o : List Nat} (h : Ow w B o) (hC : B ≠ C) (i : Nat) (v : Value) : Ow (w.setCell ⟨C, i, none⟩ v) B o :=
  ⟨by simpa [World.setCell] using h.1, fun j hj => (World.cell?_of_block (w := w) (a := ⟨B, j, none⟩) (Below.heap_setCell _ _ _ _ hC)).trans (h.2.1 j hj), fun j => (World.frozen?_setCell _ _ _ _).trans (h.2.2 j)⟩
theorem log2_lt_of (x k : Nat) (h : x < 2 ^ k) (hk : 0 < k) : x.log2 < k := by
  by_cases z : x = 0
  · subst z; simpa using hk
  · exact (Nat.log2_lt z).2 h
theorem log2_up {a b : Nat} (h : a ≤ b) : a.log2 ≤ b.log2 := by
  by_cases z : a = 0
  · subst z; simp
  · exact (Nat.le_log2 (by omega)).2 (Nat.le_trans (Nat.log2_self_le z) h)
/-- a trimmed row is not longer than its bound -/
theorem len_le (l : List Nat) (k : Nat) (ht : tn l = l.length) (h2 : vL l < 4294967296 ^ k) : l.length ≤ k := by
  by_cases e : l = []
  · subst e; exact Nat.zero_le _
  · have := vL_ge l ht e
    have := (Nat.pow_lt_pow_iff_right (by omega : 1 < 4294967296)).1 (Nat.lt_of_le_of_lt this h2)
    omega
theorem shift_lt (N n s : Nat) (h : N < 4294967296 ^ n) (hs : s < 32) : N * 2 ^ s < 4294967296 ^ (n + 1) := by
  rw [Nat.pow_succ]
  have h1 : 2 ^ s ≤ 2 ^ 32 := Nat.pow_le_pow_right (by omega) (by omega)
  exact Nat.lt_of_lt_of_le (Nat.mul_lt_mul_of_pos_right h (Nat.pow_pos (by omega))) (Nat.mul_le_mul_left _ h1)
set_option maxHeartbeats 8000000 in
set_option maxRecDepth 100000 in
theorem divWords_many (v : Value) (b of cc k : Nat) (m : List Nat) (N : Nat) (w : World) (hv : Nm w v N) (hh : Hs w (some ⟨b, of, none⟩) m) (hdm : Dg m) (htm : tn m = m.length) (hm : m.length = k + 2) (hcc : k + 2 ≤ cc) (hcc2 : cc ≤ 1099511627776) (hN : N.log2 < 32000000) (h : vL m ≤ N) :
    Calls Try.prog 63 #[v, .slice (some ⟨b, of, none⟩) (k + 2) cc] w fun e w' => ∃ q r, e = .returned (.tuple #[q, r]) ∧ Nm w' q (N / vL m) ∧ Nm w' r (N % vL m) ∧ Fr w w' := by
  have e3 : ¬ cmpI N (vL m) < 0 := by
    unfold cmpI
    rw [if_neg (by omega)]
    split <;> omega
  obtain ⟨hb, hcell⟩ : b < w.heap.size ∧ ∀ i, i < m.length → w.cell? ⟨b, of + i, none⟩ = some (.int .u32 (m.getD i 0 : Nat)) := by
    obtain ⟨b', o', e, hb, hc⟩ := hs_len hh (by omega)
    cases e
    exact ⟨hb, hc⟩
  have hu : Nm w (.slice (some ⟨b, of, none⟩) (k + 2) cc) (vL m) := ⟨_, m, cc, by rw [hm], by omega, hcc2, hh, hdm, rfl, htm⟩
  obtain ⟨a, l, ca, rfl, hca, hma, hha, hda, rfl, hta, kl⟩ := hv.len 1000000 (by omega)
  have hc0 : w.cell? ⟨b, of + (k + 1), none⟩ = some (.int .u32 (m.getD (k + 1) 0 : Nat)) := hcell (k + 1) (by omega)
  have x1 := hdm (k + 1)
  obtain ⟨s1, s2, s3, s4⟩ := shifted m (k + 1) _ hdm htm hm rfl
  have hkl : k + 2 ≤ l.length := by
    have a1 := vL_lt l hda
    have := (Nat.pow_lt_pow_iff_right (by omega : 1 < 4294967296)).1 (Nat.lt_of_le_of_lt (Nat.le_trans s4 h) a1)
    omega
  have hMl : (vL m).log2 < 32000000 := Nat.lt_of_le_of_lt (log2_up h) hN
  generalize hT : m.getD (k + 1) 0 = t at *
  generalize hS : 32 - bitLen t = s at *
  have HT : Hid (32 - bitLen t = s) := hS
  clear hS hT
  have HS1 : Hid _ := s1
  have HS2 : Hid _ := s2
  have HS4 : Hid _ := s4
  clear s1 s2 s4
  go_enter Try.func63, Try.ntmps63
  go_wp2_with fail
  refine (cmpWords_any _ _ (vL l) (vL m) _ hv hu).mono ?_
  rintro e w1 ⟨rfl, hf1⟩
  have hc1 : w1.cell? ⟨b, of + (k + 1), none⟩ = some (.int .u32 (t : Nat)) := (hf1.1.cell (p := ⟨b, of + (k + 1), none⟩) hb).trans hc0
  generalize cmpI (vL l) (vL m) = ci at *
  generalize hn : l.length = n at *
  go_wp2_with fail
  refine (lead32_any t _ x1).mono ?_
  rintro e w1' ⟨rfl, rfl⟩
  rw [HT.out]
  go_wp2_with fail
  refine (up_words _ (vL m) s _ (hu.mono hf1) hMl (by omega)).mono ?_
  rintro e w2 ⟨x, rfl, hx, hf2⟩
  have hF2 : Fr w w2 := hf1.trans hf2
  obtain ⟨a2, m2, c2, rfl, hc2, hd2, hh2, hg2, hv2, ht2⟩ := hx
  have hm2 : m2.length = k + 2 := len_of m2 (k + 1) hg2 ht2 (by rw [hv2]; have := HS1.out; generalize 4294967296 ^ (k + 1) = P at *; omega) (by rw [hv2]; exact HS2.out)
  obtain ⟨b2, of2, rfl, hb2, hcell2⟩ := hs_len hh2 (by omega)
  have HTP : Hid (2147483648 ≤ m2.getD (k + 1) 0) := by
    show _ ≤ _
    rw [top_of m2 (k + 1) hg2 hm2, hv2]
    exact (Nat.le_div_iff_mul_le (Nat.pow_pos (by omega))).2 HS1.out
  rw [hm2] at hc2 hcell2
  have HV2 : Hid _ := hv2
  have HG2 : Hid _ := hg2
  have HC2 : Hid _ := hcell2
  clear hh2 hv2 ht2 hg2 hcell2 hc0 hc1 hcell
  rw [hm2]
  have hmk := make_words ((n : Int) + 1) (n + 1) (by omega) (by omega)
  go_wp2_with fail
  have hf3 : Fr w (w2.alloc (.cells (zc (n + 1)) 70)) := hF2.alloc _ _
  refine (up_words _ (vL l) s _ (hv.mono hf3) hN (by omega)).mono ?_
  rintro e w3 ⟨x, rfl, hx, hf4⟩
  have how := (Ow.made w2 (n + 1) 70).mono hf4
  have hF3 : Fr w w3 := hf3.trans hf4
  have hF3' : Fr w2 w3 := ((Fr.refl w2).alloc _ _).trans hf4
  obtain ⟨a3, l3, c3, rfl, hc3, hd3, hh3, hg3, hv3, ht3⟩ := hx
  have hl3 : l3.length ≤ n + 1 := len_le l3 _ ht3 (by rw [hv3]; refine shift_lt _ _ _ ?_ s3; rw [← hn]; exact vL_lt l hda)
  have hcp := copy_call w2.heap.size (List.replicate (n + 1) 0) l3 a3 l3.length (n + 1) c3 (n + 1) w3 how hh3 rfl (by simp) hl3
  have how2 := ow_splice (l := l3) how (by simpa using hl3)
  have hF4 : Fr w2 (w3.setCells w2.heap.size 0 (vs l3)) := fr_setCells _ (Nat.le_refl _) _ _ _ hF3'
  have hF5 : Fr w (w3.setCells w2.heap.size 0 (vs l3)) := fr_setCells _ hF2.1.size _ _ _ hF3
  obtain ⟨o, ho1, ho2, ho3, how3⟩ : ∃ o : List Nat, o.length = n + 1 ∧ Dg o ∧ vL o = vL l * 2 ^ s ∧ Ow (w3.setCells w2.heap.size 0 (vs l3)) w2.heap.size o := by
    refine ⟨_, ?_, ?_, ?_, how2⟩
    · rw [List.length_append, List.length_drop, List.length_replicate]; omega
    · exact Dg_app hg3 (Dg_drop (Dg_zeros _) _)
    · rw [vL_app, vL_zero (List.drop _ _) (fun i => by rw [getD_drop]; exact getD_zeros _ _), hv3]; simp
  generalize w3.setCells w2.heap.size 0 (vs l3) = w4 at *
  have HO : Hid (o.length = n + 1) := ho1
  have HD : Hid (Dg o) := ho2
  have HV : Hid (vL o = vL l * 2 ^ s) := ho3
  clear ho1 ho2 ho3 how how2 hh3 hg3 hv3 ht3 hmk hf4 hF3 hF3'
  have hmk := make_words ((n : Int) - ((k : Int) + 2) + 1) (n - (k + 1)) (by omega) (by omega)
  go_wp2_with fail
  have hB1 : w2.heap.size < w4.heap.size := how3.1
  go_loopw [13] (fun i wr => ∃ t : Nat, ∃ o qq : List Nat, t ≤ n - (k + 1) ∧ i = .int .i64 ((t : Int) - 1) ∧ Hid (o.length = n + 1) ∧ Hid (qq.length = n - (k + 1)) ∧ Hid (Dg o) ∧ Hid (Dg qq) ∧ Ow wr w2.heap.size o ∧ Ow wr w4.heap.size qq ∧ Fr w2 wr ∧ Hid (vL o + vL m * 2 ^ s * vL (qq.drop t) * 4294967296 ^ t = vL l * 2 ^ s) ∧ Hid (vL (o.drop t) < vL m * 2 ^ s)) (fun i _ => (intOf i + 1).toNat)
  case atStart =>
    refine ⟨n - (k + 1), o, List.replicate (n - (k + 1)) 0, Nat.le_refl _, congrArg _ (by omega), HO, by show _ = _; simp, HD, Dg_zeros _, ?_, ?_, ?_, ?_, ?_⟩
    · exact how3.mono ((Fr.refl _).alloc _ _)
    · exact Ow.made _ _ _
    · exact hF4.alloc _ _
    · show _ = _
      rw [List.drop_of_length_le (by simp)]
      rw [HV.out]; simp [vL]
    · show _ < _
      exact long_start o (vL l) (vL m) (k + 1) _ s HD.out HV.out (by rw [show n - (k + 1) + (k + 1) = n by omega, ← hn]; exact vL_lt l hda) HS4.out
  case round =>
    obtain ⟨t', o', qq, ht', rfl, HOl, HQl, HDo, HDq, hwo, hwq, hfr, HI, HLt⟩ := hrel
    cases t' with
    | zero =>
      have HI0 := HI.out
      rw [List.drop_zero, Nat.pow_zero, Nat.mul_one] at HI0
      have HL0 := HLt.out
      rw [List.drop_zero] at HL0
      have hMpos : 0 < vL m := Nat.lt_of_lt_of_le (Nat.pow_pos (by omega)) HS4.out
      obtain ⟨HE1, HE2⟩ := long_end o' qq (vL l) (vL m) s hMpos HI0 HL0
      have htk : vL (o'.take (k + 2)) = vL o' := vL_take_high o' (k + 2) (by have := HOl.out; omega) (Nat.lt_trans HL0 HS2.out)
      have hlog : (vL o').log2 < 32000000 := by
        have := Nat.lt_trans HL0 HS2.out
        rw [pow32] at this
        have := log2_lt_of _ _ this (by omega)
        omega
      have HT1 : ∀ wz, Ow wz w4.heap.size qq → Calls Try.prog 57 #[.slice (some ⟨w4.heap.size, 0, none⟩) (n - (k + 1)) (n - (k + 1))] wz fun e w' => ∃ v, e = .returned v ∧ Nm wz v (vL l / vL m) ∧ w' = wz := by
        intro wz hz
        have := nm_own hz HDq.out HQl.out (by omega)
        rw [HE1] at this
        exact this
      have HT2 : ∀ wz, Ow wz w2.heap.size o' → Calls Try.prog 57 #[.slice (some ⟨w2.heap.size, 0, none⟩) (k + 2) (n + 1)] wz fun e w' => ∃ v, e = .returned v ∧ Nm wz v (vL o') ∧ w' = wz := by
        intro wz hz
        have := trim_nm (some ⟨w2.heap.size, 0, none⟩) (o'.take (k + 2)) (k + 2) (n + 1) wz (hz.hs.take _) (Dg_take HDo.out _) (by rw [List.length_take]; have := HOl.out; omega) (by omega) (by omega)
        rw [htk] at this
        exact this
      have H1 : Hid _ := HT1
      have H2 : Hid _ := HT2
      have H3 : Hid _ := HE2
      have hFr : Fr w wr := hF2.trans hfr
      clear HI0 HL0 HE1 HE2 htk HT1 HT2
      go_wp2
      generalize w4.heap.size = B2 at *
      generalize w2.heap.size = B1 at *
      go_region_with (first
        | (go_at_call_of 57 B2; refine (H1.out _ ?_).mono ?_; exact hwq; rintro e wz ⟨vq, rfl, hvq, rfl⟩)
        | (go_at_call_of 57 B1; refine (H2.out _ ?_).mono ?_; exact hwo; rintro e wz ⟨vu, rfl, hvu, rfl⟩)
        | (go_at_call 82; refine (down_words _ _ s _ ?_ hlog (by omega)).mono ?_; exact hvu; rintro e wz ⟨vr, rfl, hvr, hfz⟩))
      all_goals rw [H3.out] at hvr
      all_goals (try go_wp2)
      all_goals go_ret2
      all_goals exact ⟨_, _, rfl, hvq.mono hfz, hvr, hFr.drew.trans hfz⟩
    | succ j =>
      rw [show (((j + 1 : Nat) : Int) - 1) = (j : Int) by omega]
      have hjn : (j : Int) + (k : Int) + 2 ≤ n := by omega
      have hw1 := hwq.2.1 j (by have := HQl.out; omega)
      have hw2 := hwq.2.2 j
      go_wp2_with fail
      rw [show j + (k + 2) + 1 - j = k + 3 by omega]
      have hV2b : vL m * 2 ^ s ≤ 4294967296 ^ (k + 2) := Nat.le_of_lt HS2.out
      obtain ⟨g1, g2, g3⟩ := long_in o' (vL m * 2 ^ s) (k + 2) j HDo.out (by have := HOl.out; omega) hV2b HLt.out
      have hne : b2 ≠ w2.heap.size := by omega
      have hta : o'.take j ++ o'.drop j = o' := List.take_append_drop _ _
      refine (figure_core w2.heap.size j k (n + 1 - j) c2 b2 of2 (o'.take j) (o'.drop j) m2 wr wr (by rw [List.length_take]; have := HOl.out; omega) (by rw [List.length_drop]; have := HOl.out; omega) hm2 (by omega) (by omega) (by omega) (by omega) hc2 hd2 (Dg_drop HDo.out _) HG2.out (fun i hi => (hfr.1.cell (p := ⟨b2, of2 + i, none⟩) hb2).trans (HC2.out i hi)) hne (Fb.refl _ _) (by rw [hta]; exact hwo) HTP.out (by rw [HV2.out, show k + 3 = k + 2 + 1 by omega, g1]; exact g2)).mono ?_
      rintro e w5 ⟨s', rfl, hl', hd', hv', hz', how5, hfb⟩
      rw [HV2.out, show k + 3 = k + 2 + 1 by omega, g1] at hv'
      rw [HV2.out, show k + 3 = k + 2 + 1 by omega, g1]
      have hs' : vL s' = vL (o'.drop j) % (vL m * 2 ^ s) := by
        rw [← hv']
        refine (vL_take s' (k + 2 + 1) (fun i hi => ?_)).symm
        rw [hz' i hi]; exact g3 i hi
      have hVp : 0 < vL m * 2 ^ s := Nat.lt_of_le_of_lt (Nat.zero_le _) HLt.out
      have hfig : vL (o'.drop j) / (vL m * 2 ^ s) < 4294967296 := Nat.div_lt_of_lt_mul g2
      have HOUT : Hid (∀ fig, fig = vL (o'.drop j) / (vL m * 2 ^ s) → vL (o'.take j ++ s') + vL m * 2 ^ s * vL ((qq.set j fig).drop j) * 4294967296 ^ j = vL l * 2 ^ s) := fun fig hf => long_out o' qq s' _ _ j fig (by have := HOl.out; omega) (by have := HQl.out; omega) hs' hf HI.out
      have HLN : Hid (vL ((o'.take j ++ s').drop j) < vL m * 2 ^ s) := by
        show _ < _
        rw [List.drop_append_of_le_length (by rw [List.length_take]; have := HOl.out; omega), List.drop_of_length_le (l := o'.take j) (by rw [List.length_take]; omega), List.nil_append, hs']
        exact Nat.mod_lt _ hVp
      have HLL : Hid ((o'.take j ++ s').length = n + 1) := by
        show _ = _
        rw [List.length_append, hl', List.length_take, List.length_drop]; have := HOl.out; omega
      have HDD : Hid (Dg (o'.take j ++ s')) := Dg_app (Dg_take HDo.out _) hd'
      have hf5 : Fr w2 w5 := hfb.fr hfr (Nat.le_refl _)
      have hwq5 : Ow w5 w4.heap.size qq := hfb.ow (by omega) hwq
      have hw15 := hwq5.2.1 j (by have := HQl.out; omega)
      have hw25 := hwq5.2.2 j
      generalize hfg : vL (o'.drop j) / (vL m * 2 ^ s) = fig at *
      have HF2 : Hid _ := HOUT.out fig rfl
      generalize o'.take j ++ s' = o2 at *
      clear hfg HOUT hs' hv' hz' hd' hl' g1 g2 g3 hta hwo hwq hw1 hw2 HI HLt hVp hV2b hfb
      go_wp2
      go_roundw
      case rel => exact ⟨j, o2, qq.set j fig, by omega, rfl, HLL, by show _ = _; rw [List.length_set]; exact HQl.out, HDD, Dg_set HDq.out _ _ hfig, how5.other (by omega) _ _, hwq5.set _ _ (by have := HQl.out; omega), hf5.setCell (show w2.heap.size ≤ w4.heap.size by omega) _, HF2, HLN⟩
      case measure => simp [intOf]
/-- division, for all words: the quotient and what is left -/
theorem divWords_any (v u : Value) (N M : Nat) (w : World) (hv : Nm w v N) (hu : Nm w u M) (hN : N.log2 < 32000000) (hM : 0 < M) :
    Calls Try.prog 63 #[v, u] w fun e w' => ∃ q r, e = .returned (.tuple #[q, r]) ∧ Nm w' q (N / M) ∧ Nm w' r (N % M) ∧ Fr w w' := by
  by_cases h : N < M
  · exact divWords_less v u N M w hv hu hN h
  · obtain ⟨c, m, cc, rfl, hcc, hcm, hh, hdm, rfl, htm⟩ := hu
    match m, hcc, hh, hdm, htm, hM, h with
    | [], _, _, _, _, hM, _ => exact absurd hM (by simp [vL])
    | [d], hcc, hh, hdm, htm, hM, h =>
      rw [vL_one] at hM h ⊢
      exact divWords_one v c d cc N w hv hh hcc hcm hN hM (hdm 0) (by omega)
    | d :: d' :: r, hcc, hh, hdm, htm, hM, h =>
      obtain ⟨b, of, rfl, hb, _⟩ := hs_len hh (by simp)
      exact divWords_many v b of cc r.length (d :: d' :: r) N w hv hh hdm htm (by simp) hcc hcm hN (by omega)
end Go.Proofs.Ytpfaaimfembhdaa
/-
  OWN TEXT: what blend of package eddybig returns: one number times p and another times q, together.
-/
namespace Go.Proofs.Ytpfaaimfembhdaa
open Go.ChangeShapes Go.WideShapes Go.ChangeAt Go.RowKit
open Bg
set_option linter.unusedVariables false
theorem blend_step (vo vl vm P p q c c' d x y t : Int) (h : vo + c * P = p * vl + q * vm) (ht : t = p * x + c + q * y) (hd : t = c' * 4294967296 + d) : vo + d * P + c' * (P * 4294967296) = p * (vl + x * P) + q * (vm + y * P) := by
  have e : t * P = t * P := rfl
  have e1 : t * P = p * x * P + c * P + q * y * P := by rw [ht, Int.add_mul, Int.add_mul]
  have e2 : t * P = c' * 4294967296 * P + d * P := by rw [hd, Int.add_mul]
  have e3 : c' * (P * 4294967296) = c' * 4294967296 * P := by rw [Int.mul_comm P, ← Int.mul_assoc]
  rw [Int.mul_add, Int.mul_add, e3, ← Int.mul_assoc p, ← Int.mul_assoc q]
  omega
/-- a product of a small factor and a word, with its bounds -/
theorem pb_pos (p : Int) (x : Nat) (h0 : 0 ≤ p) (h1 : p ≤ 1073741824) (hx : x < 4294967296) : 0 ≤ p * x ∧ p * x ≤ 4611686018427387904 := by
  obtain ⟨k, rfl⟩ : ∃ k : Nat, p = k := ⟨p.toNat, by omega⟩
  have h := Nat.mul_le_mul (show k ≤ 1073741824 by omega) (show x ≤ 4294967296 by omega)
  have e : (k : Int) * x = ((k * x : Nat) : Int) := by simp
  rw [e]
  omega
theorem pb_neg (p : Int) (x : Nat) (h0 : p ≤ 0) (h1 : -1073741824 ≤ p) (hx : x < 4294967296) : -4611686018427387904 ≤ p * x ∧ p * x ≤ 0 := by
  have := pb_pos (-p) x (by omega) (by omega) hx
  rw [Int.neg_mul] at this
  omega
def Two (p q : Int) : Prop := (0 ≤ p ∧ p ≤ 1073741824 ∧ q ≤ 0 ∧ -1073741824 ≤ q) ∨ (p ≤ 0 ∧ -1073741824 ≤ p ∧ 0 ≤ q ∧ q ≤ 1073741824)
theorem two_bounds (p q : Int) (h : Two p q) (x y : Nat) (hx : x < 4294967296) (hy : y < 4294967296) : -4611686018427387904 ≤ p * x ∧ p * x ≤ 4611686018427387904 ∧ -4611686018427387904 ≤ q * y ∧ q * y ≤ 4611686018427387904 ∧ -4611686018427387904 ≤ p * x + q * y ∧ p * x + q * y ≤ 4611686018427387904 := by
  rcases h with ⟨a, b, c, d⟩ | ⟨a, b, c, d⟩
  · have h1 := pb_pos p x a b hx
    have h2 := pb_neg q y c d hy
    omega
  · have h1 := pb_neg p x a b hx
    have h2 := pb_pos q y c d hy
    omega
set_option maxHeartbeats 4000000 in
theorem blend_core (a c : Option Addr) (l m : List Nat) (ca cc : Nat) (p q : Int) (R : Nat) (w : World) (hha : Hs w a l) (hhc : Hs w c m) (hda : Dg l) (hdc : Dg m) (hca : l.length ≤ ca) (hcc : m.length ≤ cc) (hma : ca ≤ 1099511627776) (hlen : l.length ≤ 1099511627000) (hmc : cc ≤ 1099511627776) (hlm : m.length ≤ l.length) (htw : Two p q) (hR : p * (vL l : Int) + q * (vL m : Int) = R) :
    Calls Try.prog 76 #[.slice a l.length ca, .slice c m.length cc, .int .i64 p, .int .i64 q] w fun e w' => ∃ v, e = .returned v ∧ Nm w' v R ∧ Fr w w' := by
  have hmk := make_words ((l.length : Int) + 1) (l.length + 1) (by omega) (by omega)
  have hp1 : -1073741824 ≤ p ∧ p ≤ 1073741824 ∧ -1073741824 ≤ q ∧ q ≤ 1073741824 := by
    rcases htw with h | h <;> omega
  have HTW : Hid (Two p q) := htw
  have HRR : Hid (p * (vL l : Int) + q * (vL m : Int) = R) := hR
  clear htw hR
  generalize hn : l.length = n at *
  have HN : Hid (l.length = n) := hn
  generalize hn2 : m.length = n2 at *
  have HN2 : Hid (m.length = n2) := hn2
  clear hn hn2
  obtain ⟨p1, p2, p3, p4⟩ := hp1
  go_enter Try.func76, Try.ntmps76
  go_wp2
  go_loopw [10, 11] (fun cv i wr => ∃ j : Nat, ∃ z : Int, ∃ o : List Nat, j ≤ n ∧ i = .int .i64 j ∧ cv = .int .i64 z ∧ -2147483648 ≤ z ∧ z ≤ 2147483648 ∧ Hid (o.length = n + 1) ∧ Hid (Dg o) ∧ Ow wr w.heap.size o ∧ Fr w wr ∧ Hid ((vL (o.take j) : Int) + z * (4294967296 ^ j : Nat) = p * (vL (l.take j) : Nat) + q * (vL (m.take j) : Nat))) (fun _ i _ => n - (intOf i).toNat)
  case atStart => exact ⟨0, 0, List.replicate (n + 1) 0, Nat.zero_le _, rfl, rfl, by omega, by omega, by show _ = _; simp, Dg_zeros _, Ow.made _ _ _, (Fr.refl _).alloc _ _, by show _ = _; simp [vL]⟩
  case round =>
    obtain ⟨j, z, o, hj, rfl, rfl, hz1, hz2, HO, HD, how, hf, HI⟩ := hrel
    by_cases hlt : j < n
    · have hb1 := hs_len hha (by have := HN.out; omega)
      obtain ⟨b, of, rfl, hb, hcell⟩ := hb1
      have h1 : wr.cell? ⟨b, of + j, none⟩ = some (.int .u32 (l.getD j 0 : Nat)) := (hf.1.cell (p := ⟨b, of + j, none⟩) hb).trans (hcell j (by have := HN.out; omega))
      have x1 := hda j
      have y1 := hdc j
      have hw1 := how.2.1 j (by have := HO.out; omega)
      have hw2 := how.2.2 j
      have hltI : (j : Int) < n := by omega
      have hltI' : (j : Int) < (n : Int) + 1 := by omega
      obtain ⟨b1, b2, b3, b4, b5, b6⟩ := two_bounds p q HTW.out (l.getD j 0) (m.getD j 0) x1 y1
      have HS : Hid (∀ t c' : Int, ∀ d : Nat, t = p * (l.getD j 0 : Nat) + z + q * (m.getD j 0 : Nat) → t = c' * 4294967296 + d → (vL ((o.set j d).take (j + 1)) : Int) + c' * (4294967296 ^ (j + 1) : Nat) = p * (vL (l.take (j + 1)) : Nat) + q * (vL (m.take (j + 1)) : Nat)) := by
        intro t c' d ht hd
        rw [take_set_succ _ _ _ (by have := HO.out; omega), vL_take_succ' l j, vL_take_succ' m j, Nat.pow_succ]
        have := blend_step _ _ _ ((4294967296 ^ j : Nat) : Int) p q z c' d (l.getD j 0 : Nat) (m.getD j 0 : Nat) t HI.out ht hd
        generalize 4294967296 ^ j = P at this ⊢
        simp only [Int.natCast_add, Int.natCast_mul] at this ⊢
        exact this
      by_cases hl2 : j < n2
      · obtain ⟨b', of', rfl, hb', hcell'⟩ := hs_len hhc (by have := HN2.out; omega)
        have h2 : wr.cell? ⟨b', of' + j, none⟩ = some (.int .u32 (m.getD j 0 : Nat)) := (hf.1.cell (p := ⟨b', of' + j, none⟩) hb').trans (hcell' j (by have := HN2.out; omega))
        have hl2I : (j : Int) < n2 := by omega
        generalize l.getD j 0 = x at *
        generalize m.getD j 0 = y at *
        generalize o.getD j 0 = zo at *
        clear hcell hcell' HI
        go_wp2
        obtain ⟨d, hd⟩ : ∃ d : Nat, (p * (x : Int) + z + q * (y : Int)) % 4294967296 = d := ⟨((p * (x : Int) + z + q * (y : Int)) % 4294967296).toNat, by omega⟩
        rw [hd]
        refine ⟨⟨j + 1, (p * (x : Int) + z + q * (y : Int)) / 4294967296, o.set j d, by omega, by go_num, rfl, by omega, by omega, by show _ = _; rw [List.length_set]; exact HO.out, Dg_set HD.out _ _ (by omega), how.set _ _ (by have := HO.out; omega), hf.setCell (Nat.le_refl _) _, HS.out _ _ d rfl (by omega)⟩, by simp [intOf]; omega⟩
      · have y0 : m.getD j 0 = 0 := getD_out (by have := HN2.out; omega)
        have hl2I : ¬ (j : Int) < n2 := by omega
        rw [y0] at HS b3 b4 b5 b6
        have HS' : Hid (∀ t c' : Int, ∀ d : Nat, t = p * (l.getD j 0 : Nat) + z → t = c' * 4294967296 + d → (vL ((o.set j d).take (j + 1)) : Int) + c' * (4294967296 ^ (j + 1) : Nat) = p * (vL (l.take (j + 1)) : Nat) + q * (vL (m.take (j + 1)) : Nat)) := fun t c' d h1 h2 => HS.out t c' d (by rw [h1]; simp) h2
        clear HS y0 y1 b3 b4 b5 b6
        generalize l.getD j 0 = x at *
        generalize o.getD j 0 = zo at *
        clear hcell HI
        go_wp2
        obtain ⟨d, hd⟩ : ∃ d : Nat, (p * (x : Int) + z) % 4294967296 = d := ⟨((p * (x : Int) + z) % 4294967296).toNat, by omega⟩
        rw [hd]
        refine ⟨⟨j + 1, (p * (x : Int) + z) / 4294967296, o.set j d, by omega, by go_num, rfl, by omega, by omega, by show _ = _; rw [List.length_set]; exact HO.out, Dg_set HD.out _ _ (by omega), how.set _ _ (by have := HO.out; omega), hf.setCell (Nat.le_refl _) _, HS'.out _ _ d rfl (by omega)⟩, by simp [intOf]; omega⟩
    · have hjn : j = n := by omega
      subst hjn
      have hlt' : ¬ (j : Int) < j := by omega
      have hE := HI.out
      rw [List.take_of_length_le (l := l) (by have := HN.out; omega), List.take_of_length_le (l := m) (by have := HN2.out; omega), HRR.out] at hE
      have hlow := vL_lt (o.take j) (Dg_take HD.out _)
      rw [List.length_take, Nat.min_eq_left (by have := HO.out; omega)] at hlow
      have hz0 : 0 ≤ z := by
        rcases Int.lt_or_le z 0 with h | h
        · have h2 : z * ((4294967296 ^ j : Nat) : Int) ≤ (-1) * ((4294967296 ^ j : Nat) : Int) := Int.mul_le_mul_of_nonneg_right (by omega) (by omega)
          omega
        · exact h
      obtain ⟨zn, rfl⟩ : ∃ zn : Nat, z = zn := ⟨z.toNat, by omega⟩
      have HV : Hid (vL (o.set j zn) = R) := by
        show _ = _
        have h1 := take_set_succ o j zn (by have := HO.out; omega)
        rw [List.take_of_length_le (by rw [List.length_set]; have := HO.out; omega)] at h1
        rw [h1]
        generalize 4294967296 ^ j = P at *
        have e : (zn : Int) * P = ((zn * P : Nat) : Int) := by simp
        rw [e] at hE
        omega
      have hw1 := how.2.1 j (by have := HO.out; omega)
      have hw2 := how.2.2 j
      have hltI' : (j : Int) < (j : Int) + 1 := by omega
      generalize o.getD j 0 = zo at *
      clear hE hlow HI
      go_wp2_with fail
      have eZ : (zn : Int) % 4294967296 = zn := by omega
      try rw [eZ]
      refine (nm_own (n := j + 1) (how.set j zn (by have := HO.out; omega)) (Dg_set HD.out _ _ (by omega)) (by rw [List.length_set]; exact HO.out) (by omega)).mono ?_
      rintro e w1 ⟨v, rfl, hnm, rfl⟩
      rw [HV.out] at hnm
      have HNM := hnm
      go_wp2
      go_ret
      exact ⟨v, rfl, HNM, hf.setCell (Nat.le_refl _) _⟩
theorem blend_any (v u : Value) (N M R : Nat) (p q : Int) (w : World) (hv : Nm w v N) (hu : Nm w u M) (hN : N.log2 < 32000000) (hle : M ≤ N) (htw : Two p q) (hR : p * (N : Int) + q * (M : Int) = R) :
    Calls Try.prog 76 #[v, u, .int .i64 p, .int .i64 q] w fun e w' => ∃ x, e = .returned x ∧ Nm w' x R ∧ Fr w w' := by
  obtain ⟨a, l, ca, rfl, hca, hma, hha, hda, rfl, hta, kl⟩ := hv.len 1000000 (by omega)
  obtain ⟨c, m, cc, rfl, hcc, hmc, hhc, hdc, rfl, htc⟩ := hu
  have hlm : m.length ≤ l.length := by
    rcases Nat.lt_or_ge l.length m.length with h | h
    · have := vL_lt_len l m hda htc h; omega
    · exact h
  exact blend_core a c l m ca cc p q R w hha hhc hda hdc hca hcc hma (by omega) hmc hlm htw hR
end Go.Proofs.Ytpfaaimfembhdaa
/-
  OWN TEXT: plain laws on Lehmer's steps of Euclid: what the first bits tell, and what comes of the whole numbers.
-/
namespace Go.Proofs.Ytpfaaimfembhdaa.Bg
set_option linter.unusedVariables false
/-- the state of Lehmer's steps -/
structure LI (X Y x y u0 u1 u2 v0 v1 v2 : Nat) (e : Bool) : Prop where
  hX : X = v2 * x + v1 * y
  hY : Y = u2 * x + u1 * y
  le : y ≤ x
  d0 : e = false → u1 * v2 = u2 * v1 + 1
  d1 : e = true → u2 * v1 = u1 * v2 + 1
  k2 : u2 ≤ v2
  k0 : 1 ≤ v2
  k1 : v1 ≤ v2
  kk : u1 ≤ v1 ∨ (v1 = 0 ∧ u1 = 1 ∧ u2 = 0 ∧ v2 = 1)
  b : v0 = 0 ∨ (∃ p, (e = false → p + u0 * X = v0 * Y ∧ x + v1 * Y = u1 * X ∧ u1 * v0 = u0 * v1 + 1) ∧ (e = true → p + v0 * Y = u0 * X ∧ x + u1 * X = v1 * Y ∧ u0 * v1 = u1 * v0 + 1) ∧ v1 ≤ x ∧ x + v0 + v1 ≤ p ∧ v0 ≤ v1 ∧ v1 * v1 ≤ X ∧ u0 ≤ v0 ∧ u1 ≤ v1)

theorem li_start (X Y : Nat) (h : Y ≤ X) : LI X Y X Y 0 1 0 0 0 1 false :=
  ⟨by simp, by simp, h, by simp, by simp, by simp, by simp, by simp, by simp, Or.inl rfl⟩

theorem li_x {X Y x y u0 u1 u2 v0 v1 v2 : Nat} {e : Bool} (h : LI X Y x y u0 u1 u2 v0 v1 v2 e) : e = false → x + v1 * Y = u1 * X := by
  intro he
  have := h.d0 he
  have := h.hX
  have := h.hY
  grind
theorem li_x' {X Y x y u0 u1 u2 v0 v1 v2 : Nat} {e : Bool} (h : LI X Y x y u0 u1 u2 v0 v1 v2 e) : e = true → x + u1 * X = v1 * Y := by
  intro he
  have := h.d1 he
  have := h.hX
  have := h.hY
  grind
theorem li_y {X Y x y u0 u1 u2 v0 v1 v2 : Nat} {e : Bool} (h : LI X Y x y u0 u1 u2 v0 v1 v2 e) : e = false → y + u2 * X = v2 * Y := by
  intro he
  have := h.d0 he
  have := h.hX
  have := h.hY
  grind
theorem li_y' {X Y x y u0 u1 u2 v0 v1 v2 : Nat} {e : Bool} (h : LI X Y x y u0 u1 u2 v0 v1 v2 e) : e = true → y + v2 * Y = u2 * X := by
  intro he
  have := h.d1 he
  have := h.hX
  have := h.hY
  grind
theorem li_step {X Y x y u0 u1 u2 v0 v1 v2 : Nat} {e : Bool} (h : LI X Y x y u0 u1 u2 v0 v1 v2 e) (c1 : v2 ≤ y) (c2 : v1 + v2 ≤ x - y) :
    LI X Y y (x - x / y * y) u1 u2 (u1 + x / y * u2) v1 v2 (v1 + x / y * v2) (!e) := by
  have hy : 0 < y := by have := h.k0; omega
  have hq : 1 ≤ x / y := (Nat.le_div_iff_mul_le hy).2 (by have := h.le; omega)
  have hqy : x / y * y ≤ x := Nat.div_mul_le_self x y
  have hm : x - x / y * y = x % y := by rw [Nat.mul_comm]; have := Nat.div_add_mod x y; omega
  have hlt : x % y < y := Nat.mod_lt _ hy
  obtain ⟨r, hr⟩ : ∃ r, x = x / y * y + r := ⟨x - x / y * y, by omega⟩
  have hr2 : x - x / y * y = r := by omega
  generalize x / y = q at *
  rw [hr2]
  have hqv : v2 ≤ q * v2 := Nat.le_mul_of_pos_left _ hq
  have hqu : q * u2 ≤ q * v2 := Nat.mul_le_mul_left _ h.k2
  have hvx : v2 * v2 ≤ X := by
    have h1 : v2 * v2 ≤ v2 * x := Nat.mul_le_mul_left _ (by have := h.le; omega)
    have := h.hX
    omega
  constructor
  · have := h.hX; subst hr; rw [this]; grind
  · have := h.hY; subst hr; rw [this]; grind
  · omega
  · intro he
    have : e = true := by simpa using he
    have := h.d1 this
    grind
  · intro he
    have : e = false := by simpa using he
    have := h.d0 this
    grind
  · rcases h.kk with k | ⟨a, b, c, d⟩
    · omega
    · subst a b c d; simp; omega
  · have := h.k0; omega
  · omega
  · exact Or.inl h.k2
  · by_cases z : v1 = 0
    · exact Or.inl z
    · right
      have hu : u1 ≤ v1 := by rcases h.kk with k | ⟨a, _⟩; exact k; exact absurd a z
      refine ⟨x, fun he => ?_, fun he => ?_, c1, by have := h.le; omega, h.k1, hvx, hu, h.k2⟩
      · have e1 : e = true := by simpa using he
        refine ⟨li_x' h e1, li_y' h e1, h.d1 e1⟩
      · have e1 : e = false := by simpa using he
        refine ⟨li_x h e1, li_y h e1, h.d0 e1⟩
theorem li_bounds {X Y x y u0 u1 u2 v0 v1 v2 : Nat} {e : Bool} (h : LI X Y x y u0 u1 u2 v0 v1 v2 e) (hX : 0 < X) (B : Nat) (hB : X < B) : v2 < B ∧ u2 < B ∧ v1 < B ∧ u1 < B ∧ x < B ∧ y < B ∧ 0 < x := by
  have hx : 0 < x := by
    rcases Nat.eq_zero_or_pos x with z | z
    · have h1 := h.le; have h2 := h.hX
      subst z
      have : y = 0 := by omega
      subst this
      simp at h2; omega
    · exact z
  have h1 : v2 * 1 ≤ v2 * x := Nat.mul_le_mul_left _ hx
  have h3 : 1 * x ≤ v2 * x := Nat.mul_le_mul_right _ h.k0
  have h2 := h.hX
  have := h.k2; have := h.k1; have := h.k0; have := h.le
  have hu : u1 < B := by
    rcases h.kk with k | ⟨a, b, c, d⟩ <;> omega
  omega
/-- every common divisor of the first pair divides the second pair -/
def CD (P Q N M : Nat) : Prop := ∀ g, g ∣ P → g ∣ Q → g ∣ N ∧ g ∣ M
theorem CD.refl (P Q : Nat) : CD P Q P Q := fun _ a b => ⟨a, b⟩
theorem CD.swap (P Q : Nat) : CD P Q Q P := fun _ a b => ⟨b, a⟩
theorem CD.trans {A B P Q N M : Nat} (h : CD A B P Q) (k : CD P Q N M) : CD A B N M := fun g a b => k g (h g a b).1 (h g a b).2
theorem CD.rest (P Q : Nat) : CD Q (P % Q) P Q := fun g a b => ⟨by
  have : P = Q * (P / Q) + P % Q := (Nat.div_add_mod P Q).symm
  rw [this]
  exact Nat.dvd_add (Nat.dvd_trans a ⟨_, rfl⟩) b, a⟩
/-- the blend that lies not below nought, in one direction -/
theorem col_ge (X Y n a b α β s t p : Nat) (ha : a = X * n + α) (hb : b = Y * n + β) (hβ : β < n) (hα : α < n) (hp : p + t * Y = s * X) (hpt : t ≤ p) : ∃ R : Nat, (s : Int) * a + -(t : Int) * b = R ∧ R + t * b = s * a ∧ R = p * n + s * α - t * β ∧ t * β ≤ p * n + s * α := by
  have e1 : s * a = p * n + t * (Y * n) + s * α := by
    subst ha
    have : s * X * n = (p + t * Y) * n := by rw [hp]
    grind
  have e2 : t * b = t * (Y * n) + t * β := by subst hb; grind
  have e3 : t * β ≤ t * n := Nat.mul_le_mul_left _ (by omega)
  have e4 : t * n ≤ p * n := Nat.mul_le_mul_right _ hpt
  have hle : t * β ≤ p * n + s * α := by omega
  refine ⟨p * n + s * α - t * β, ?_, by omega, rfl, hle⟩
  have i1 : (s : Int) * a = ((s * a : Nat) : Int) := by simp
  have i2 : -(t : Int) * b = -((t * b : Nat) : Int) := by rw [Int.neg_mul]; simp
  rw [i1, i2]
  omega
theorem li_out (X Y n a b α β x u0 u1 v0 v1 p : Nat) (ha : a = X * n + α) (hb : b = Y * n + β) (hβ : β < n) (hα : α < n) (hv0 : v0 ≠ 0)
    (h1 : v1 ≤ x) (h2 : x + v0 + v1 ≤ p) (h3 : v0 ≤ v1) (hu0 : u0 ≤ v0) (hu1 : u1 ≤ v1)
    (he : p + v0 * Y = u0 * X ∧ x + u1 * X = v1 * Y ∧ u0 * v1 = u1 * v0 + 1) :
    ∃ A B : Nat, (u0 : Int) * a + -(v0 : Int) * b = A ∧ -(u1 : Int) * a + (v1 : Int) * b = B ∧ B ≤ A ∧ a = v1 * A + v0 * B ∧ b = u1 * A + u0 * B := by
  obtain ⟨A, a1, a2, a3, a4⟩ := col_ge X Y n a b α β u0 v0 p ha hb hβ hα he.1 (by omega)
  obtain ⟨B, b1, b2, b3, b4⟩ := col_ge Y X n b a β α v1 u1 x hb ha hα hβ he.2.1 (by omega)
  refine ⟨A, B, a1, by omega, ?_, ?_, ?_⟩
  · have g1 : (x + v0 + v1) * n ≤ p * n := Nat.mul_le_mul_right _ h2
    have g2 : v0 * β ≤ v0 * n := Nat.mul_le_mul_left _ (by omega)
    have g3 : v1 * β ≤ v1 * n := Nat.mul_le_mul_left _ (by omega)
    rw [Nat.add_mul, Nat.add_mul] at g1
    omega
  · have := he.2.2; grind
  · have := he.2.2; grind
theorem li_out' (X Y n a b α β x u0 u1 v0 v1 p : Nat) (ha : a = X * n + α) (hb : b = Y * n + β) (hβ : β < n) (hα : α < n) (hv0 : v0 ≠ 0)
    (h1 : v1 ≤ x) (h2 : x + v0 + v1 ≤ p) (h3 : v0 ≤ v1) (hu0 : u0 ≤ v0) (hu1 : u1 ≤ v1)
    (he : p + u0 * X = v0 * Y ∧ x + v1 * Y = u1 * X ∧ u1 * v0 = u0 * v1 + 1) :
    ∃ A B : Nat, -(u0 : Int) * a + (v0 : Int) * b = A ∧ (u1 : Int) * a + -(v1 : Int) * b = B ∧ B ≤ A ∧ a = v1 * A + v0 * B ∧ b = u1 * A + u0 * B := by
  obtain ⟨A, a1, a2, a3, a4⟩ := col_ge Y X n b a β α v0 u0 p hb ha hα hβ he.1 (by omega)
  obtain ⟨B, b1, b2, b3, b4⟩ := col_ge X Y n a b α β u1 v1 x ha hb hβ hα he.2.1 (by omega)
  refine ⟨A, B, by omega, b1, ?_, ?_, ?_⟩
  · have g1 : (x + v0 + v1) * n ≤ p * n := Nat.mul_le_mul_right _ h2
    have g2 : u0 * α ≤ v0 * n := Nat.mul_le_mul hu0 (by omega)
    have g3 : u1 * α ≤ v1 * n := Nat.mul_le_mul hu1 (by omega)
    rw [Nat.add_mul, Nat.add_mul] at g1
    omega
  · have := he.2.2; grind
  · have := he.2.2; grind
theorem CD.out {a b A B s t u v : Nat} (h1 : a = s * A + t * B) (h2 : b = u * A + v * B) : CD A B a b := fun g x y => by
  subst h1 h2
  exact ⟨Nat.dvd_add (Nat.dvd_trans x ⟨s, Nat.mul_comm _ _⟩) (Nat.dvd_trans y ⟨t, Nat.mul_comm _ _⟩), Nat.dvd_add (Nat.dvd_trans x ⟨u, Nat.mul_comm _ _⟩) (Nat.dvd_trans y ⟨v, Nat.mul_comm _ _⟩)⟩
end Go.Proofs.Ytpfaaimfembhdaa.Bg
/-
  OWN TEXT: what common of package eddybig returns: a divisor of both numbers that is not nought.
-/
namespace Go.Proofs.Ytpfaaimfembhdaa
open Go.ChangeShapes Go.WideShapes Go.ChangeAt Go.RowKit
open Bg
set_option linter.unusedVariables false
theorem nm_uniq {w : World} {v : Value} {N M : Nat} (h : Nm w v N) (k : Nm w v M) : N = M := by
  obtain ⟨a, l, c, rfl, h1, h2, h3, h4, rfl, h6⟩ := h
  obtain ⟨a', l', c', e, k1, k2, k3, k4, rfl, k6⟩ := k
  simp only [Value.slice.injEq] at e
  obtain ⟨rfl, e2, rfl⟩ := e
  have : l = l' := by
    refine List.ext_getElem e2 fun i hi hi' => ?_
    obtain ⟨b, o, rfl, hb, hc⟩ := hs_len h3 (by omega)
    obtain ⟨b', o', e3, hb', hc'⟩ := hs_len k3 (by omega)
    cases e3
    have a1 := hc i hi
    rw [hc' i hi'] at a1
    have a2 : l'.getD i 0 = l.getD i 0 := by
      simp only [Option.some.injEq, Value.int.injEq, true_and] at a1
      omega
    rw [List.getD_eq_getElem?_getD, List.getD_eq_getElem?_getD, List.getElem?_eq_getElem hi, List.getElem?_eq_getElem hi'] at a2
    simpa using a2.symm
  rw [this]
noncomputable def wo (w : World) (v : Value) : Nat := Classical.epsilon (Nm w v)
theorem wo_eq {w : World} {v : Value} {N : Nat} (h : Nm w v N) : wo w v = N :=
  nm_uniq (Classical.epsilon_spec (p := Nm w v) ⟨N, h⟩) h
theorem nm_zero {w : World} {v : Value} {N : Nat} (h : Nm w v N) : ∃ a n c, v = .slice a n c ∧ n ≤ c ∧ c ≤ 1099511627776 ∧ (n = 0 ↔ N = 0) ∧ (2 < n → 18446744073709551616 ≤ N) ∧ (n ≤ 2 → N < 18446744073709551616) := by
  obtain ⟨a, l, c, rfl, h1, h2, h3, h4, rfl, h6⟩ := h
  have up := vL_lt l h4
  refine ⟨a, l.length, c, rfl, h1, h2, ⟨fun e => ?_, fun e => ?_⟩, fun e => ?_, fun e => ?_⟩
  · have : l = [] := List.length_eq_zero_iff.1 e
    subst this; rfl
  · by_cases z : l = []
    · subst z; rfl
    · have := vL_ge l h6 z
      have := Nat.pow_pos (n := l.length - 1) (show 0 < 4294967296 by omega)
      omega
  · have := vL_ge l h6 (by intro z; subst z; simp at e)
    have : 4294967296 ^ 2 ≤ 4294967296 ^ (l.length - 1) := Nat.pow_le_pow_right (by omega) (by omega)
    omega
  · have : 4294967296 ^ l.length ≤ 4294967296 ^ 2 := Nat.pow_le_pow_right (by omega) e
    omega
theorem bl_facts (P : Nat) (h : 18446744073709551616 ≤ P) (h2 : P.log2 < 32000000) : ∃ n : Nat, (bitLen P : Int) - 60 = n ∧ 5 ≤ n ∧ n < 32000000 ∧ 576460752303423488 ≤ P / 2 ^ n ∧ P / 2 ^ n < 1152921504606846976 := by
  have hz : P ≠ 0 := by omega
  have hb : bitLen P = P.log2 + 1 := by unfold bitLen; rw [if_neg hz]
  have h64 : 64 ≤ P.log2 := (Nat.le_log2 hz).2 h
  have up := Nat.lt_log2_self (n := P)
  have lo := Nat.log2_self_le hz
  refine ⟨P.log2 + 1 - 60, by omega, by omega, by omega, ?_, ?_⟩
  · rw [Nat.le_div_iff_mul_le (Nat.pow_pos (by omega)), show (576460752303423488 : Nat) = 2 ^ 59 from rfl, ← Nat.pow_add]
    rw [show 59 + (P.log2 + 1 - 60) = P.log2 by omega]
    exact lo
  · rw [Nat.div_lt_iff_lt_mul (Nat.pow_pos (by omega)), show (1152921504606846976 : Nat) = 2 ^ 60 from rfl, ← Nat.pow_add]
    rw [show 60 + (P.log2 + 1 - 60) = P.log2 + 1 by omega]
    exact up

set_option maxHeartbeats 8000000 in
set_option maxRecDepth 100000 in
theorem common_any (v u : Value) (N M : Nat) (w : World) (hv : Nm w v N) (hu : Nm w u M) (hN : N.log2 < 32000000) (hM : M.log2 < 32000000) (h0 : 0 < N) :
    Calls Try.prog 62 #[v, u] w fun e w' => ∃ x G, e = .returned x ∧ Nm w' x G ∧ G ∣ N ∧ G ∣ M ∧ Fr w w' := by
  go_enter Try.func62, Try.ntmps62
  go_wp2_with fail
  refine (cmpWords_any _ _ N M _ hv hu).mono ?_
  rintro e w1 ⟨rfl, hf1⟩
  obtain ⟨hc, hst⟩ : True ∧ True := ⟨trivial, trivial⟩
  have hci : cmpI N M < 0 ∨ ¬ cmpI N M < 0 := Decidable.em _
  have hcv : (cmpI N M < 0 → N < M) ∧ (¬ cmpI N M < 0 → M ≤ N) := by
    unfold cmpI
    split
    · omega
    · split <;> omega
  generalize cmpI N M = ci at *
  have hbr : ∃ av bv P Q, (ci < 0 ∧ av = u ∧ bv = v ∧ P = M ∧ Q = N ∨ ¬ ci < 0 ∧ av = v ∧ bv = u ∧ P = N ∧ Q = M) := by
    rcases hci with hci | hci
    · exact ⟨u, v, M, N, Or.inl ⟨hci, rfl, rfl, rfl, rfl⟩⟩
    · exact ⟨v, u, N, M, Or.inr ⟨hci, rfl, rfl, rfl, rfl⟩⟩
  clear hc hst
  have HH0 : Hid (0 < N) := h0
  rcases hci with hci | hci
  all_goals
    go_wp2
    go_loopw [0, 1] (fun av bv wr => ∃ P Q : Nat, Nm wr av P ∧ Nm wr bv Q ∧ Hid (Q ≤ P) ∧ Hid (P.log2 < 32000000) ∧ Hid (CD P Q N M) ∧ Fr w wr) (fun av bv wr => wo wr av + wo wr bv)
    case atStart => first
      | exact ⟨N, M, hv.mono hf1, hu.mono hf1, hcv.2 (by omega), hN, CD.refl _ _, hf1⟩
      | exact ⟨M, N, hu.mono hf1, hv.mono hf1, Nat.le_of_lt (hcv.1 (by omega)), hM, CD.swap _ _, hf1⟩
    case round =>
      obtain ⟨P, Q, hP, hQ, HLE, HLG, HCD, hfr⟩ := hrel
      obtain ⟨ba, bn, bc, rfl, hbn, hbc, z1, z2, z3⟩ := nm_zero hQ
      by_cases c : 2 < bn
      · have cI : (2 : Int) < bn := by omega
        have hQ64 := z2 c
        have hPQ := HLE.out
        obtain ⟨n, hn, hn5, hn6, hX1, hX2⟩ := bl_facts P (by omega) HLG.out
        have hQlg : Q.log2 < 32000000 := Nat.lt_of_le_of_lt (log2_up hPQ) HLG.out
        go_wp2_with fail
        refine (bitLen_any _ P _ hP HLG.out).mono ?_
        rintro e w2 ⟨rfl, rfl⟩
        have hbl : (0 : Int) ≤ bitLen P ∧ (bitLen P : Int) < 40000000 := by omega
        go_wp2_with fail
        try rw [hn]
        refine (topBits_any _ P n _ hP HLG.out hn6).mono ?_
        rintro e w3 ⟨rfl, hf3⟩
        rw [Nat.mod_eq_of_lt (show P / 2 ^ n < 18446744073709551616 by omega)]
        have HPX : Hid (P = P / 2 ^ n * 2 ^ n + P % 2 ^ n) := by
          show _ = _
          rw [Nat.mul_comm]; exact (Nat.div_add_mod _ _).symm
        have hYX : Q / 2 ^ n ≤ P / 2 ^ n := Nat.div_le_div_right hPQ
        generalize P / 2 ^ n = X at *
        have hQ3 := hQ.mono hf3
        go_wp2_with fail
        refine (topBits_any _ Q n _ hQ3 hQlg hn6).mono ?_
        rintro e w4 ⟨rfl, hf4⟩
        rw [Nat.mod_eq_of_lt (show Q / 2 ^ n < 18446744073709551616 by omega)]
        have HQY : Hid (Q = Q / 2 ^ n * 2 ^ n + Q % 2 ^ n) := by
          show _ = _
          rw [Nat.mul_comm]; exact (Nat.div_add_mod _ _).symm
        generalize Q / 2 ^ n = Y at *
        have hf34 := hf3.trans hf4
        have hP4 := hP.mono hf34
        have hQ4 := hQ.mono hf34
        have hF4 := hfr.trans hf34
        have HM0 : Hid (wo w2 u0 + wo w2 (Value.slice ba bn bc) = P + Q) := by
          show _ = _
          rw [wo_eq hP, wo_eq hQ]
        clear hP hQ hQ3 hf3 hf4 hf34 hfr hn hbl
        go_wp2
        go_loopw [6, 7, 8, 9, 10, 11, 12, 13, 14] (fun xv yv a0 a1 a2 b0 b1 b2 ev wz => wz = w4 ∧ ∃ x y u0 u1 u2 v0 v1 v2 : Nat, ∃ ee : Bool, xv = .int .u64 x ∧ yv = .int .u64 y ∧ a0 = .int .u64 u0 ∧ a1 = .int .u64 u1 ∧ a2 = .int .u64 u2 ∧ b0 = .int .u64 v0 ∧ b1 = .int .u64 v1 ∧ b2 = .int .u64 v2 ∧ ev = .bool ee ∧ Hid (LI X Y x y u0 u1 u2 v0 v1 v2 ee)) (fun xv yv _ _ _ _ _ _ _ _ => (intOf xv + intOf yv).toNat)
        case atStart => exact ⟨rfl, X, Y, 0, 1, 0, 0, 0, 1, false, rfl, rfl, rfl, rfl, rfl, rfl, rfl, rfl, rfl, li_start X Y hYX⟩
        case round =>
          obtain ⟨rfl, x, y, c0, c1, c2, d0, d1, d2, ee, rfl, rfl, rfl, rfl, rfl, rfl, rfl, rfl, rfl, HLI⟩ := hrel
          obtain ⟨i1, i2, i3, i4, i5, i6, i7⟩ := li_bounds HLI.out (by omega) _ hX2
          have i8 := HLI.out.le
          by_cases hcc : d2 ≤ y ∧ d1 + d2 ≤ x - y
          · obtain ⟨hc1, hc2⟩ := hcc
            have hc1I : (d2 : Int) ≤ y := by omega
            have hc2I : (d1 : Int) + d2 ≤ (x : Int) - y := by omega
            have hy0 : (y : Int) ≠ 0 := by have := HLI.out.k0; omega
            have HST := li_step HLI.out hc1 hc2
            obtain ⟨j1, j2, j3, j4, j5, j6, j7⟩ := li_bounds HST (by omega) _ hX2
            have hqI : (x : Int) / (y : Int) = ((x / y : Nat) : Int) := by simp
            have hqx : x / y ≤ x := Nat.div_le_self _ _
            have hqy : x / y * y ≤ x := Nat.div_mul_le_self _ _
            have hy3 : ((y : Int) == 0) = false := beq_eq_false_iff_ne.2 hy0
            have q0 : 0 ≤ (x : Int) / (y : Int) ∧ (x : Int) / (y : Int) ≤ x := by rw [hqI]; exact ⟨Int.natCast_nonneg _, Int.ofNat_le.2 hqx⟩
            have q1 : 0 ≤ (x : Int) / (y : Int) * (y : Int) ∧ (x : Int) / (y : Int) * (y : Int) ≤ x := by
              rw [hqI, ← Int.natCast_mul]; omega
            have q2 : 0 ≤ (x : Int) / (y : Int) * (c2 : Int) ∧ (c1 : Int) + (x : Int) / (y : Int) * (c2 : Int) < 1152921504606846976 := by
              rw [hqI, ← Int.natCast_mul]; omega
            have q3 : 0 ≤ (x : Int) / (y : Int) * (d2 : Int) ∧ (d1 : Int) + (x : Int) / (y : Int) * (d2 : Int) < 1152921504606846976 := by
              rw [hqI, ← Int.natCast_mul]; omega
            have HSTH : Hid _ := HST
            have HME : Hid (x - x / y * y < x) := by show _ < _; have := Nat.div_pos (show y ≤ x from i8) (by omega); have := Nat.mul_le_mul_right y this; omega
            obtain ⟨q00, q01⟩ := q0
            obtain ⟨q10, q11⟩ := q1
            obtain ⟨q20, q21⟩ := q2
            obtain ⟨q30, q31⟩ := q3
            have E1 : Hid ((x : Int) - (x : Int) / (y : Int) * (y : Int) = ((x - x / y * y : Nat) : Int)) := by show _ = _; rw [hqI, ← Int.natCast_mul]; omega
            have E2 : Hid ((c1 : Int) + (x : Int) / (y : Int) * (c2 : Int) = ((c1 + x / y * c2 : Nat) : Int)) := by show _ = _; rw [hqI, ← Int.natCast_mul]; omega
            have E3 : Hid ((d1 : Int) + (x : Int) / (y : Int) * (d2 : Int) = ((d1 + x / y * d2 : Nat) : Int)) := by show _ = _; rw [hqI, ← Int.natCast_mul]; omega
            clear HST j1 j2 j3 j4 j5 j6 j7 hqx hqy hqI
            go_wp2
            rw [E1.out, E2.out, E3.out]
            exact ⟨⟨trivial, _, _, _, _, _, _, _, _, _, rfl, rfl, rfl, rfl, rfl, rfl, rfl, rfl, rfl, HSTH.out⟩, by have := HME.out; simp only [intOf]; omega⟩
          · have hor : ¬ d2 ≤ y ∨ (d2 ≤ y ∧ ¬ d1 + d2 ≤ x - y) := by omega
            have HB : Hid _ := HLI.out.b
            clear HLI hcc
            rcases hor with hc1 | ⟨hc1, hc2⟩
            all_goals
              by_cases hz : d0 = 0
              · subst hz
                go_wp2_with fail
                refine (divWords_any _ _ P Q _ hP4 hQ4 HLG.out (by omega)).mono ?_
                rintro e w5 ⟨qv, rv, rfl, hq, hr, hf5⟩
                go_wp2
                have hw1 := hQ4.mono hf5
                refine ⟨⟨Q, P % Q, hw1, hr, Nat.le_of_lt (Nat.mod_lt _ (by omega)), hQlg, (CD.rest P Q).trans HCD.out, hF4.trans hf5⟩, ?_⟩
                rw [wo_eq hw1, wo_eq hr, HM0.out]
                have := Nat.mod_lt P (show 0 < Q by omega)
                omega
              · have hz3 : ((d0 : Int) == 0) = false := beq_eq_false_iff_ne.2 (by omega)
                have hz4 : (d0 : Int) ≠ 0 := by omega
                obtain ⟨p, pf, pt, k1, k2, k3, k4, k5, k6⟩ := HB.out.resolve_left hz
                have b30 : d1 ≤ 1073741824 := by
                  rcases Nat.lt_or_ge 1073741824 d1 with h | h
                  · have := Nat.mul_le_mul (Nat.le_of_lt h) (Nat.le_of_lt h); omega
                  · exact h
                have b1 : d0 ≤ 1073741824 ∧ c0 ≤ 1073741824 ∧ c1 ≤ 1073741824 := by omega
                obtain ⟨b1, b2, b3⟩ := b1
                have hpos : 0 < 2 ^ n := Nat.pow_pos (by omega)
                cases ee
                · obtain ⟨A, B, eA, eB, hBA, hp1, hp2⟩ := li_out' X Y (2 ^ n) P Q _ _ x c0 c1 d0 d1 p HPX.out HQY.out (Nat.mod_lt _ hpos) (Nat.mod_lt _ hpos) hz k1 k2 k3 k5 k6 (pf rfl)
                  have HT1 : Hid (∀ wz, Fr wr wz → Calls Try.prog 76 #[u0, .slice ba bn bc, .int .i64 (-(c0 : Int)), .int .i64 (d0 : Int)] wz fun e w' => ∃ x, e = .returned x ∧ Nm w' x A ∧ Fr wz w') := fun wz hz => blend_any _ _ P Q A _ _ wz (hP4.mono hz) (hQ4.mono hz) HLG.out HLE.out (by unfold Two; omega) eA
                  have HT2 : Hid (∀ wz, Fr wr wz → Calls Try.prog 76 #[u0, .slice ba bn bc, .int .i64 (c1 : Int), .int .i64 (-(d1 : Int))] wz fun e w' => ∃ x, e = .returned x ∧ Nm w' x B ∧ Fr wz w') := fun wz hz => blend_any _ _ P Q B _ _ wz (hP4.mono hz) (hQ4.mono hz) HLG.out HLE.out (by unfold Two; omega) eB
                  have HAB : Hid (A + B ≤ P) := by
                    show _ ≤ _
                    have := Nat.mul_le_mul_right A (show 1 ≤ d1 by omega)
                    have := Nat.mul_le_mul_right B (show 1 ≤ d0 by omega)
                    omega
                  have HC2 : Hid (CD A B N M) := (CD.out hp1 hp2).trans HCD.out
                  have HBA : Hid (B ≤ A) := hBA
                  clear pf pt eA eB hBA hp1 hp2 k4 HB
                  go_wp2_with fail
                  refine (HT1.out _ (Fr.refl _)).mono ?_
                  rintro e wA ⟨xA, rfl, hA, hfA⟩
                  go_wp2_with fail
                  refine (HT2.out _ hfA).mono ?_
                  rintro e wB ⟨xB, rfl, hB, hfB⟩
                  have hA2 := hA.mono hfB
                  clear hA
                  go_wp2
                  refine ⟨⟨A, B, hA2, hB, HBA, Nat.lt_of_le_of_lt (log2_up (by have := HAB.out; omega)) HLG.out, HC2, hF4.trans (hfA.trans hfB)⟩, ?_⟩
                  rw [wo_eq hA2, wo_eq hB, HM0.out]
                  have := HAB.out
                  omega
                · obtain ⟨A, B, eA, eB, hBA, hp1, hp2⟩ := li_out X Y (2 ^ n) P Q _ _ x c0 c1 d0 d1 p HPX.out HQY.out (Nat.mod_lt _ hpos) (Nat.mod_lt _ hpos) hz k1 k2 k3 k5 k6 (pt rfl)
                  have HT1 : Hid (∀ wz, Fr wr wz → Calls Try.prog 76 #[u0, .slice ba bn bc, .int .i64 (c0 : Int), .int .i64 (-(d0 : Int))] wz fun e w' => ∃ x, e = .returned x ∧ Nm w' x A ∧ Fr wz w') := fun wz hz => blend_any _ _ P Q A _ _ wz (hP4.mono hz) (hQ4.mono hz) HLG.out HLE.out (by unfold Two; omega) eA
                  have HT2 : Hid (∀ wz, Fr wr wz → Calls Try.prog 76 #[u0, .slice ba bn bc, .int .i64 (-(c1 : Int)), .int .i64 (d1 : Int)] wz fun e w' => ∃ x, e = .returned x ∧ Nm w' x B ∧ Fr wz w') := fun wz hz => blend_any _ _ P Q B _ _ wz (hP4.mono hz) (hQ4.mono hz) HLG.out HLE.out (by unfold Two; omega) eB
                  have HAB : Hid (A + B ≤ P) := by
                    show _ ≤ _
                    have := Nat.mul_le_mul_right A (show 1 ≤ d1 by omega)
                    have := Nat.mul_le_mul_right B (show 1 ≤ d0 by omega)
                    omega
                  have HC2 : Hid (CD A B N M) := (CD.out hp1 hp2).trans HCD.out
                  have HBA : Hid (B ≤ A) := hBA
                  clear pf pt eA eB hBA hp1 hp2 k4 HB
                  go_wp2_with fail
                  refine (HT1.out _ (Fr.refl _)).mono ?_
                  rintro e wA ⟨xA, rfl, hA, hfA⟩
                  go_wp2_with fail
                  refine (HT2.out _ hfA).mono ?_
                  rintro e wB ⟨xB, rfl, hB, hfB⟩
                  have hA2 := hA.mono hfB
                  clear hA
                  go_wp2
                  refine ⟨⟨A, B, hA2, hB, HBA, Nat.lt_of_le_of_lt (log2_up (by have := HAB.out; omega)) HLG.out, HC2, hF4.trans (hfA.trans hfB)⟩, ?_⟩
                  rw [wo_eq hA2, wo_eq hB, HM0.out]
                  have := HAB.out
                  omega
      · have hbn2 : bn ≤ 2 := by omega
        have cI : ¬ (2 : Int) < bn := by omega
        have hQ64 := z3 hbn2
        by_cases c0 : bn = 0
        · have hQ0 := z1.1 c0
          subst c0
          subst hQ0
          go_wp2_with fail
          refine (copied_any _ P _ hP HLG.out).mono ?_
          rintro e w5 ⟨x, rfl, hx, hf5⟩
          go_wp2
          go_ret
          have := HCD.out P (Nat.dvd_refl _) (Nat.dvd_zero _)
          exact ⟨x, P, rfl, hx, this.1, this.2, hfr.trans hf5⟩
        · have c0I : (bn : Int) ≠ 0 := by omega
          have c0I' : ((bn : Int) == 0) = false := beq_eq_false_iff_ne.2 c0I
          have hQp : 0 < Q := by
            rcases Nat.eq_zero_or_pos Q with h | h
            · exact absurd (z1.2 h) c0
            · exact h
          go_wp2_with fail
          refine (divWords_any _ _ P Q _ hP hQ HLG.out hQp).mono ?_
          rintro e w5 ⟨qv, rv, rfl, hq, hr, hf5⟩
          go_wp2_with fail
          refine (toUint_any _ Q _ (hQ.mono hf5)).mono ?_
          rintro e w6 ⟨rfl, rfl⟩
          rw [Nat.mod_eq_of_lt hQ64]
          go_wp2_with fail
          refine (toUint_any _ (P % Q) _ hr).mono ?_
          rintro e w7 ⟨rfl, rfl⟩
          have hrq := Nat.mod_lt P hQp
          rw [Nat.mod_eq_of_lt (show P % Q < 18446744073709551616 by omega)]
          have HC3 : Hid (CD Q (P % Q) N M) := (CD.rest P Q).trans HCD.out
          generalize P % Q = R at *
          have hF5 := hfr.trans hf5
          go_wp2
          go_loopw [20, 21] (fun xv yv wz => Fr w wz ∧ ∃ x y : Nat, xv = .int .u64 x ∧ yv = .int .u64 y ∧ x < 18446744073709551616 ∧ y < 18446744073709551616 ∧ Hid (CD x y N M)) (fun _ yv _ => (intOf yv).toNat)
          case atStart => exact ⟨hF5, Q, R, rfl, rfl, hQ64, by omega, HC3⟩
          case round =>
            obtain ⟨hF6, x, y, rfl, rfl, hx, hy, HC4⟩ := hrel
            by_cases hy0 : y = 0
            · subst hy0
              go_wp2_with fail
              refine (fromUint_any x _ hx).mono ?_
              rintro e w8 ⟨xv, rfl, hxv, hf8⟩
              go_wp2
              go_ret
              have := HC4.out x (Nat.dvd_refl _) (Nat.dvd_zero _)
              exact ⟨xv, x, rfl, hxv, this.1, this.2, hF6.trans hf8⟩
            · have hy1 : (y : Int) ≠ 0 := by omega
              have hy3 : ((y : Int) == 0) = false := beq_eq_false_iff_ne.2 hy1
              have hl := Nat.mod_lt x (show 0 < y by omega)
              have E1 : Hid ((x : Int) % (y : Int) = ((x % y : Nat) : Int)) := by show _ = _; simp
              have hl2 : (x : Int) % (y : Int) < y ∧ 0 ≤ (x : Int) % (y : Int) := by rw [E1.out]; exact ⟨Int.ofNat_lt.2 hl, Int.natCast_nonneg _⟩
              obtain ⟨hl2, hl3⟩ := hl2
              go_wp2
              go_region
              all_goals (try go_wp2)
              all_goals (
                go_roundw
                case rel =>
                  refine ⟨hF6.drew, y, x % y, rfl, ?_, hy, by omega, (CD.rest x y).trans HC4.out⟩
                  rw [← E1.out]
                case measure => simp only [intOf]; omega)
end Go.Proofs.Ytpfaaimfembhdaa
/-
  OWN TEXT: what the method set of package eddybig's whole numbers does.
-/
namespace Go.Proofs.Ytpfaaimfembhdaa
open Go.ChangeShapes Go.WideShapes Go.ChangeAt Go.RowKit
open Bg
set_option linter.unusedVariables false
/-- what a value of words is: no bool, no number of 32 bits -/
def Nw (w : World) (B : Nat) : Prop := B < w.heap.size ∧ (∀ i x, w.cell? ⟨B, i, none⟩ ≠ some (.int .u32 x)) ∧ ∀ i, w.frozen? ⟨B, i, none⟩ = false
theorem Nw.mono {w w' : World} {B : Nat} (h : Nw w B) (f : Fr w w') : Nw w' B :=
  ⟨Nat.lt_of_lt_of_le h.1 f.1.size, fun i x => by rw [f.1.cell (p := ⟨B, i, none⟩) h.1]; exact h.2.1 i x, fun i => (f.2 _).trans (h.2.2 i)⟩
theorem Nw.set {w : World} {B : Nat} (h : Nw w B) (i : Nat) (v u : Value) (hc : w.cell? ⟨B, i, none⟩ = some u) (hv : ∀ x, v ≠ .int .u32 x) : Nw (w.setCell ⟨B, i, none⟩ v) B := by
  refine ⟨by simpa [World.setCell] using h.1, fun j x => ?_, fun j => (World.frozen?_setCell _ _ _ _).trans (h.2.2 j)⟩
  by_cases e : i = j
  · subst e
    rw [World.cell?_setCell_same _ _ _ hc]; intro k; exact hv x (by simpa using k)
  · rw [World.cell?_setCell_other _ _ _ _ (by intro k; cases k; exact e rfl)]
    exact h.2.1 j x
theorem Nm.off {w : World} {v : Value} {N B : Nat} (h : Nm w v N) (k : Nw w B) (i : Nat) (u : Value) : Nm (w.setCell ⟨B, i, none⟩ u) v N := by
  obtain ⟨a, l, cap, h1, h2, h3, h4, h5⟩ := h
  refine ⟨a, l, cap, h1, h2, h3, ?_, h5⟩
  rcases h4 with h4 | ⟨b, o, e1, e2, e3⟩
  · exact Or.inl h4
  · by_cases z : l = []
    · exact Or.inl z
    · right
      have hb : b ≠ B := by
        rintro rfl
        have := e3 0 (List.length_pos_iff.2 z)
        exact k.2.1 _ _ this
      refine ⟨b, o, e1, by simpa [World.setCell] using e2, fun j hj => ?_⟩
      rw [World.cell?_of_block (w := w) (a := ⟨b, o + j, none⟩) (Below.heap_setCell _ _ _ _ hb)]
      exact e3 j hj
theorem nm_slice {w : World} {v : Value} {N : Nat} (h : Nm w v N) : ∃ a n c, v = .slice a n c ∧ (n = 0 ↔ N = 0) := by
  obtain ⟨a, n, c, e, _, _, z, _⟩ := nm_zero h
  exact ⟨a, n, c, e, z⟩
theorem trim_same (v : Value) (N : Nat) (w : World) (h : Nm w v N) : Calls Try.prog 57 #[v] w fun e w' => e = .returned v ∧ w' = w := by
  obtain ⟨a, l, cap, rfl, h2, h3, h4, h5, h6, h7⟩ := h
  refine (trim_any a l cap w h4 h2 h3).mono ?_
  rintro e w' ⟨rfl, rfl⟩
  exact ⟨by rw [h7], rfl⟩
set_option maxHeartbeats 8000000 in
theorem iset_any (B : Nat) (s : Bool) (v : Value) (N : Nat) (w : World) (hb : Nw w B) (hv : Nm w v N) (u0 u1 : Value) (h0 : w.cell? ⟨B, 0, none⟩ = some u0) (h1 : w.cell? ⟨B, 1, none⟩ = some u1) :
    Calls Try.prog 60 #[.pointer (some ⟨B, 0, none⟩), .bool s, v] w fun e w' => e = .returned (.pointer (some ⟨B, 0, none⟩)) ∧ w' = (w.setCell ⟨B, 1, none⟩ v).setCell ⟨B, 0, none⟩ (.bool (s && decide (N ≠ 0))) := by
  obtain ⟨a, n, c, rfl, z⟩ := nm_slice hv
  have f1 := hb.2.2 1
  have f0 := hb.2.2 0
  cases s
  all_goals
    go_enter Try.func60, Try.ntmps60
    go_wp2_with fail
    refine (trim_same _ N _ hv).mono ?_
    rintro e w1 ⟨rfl, rfl⟩
    go_wp2
    go_ret
  · exact ⟨rfl, rfl⟩
  · refine ⟨rfl, ?_⟩
    have : decide (0 < n) = decide (N ≠ 0) := by
      by_cases h : N = 0
      · simp [h, z.2 h]
      · have := mt z.1 h
        simp [h]; omega
    rw [this]; rfl
def den (D : Nat) : Nat := if D = 0 then 1 else D
theorem den_pos (D : Nat) : 0 < den D := by unfold den; split <;> omega
def st (w : World) (B : Nat) (s : Bool) (x d : Value) : World := ((w.setCell ⟨B, 1, none⟩ x).setCell ⟨B, 0, none⟩ (.bool s)).setCell ⟨B, 2, none⟩ d
/-- a fraction lies at block B: its sign, its words above the line, its words below it (none: 1) -/
structure Rt (w : World) (B : Nat) (s : Bool) (A D : Nat) : Prop where
  nw : Nw w B
  c0 : w.cell? ⟨B, 0, none⟩ = some (.bool s)
  c1 : ∃ v, w.cell? ⟨B, 1, none⟩ = some v ∧ Nm w v A
  c2 : ∃ v, w.cell? ⟨B, 2, none⟩ = some v ∧ Nm w v D
theorem Rt.mono {w w' : World} {B : Nat} {s : Bool} {A D : Nat} (h : Rt w B s A D) (f : Fr w w') : Rt w' B s A D := by
  have g : ∀ i, w'.cell? ⟨B, i, none⟩ = w.cell? ⟨B, i, none⟩ := fun i => f.1.cell (p := ⟨B, i, none⟩) h.nw.1
  obtain ⟨v, h1, h2⟩ := h.c1
  obtain ⟨u, h3, h4⟩ := h.c2
  exact ⟨h.nw.mono f, (g 0).trans h.c0, ⟨v, (g 1).trans h1, h2.mono f⟩, ⟨u, (g 2).trans h3, h4.mono f⟩⟩
theorem Rt.st {w : World} {B : Nat} {s0 : Bool} {A0 D0 : Nat} (h : Rt w B s0 A0 D0) {x d : Value} {A D : Nat} (hx : Nm w x A) (hd : Nm w d D) (s : Bool) : Rt (st w B s x d) B s A D := by
  obtain ⟨v, h1, h2⟩ := h.c1
  obtain ⟨u, h3, h4⟩ := h.c2
  obtain ⟨a, n, c, rfl, _⟩ := nm_slice hx
  obtain ⟨a', n', c', rfl, _⟩ := nm_slice hd
  have n1 := h.nw.set 1 (.slice a n c) v h1 (by intro x k; cases k)
  have e0 : (w.setCell ⟨B, 1, none⟩ (.slice a n c)).cell? ⟨B, 0, none⟩ = some (.bool s0) := (World.cell?_setCell_other _ _ _ _ (by intro k; cases k)).trans h.c0
  have e2 : (w.setCell ⟨B, 1, none⟩ (.slice a n c)).cell? ⟨B, 2, none⟩ = some u := (World.cell?_setCell_other _ _ _ _ (by intro k; cases k)).trans h3
  have e1 : (w.setCell ⟨B, 1, none⟩ (.slice a n c)).cell? ⟨B, 1, none⟩ = some (.slice a n c) := World.cell?_setCell_same _ _ _ h1
  have n2 := n1.set 0 (.bool s) _ e0 (by intro x k; cases k)
  have g2 := (World.cell?_setCell_other (w.setCell ⟨B, 1, none⟩ (.slice a n c)) (a := ⟨B, 0, none⟩) (b := ⟨B, 2, none⟩) (.bool s) (by intro k; cases k)).trans e2
  have g1 := (World.cell?_setCell_other (w.setCell ⟨B, 1, none⟩ (.slice a n c)) (a := ⟨B, 0, none⟩) (b := ⟨B, 1, none⟩) (.bool s) (by intro k; cases k)).trans e1
  have g0 := World.cell?_setCell_same (w.setCell ⟨B, 1, none⟩ (.slice a n c)) ⟨B, 0, none⟩ (.bool s) e0
  have n3 := n2.set 2 (.slice a' n' c') _ g2 (by intro x k; cases k)
  refine ⟨n3, (World.cell?_setCell_other _ _ _ _ (by intro k; cases k)).trans g0, ⟨_, (World.cell?_setCell_other _ _ _ _ (by intro k; cases k)).trans g1, ((hx.off h.nw _ _).off n1 _ _).off n2 _ _⟩, ⟨_, World.cell?_setCell_same _ _ _ g2, ((hd.off h.nw _ _).off n1 _ _).off n2 _ _⟩⟩
theorem Fr.st {a b : World} (h : Fr a b) {B : Nat} (hB : a.heap.size ≤ B) (s : Bool) (x d : Value) : Fr a (st b B s x d) :=
  ((h.setCell (p := ⟨B, 1, none⟩) hB x).setCell (p := ⟨B, 0, none⟩) hB _).setCell (p := ⟨B, 2, none⟩) hB _
theorem nm_one {w : World} {v : Value} {N : Nat} (h : Nm w v N) : (∃ b o c, v = .slice (some ⟨b, o, none⟩) 1 c ∧ w.cell? ⟨b, o, none⟩ = some (.int .u32 (N : Nat)) ∧ 1 ≤ c ∧ c ≤ 1099511627776 ∧ b < w.heap.size ∧ N < 4294967296) ∨ (∃ a n c, v = .slice a n c ∧ n ≠ 1 ∧ N ≠ 1 ∧ n ≤ c ∧ c ≤ 1099511627776) := by
  obtain ⟨a, l, c, rfl, h1, h2, h3, h4, rfl, h6⟩ := h
  by_cases z : l.length = 1
  · left
    obtain ⟨x, rfl⟩ := List.length_eq_one_iff.1 z
    obtain ⟨b, o, rfl, hb, hc⟩ := hs_len h3 (by simp)
    refine ⟨b, o, c, rfl, ?_, h1, h2, hb, ?_⟩
    · have := hc 0 (by simp)
      rw [vL_one]
      simpa using this
    · rw [vL_one]
      exact h4 0
  · right
    refine ⟨a, l.length, c, rfl, z, ?_, h1, h2⟩
    intro e
    have a1 := vL_ge l h6 (by intro k; subst k; simp [vL] at e)
    rw [e] at a1
    have : l.length - 1 = 0 := by
      rcases Nat.eq_zero_or_pos (l.length - 1) with h | h
      · exact h
      · have : 4294967296 ^ 1 ≤ 4294967296 ^ (l.length - 1) := Nat.pow_le_pow_right (by omega) h
        omega
    have : l = [] := List.length_eq_zero_iff.1 (by omega)
    subst this
    simp [vL] at e
end Go.Proofs.Ytpfaaimfembhdaa
