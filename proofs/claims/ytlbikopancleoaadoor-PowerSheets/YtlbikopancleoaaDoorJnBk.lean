/-
  OWN TEXT: what divWords of package eddybig returns, for all words: the quotient and what is left.
-/
import Derived.Test.YtlbikopancleoaaDoorJnBi
import Derived.Test.YtlbikopancleoaaDoorJnBj
import Derived.Deep.RegionWith
import Derived.Shelf.Spec.TrailingZeros
namespace Go.Proofs.YtlbikopancleoaaDoor
open Go.ChangeShapes Go.WideShapes Go.ChangeAt Go.RowKit
open Bg
set_option linter.unusedVariables false
theorem Ow.mono {w w' : World} {B : Nat} {o : List Nat} (h : Ow w B o) (f : Fr w w') : Ow w' B o :=
  ⟨Nat.lt_of_lt_of_le h.1 f.1.size, fun i hi => (f.1.cell (p := ⟨B, i, none⟩) h.1).trans (h.2.1 i hi), fun i => (f.2 _).trans (h.2.2 i)⟩
theorem Ow.other {w : World} {B C : Nat} {o : List Nat} (h : Ow w B o) (hC : B ≠ C) (i : Nat) (v : Value) : Ow (w.setCell ⟨C, i, none⟩ v) B o :=
  ⟨by simpa [World.setCell] using h.1, fun j hj => (World.cell?_of_block (w := w) (a := ⟨B, j, none⟩) (Below.heap_setCell _ _ _ _ hC)).trans (h.2.1 j hj), fun j => (World.frozen?_setCell _ _ _ _).trans (h.2.2 j)⟩
theorem log2_lt_of (x k : Nat) (h : x < 2 ^ k) (hk : 0 < k) : x.log2 < k := by
  by_cases z : x = 0
  · subst z; simpa using hk
  · exact (Nat.log2_lt z).2 h
theorem log2_up {a b : Nat} (h : a ≤ b) : a.log2 ≤ b.log2 := by
  by_cases z : a = 0
  · subst z; simp
  · exact (Nat.le_log2 (by omega)).2 (Nat.le_trans (Nat.log2_self_le z) h)
/-- a trimmed row is not longer than its bound -/
theorem len_le (l : List Nat) (k : Nat) (ht : tn l = l.length) (h2 : vL l < 4294967296 ^ k) : l.length ≤ k := by
  by_cases e : l = []
  · subst e; exact Nat.zero_le _
  · have := vL_ge l ht e
    have := (Nat.pow_lt_pow_iff_right (by omega : 1 < 4294967296)).1 (Nat.lt_of_le_of_lt this h2)
    omega
theorem shift_lt (N n s : Nat) (h : N < 4294967296 ^ n) (hs : s < 32) : N * 2 ^ s < 4294967296 ^ (n + 1) := by
  rw [Nat.pow_succ]
  have h1 : 2 ^ s ≤ 2 ^ 32 := Nat.pow_le_pow_right (by omega) (by omega)
  exact Nat.lt_of_lt_of_le (Nat.mul_lt_mul_of_pos_right h (Nat.pow_pos (by omega))) (Nat.mul_le_mul_left _ h1)
set_option maxHeartbeats 8000000 in
set_option maxRecDepth 100000 in
theorem divWords_many (v : Value) (b of cc k : Nat) (m : List Nat) (N : Nat) (w : World) (hv : Nm w v N) (hh : Hs w (some ⟨b, of, none⟩) m) (hdm : Dg m) (htm : tn m = m.length) (hm : m.length = k + 2) (hcc : k + 2 ≤ cc) (hcc2 : cc ≤ 1099511627776) (hN : N.log2 < 32000000) (h : vL m ≤ N) :
    Calls Tryd.prog 91 #[v, .slice (some ⟨b, of, none⟩) (k + 2) cc] w fun e w' => ∃ q r, e = .returned (.tuple #[q, r]) ∧ Nm w' q (N / vL m) ∧ Nm w' r (N % vL m) ∧ Fr w w' := by
  have e3 : ¬ cmpI N (vL m) < 0 := by
    unfold cmpI
    rw [if_neg (by omega)]
    split <;> omega
  obtain ⟨hb, hcell⟩ : b < w.heap.size ∧ ∀ i, i < m.length → w.cell? ⟨b, of + i, none⟩ = some (.int .u32 (m.getD i 0 : Nat)) := by
    obtain ⟨b', o', e, hb, hc⟩ := hs_len hh (by omega)
    cases e
    exact ⟨hb, hc⟩
  have hu : Nm w (.slice (some ⟨b, of, none⟩) (k + 2) cc) (vL m) := ⟨_, m, cc, by rw [hm], by omega, hcc2, hh, hdm, rfl, htm⟩
  obtain ⟨a, l, ca, rfl, hca, hma, hha, hda, rfl, hta, kl⟩ := hv.len 1000000 (by omega)
  have hc0 : w.cell? ⟨b, of + (k + 1), none⟩ = some (.int .u32 (m.getD (k + 1) 0 : Nat)) := hcell (k + 1) (by omega)
  have x1 := hdm (k + 1)
  obtain ⟨s1, s2, s3, s4⟩ := shifted m (k + 1) _ hdm htm hm rfl
  have hkl : k + 2 ≤ l.length := by
    have a1 := vL_lt l hda
    have := (Nat.pow_lt_pow_iff_right (by omega : 1 < 4294967296)).1 (Nat.lt_of_le_of_lt (Nat.le_trans s4 h) a1)
    omega
  have hMl : (vL m).log2 < 32000000 := Nat.lt_of_le_of_lt (log2_up h) hN
  generalize hT : m.getD (k + 1) 0 = t at *
  generalize hS : 32 - bitLen t = s at *
  have HT : Hid (32 - bitLen t = s) := hS
  clear hS hT
  have HS1 : Hid _ := s1
  have HS2 : Hid _ := s2
  have HS4 : Hid _ := s4
  clear s1 s2 s4
  go_enter Tryd.func91, Tryd.ntmps91
  go_wp2_with fail
  refine (cmpWords_any _ _ (vL l) (vL m) _ hv hu).mono ?_
  rintro e w1 ⟨rfl, hf1⟩
  have hc1 : w1.cell? ⟨b, of + (k + 1), none⟩ = some (.int .u32 (t : Nat)) := (hf1.1.cell (p := ⟨b, of + (k + 1), none⟩) hb).trans hc0
  generalize cmpI (vL l) (vL m) = ci at *
  generalize hn : l.length = n at *
  go_wp2_with fail
  refine (lead32_any t _ x1).mono ?_
  rintro e w1' ⟨rfl, rfl⟩
  rw [HT.out]
  go_wp2_with fail
  refine (up_words _ (vL m) s _ (hu.mono hf1) hMl (by omega)).mono ?_
  rintro e w2 ⟨x, rfl, hx, hf2⟩
  have hF2 : Fr w w2 := hf1.trans hf2
  obtain ⟨a2, m2, c2, rfl, hc2, hd2, hh2, hg2, hv2, ht2⟩ := hx
  have hm2 : m2.length = k + 2 := len_of m2 (k + 1) hg2 ht2 (by rw [hv2]; have := HS1.out; generalize 4294967296 ^ (k + 1) = P at *; omega) (by rw [hv2]; exact HS2.out)
  obtain ⟨b2, of2, rfl, hb2, hcell2⟩ := hs_len hh2 (by omega)
  have HTP : Hid (2147483648 ≤ m2.getD (k + 1) 0) := by
    show _ ≤ _
    rw [top_of m2 (k + 1) hg2 hm2, hv2]
    exact (Nat.le_div_iff_mul_le (Nat.pow_pos (by omega))).2 HS1.out
  rw [hm2] at hc2 hcell2
  have HV2 : Hid _ := hv2
  have HG2 : Hid _ := hg2
  have HC2 : Hid _ := hcell2
  clear hh2 hv2 ht2 hg2 hcell2 hc0 hc1 hcell
  rw [hm2]
  have hmk := make_words ((n : Int) + 1) (n + 1) (by omega) (by omega)
  go_wp2_with fail
  have hf3 : Fr w (w2.alloc (.cells (zc (n + 1)) 64)) := hF2.alloc _ _
  refine (up_words _ (vL l) s _ (hv.mono hf3) hN (by omega)).mono ?_
  rintro e w3 ⟨x, rfl, hx, hf4⟩
  have how := (Ow.made w2 (n + 1) 64).mono hf4
  have hF3 : Fr w w3 := hf3.trans hf4
  have hF3' : Fr w2 w3 := ((Fr.refl w2).alloc _ _).trans hf4
  obtain ⟨a3, l3, c3, rfl, hc3, hd3, hh3, hg3, hv3, ht3⟩ := hx
  have hl3 : l3.length ≤ n + 1 := len_le l3 _ ht3 (by rw [hv3]; refine shift_lt _ _ _ ?_ s3; rw [← hn]; exact vL_lt l hda)
  have hcp := copy_call w2.heap.size (List.replicate (n + 1) 0) l3 a3 l3.length (n + 1) c3 (n + 1) w3 how hh3 rfl (by simp) hl3
  have how2 := ow_splice (l := l3) how (by simpa using hl3)
  have hF4 : Fr w2 (w3.setCells w2.heap.size 0 (vs l3)) := fr_setCells _ (Nat.le_refl _) _ _ _ hF3'
  have hF5 : Fr w (w3.setCells w2.heap.size 0 (vs l3)) := fr_setCells _ hF2.1.size _ _ _ hF3
  obtain ⟨o, ho1, ho2, ho3, how3⟩ : ∃ o : List Nat, o.length = n + 1 ∧ Dg o ∧ vL o = vL l * 2 ^ s ∧ Ow (w3.setCells w2.heap.size 0 (vs l3)) w2.heap.size o := by
    refine ⟨_, ?_, ?_, ?_, how2⟩
    · rw [List.length_append, List.length_drop, List.length_replicate]; omega
    · exact Dg_app hg3 (Dg_drop (Dg_zeros _) _)
    · rw [vL_app, vL_zero (List.drop _ _) (fun i => by rw [getD_drop]; exact getD_zeros _ _), hv3]; simp
  generalize w3.setCells w2.heap.size 0 (vs l3) = w4 at *
  have HO : Hid (o.length = n + 1) := ho1
  have HD : Hid (Dg o) := ho2
  have HV : Hid (vL o = vL l * 2 ^ s) := ho3
  clear ho1 ho2 ho3 how how2 hh3 hg3 hv3 ht3 hmk hf4 hF3 hF3'
  have hmk := make_words ((n : Int) - ((k : Int) + 2) + 1) (n - (k + 1)) (by omega) (by omega)
  go_wp2_with fail
  have hB1 : w2.heap.size < w4.heap.size := how3.1
  go_loopw [13] (fun i wr => ∃ t : Nat, ∃ o qq : List Nat, t ≤ n - (k + 1) ∧ i = .int .i64 ((t : Int) - 1) ∧ Hid (o.length = n + 1) ∧ Hid (qq.length = n - (k + 1)) ∧ Hid (Dg o) ∧ Hid (Dg qq) ∧ Ow wr w2.heap.size o ∧ Ow wr w4.heap.size qq ∧ Fr w2 wr ∧ Hid (vL o + vL m * 2 ^ s * vL (qq.drop t) * 4294967296 ^ t = vL l * 2 ^ s) ∧ Hid (vL (o.drop t) < vL m * 2 ^ s)) (fun i _ => (intOf i + 1).toNat)
  case atStart =>
    refine ⟨n - (k + 1), o, List.replicate (n - (k + 1)) 0, Nat.le_refl _, congrArg _ (by omega), HO, by show _ = _; simp, HD, Dg_zeros _, ?_, ?_, ?_, ?_, ?_⟩
    · exact how3.mono ((Fr.refl _).alloc _ _)
    · exact Ow.made _ _ _
    · exact hF4.alloc _ _
    · show _ = _
      rw [List.drop_of_length_le (by simp)]
      rw [HV.out]; simp [vL]
    · show _ < _
      exact long_start o (vL l) (vL m) (k + 1) _ s HD.out HV.out (by rw [show n - (k + 1) + (k + 1) = n by omega, ← hn]; exact vL_lt l hda) HS4.out
  case round =>
    obtain ⟨t', o', qq, ht', rfl, HOl, HQl, HDo, HDq, hwo, hwq, hfr, HI, HLt⟩ := hrel
    cases t' with
    | zero =>
      have HI0 := HI.out
      rw [List.drop_zero, Nat.pow_zero, Nat.mul_one] at HI0
      have HL0 := HLt.out
      rw [List.drop_zero] at HL0
      have hMpos : 0 < vL m := Nat.lt_of_lt_of_le (Nat.pow_pos (by omega)) HS4.out
      obtain ⟨HE1, HE2⟩ := long_end o' qq (vL l) (vL m) s hMpos HI0 HL0
      have htk : vL (o'.take (k + 2)) = vL o' := vL_take_high o' (k + 2) (by have := HOl.out; omega) (Nat.lt_trans HL0 HS2.out)
      have hlog : (vL o').log2 < 32000000 := by
        have := Nat.lt_trans HL0 HS2.out
        rw [pow32] at this
        have := log2_lt_of _ _ this (by omega)
        omega
      have HT1 : ∀ wz, Ow wz w4.heap.size qq → Calls Tryd.prog 83 #[.slice (some ⟨w4.heap.size, 0, none⟩) (n - (k + 1)) (n - (k + 1))] wz fun e w' => ∃ v, e = .returned v ∧ Nm wz v (vL l / vL m) ∧ w' = wz := by
        intro wz hz
        have := nm_own hz HDq.out HQl.out (by omega)
        rw [HE1] at this
        exact this
      have HT2 : ∀ wz, Ow wz w2.heap.size o' → Calls Tryd.prog 83 #[.slice (some ⟨w2.heap.size, 0, none⟩) (k + 2) (n + 1)] wz fun e w' => ∃ v, e = .returned v ∧ Nm wz v (vL o') ∧ w' = wz := by
        intro wz hz
        have := trim_nm (some ⟨w2.heap.size, 0, none⟩) (o'.take (k + 2)) (k + 2) (n + 1) wz (hz.hs.take _) (Dg_take HDo.out _) (by rw [List.length_take]; have := HOl.out; omega) (by omega) (by omega)
        rw [htk] at this
        exact this
      have H1 : Hid _ := HT1
      have H2 : Hid _ := HT2
      have H3 : Hid _ := HE2
      have hFr : Fr w wr := hF2.trans hfr
      clear HI0 HL0 HE1 HE2 htk HT1 HT2
      go_wp2
      generalize w4.heap.size = B2 at *
      generalize w2.heap.size = B1 at *
      go_region_with (first
        | (go_at_call_of 83 B2; refine (H1.out _ ?_).mono ?_; exact hwq; rintro e wz ⟨vq, rfl, hvq, rfl⟩)
        | (go_at_call_of 83 B1; refine (H2.out _ ?_).mono ?_; exact hwo; rintro e wz ⟨vu, rfl, hvu, rfl⟩)
        | (go_at_call 86; refine (down_words _ _ s _ ?_ hlog (by omega)).mono ?_; exact hvu; rintro e wz ⟨vr, rfl, hvr, hfz⟩))
      all_goals rw [H3.out] at hvr
      all_goals (try go_wp2)
      all_goals go_ret2
      all_goals exact ⟨_, _, rfl, hvq.mono hfz, hvr, hFr.drew.trans hfz⟩
    | succ j =>
      rw [show (((j + 1 : Nat) : Int) - 1) = (j : Int) by omega]
      have hjn : (j : Int) + (k : Int) + 2 ≤ n := by omega
      have hw1 := hwq.2.1 j (by have := HQl.out; omega)
      have hw2 := hwq.2.2 j
      go_wp2_with fail
      rw [show j + (k + 2) + 1 - j = k + 3 by omega]
      have hV2b : vL m * 2 ^ s ≤ 4294967296 ^ (k + 2) := Nat.le_of_lt HS2.out
      obtain ⟨g1, g2, g3⟩ := long_in o' (vL m * 2 ^ s) (k + 2) j HDo.out (by have := HOl.out; omega) hV2b HLt.out
      have hne : b2 ≠ w2.heap.size := by omega
      have hta : o'.take j ++ o'.drop j = o' := List.take_append_drop _ _
      refine (figure_core w2.heap.size j k (n + 1 - j) c2 b2 of2 (o'.take j) (o'.drop j) m2 wr wr (by rw [List.length_take]; have := HOl.out; omega) (by rw [List.length_drop]; have := HOl.out; omega) hm2 (by omega) (by omega) (by omega) (by omega) hc2 hd2 (Dg_drop HDo.out _) HG2.out (fun i hi => (hfr.1.cell (p := ⟨b2, of2 + i, none⟩) hb2).trans (HC2.out i hi)) hne (Fb.refl _ _) (by rw [hta]; exact hwo) HTP.out (by rw [HV2.out, show k + 3 = k + 2 + 1 by omega, g1]; exact g2)).mono ?_
      rintro e w5 ⟨s', rfl, hl', hd', hv', hz', how5, hfb⟩
      rw [HV2.out, show k + 3 = k + 2 + 1 by omega, g1] at hv'
      rw [HV2.out, show k + 3 = k + 2 + 1 by omega, g1]
      have hs' : vL s' = vL (o'.drop j) % (vL m * 2 ^ s) := by
        rw [← hv']
        refine (vL_take s' (k + 2 + 1) (fun i hi => ?_)).symm
        rw [hz' i hi]; exact g3 i hi
      have hVp : 0 < vL m * 2 ^ s := Nat.lt_of_le_of_lt (Nat.zero_le _) HLt.out
      have hfig : vL (o'.drop j) / (vL m * 2 ^ s) < 4294967296 := Nat.div_lt_of_lt_mul g2
      have HOUT : Hid (∀ fig, fig = vL (o'.drop j) / (vL m * 2 ^ s) → vL (o'.take j ++ s') + vL m * 2 ^ s * vL ((qq.set j fig).drop j) * 4294967296 ^ j = vL l * 2 ^ s) := fun fig hf => long_out o' qq s' _ _ j fig (by have := HOl.out; omega) (by have := HQl.out; omega) hs' hf HI.out
      have HLN : Hid (vL ((o'.take j ++ s').drop j) < vL m * 2 ^ s) := by
        show _ < _
        rw [List.drop_append_of_le_length (by rw [List.length_take]; have := HOl.out; omega), List.drop_of_length_le (l := o'.take j) (by rw [List.length_take]; omega), List.nil_append, hs']
        exact Nat.mod_lt _ hVp
      have HLL : Hid ((o'.take j ++ s').length = n + 1) := by
        show _ = _
        rw [List.length_append, hl', List.length_take, List.length_drop]; have := HOl.out; omega
      have HDD : Hid (Dg (o'.take j ++ s')) := Dg_app (Dg_take HDo.out _) hd'
      have hf5 : Fr w2 w5 := hfb.fr hfr (Nat.le_refl _)
      have hwq5 : Ow w5 w4.heap.size qq := hfb.ow (by omega) hwq
      have hw15 := hwq5.2.1 j (by have := HQl.out; omega)
      have hw25 := hwq5.2.2 j
      generalize hfg : vL (o'.drop j) / (vL m * 2 ^ s) = fig at *
      have HF2 : Hid _ := HOUT.out fig rfl
      generalize o'.take j ++ s' = o2 at *
      clear hfg HOUT hs' hv' hz' hd' hl' g1 g2 g3 hta hwo hwq hw1 hw2 HI HLt hVp hV2b hfb
      go_wp2
      go_roundw
      case rel => exact ⟨j, o2, qq.set j fig, by omega, rfl, HLL, by show _ = _; rw [List.length_set]; exact HQl.out, HDD, Dg_set HDq.out _ _ hfig, how5.other (by omega) _ _, hwq5.set _ _ (by have := HQl.out; omega), hf5.setCell (show w2.heap.size ≤ w4.heap.size by omega) _, HF2, HLN⟩
      case measure => simp [intOf]
/-- division, for all words: the quotient and what is left -/
theorem divWords_any (v u : Value) (N M : Nat) (w : World) (hv : Nm w v N) (hu : Nm w u M) (hN : N.log2 < 32000000) (hM : 0 < M) :
    Calls Tryd.prog 91 #[v, u] w fun e w' => ∃ q r, e = .returned (.tuple #[q, r]) ∧ Nm w' q (N / M) ∧ Nm w' r (N % M) ∧ Fr w w' := by
  by_cases h : N < M
  · exact divWords_less v u N M w hv hu hN h
  · obtain ⟨c, m, cc, rfl, hcc, hcm, hh, hdm, rfl, htm⟩ := hu
    match m, hcc, hh, hdm, htm, hM, h with
    | [], _, _, _, _, hM, _ => exact absurd hM (by simp [vL])
    | [d], hcc, hh, hdm, htm, hM, h =>
      rw [vL_one] at hM h ⊢
      exact divWords_one v c d cc N w hv hh hcc hcm hN hM (hdm 0) (by omega)
    | d :: d' :: r, hcc, hh, hdm, htm, hM, h =>
      obtain ⟨b, of, rfl, hb, _⟩ := hs_len hh (by simp)
      exact divWords_many v b of cc r.length (d :: d' :: r) N w hv hh hdm htm (by simp) hcc hcm hN (by omega)
end Go.Proofs.YtlbikopancleoaaDoor
/-
  OWN TEXT: noughts at the end of a number's words (package eddybig's zeros), over the library's table.
-/
namespace Go.Proofs.YtlbikopancleoaaDoor
open Go.ChangeShapes Go.WideShapes Go.ChangeAt Go.RowKit
open Bg
set_option linter.unusedVariables false
/-- the library's table lies in its variable -/
def Tab (w : World) : Prop := TabAt 1 Lib.deBruijn32tab w
theorem Tab.mono {w w' : World} (h : Tab w) (hs : 1 < w.heap.size) (f : Fr w w') : Tab w' := fun j hj => (f.1.cell (p := ⟨1, j, none⟩) hs).trans (h j hj)
set_option maxHeartbeats 2000000 in
theorem tz32_core (x k idx : Nat) (w : World) (hx : x < 4294967296) (hx0 : ((x : Int) == 0) = false)
    (key : bits BinOp.and IntKind.u32 (x : Int) (-(x : Int) % 4294967296) * 125613361 % 4294967296 / 134217728 = (idx : Int))
    (hi : idx < 32) (hk : k < 32) (hcell : w.cell? ⟨1, idx, none⟩ = some (.int .u8 k)) :
    Calls Tryd.prog 94 #[.int .u32 x] w fun e w' => e = .returned (.int .i64 k) ∧ w' = w := by
  go_enter Tryd.func94, Tryd.ntmps94
  go_wp2_with (simp only [key])
  go_ret
  exact ⟨rfl, rfl⟩
theorem tz32_any (x : Nat) (w : World) (hx : x < 4294967296) (hx0 : x ≠ 0) (hT : Tab w) :
    Calls Tryd.prog 94 #[.int .u32 x] w fun e w' => e = .returned (.int .i64 (Lib.ctz 32 x)) ∧ w' = w := by
  obtain ⟨hlow, hk⟩ := Lib.lowest_bit 32 x hx0 hx
  obtain ⟨hi, htab⟩ := Lib.deBruijn32_at _ hk
  have hcell := hT _ hi
  rw [htab] at hcell
  exact tz32_core x _ _ w hx (by simp; omega) (tz32_key x _ hx hx0 hlow) hi hk hcell
theorem ctz_dvd (x : Nat) (hx : x < 4294967296) (hx0 : x ≠ 0) : 2 ^ Lib.ctz 32 x ∣ x ∧ Lib.ctz 32 x < 32 := by
  obtain ⟨m, hm, hk⟩ := Lib.ctzFrom_spec 32 x (by omega) hx
  have e : Lib.ctz 32 x = Lib.ctzFrom 32 x := by simp [Lib.ctz, hx0]
  rw [e]
  exact ⟨⟨_, hm⟩, hk⟩
theorem dvd_words (t : Nat) (ht : t ≤ 32) : ∀ (n : Nat) (l : List Nat), (∀ i, i < n → l.getD i 0 = 0) → 2 ^ t ∣ l.getD n 0 → 2 ^ (32 * n + t) ∣ vL l
  | _, [], _, _ => ⟨0, rfl⟩
  | 0, x :: r, _, h => by
    have e : vL (x :: r) = x + 4294967296 * vL r := rfl
    have h2 : 2 ^ t ∣ 4294967296 := by
      rw [show (4294967296 : Nat) = 2 ^ 32 by decide]; exact Nat.pow_dvd_pow 2 ht
    rw [e, Nat.mul_zero, Nat.zero_add]
    exact Nat.dvd_add h (Nat.dvd_trans h2 (Nat.dvd_mul_right _ _))
  | n + 1, x :: r, hz, h => by
    have e : vL (x :: r) = x + 4294967296 * vL r := rfl
    have hx : x = 0 := hz 0 (by omega)
    have ih := dvd_words t ht n r (fun i hi => hz (i + 1) (by omega)) h
    rw [e, hx, Nat.zero_add, show 32 * (n + 1) + t = 32 + (32 * n + t) by omega, Nat.pow_add, show (2 : Nat) ^ 32 = 4294967296 by decide]
    exact Nat.mul_dvd_mul_left _ ih
/-- what zeros answers: so many noughts that the number can be divided by -/
def ZerosP (N : Nat) (w : World) (e : Ending) (w' : World) : Prop := ∃ k : Nat, e = .returned (.int .i64 (k : Int)) ∧ 2 ^ k ∣ N ∧ k ≤ N.log2 ∧ w' = w
set_option maxHeartbeats 4000000 in
theorem zeros_any (v : Value) (N : Nat) (w : World) (hv : Nm w v N) (hN : 0 < N) (hl : N.log2 < 32000000) (hT : Tab w) :
    Calls Tryd.prog 89 #[v] w fun e w' => ZerosP N w e w' := by
  obtain ⟨a, l, ca, rfl, hca, hma, hha, hda, rfl, hta, kl⟩ := hv.len 1000000 (by omega)
  have hne : l ≠ [] := by intro e; subst e; exact absurd hN (by decide)
  rcases hha with h | ⟨b, o, rfl, hb, hcell⟩
  · exact absurd h hne
  have hlen := List.length_pos_iff.2 hne
  have hlast : ¬ l.getD (l.length - 1) 0 = 0 := by
    have := tn_last l (by omega)
    rw [hta] at this
    exact this
  have HC : Hid _ := hcell
  have HD : Hid (Dg l) := hda
  have HL : Hid (∀ k : Nat, 2 ^ k ∣ vL l → k ≤ (vL l).log2) := fun k hk => (Nat.le_log2 (by omega)).2 (Nat.le_of_dvd hN hk)
  clear hcell hda
  generalize hn : l.length = n at *
  go_enter Tryd.func89, Tryd.ntmps89
  go_wp2
  go_loop [3] (fun t => ∃ k : Nat, k < n ∧ t = .int .i64 (k : Int) ∧ ∀ i, i < k → l.getD i 0 = 0) (fun t => n - (intOf t).toNat)
  case atStart => exact ⟨0, hlen, rfl, fun i hi => by omega⟩
  case round =>
    obtain ⟨k, hk, rfl, hz⟩ := hrel
    have HZ : Hid (∀ i, i < k → l.getD i 0 = 0) := hz
    clear hz
    have hc := HC.out k (by omega)
    have hd := HD.out k
    by_cases c : l.getD k 0 = 0
    · have hk1 : k + 1 < n := by
        by_cases e : k = n - 1
        · subst e; exact absurd c hlast
        · omega
      rw [c] at hc
      have HZ' : Hid (∀ i, i < k + 1 → l.getD i 0 = 0) := by
        intro i hi
        by_cases e : i = k
        · rw [e]; exact c
        · exact HZ.out i (by omega)
      clear c HC HZ hlast hd
      go_wp2
      go_round
      case rel => exact ⟨k + 1, by omega, by go_num, HZ'.out⟩
      case measure => simp [intOf]; omega
    · obtain ⟨d1, d2⟩ := ctz_dvd _ hd c
      have hdv := dvd_words _ (by omega) k l HZ.out d1
      have hlg := HL.out _ hdv
      have HDV : Hid _ := hdv
      have TZ : Hid (∀ wz, Tab wz → Calls Tryd.prog 94 #[.int .u32 ((l.getD k 0 : Nat) : Int)] wz fun e w' => e = .returned (.int .i64 (Lib.ctz 32 (l.getD k 0) : Int)) ∧ w' = wz) := fun wz hz => tz32_any _ wz hd c hz
      clear hdv HL HZ HC d1
      generalize Lib.ctz 32 (l.getD k 0) = t at *
      have cI : ((l.getD k 0 : Nat) : Int) ≠ 0 := by omega
      have cB : (((l.getD k 0 : Nat) : Int) == 0) = false := by simpa using c
      generalize l.getD k 0 = x at *
      have h32 : k < 1000000 := by omega
      go_wp2_with (go_at_call 94; refine (TZ.out _ hT).mono ?_; rintro e w' ⟨rfl, rfl⟩)
      go_ret
      exact ⟨32 * k + t, by simp, HDV.out, hlg, rfl⟩
end Go.Proofs.YtlbikopancleoaaDoor
