/-
  OWN TEXT: words that a call makes itself and writes one by one; what addWords and subWords of package eddybig return.
-/
import Derived.Test.YtlbikopancleoaaGreatDoorJnBf
namespace Go.Proofs.YtlbikopancleoaaGreatDoor
open Go.ChangeShapes Go.WideShapes Go.ChangeAt Go.RowKit
open Bg
set_option linter.unusedVariables false

/-- a row of the call's own: block B holds these words, and may be written -/
def Ow (w : World) (B : Nat) (o : List Nat) : Prop := B < w.heap.size ∧ (∀ i, i < o.length → w.cell? ⟨B, i, none⟩ = some (.int .u32 (o.getD i 0 : Nat))) ∧ ∀ i, w.frozen? ⟨B, i, none⟩ = false
theorem Ow.set {w : World} {B : Nat} {o : List Nat} (h : Ow w B o) (i x : Nat) (hi : i < o.length) : Ow (w.setCell ⟨B, i, none⟩ (.int .u32 (x : Nat))) B (o.set i x) := by
  obtain ⟨h1, h2, h3⟩ := h
  refine ⟨by simpa [World.setCell] using h1, fun j hj => ?_, fun j => (World.frozen?_setCell _ _ _ _).trans (h3 j)⟩
  rw [List.length_set] at hj
  rw [getD_set _ _ _ _ hi]
  by_cases c : j = i
  · subst c
    rw [if_pos rfl]; exact World.cell?_setCell_same _ _ _ (h2 j hj)
  · rw [if_neg c, World.cell?_setCell_other]
    · exact h2 j hj
    · intro e; exact c (by cases e; rfl)
theorem Ow.hs {w : World} {B : Nat} {o : List Nat} (h : Ow w B o) : Hs w (some ⟨B, 0, none⟩) o := by
  right
  exact ⟨B, 0, rfl, h.1, fun i hi => by rw [Nat.zero_add]; exact h.2.1 i hi⟩
/-- noughts, as make lays them -/
def zc (n : Nat) : Array Value := madeCells #[.int .u32 0] n
theorem make_words (c : Int) (n : Nat) (hc : c = n) (h : n ≤ 2199023255552) (w : World) :
    (Instr.makeSlice 60 (.int .i64 c) (.int .i64 c)).run Tryz.prog w = .ok (.slice (some ⟨w.heap.size, 0, none⟩) n n) (w.alloc (.cells (zc n) 71)) := by
  subst hc
  have k : (Tryz.prog.info? 71).map (fun i => (i.zero, i.size, i.bytes)) = some (some (.int .u32 0), 1, 4) := by kernel_rfl
  obtain ⟨i, hi, he⟩ := Option.map_eq_some_iff.1 k
  simp only [Prod.mk.injEq] at he
  have hr := run_make (P := Tryz.prog) w 60 71 i (.int .u32 0) (by kernel_rfl) hi he.1 .i64 .i64 n n (by omega) (by omega) (by rw [he.2.2]; omega) (by omega)
  rw [he.2.1] at hr
  simp only [Int.toNat_natCast, Nat.mul_one] at hr
  exact hr
theorem Ow.made (w : World) (n : Nat) (t : TypeId) : Ow (w.alloc (.cells (zc n) t)) w.heap.size (List.replicate n 0) := by
  refine ⟨by simp, fun i hi => ?_, fun i => ?_⟩
  · rw [List.length_replicate] at hi
    rw [getD_zeros]
    rw [World.cell?_alloc_at _ _ _ _ rfl]
    unfold zc madeCells
    simp [hi, Nat.mod_one]
  · exact World.frozen?_alloc_at _ _ _ _ rfl
theorem nm_own {w : World} {B : Nat} {o : List Nat} {n : Nat} (h : Ow w B o) (hd : Dg o) (hn : o.length = n) (hm : n ≤ 1099511627776) :
    Calls Tryz.prog 138 #[.slice (some ⟨B, 0, none⟩) n n] w fun e w' => ∃ v, e = .returned v ∧ Nm w v (vL o) ∧ w' = w :=
  trim_nm _ o n n w h.hs hd hn (Nat.le_refl _) hm
set_option maxHeartbeats 2000000 in
theorem addWords_core (a c : Option Addr) (l m : List Nat) (ca cc : Nat) (w : World) (hha : Hs w a l) (hhc : Hs w c m) (hda : Dg l) (hdc : Dg m) (hca : l.length ≤ ca) (hcc : m.length ≤ cc) (hma : ca ≤ 1099511627776) (hlen : l.length ≤ 1099511627000) (hmc : cc ≤ 1099511627776) (hlm : m.length ≤ l.length) :
    Calls Tryz.prog 143 #[.slice a l.length ca, .slice c m.length cc] w fun e w' => ∃ v, e = .returned v ∧ Nm w' v (vL l + vL m) ∧ Fr w w' := by
  have hmk := make_words ((l.length : Int) + 1) (l.length + 1) (by omega) (by omega)
  generalize hn : l.length = n at *
  generalize hk2 : m.length = n2 at *
  have HN : Hid (l.length = n) := hn
  have HM : Hid (m.length = n2) := hk2
  clear hn hk2
  have t0 : ¬ (n : Int) < n2 := by omega
  go_enter Tryz.func143, Tryz.ntmps143
  go_wp2
  go_loopw [6, 7] (fun cy i wr => ∃ k cr : Nat, ∃ o : List Nat, k ≤ n ∧ i = .int .i64 k ∧ cy = .int .u64 cr ∧ cr ≤ 1 ∧ o.length = n + 1 ∧ Dg o ∧ Ow wr w.heap.size o ∧ Fr w wr ∧ vL (o.take k) + cr * 4294967296 ^ k = vL (l.take k) + vL (m.take k)) (fun _ i _ => n - (intOf i).toNat)
  case atStart => exact ⟨0, 0, List.replicate (n + 1) 0, Nat.zero_le _, rfl, rfl, by omega, by simp, Dg_zeros _, Ow.made _ _ _, (Fr.refl _).alloc _ _, by simp [vL]⟩
  case round =>
    obtain ⟨k, cr, o, hk, rfl, rfl, hcr, ho, hdo, how, hf, hinv⟩ := hrel
    have HI : Hid (vL (o.take k) + cr * 4294967296 ^ k = vL (l.take k) + vL (m.take k)) := hinv
    have HO : Hid (o.length = n + 1) := ho
    clear hinv ho
    by_cases hlt : k < n
    · obtain ⟨b, of, rfl, hb, hcell⟩ := hs_len hha (by have := HN.out; omega)
      have h1 : wr.cell? ⟨b, of + k, none⟩ = some (.int .u32 (l.getD k 0 : Nat)) := (hf.1.cell (p := ⟨b, of + k, none⟩) hb).trans (hcell k (by have := HN.out; omega))
      have x1 := hda k
      have hw1 := how.2.1 k (by have := HO.out; omega)
      have hw2 := how.2.2 k
      have hltI : (k : Int) < n := by omega
      by_cases hl2 : k < n2
      · obtain ⟨b2, of2, rfl, hb2, hcell2⟩ := hs_len hhc (by have := HM.out; omega)
        have h2 : wr.cell? ⟨b2, of2 + k, none⟩ = some (.int .u32 (m.getD k 0 : Nat)) := (hf.1.cell (p := ⟨b2, of2 + k, none⟩) hb2).trans (hcell2 k (by have := HM.out; omega))
        have x2 := hdc k
        have hl2I : (k : Int) < n2 := by omega
        have HS : Hid (vL ((o.set k ((l.getD k 0 + cr + m.getD k 0) % 4294967296)).take (k + 1)) + (l.getD k 0 + cr + m.getD k 0) / 4294967296 * 4294967296 ^ (k + 1) = vL (l.take (k + 1)) + vL (m.take (k + 1))) := add_step l m o k cr _ (by have := HO.out; omega) HI.out rfl
        generalize l.getD k 0 = x at *
        generalize m.getD k 0 = y at *
        generalize o.getD k 0 = z at *
        go_wp2
        have e1 : ((x : Int) + cr + y) % 4294967296 = (((x + cr + y) % 4294967296 : Nat) : Int) := by omega
        rw [e1]
        exact ⟨⟨k + 1, (x + cr + y) / 4294967296, o.set k ((x + cr + y) % 4294967296), by omega, by go_num, congrArg _ (by omega), by omega, by rw [List.length_set]; exact HO.out, Dg_set hdo _ _ (by omega), how.set _ _ (by have := HO.out; omega), hf.setCell (Nat.le_refl _) _, HS.out⟩, by simp [intOf]; omega⟩
      · have y0 : m.getD k 0 = 0 := getD_out (by have := HM.out; omega)
        have hl2I : ¬ (k : Int) < n2 := by omega
        have HS : Hid (vL ((o.set k ((l.getD k 0 + cr) % 4294967296)).take (k + 1)) + (l.getD k 0 + cr) / 4294967296 * 4294967296 ^ (k + 1) = vL (l.take (k + 1)) + vL (m.take (k + 1))) := add_step l m o k cr _ (by have := HO.out; omega) HI.out (by rw [y0]; rfl)
        generalize l.getD k 0 = x at *
        generalize o.getD k 0 = z at *
        clear y0
        go_wp2
        have e1 : ((x : Int) + cr) % 4294967296 = (((x + cr) % 4294967296 : Nat) : Int) := by omega
        rw [e1]
        exact ⟨⟨k + 1, (x + cr) / 4294967296, o.set k ((x + cr) % 4294967296), by omega, by go_num, congrArg _ (by omega), by omega, by rw [List.length_set]; exact HO.out, Dg_set hdo _ _ (by omega), how.set _ _ (by have := HO.out; omega), hf.setCell (Nat.le_refl _) _, HS.out⟩, by simp [intOf]; omega⟩
    · have hkn : k = n := by omega
      subst hkn
      have hw1 := how.2.1 k (by have := HO.out; omega)
      have hw2 := how.2.2 k
      have HV : Hid (vL (o.set k cr) = vL l + vL m) := by
        have h1 := take_set_succ o k cr (by have := HO.out; omega)
        rw [List.take_of_length_le (by rw [List.length_set]; have := HO.out; omega)] at h1
        show vL (o.set k cr) = _
        have h2 := HI.out
        rw [List.take_of_length_le (l := l) (by have := HN.out; omega), List.take_of_length_le (l := m) (by have := HM.out; omega)] at h2
        omega
      have hlt' : ¬ (k : Int) < k := by omega
      generalize o.getD k 0 = z at *
      go_wp2_with fail
      have e1 : (cr : Int) % 4294967296 = ((cr : Nat) : Int) := by omega
      have hown := how.set k cr (by have := HO.out; omega)
      refine (nm_own hown (Dg_set hdo _ _ (by omega)) (by rw [List.length_set]; exact HO.out) (by omega)).mono ?_
      rintro e w1 ⟨v, rfl, hnm, rfl⟩
      rw [HV.out] at hnm
      have HNM := hnm
      go_wp2
      go_ret
      exact ⟨v, rfl, HNM, hf.setCell (Nat.le_refl _) _⟩
set_option maxHeartbeats 2000000 in
theorem addWords_turn (a c : Option Addr) (l m : List Nat) (ca cc : Nat) (w : World) (hha : Hs w a l) (hhc : Hs w c m) (hda : Dg l) (hdc : Dg m) (hca : l.length ≤ ca) (hcc : m.length ≤ cc) (hma : ca ≤ 1099511627776) (hlen : l.length ≤ 1099511627000) (hmc : cc ≤ 1099511627776) (hlm : m.length < l.length) :
    Calls Tryz.prog 143 #[.slice c m.length cc, .slice a l.length ca] w fun e w' => ∃ v, e = .returned v ∧ Nm w' v (vL l + vL m) ∧ Fr w w' := by
  have hmk := make_words ((l.length : Int) + 1) (l.length + 1) (by omega) (by omega)
  generalize hn : l.length = n at *
  generalize hk2 : m.length = n2 at *
  have HN : Hid (l.length = n) := hn
  have HM : Hid (m.length = n2) := hk2
  clear hn hk2
  have t0 : (n2 : Int) < n := by omega
  go_enter Tryz.func143, Tryz.ntmps143
  go_wp2
  go_loopw [6, 7] (fun cy i wr => ∃ k cr : Nat, ∃ o : List Nat, k ≤ n ∧ i = .int .i64 k ∧ cy = .int .u64 cr ∧ cr ≤ 1 ∧ o.length = n + 1 ∧ Dg o ∧ Ow wr w.heap.size o ∧ Fr w wr ∧ vL (o.take k) + cr * 4294967296 ^ k = vL (l.take k) + vL (m.take k)) (fun _ i _ => n - (intOf i).toNat)
  case atStart => exact ⟨0, 0, List.replicate (n + 1) 0, Nat.zero_le _, rfl, rfl, by omega, by simp, Dg_zeros _, Ow.made _ _ _, (Fr.refl _).alloc _ _, by simp [vL]⟩
  case round =>
    obtain ⟨k, cr, o, hk, rfl, rfl, hcr, ho, hdo, how, hf, hinv⟩ := hrel
    have HI : Hid (vL (o.take k) + cr * 4294967296 ^ k = vL (l.take k) + vL (m.take k)) := hinv
    have HO : Hid (o.length = n + 1) := ho
    clear hinv ho
    by_cases hlt : k < n
    · obtain ⟨b, of, rfl, hb, hcell⟩ := hs_len hha (by have := HN.out; omega)
      have h1 : wr.cell? ⟨b, of + k, none⟩ = some (.int .u32 (l.getD k 0 : Nat)) := (hf.1.cell (p := ⟨b, of + k, none⟩) hb).trans (hcell k (by have := HN.out; omega))
      have x1 := hda k
      have hw1 := how.2.1 k (by have := HO.out; omega)
      have hw2 := how.2.2 k
      have hltI : (k : Int) < n := by omega
      by_cases hl2 : k < n2
      · obtain ⟨b2, of2, rfl, hb2, hcell2⟩ := hs_len hhc (by have := HM.out; omega)
        have h2 : wr.cell? ⟨b2, of2 + k, none⟩ = some (.int .u32 (m.getD k 0 : Nat)) := (hf.1.cell (p := ⟨b2, of2 + k, none⟩) hb2).trans (hcell2 k (by have := HM.out; omega))
        have x2 := hdc k
        have hl2I : (k : Int) < n2 := by omega
        have HS : Hid (vL ((o.set k ((l.getD k 0 + cr + m.getD k 0) % 4294967296)).take (k + 1)) + (l.getD k 0 + cr + m.getD k 0) / 4294967296 * 4294967296 ^ (k + 1) = vL (l.take (k + 1)) + vL (m.take (k + 1))) := add_step l m o k cr _ (by have := HO.out; omega) HI.out rfl
        generalize l.getD k 0 = x at *
        generalize m.getD k 0 = y at *
        generalize o.getD k 0 = z at *
        go_wp2
        have e1 : ((x : Int) + cr + y) % 4294967296 = (((x + cr + y) % 4294967296 : Nat) : Int) := by omega
        rw [e1]
        exact ⟨⟨k + 1, (x + cr + y) / 4294967296, o.set k ((x + cr + y) % 4294967296), by omega, by go_num, congrArg _ (by omega), by omega, by rw [List.length_set]; exact HO.out, Dg_set hdo _ _ (by omega), how.set _ _ (by have := HO.out; omega), hf.setCell (Nat.le_refl _) _, HS.out⟩, by simp [intOf]; omega⟩
      · have y0 : m.getD k 0 = 0 := getD_out (by have := HM.out; omega)
        have hl2I : ¬ (k : Int) < n2 := by omega
        have HS : Hid (vL ((o.set k ((l.getD k 0 + cr) % 4294967296)).take (k + 1)) + (l.getD k 0 + cr) / 4294967296 * 4294967296 ^ (k + 1) = vL (l.take (k + 1)) + vL (m.take (k + 1))) := add_step l m o k cr _ (by have := HO.out; omega) HI.out (by rw [y0]; rfl)
        generalize l.getD k 0 = x at *
        generalize o.getD k 0 = z at *
        clear y0
        go_wp2
        have e1 : ((x : Int) + cr) % 4294967296 = (((x + cr) % 4294967296 : Nat) : Int) := by omega
        rw [e1]
        exact ⟨⟨k + 1, (x + cr) / 4294967296, o.set k ((x + cr) % 4294967296), by omega, by go_num, congrArg _ (by omega), by omega, by rw [List.length_set]; exact HO.out, Dg_set hdo _ _ (by omega), how.set _ _ (by have := HO.out; omega), hf.setCell (Nat.le_refl _) _, HS.out⟩, by simp [intOf]; omega⟩
    · have hkn : k = n := by omega
      subst hkn
      have hw1 := how.2.1 k (by have := HO.out; omega)
      have hw2 := how.2.2 k
      have HV : Hid (vL (o.set k cr) = vL l + vL m) := by
        have h1 := take_set_succ o k cr (by have := HO.out; omega)
        rw [List.take_of_length_le (by rw [List.length_set]; have := HO.out; omega)] at h1
        show vL (o.set k cr) = _
        have h2 := HI.out
        rw [List.take_of_length_le (l := l) (by have := HN.out; omega), List.take_of_length_le (l := m) (by have := HM.out; omega)] at h2
        omega
      have hlt' : ¬ (k : Int) < k := by omega
      generalize o.getD k 0 = z at *
      go_wp2_with fail
      have e1 : (cr : Int) % 4294967296 = ((cr : Nat) : Int) := by omega
      have hown := how.set k cr (by have := HO.out; omega)
      refine (nm_own hown (Dg_set hdo _ _ (by omega)) (by rw [List.length_set]; exact HO.out) (by omega)).mono ?_
      rintro e w1 ⟨v, rfl, hnm, rfl⟩
      rw [HV.out] at hnm
      have HNM := hnm
      go_wp2
      go_ret
      exact ⟨v, rfl, HNM, hf.setCell (Nat.le_refl _) _⟩
theorem pow32 (k : Nat) : 4294967296 ^ k = 2 ^ (32 * k) := by rw [Nat.pow_mul]
/-- how long the words of a number are -/
theorem Nm.len {w : World} {v : Value} {N : Nat} (h : Nm w v N) (k : Nat) (hN : N.log2 < 32 * k) : ∃ a l cap, v = .slice a l.length cap ∧ l.length ≤ cap ∧ cap ≤ 1099511627776 ∧ Hs w a l ∧ Dg l ∧ vL l = N ∧ tn l = l.length ∧ l.length ≤ k := by
  obtain ⟨a, l, cap, h1, h2, h3, h4, h5, h6, h7⟩ := h
  refine ⟨a, l, cap, h1, h2, h3, h4, h5, h6, h7, ?_⟩
  by_cases c : l.length ≤ k
  · exact c
  · exfalso
    have hne : l ≠ [] := by intro e; subst e; simp at c
    have h8 := vL_ge l h7 hne
    rw [pow32, h6] at h8
    have hz : N ≠ 0 := by have := Nat.two_pow_pos (32 * (l.length - 1)); omega
    have := (Nat.le_log2 hz).2 h8
    omega
theorem addWords_any (v u : Value) (N M : Nat) (w : World) (hv : Nm w v N) (hu : Nm w u M) (hN : N.log2 < 32000000) (hM : M.log2 < 32000000) :
    Calls Tryz.prog 143 #[v, u] w fun e w' => ∃ x, e = .returned x ∧ Nm w' x (N + M) ∧ Fr w w' := by
  obtain ⟨a, l, ca, rfl, hca, hma, hha, hda, rfl, hta, kl⟩ := hv.len 1000000 (by omega)
  obtain ⟨c, m, cc, rfl, hcc, hmc, hhc, hdc, rfl, htc, km⟩ := hu.len 1000000 (by omega)
  by_cases h : m.length ≤ l.length
  · exact addWords_core a c l m ca cc w hha hhc hda hdc hca hcc hma (by omega) hmc h
  · have := addWords_turn c a m l cc ca w hhc hha hdc hda hcc hca hmc (by omega) hma (by omega)
    rw [Nat.add_comm (vL l)]
    exact this
set_option maxHeartbeats 2000000 in
theorem subWords_core (a c : Option Addr) (l m : List Nat) (ca cc : Nat) (w : World) (hha : Hs w a l) (hhc : Hs w c m) (hda : Dg l) (hdc : Dg m) (hca : l.length ≤ ca) (hcc : m.length ≤ cc) (hma : ca ≤ 1099511627776) (hlen : l.length ≤ 1099511627000) (hmc : cc ≤ 1099511627776) (hlm : m.length ≤ l.length) (hle : vL m ≤ vL l) :
    Calls Tryz.prog 140 #[.slice a l.length ca, .slice c m.length cc] w fun e w' => ∃ v, e = .returned v ∧ Nm w' v (vL l - vL m) ∧ Fr w w' := by
  have hmk := make_words (l.length : Int) l.length rfl (by omega)
  generalize hn : l.length = n at *
  generalize hk2 : m.length = n2 at *
  have HN : Hid (l.length = n) := hn
  have HM : Hid (m.length = n2) := hk2
  have HLE : Hid (vL m ≤ vL l) := hle
  clear hn hk2 hle
  go_enter Tryz.func140, Tryz.ntmps140
  go_wp2
  go_loopw [6, 7] (fun cy i wr => ∃ k cr : Nat, ∃ o : List Nat, k ≤ n ∧ i = .int .i64 k ∧ cy = .int .u64 cr ∧ cr ≤ 1 ∧ o.length = n ∧ Dg o ∧ Ow wr w.heap.size o ∧ Fr w wr ∧ vL (o.take k) + vL (m.take k) = vL (l.take k) + cr * 4294967296 ^ k) (fun _ i _ => n - (intOf i).toNat)
  case atStart => exact ⟨0, 0, List.replicate n 0, Nat.zero_le _, rfl, rfl, by omega, by simp, Dg_zeros _, Ow.made _ _ _, (Fr.refl _).alloc _ _, by simp [vL]⟩
  case round =>
    obtain ⟨k, cr, o, hk, rfl, rfl, hcr, ho, hdo, how, hf, hinv⟩ := hrel
    have HI : Hid (vL (o.take k) + vL (m.take k) = vL (l.take k) + cr * 4294967296 ^ k) := hinv
    have HO : Hid (o.length = n) := ho
    clear hinv ho
    by_cases hlt : k < n
    · obtain ⟨b, of, rfl, hb, hcell⟩ := hs_len hha (by have := HN.out; omega)
      have h1 : wr.cell? ⟨b, of + k, none⟩ = some (.int .u32 (l.getD k 0 : Nat)) := (hf.1.cell (p := ⟨b, of + k, none⟩) hb).trans (hcell k (by have := HN.out; omega))
      have x1 := hda k
      have hw1 := how.2.1 k (by have := HO.out; omega)
      have hw2 := how.2.2 k
      have hltI : (k : Int) < n := by omega
      by_cases hl2 : k < n2
      · obtain ⟨b2, of2, rfl, hb2, hcell2⟩ := hs_len hhc (by have := HM.out; omega)
        have h2 : wr.cell? ⟨b2, of2 + k, none⟩ = some (.int .u32 (m.getD k 0 : Nat)) := (hf.1.cell (p := ⟨b2, of2 + k, none⟩) hb2).trans (hcell2 k (by have := HM.out; omega))
        have x2 := hdc k
        have hl2I : (k : Int) < n2 := by omega
        have HS : Hid (∀ d c', d + m.getD k 0 + cr = l.getD k 0 + c' * 4294967296 → vL ((o.set k d).take (k + 1)) + vL (m.take (k + 1)) = vL (l.take (k + 1)) + c' * 4294967296 ^ (k + 1)) := fun d c' h => sub_step l m o k cr d c' (by have := HO.out; omega) HI.out h
        generalize l.getD k 0 = x at *
        generalize m.getD k 0 = y at *
        generalize o.getD k 0 = z at *
        obtain ⟨t1, e1, b1⟩ : ∃ t1 : Nat, IntKind.u64.wrap ((x : Int) - cr) = t1 ∧ t1 = (x + 18446744073709551616 - cr) % 18446744073709551616 := ⟨_, by rw [IntKind.wrap_u64]; omega, rfl⟩
        obtain ⟨t2, e2, b2'⟩ : ∃ t2 : Nat, IntKind.u64.wrap ((t1 : Int) - y) = t2 ∧ t2 = (t1 + 18446744073709551616 - y) % 18446744073709551616 := ⟨_, by rw [IntKind.wrap_u64]; omega, rfl⟩
        have B1 : Hid (t1 = (x + 18446744073709551616 - cr) % 18446744073709551616) := b1
        have B2 : Hid (t2 = (t1 + 18446744073709551616 - y) % 18446744073709551616) := b2'
        have l2 : t2 < 18446744073709551616 := by omega
        clear b1 b2'
        go_wp2
        have E : t2 % 4294967296 + y + cr = x + t2 / 9223372036854775808 * 4294967296 := by have := B1.out; have := B2.out; omega
        have e3 : (t2 : Int) % 4294967296 = ((t2 % 4294967296 : Nat) : Int) := by omega
        rw [e3]
        exact ⟨⟨k + 1, t2 / 9223372036854775808, o.set k (t2 % 4294967296), by omega, by go_num, congrArg _ (by omega), by omega, by rw [List.length_set]; exact HO.out, Dg_set hdo _ _ (by omega), how.set _ _ (by have := HO.out; omega), hf.setCell (Nat.le_refl _) _, HS.out _ _ E⟩, by simp [intOf]; omega⟩
      · have y0 : m.getD k 0 = 0 := getD_out (by have := HM.out; omega)
        have hl2I : ¬ (k : Int) < n2 := by omega
        have HS : Hid (∀ d c', d + cr = l.getD k 0 + c' * 4294967296 → vL ((o.set k d).take (k + 1)) + vL (m.take (k + 1)) = vL (l.take (k + 1)) + c' * 4294967296 ^ (k + 1)) := fun d c' h => sub_step l m o k cr d c' (by have := HO.out; omega) HI.out (by rw [y0]; exact h)
        generalize l.getD k 0 = x at *
        generalize o.getD k 0 = z at *
        clear y0
        obtain ⟨t1, e1, b1⟩ : ∃ t1 : Nat, IntKind.u64.wrap ((x : Int) - cr) = t1 ∧ t1 = (x + 18446744073709551616 - cr) % 18446744073709551616 := ⟨_, by rw [IntKind.wrap_u64]; omega, rfl⟩
        have B1 : Hid (t1 = (x + 18446744073709551616 - cr) % 18446744073709551616) := b1
        have l2 : t1 < 18446744073709551616 := by omega
        clear b1
        go_wp2
        have E : t1 % 4294967296 + cr = x + t1 / 9223372036854775808 * 4294967296 := by have := B1.out; omega
        have e3 : (t1 : Int) % 4294967296 = ((t1 % 4294967296 : Nat) : Int) := by omega
        rw [e3]
        exact ⟨⟨k + 1, t1 / 9223372036854775808, o.set k (t1 % 4294967296), by omega, by go_num, congrArg _ (by omega), by omega, by rw [List.length_set]; exact HO.out, Dg_set hdo _ _ (by omega), how.set _ _ (by have := HO.out; omega), hf.setCell (Nat.le_refl _) _, HS.out _ _ E⟩, by simp [intOf]; omega⟩
    · have hkn : k = n := by omega
      subst hkn
      have HV : Hid (vL o = vL l - vL m) := by
        show vL o = _
        have h2 := HI.out
        have h3 := vL_lt o hdo
        rw [HO.out] at h3
        rw [List.take_of_length_le (l := l) (by have := HN.out; omega), List.take_of_length_le (l := m) (by have := HM.out; omega), List.take_of_length_le (l := o) (by have := HO.out; omega)] at h2
        have h4 := HLE.out
        have hc0 : cr = 0 ∨ cr = 1 := by omega
        rcases hc0 with rfl | rfl
        · omega
        · generalize 4294967296 ^ k = p at *
          omega
      have hlt' : ¬ (k : Int) < k := by omega
      go_wp2_with fail
      refine (nm_own how hdo HO.out (by omega)).mono ?_
      rintro e w1 ⟨v, rfl, hnm, rfl⟩
      rw [HV.out] at hnm
      have HNM := hnm
      go_wp2
      go_ret
      exact ⟨v, rfl, HNM, hf⟩
theorem subWords_any (v u : Value) (N M : Nat) (w : World) (hv : Nm w v N) (hu : Nm w u M) (hN : N.log2 < 32000000) (hle : M ≤ N) :
    Calls Tryz.prog 140 #[v, u] w fun e w' => ∃ x, e = .returned x ∧ Nm w' x (N - M) ∧ Fr w w' := by
  obtain ⟨a, l, ca, rfl, hca, hma, hha, hda, rfl, hta, kl⟩ := hv.len 1000000 (by omega)
  obtain ⟨c, m, cc, rfl, hcc, hmc, hhc, hdc, rfl, htc⟩ := hu
  have h : m.length ≤ l.length := by
    by_cases c : m.length ≤ l.length
    · exact c
    · have := vL_lt_len l m hda htc (by omega); omega
  exact subWords_core a c l m ca cc w hha hhc hda hdc hca hcc hma (by omega) hmc h hle
end Go.Proofs.YtlbikopancleoaaGreatDoor
/-
  OWN TEXT: what mulWords of package eddybig returns, for all words.
-/
namespace Go.Proofs.YtlbikopancleoaaGreatDoor
open Go.ChangeShapes Go.WideShapes Go.ChangeAt Go.RowKit
open Bg
set_option linter.unusedVariables false
theorem Ow.drewN {w : World} {B : Nat} {o : List Nat} (h : Ow w B o) (n : Nat) : Ow (w.drewN n) B o := h
end Go.Proofs.YtlbikopancleoaaGreatDoor
