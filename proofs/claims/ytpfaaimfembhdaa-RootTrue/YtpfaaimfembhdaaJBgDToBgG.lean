/-
  OWN TEXT: words that a call makes itself and writes one by one; what addWords and subWords of package eddybig return.
-/
import Derived.Test.YtpfaaimfembhdaaJBgAToBgC
namespace Go.Proofs.Ytpfaaimfembhdaa
open Go.ChangeShapes Go.WideShapes Go.ChangeAt Go.RowKit
open Bg
set_option linter.unusedVariables false

/-- a row of the call's own: block B holds these words, and may be written -/
def Ow (w : World) (B : Nat) (o : List Nat) : Prop := B < w.heap.size ∧ (∀ i, i < o.length → w.cell? ⟨B, i, none⟩ = some (.int .u32 (o.getD i 0 : Nat))) ∧ ∀ i, w.frozen? ⟨B, i, none⟩ = false
theorem Ow.set {w : World} {B : Nat} {o : List Nat} (h : Ow w B o) (i x : Nat) (hi : i < o.length) : Ow (w.setCell ⟨B, i, none⟩ (.int .u32 (x : Nat))) B (o.set i x) := by
  obtain ⟨h1, h2, h3⟩ := h
  refine ⟨by simpa [World.setCell] using h1, fun j hj => ?_, fun j => (World.frozen?_setCell _ _ _ _).trans (h3 j)⟩
  rw [List.length_set] at hj
  rw [getD_set _ _ _ _ hi]
  by_cases c : j = i
  · subst c
    rw [if_pos rfl]; exact World.cell?_setCell_same _ _ _ (h2 j hj)
  · rw [if_neg c, World.cell?_setCell_other]
    · exact h2 j hj
    · intro e; exact c (by cases e; rfl)
theorem Ow.hs {w : World} {B : Nat} {o : List Nat} (h : Ow w B o) : Hs w (some ⟨B, 0, none⟩) o := by
  right
  exact ⟨B, 0, rfl, h.1, fun i hi => by rw [Nat.zero_add]; exact h.2.1 i hi⟩
/-- noughts, as make lays them -/
def zc (n : Nat) : Array Value := madeCells #[.int .u32 0] n
theorem make_words (c : Int) (n : Nat) (hc : c = n) (h : n ≤ 2199023255552) (w : World) :
    (Instr.makeSlice 39 (.int .i64 c) (.int .i64 c)).run Try.prog w = .ok (.slice (some ⟨w.heap.size, 0, none⟩) n n) (w.alloc (.cells (zc n) 70)) := by
  subst hc
  have k : (Try.prog.info? 70).map (fun i => (i.zero, i.size, i.bytes)) = some (some (.int .u32 0), 1, 4) := by kernel_rfl
  obtain ⟨i, hi, he⟩ := Option.map_eq_some_iff.1 k
  simp only [Prod.mk.injEq] at he
  have hr := run_make (P := Try.prog) w 39 70 i (.int .u32 0) (by kernel_rfl) hi he.1 .i64 .i64 n n (by omega) (by omega) (by rw [he.2.2]; omega) (by omega)
  rw [he.2.1] at hr
  simp only [Int.toNat_natCast, Nat.mul_one] at hr
  exact hr
theorem Ow.made (w : World) (n : Nat) (t : TypeId) : Ow (w.alloc (.cells (zc n) t)) w.heap.size (List.replicate n 0) := by
  refine ⟨by simp, fun i hi => ?_, fun i => ?_⟩
  · rw [List.length_replicate] at hi
    rw [getD_zeros]
    rw [World.cell?_alloc_at _ _ _ _ rfl]
    unfold zc madeCells
    simp [hi, Nat.mod_one]
  · exact World.frozen?_alloc_at _ _ _ _ rfl
theorem nm_own {w : World} {B : Nat} {o : List Nat} {n : Nat} (h : Ow w B o) (hd : Dg o) (hn : o.length = n) (hm : n ≤ 1099511627776) :
    Calls Try.prog 57 #[.slice (some ⟨B, 0, none⟩) n n] w fun e w' => ∃ v, e = .returned v ∧ Nm w v (vL o) ∧ w' = w :=
  trim_nm _ o n n w h.hs hd hn (Nat.le_refl _) hm
set_option maxHeartbeats 2000000 in
theorem addWords_core (a c : Option Addr) (l m : List Nat) (ca cc : Nat) (w : World) (hha : Hs w a l) (hhc : Hs w c m) (hda : Dg l) (hdc : Dg m) (hca : l.length ≤ ca) (hcc : m.length ≤ cc) (hma : ca ≤ 1099511627776) (hlen : l.length ≤ 1099511627000) (hmc : cc ≤ 1099511627776) (hlm : m.length ≤ l.length) :
    Calls Try.prog 90 #[.slice a l.length ca, .slice c m.length cc] w fun e w' => ∃ v, e = .returned v ∧ Nm w' v (vL l + vL m) ∧ Fr w w' := by
  have hmk := make_words ((l.length : Int) + 1) (l.length + 1) (by omega) (by omega)
  generalize hn : l.length = n at *
  generalize hk2 : m.length = n2 at *
  have HN : Hid (l.length = n) := hn
  have HM : Hid (m.length = n2) := hk2
  clear hn hk2
  have t0 : ¬ (n : Int) < n2 := by omega
  go_enter Try.func90, Try.ntmps90
  go_wp2
  go_loopw [6, 7] (fun cy i wr => ∃ k cr : Nat, ∃ o : List Nat, k ≤ n ∧ i = .int .i64 k ∧ cy = .int .u64 cr ∧ cr ≤ 1 ∧ o.length = n + 1 ∧ Dg o ∧ Ow wr w.heap.size o ∧ Fr w wr ∧ vL (o.take k) + cr * 4294967296 ^ k = vL (l.take k) + vL (m.take k)) (fun _ i _ => n - (intOf i).toNat)
  case atStart => exact ⟨0, 0, List.replicate (n + 1) 0, Nat.zero_le _, rfl, rfl, by omega, by simp, Dg_zeros _, Ow.made _ _ _, (Fr.refl _).alloc _ _, by simp [vL]⟩
  case round =>
    obtain ⟨k, cr, o, hk, rfl, rfl, hcr, ho, hdo, how, hf, hinv⟩ := hrel
    have HI : Hid (vL (o.take k) + cr * 4294967296 ^ k = vL (l.take k) + vL (m.take k)) := hinv
    have HO : Hid (o.length = n + 1) := ho
    clear hinv ho
    by_cases hlt : k < n
    · obtain ⟨b, of, rfl, hb, hcell⟩ := hs_len hha (by have := HN.out; omega)
      have h1 : wr.cell? ⟨b, of + k, none⟩ = some (.int .u32 (l.getD k 0 : Nat)) := (hf.1.cell (p := ⟨b, of + k, none⟩) hb).trans (hcell k (by have := HN.out; omega))
      have x1 := hda k
      have hw1 := how.2.1 k (by have := HO.out; omega)
      have hw2 := how.2.2 k
      have hltI : (k : Int) < n := by omega
      by_cases hl2 : k < n2
      · obtain ⟨b2, of2, rfl, hb2, hcell2⟩ := hs_len hhc (by have := HM.out; omega)
        have h2 : wr.cell? ⟨b2, of2 + k, none⟩ = some (.int .u32 (m.getD k 0 : Nat)) := (hf.1.cell (p := ⟨b2, of2 + k, none⟩) hb2).trans (hcell2 k (by have := HM.out; omega))
        have x2 := hdc k
        have hl2I : (k : Int) < n2 := by omega
        have HS : Hid (vL ((o.set k ((l.getD k 0 + cr + m.getD k 0) % 4294967296)).take (k + 1)) + (l.getD k 0 + cr + m.getD k 0) / 4294967296 * 4294967296 ^ (k + 1) = vL (l.take (k + 1)) + vL (m.take (k + 1))) := add_step l m o k cr _ (by have := HO.out; omega) HI.out rfl
        generalize l.getD k 0 = x at *
        generalize m.getD k 0 = y at *
        generalize o.getD k 0 = z at *
        go_wp2
        have e1 : ((x : Int) + cr + y) % 4294967296 = (((x + cr + y) % 4294967296 : Nat) : Int) := by omega
        rw [e1]
        exact ⟨⟨k + 1, (x + cr + y) / 4294967296, o.set k ((x + cr + y) % 4294967296), by omega, by go_num, congrArg _ (by omega), by omega, by rw [List.length_set]; exact HO.out, Dg_set hdo _ _ (by omega), how.set _ _ (by have := HO.out; omega), hf.setCell (Nat.le_refl _) _, HS.out⟩, by simp [intOf]; omega⟩
      · have y0 : m.getD k 0 = 0 := getD_out (by have := HM.out; omega)
        have hl2I : ¬ (k : Int) < n2 := by omega
        have HS : Hid (vL ((o.set k ((l.getD k 0 + cr) % 4294967296)).take (k + 1)) + (l.getD k 0 + cr) / 4294967296 * 4294967296 ^ (k + 1) = vL (l.take (k + 1)) + vL (m.take (k + 1))) := add_step l m o k cr _ (by have := HO.out; omega) HI.out (by rw [y0]; rfl)
        generalize l.getD k 0 = x at *
        generalize o.getD k 0 = z at *
        clear y0
        go_wp2
        have e1 : ((x : Int) + cr) % 4294967296 = (((x + cr) % 4294967296 : Nat) : Int) := by omega
        rw [e1]
        exact ⟨⟨k + 1, (x + cr) / 4294967296, o.set k ((x + cr) % 4294967296), by omega, by go_num, congrArg _ (by omega), by omega, by rw [List.length_set]; exact HO.out, Dg_set hdo _ _ (by omega), how.set _ _ (by have := HO.out; omega), hf.setCell (Nat.le_refl _) _, HS.out⟩, by simp [intOf]; omega⟩
    · have hkn : k = n := by omega
      subst hkn
      have hw1 := how.2.1 k (by have := HO.out; omega)
      have hw2 := how.2.2 k
      have HV : Hid (vL (o.set k cr) = vL l + vL m) := by
        have h1 := take_set_succ o k cr (by have := HO.out; omega)
        rw [List.take_of_length_le (by rw [List.length_set]; have := HO.out; omega)] at h1
        show vL (o.set k cr) = _
        have h2 := HI.out
        rw [List.take_of_length_le (l := l) (by have := HN.out; omega), List.take_of_length_le (l := m) (by have := HM.out; omega)] at h2
        omega
      have hlt' : ¬ (k : Int) < k := by omega
      generalize o.getD k 0 = z at *
      go_wp2_with fail
      have e1 : (cr : Int) % 4294967296 = ((cr : Nat) : Int) := by omega
      have hown := how.set k cr (by have := HO.out; omega)
      refine (nm_own hown (Dg_set hdo _ _ (by omega)) (by rw [List.length_set]; exact HO.out) (by omega)).mono ?_
      rintro e w1 ⟨v, rfl, hnm, rfl⟩
      rw [HV.out] at hnm
      have HNM := hnm
      go_wp2
      go_ret
      exact ⟨v, rfl, HNM, hf.setCell (Nat.le_refl _) _⟩
set_option maxHeartbeats 2000000 in
theorem addWords_turn (a c : Option Addr) (l m : List Nat) (ca cc : Nat) (w : World) (hha : Hs w a l) (hhc : Hs w c m) (hda : Dg l) (hdc : Dg m) (hca : l.length ≤ ca) (hcc : m.length ≤ cc) (hma : ca ≤ 1099511627776) (hlen : l.length ≤ 1099511627000) (hmc : cc ≤ 1099511627776) (hlm : m.length < l.length) :
    Calls Try.prog 90 #[.slice c m.length cc, .slice a l.length ca] w fun e w' => ∃ v, e = .returned v ∧ Nm w' v (vL l + vL m) ∧ Fr w w' := by
  have hmk := make_words ((l.length : Int) + 1) (l.length + 1) (by omega) (by omega)
  generalize hn : l.length = n at *
  generalize hk2 : m.length = n2 at *
  have HN : Hid (l.length = n) := hn
  have HM : Hid (m.length = n2) := hk2
  clear hn hk2
  have t0 : (n2 : Int) < n := by omega
  go_enter Try.func90, Try.ntmps90
  go_wp2
  go_loopw [6, 7] (fun cy i wr => ∃ k cr : Nat, ∃ o : List Nat, k ≤ n ∧ i = .int .i64 k ∧ cy = .int .u64 cr ∧ cr ≤ 1 ∧ o.length = n + 1 ∧ Dg o ∧ Ow wr w.heap.size o ∧ Fr w wr ∧ vL (o.take k) + cr * 4294967296 ^ k = vL (l.take k) + vL (m.take k)) (fun _ i _ => n - (intOf i).toNat)
  case atStart => exact ⟨0, 0, List.replicate (n + 1) 0, Nat.zero_le _, rfl, rfl, by omega, by simp, Dg_zeros _, Ow.made _ _ _, (Fr.refl _).alloc _ _, by simp [vL]⟩
  case round =>
    obtain ⟨k, cr, o, hk, rfl, rfl, hcr, ho, hdo, how, hf, hinv⟩ := hrel
    have HI : Hid (vL (o.take k) + cr * 4294967296 ^ k = vL (l.take k) + vL (m.take k)) := hinv
    have HO : Hid (o.length = n + 1) := ho
    clear hinv ho
    by_cases hlt : k < n
    · obtain ⟨b, of, rfl, hb, hcell⟩ := hs_len hha (by have := HN.out; omega)
      have h1 : wr.cell? ⟨b, of + k, none⟩ = some (.int .u32 (l.getD k 0 : Nat)) := (hf.1.cell (p := ⟨b, of + k, none⟩) hb).trans (hcell k (by have := HN.out; omega))
      have x1 := hda k
      have hw1 := how.2.1 k (by have := HO.out; omega)
      have hw2 := how.2.2 k
      have hltI : (k : Int) < n := by omega
      by_cases hl2 : k < n2
      · obtain ⟨b2, of2, rfl, hb2, hcell2⟩ := hs_len hhc (by have := HM.out; omega)
        have h2 : wr.cell? ⟨b2, of2 + k, none⟩ = some (.int .u32 (m.getD k 0 : Nat)) := (hf.1.cell (p := ⟨b2, of2 + k, none⟩) hb2).trans (hcell2 k (by have := HM.out; omega))
        have x2 := hdc k
        have hl2I : (k : Int) < n2 := by omega
        have HS : Hid (vL ((o.set k ((l.getD k 0 + cr + m.getD k 0) % 4294967296)).take (k + 1)) + (l.getD k 0 + cr + m.getD k 0) / 4294967296 * 4294967296 ^ (k + 1) = vL (l.take (k + 1)) + vL (m.take (k + 1))) := add_step l m o k cr _ (by have := HO.out; omega) HI.out rfl
        generalize l.getD k 0 = x at *
        generalize m.getD k 0 = y at *
        generalize o.getD k 0 = z at *
        go_wp2
        have e1 : ((x : Int) + cr + y) % 4294967296 = (((x + cr + y) % 4294967296 : Nat) : Int) := by omega
        rw [e1]
        exact ⟨⟨k + 1, (x + cr + y) / 4294967296, o.set k ((x + cr + y) % 4294967296), by omega, by go_num, congrArg _ (by omega), by omega, by rw [List.length_set]; exact HO.out, Dg_set hdo _ _ (by omega), how.set _ _ (by have := HO.out; omega), hf.setCell (Nat.le_refl _) _, HS.out⟩, by simp [intOf]; omega⟩
      · have y0 : m.getD k 0 = 0 := getD_out (by have := HM.out; omega)
        have hl2I : ¬ (k : Int) < n2 := by omega
        have HS : Hid (vL ((o.set k ((l.getD k 0 + cr) % 4294967296)).take (k + 1)) + (l.getD k 0 + cr) / 4294967296 * 4294967296 ^ (k + 1) = vL (l.take (k + 1)) + vL (m.take (k + 1))) := add_step l m o k cr _ (by have := HO.out; omega) HI.out (by rw [y0]; rfl)
        generalize l.getD k 0 = x at *
        generalize o.getD k 0 = z at *
        clear y0
        go_wp2
        have e1 : ((x : Int) + cr) % 4294967296 = (((x + cr) % 4294967296 : Nat) : Int) := by omega
        rw [e1]
        exact ⟨⟨k + 1, (x + cr) / 4294967296, o.set k ((x + cr) % 4294967296), by omega, by go_num, congrArg _ (by omega), by omega, by rw [List.length_set]; exact HO.out, Dg_set hdo _ _ (by omega), how.set _ _ (by have := HO.out; omega), hf.setCell (Nat.le_refl _) _, HS.out⟩, by simp [intOf]; omega⟩
    · have hkn : k = n := by omega
      subst hkn
      have hw1 := how.2.1 k (by have := HO.out; omega)
      have hw2 := how.2.2 k
      have HV : Hid (vL (o.set k cr) = vL l + vL m) := by
        have h1 := take_set_succ o k cr (by have := HO.out; omega)
        rw [List.take_of_length_le (by rw [List.length_set]; have := HO.out; omega)] at h1
        show vL (o.set k cr) = _
        have h2 := HI.out
        rw [List.take_of_length_le (l := l) (by have := HN.out; omega), List.take_of_length_le (l := m) (by have := HM.out; omega)] at h2
        omega
      have hlt' : ¬ (k : Int) < k := by omega
      generalize o.getD k 0 = z at *
      go_wp2_with fail
      have e1 : (cr : Int) % 4294967296 = ((cr : Nat) : Int) := by omega
      have hown := how.set k cr (by have := HO.out; omega)
      refine (nm_own hown (Dg_set hdo _ _ (by omega)) (by rw [List.length_set]; exact HO.out) (by omega)).mono ?_
      rintro e w1 ⟨v, rfl, hnm, rfl⟩
      rw [HV.out] at hnm
      have HNM := hnm
      go_wp2
      go_ret
      exact ⟨v, rfl, HNM, hf.setCell (Nat.le_refl _) _⟩
theorem pow32 (k : Nat) : 4294967296 ^ k = 2 ^ (32 * k) := by rw [Nat.pow_mul]
/-- how long the words of a number are -/
theorem Nm.len {w : World} {v : Value} {N : Nat} (h : Nm w v N) (k : Nat) (hN : N.log2 < 32 * k) : ∃ a l cap, v = .slice a l.length cap ∧ l.length ≤ cap ∧ cap ≤ 1099511627776 ∧ Hs w a l ∧ Dg l ∧ vL l = N ∧ tn l = l.length ∧ l.length ≤ k := by
  obtain ⟨a, l, cap, h1, h2, h3, h4, h5, h6, h7⟩ := h
  refine ⟨a, l, cap, h1, h2, h3, h4, h5, h6, h7, ?_⟩
  by_cases c : l.length ≤ k
  · exact c
  · exfalso
    have hne : l ≠ [] := by intro e; subst e; simp at c
    have h8 := vL_ge l h7 hne
    rw [pow32, h6] at h8
    have hz : N ≠ 0 := by have := Nat.two_pow_pos (32 * (l.length - 1)); omega
    have := (Nat.le_log2 hz).2 h8
    omega
theorem addWords_any (v u : Value) (N M : Nat) (w : World) (hv : Nm w v N) (hu : Nm w u M) (hN : N.log2 < 32000000) (hM : M.log2 < 32000000) :
    Calls Try.prog 90 #[v, u] w fun e w' => ∃ x, e = .returned x ∧ Nm w' x (N + M) ∧ Fr w w' := by
  obtain ⟨a, l, ca, rfl, hca, hma, hha, hda, rfl, hta, kl⟩ := hv.len 1000000 (by omega)
  obtain ⟨c, m, cc, rfl, hcc, hmc, hhc, hdc, rfl, htc, km⟩ := hu.len 1000000 (by omega)
  by_cases h : m.length ≤ l.length
  · exact addWords_core a c l m ca cc w hha hhc hda hdc hca hcc hma (by omega) hmc h
  · have := addWords_turn c a m l cc ca w hhc hha hdc hda hcc hca hmc (by omega) hma (by omega)
    rw [Nat.add_comm (vL l)]
    exact this
set_option maxHeartbeats 2000000 in
theorem subWords_core (a c : Option Addr) (l m : List Nat) (ca cc : Nat) (w : World) (hha : Hs w a l) (hhc : Hs w c m) (hda : Dg l) (hdc : Dg m) (hca : l.length ≤ ca) (hcc : m.length ≤ cc) (hma : ca ≤ 1099511627776) (hlen : l.length ≤ 1099511627000) (hmc : cc ≤ 1099511627776) (hlm : m.length ≤ l.length) (hle : vL m ≤ vL l) :
    Calls Try.prog 91 #[.slice a l.length ca, .slice c m.length cc] w fun e w' => ∃ v, e = .returned v ∧ Nm w' v (vL l - vL m) ∧ Fr w w' := by
  have hmk := make_words (l.length : Int) l.length rfl (by omega)
  generalize hn : l.length = n at *
  generalize hk2 : m.length = n2 at *
  have HN : Hid (l.length = n) := hn
  have HM : Hid (m.length = n2) := hk2
  have HLE : Hid (vL m ≤ vL l) := hle
  clear hn hk2 hle
  go_enter Try.func91, Try.ntmps91
  go_wp2
  go_loopw [6, 7] (fun cy i wr => ∃ k cr : Nat, ∃ o : List Nat, k ≤ n ∧ i = .int .i64 k ∧ cy = .int .u64 cr ∧ cr ≤ 1 ∧ o.length = n ∧ Dg o ∧ Ow wr w.heap.size o ∧ Fr w wr ∧ vL (o.take k) + vL (m.take k) = vL (l.take k) + cr * 4294967296 ^ k) (fun _ i _ => n - (intOf i).toNat)
  case atStart => exact ⟨0, 0, List.replicate n 0, Nat.zero_le _, rfl, rfl, by omega, by simp, Dg_zeros _, Ow.made _ _ _, (Fr.refl _).alloc _ _, by simp [vL]⟩
  case round =>
    obtain ⟨k, cr, o, hk, rfl, rfl, hcr, ho, hdo, how, hf, hinv⟩ := hrel
    have HI : Hid (vL (o.take k) + vL (m.take k) = vL (l.take k) + cr * 4294967296 ^ k) := hinv
    have HO : Hid (o.length = n) := ho
    clear hinv ho
    by_cases hlt : k < n
    · obtain ⟨b, of, rfl, hb, hcell⟩ := hs_len hha (by have := HN.out; omega)
      have h1 : wr.cell? ⟨b, of + k, none⟩ = some (.int .u32 (l.getD k 0 : Nat)) := (hf.1.cell (p := ⟨b, of + k, none⟩) hb).trans (hcell k (by have := HN.out; omega))
      have x1 := hda k
      have hw1 := how.2.1 k (by have := HO.out; omega)
      have hw2 := how.2.2 k
      have hltI : (k : Int) < n := by omega
      by_cases hl2 : k < n2
      · obtain ⟨b2, of2, rfl, hb2, hcell2⟩ := hs_len hhc (by have := HM.out; omega)
        have h2 : wr.cell? ⟨b2, of2 + k, none⟩ = some (.int .u32 (m.getD k 0 : Nat)) := (hf.1.cell (p := ⟨b2, of2 + k, none⟩) hb2).trans (hcell2 k (by have := HM.out; omega))
        have x2 := hdc k
        have hl2I : (k : Int) < n2 := by omega
        have HS : Hid (∀ d c', d + m.getD k 0 + cr = l.getD k 0 + c' * 4294967296 → vL ((o.set k d).take (k + 1)) + vL (m.take (k + 1)) = vL (l.take (k + 1)) + c' * 4294967296 ^ (k + 1)) := fun d c' h => sub_step l m o k cr d c' (by have := HO.out; omega) HI.out h
        generalize l.getD k 0 = x at *
        generalize m.getD k 0 = y at *
        generalize o.getD k 0 = z at *
        obtain ⟨t1, e1, b1⟩ : ∃ t1 : Nat, IntKind.u64.wrap ((x : Int) - cr) = t1 ∧ t1 = (x + 18446744073709551616 - cr) % 18446744073709551616 := ⟨_, by rw [IntKind.wrap_u64]; omega, rfl⟩
        obtain ⟨t2, e2, b2'⟩ : ∃ t2 : Nat, IntKind.u64.wrap ((t1 : Int) - y) = t2 ∧ t2 = (t1 + 18446744073709551616 - y) % 18446744073709551616 := ⟨_, by rw [IntKind.wrap_u64]; omega, rfl⟩
        have B1 : Hid (t1 = (x + 18446744073709551616 - cr) % 18446744073709551616) := b1
        have B2 : Hid (t2 = (t1 + 18446744073709551616 - y) % 18446744073709551616) := b2'
        have l2 : t2 < 18446744073709551616 := by omega
        clear b1 b2'
        go_wp2
        have E : t2 % 4294967296 + y + cr = x + t2 / 9223372036854775808 * 4294967296 := by have := B1.out; have := B2.out; omega
        have e3 : (t2 : Int) % 4294967296 = ((t2 % 4294967296 : Nat) : Int) := by omega
        rw [e3]
        exact ⟨⟨k + 1, t2 / 9223372036854775808, o.set k (t2 % 4294967296), by omega, by go_num, congrArg _ (by omega), by omega, by rw [List.length_set]; exact HO.out, Dg_set hdo _ _ (by omega), how.set _ _ (by have := HO.out; omega), hf.setCell (Nat.le_refl _) _, HS.out _ _ E⟩, by simp [intOf]; omega⟩
      · have y0 : m.getD k 0 = 0 := getD_out (by have := HM.out; omega)
        have hl2I : ¬ (k : Int) < n2 := by omega
        have HS : Hid (∀ d c', d + cr = l.getD k 0 + c' * 4294967296 → vL ((o.set k d).take (k + 1)) + vL (m.take (k + 1)) = vL (l.take (k + 1)) + c' * 4294967296 ^ (k + 1)) := fun d c' h => sub_step l m o k cr d c' (by have := HO.out; omega) HI.out (by rw [y0]; exact h)
        generalize l.getD k 0 = x at *
        generalize o.getD k 0 = z at *
        clear y0
        obtain ⟨t1, e1, b1⟩ : ∃ t1 : Nat, IntKind.u64.wrap ((x : Int) - cr) = t1 ∧ t1 = (x + 18446744073709551616 - cr) % 18446744073709551616 := ⟨_, by rw [IntKind.wrap_u64]; omega, rfl⟩
        have B1 : Hid (t1 = (x + 18446744073709551616 - cr) % 18446744073709551616) := b1
        have l2 : t1 < 18446744073709551616 := by omega
        clear b1
        go_wp2
        have E : t1 % 4294967296 + cr = x + t1 / 9223372036854775808 * 4294967296 := by have := B1.out; omega
        have e3 : (t1 : Int) % 4294967296 = ((t1 % 4294967296 : Nat) : Int) := by omega
        rw [e3]
        exact ⟨⟨k + 1, t1 / 9223372036854775808, o.set k (t1 % 4294967296), by omega, by go_num, congrArg _ (by omega), by omega, by rw [List.length_set]; exact HO.out, Dg_set hdo _ _ (by omega), how.set _ _ (by have := HO.out; omega), hf.setCell (Nat.le_refl _) _, HS.out _ _ E⟩, by simp [intOf]; omega⟩
    · have hkn : k = n := by omega
      subst hkn
      have HV : Hid (vL o = vL l - vL m) := by
        show vL o = _
        have h2 := HI.out
        have h3 := vL_lt o hdo
        rw [HO.out] at h3
        rw [List.take_of_length_le (l := l) (by have := HN.out; omega), List.take_of_length_le (l := m) (by have := HM.out; omega), List.take_of_length_le (l := o) (by have := HO.out; omega)] at h2
        have h4 := HLE.out
        have hc0 : cr = 0 ∨ cr = 1 := by omega
        rcases hc0 with rfl | rfl
        · omega
        · generalize 4294967296 ^ k = p at *
          omega
      have hlt' : ¬ (k : Int) < k := by omega
      go_wp2_with fail
      refine (nm_own how hdo HO.out (by omega)).mono ?_
      rintro e w1 ⟨v, rfl, hnm, rfl⟩
      rw [HV.out] at hnm
      have HNM := hnm
      go_wp2
      go_ret
      exact ⟨v, rfl, HNM, hf⟩
theorem subWords_any (v u : Value) (N M : Nat) (w : World) (hv : Nm w v N) (hu : Nm w u M) (hN : N.log2 < 32000000) (hle : M ≤ N) :
    Calls Try.prog 91 #[v, u] w fun e w' => ∃ x, e = .returned x ∧ Nm w' x (N - M) ∧ Fr w w' := by
  obtain ⟨a, l, ca, rfl, hca, hma, hha, hda, rfl, hta, kl⟩ := hv.len 1000000 (by omega)
  obtain ⟨c, m, cc, rfl, hcc, hmc, hhc, hdc, rfl, htc⟩ := hu
  have h : m.length ≤ l.length := by
    by_cases c : m.length ≤ l.length
    · exact c
    · have := vL_lt_len l m hda htc (by omega); omega
  exact subWords_core a c l m ca cc w hha hhc hda hdc hca hcc hma (by omega) hmc h hle
end Go.Proofs.Ytpfaaimfembhdaa
/-
  OWN TEXT: what mulWords of package eddybig returns, for all words.
-/
namespace Go.Proofs.Ytpfaaimfembhdaa
open Go.ChangeShapes Go.WideShapes Go.ChangeAt Go.RowKit
open Bg
set_option linter.unusedVariables false
theorem Ow.drewN {w : World} {B : Nat} {o : List Nat} (h : Ow w B o) (n : Nat) : Ow (w.drewN n) B o := h
set_option maxHeartbeats 4000000 in
theorem mulWords_core (a c : Option Addr) (l m : List Nat) (ca cc : Nat) (w : World) (hha : Hs w a l) (hhc : Hs w c m) (hda : Dg l) (hdc : Dg m) (hca : l.length ≤ ca) (hcc : m.length ≤ cc) (hma : ca ≤ 1099511627776) (hlen : l.length + m.length ≤ 1099511627000) (hmc : cc ≤ 1099511627776) :
    Calls Try.prog 37 #[.slice a l.length ca, .slice c m.length cc] w fun e w' => ∃ v, e = .returned v ∧ Nm w' v (vL l * vL m) ∧ Fr w w' := by
  have hmk := make_words ((l.length : Int) + m.length) (l.length + m.length) (by omega) (by omega)
  generalize hn : l.length = n at *
  generalize hk2 : m.length = n2 at *
  have HN : Hid (l.length = n) := hn
  have HM : Hid (m.length = n2) := hk2
  clear hn hk2
  go_enter Try.func37, Try.ntmps37
  go_wp2
  go_loopw [6] (fun i wr => ∃ k : Nat, ∃ o : List Nat, k ≤ n ∧ i = .int .i64 k ∧ o.length = n + n2 ∧ Dg o ∧ Ow wr w.heap.size o ∧ Fr w wr ∧ vL (o.take (k + n2)) = vL (l.take k) * vL m) (fun i _ => n - (intOf i).toNat)
  case atStart => exact ⟨0, List.replicate (n + n2) 0, Nat.zero_le _, rfl, by simp, Dg_zeros _, Ow.made _ _ _, (Fr.refl _).alloc _ _, by rw [List.take_replicate, vL_zeros]; simp [vL]⟩
  case round =>
    obtain ⟨k, o, hk, rfl, ho, hdo, how, hf, hinv⟩ := hrel
    have HI : Hid (vL (o.take (k + n2)) = vL (l.take k) * vL m) := hinv
    have HO : Hid (o.length = n + n2) := ho
    clear hinv ho
    by_cases hlt : k < n
    · obtain ⟨b, of, rfl, hb, hcell⟩ := hs_len hha (by have := HN.out; omega)
      have h1 : wr.cell? ⟨b, of + k, none⟩ = some (.int .u32 (l.getD k 0 : Nat)) := (hf.1.cell (p := ⟨b, of + k, none⟩) hb).trans (hcell k (by have := HN.out; omega))
      have x1 := hda k
      have hltI : (k : Int) < n := by omega
      generalize hx : l.getD k 0 = x at *
      have HX : Hid (x = l.getD k 0) := hx.symm
      clear hx
      go_wp2
      go_loopw [7, 9] (fun cy jj wi => ∃ j cr : Nat, ∃ p : List Nat, j ≤ n2 ∧ jj = .int .i64 j ∧ cy = .int .u64 cr ∧ cr < 4294967296 ∧ p.length = n + n2 ∧ Dg p ∧ Ow wi w.heap.size p ∧ Fr w wi ∧ vL (p.take (k + n2)) + cr * 4294967296 ^ (k + j) = vL (l.take k) * vL m + x * vL (m.take j) * 4294967296 ^ k) (fun _ jj _ => n2 - (intOf jj).toNat)
      case atStart => exact ⟨0, 0, o, Nat.zero_le _, rfl, rfl, by omega, HO.out, hdo, how, hf, by rw [HI.out]; simp [vL]⟩
      case round =>
        obtain ⟨j, cr, p, hj, rfl, rfl, hcr, hp, hdp, hop, hfi, hin⟩ := hrel
        have HJ : Hid (vL (p.take (k + n2)) + cr * 4294967296 ^ (k + j) = vL (l.take k) * vL m + x * vL (m.take j) * 4294967296 ^ k) := hin
        have HP : Hid (p.length = n + n2) := hp
        clear hin hp
        by_cases hj2 : j < n2
        · obtain ⟨b2, of2, rfl, hb2, hcell2⟩ := hs_len hhc (by have := HM.out; omega)
          have h2 : wr.cell? ⟨b2, of2 + j, none⟩ = some (.int .u32 (m.getD j 0 : Nat)) := (hfi.1.cell (p := ⟨b2, of2 + j, none⟩) hb2).trans (hcell2 j (by have := HM.out; omega))
          have x2 := hdc j
          have hw1 := hop.2.1 (k + j) (by have := HP.out; omega)
          have hw2 := hop.2.2 (k + j)
          have x3 := hdp (k + j)
          have hj2I : (j : Int) < n2 := by omega
          have hkjI : (k : Int) + j < (n : Int) + n2 := by omega
          have HS := mul_step p m k j (k + n2) x cr (vL (l.take k) * vL m) _ (by have := HP.out; omega) (by omega) HJ.out rfl
          have HSh : Hid (vL ((p.set (k + j) ((x * m.getD j 0 + p.getD (k + j) 0 + cr) % 4294967296)).take (k + n2)) + (x * m.getD j 0 + p.getD (k + j) 0 + cr) / 4294967296 * 4294967296 ^ (k + (j + 1)) = vL (l.take k) * vL m + x * vL (m.take (j + 1)) * 4294967296 ^ k) := HS
          clear HS
          generalize m.getD j 0 = y at *
          generalize p.getD (k + j) 0 = z at *
          have t1 := mul_top x y x1 x2
          have t2 : (x : Int) * y = ((x * y : Nat) : Int) := by simp
          have t3 : (0 : Int) ≤ (x : Int) * y := by rw [t2]; omega
          have t4 : (x : Int) * y ≤ 18446744065119617025 := by rw [t2]; omega
          have T2 : Hid ((x : Int) * y = ((x * y : Nat) : Int)) := t2
          clear t2 h1 hcell hcell2
          go_wp2
          go_quiet (fail)
          go_wp2
          have e1 : ((x : Int) * y + z + cr) % 4294967296 = (((x * y + z + cr) % 4294967296 : Nat) : Int) := by rw [T2.out]; omega
          have e2 : ((x : Int) * y + z + cr) / 4294967296 = (((x * y + z + cr) / 4294967296 : Nat) : Int) := by rw [T2.out]; omega
          rw [e1, e2]
          exact ⟨⟨j + 1, (x * y + z + cr) / 4294967296, p.set (k + j) ((x * y + z + cr) % 4294967296), by omega, by go_num, rfl, by omega, by rw [List.length_set]; exact HP.out, Dg_set hdp _ _ (by omega), (hop.drewN _).set _ _ (by have := HP.out; omega), (quiet_fr hfi _).setCell (Nat.le_refl _) _, HSh.out⟩, by simp [intOf]; omega⟩
        · have hjn : j = n2 := by omega
          subst hjn
          have hw1 := hop.2.1 (k + j) (by have := HP.out; omega)
          have hw2 := hop.2.2 (k + j)
          have hjI : ¬ (j : Int) < j := by omega
          have hkjI : (k : Int) + j < (n : Int) + j := by omega
          have HS : Hid (vL ((p.set (k + j) cr).take (k + 1 + j)) = vL (l.take (k + 1)) * vL m) := mul_outer p l m k j x cr (by have := HP.out; omega) HX.out (by have h := HJ.out; rw [List.take_of_length_le (l := m) (by have := HM.out; omega)] at h; exact h)
          generalize p.getD (k + j) 0 = z at *
          clear h1 hcell how hf hdo
          go_wp2
          exact ⟨⟨k + 1, p.set (k + j) cr, by omega, by go_num, by rw [List.length_set]; exact HP.out, Dg_set hdp _ _ (by omega), hop.set _ _ (by have := HP.out; omega), hfi.setCell (Nat.le_refl _) _, HS.out⟩, by simp [intOf]; omega⟩
    · have hkn : k = n := by omega
      subst hkn
      have HV : Hid (vL o = vL l * vL m) := by
        have h := HI.out
        rw [List.take_of_length_le (l := l) (by have := HN.out; omega), List.take_of_length_le (l := o) (by have := HO.out; omega)] at h
        exact h
      have hlt' : ¬ (k : Int) < k := by omega
      go_wp2_with fail
      refine (nm_own how hdo HO.out (by omega)).mono ?_
      rintro e w1 ⟨v, rfl, hnm, rfl⟩
      rw [HV.out] at hnm
      have HNM := hnm
      go_wp2
      go_ret
      exact ⟨v, rfl, HNM, hf⟩
theorem mulWords_any (v u : Value) (N M : Nat) (w : World) (hv : Nm w v N) (hu : Nm w u M) (hN : N.log2 < 32000000) (hM : M.log2 < 32000000) :
    Calls Try.prog 37 #[v, u] w fun e w' => ∃ x, e = .returned x ∧ Nm w' x (N * M) ∧ Fr w w' := by
  obtain ⟨a, l, ca, rfl, hca, hma, hha, hda, rfl, hta, kl⟩ := hv.len 1000000 (by omega)
  obtain ⟨c, m, cc, rfl, hcc, hmc, hhc, hdc, rfl, htc, km⟩ := hu.len 1000000 (by omega)
  exact mulWords_core a c l m ca cc w hha hhc hda hdc hca hcc hma (by omega) hmc
end Go.Proofs.Ytpfaaimfembhdaa
/-
  OWN TEXT: what up, down and copied of package eddybig return, for all words.
-/
namespace Go.Proofs.Ytpfaaimfembhdaa
open Go.ChangeShapes Go.WideShapes Go.ChangeAt Go.RowKit
open Bg
set_option linter.unusedVariables false
theorem nm_nil (w : World) : Nm w (.slice none 0 0) 0 := ⟨none, [], 0, rfl, Nat.le_refl _, by omega, Or.inl rfl, fun i => by rw [getD_nil]; omega, rfl, rfl⟩
set_option maxHeartbeats 4000000 in
theorem up_core (b of : Nat) (l : List Nat) (ca k s : Nat) (w : World) (hb : b < w.heap.size) (hcell : ∀ i, i < l.length → w.cell? ⟨b, of + i, none⟩ = some (.int .u32 (l.getD i 0 : Nat))) (hda : Dg l) (hca : l.length ≤ ca) (hma : ca ≤ 1099511627776) (hlen : l.length ≤ 1000000) (hk : k ≤ 1000000) (hs : s < 32) (hne : ¬ l.length = 0) :
    Calls Try.prog 52 #[.slice (some ⟨b, of, none⟩) l.length ca, .int .i64 ((32 * k + s : Nat) : Int)] w fun e w' => ∃ v, e = .returned v ∧ Nm w' v (vL l * 2 ^ (32 * k + s)) ∧ Fr w w' := by
  have hmk := make_words ((l.length : Int) + k + 1) (l.length + k + 1) (by omega) (by omega)
  have q1 : (((32 * k + s : Nat) : Int)) / 32 = k := by omega
  have q2 : (((32 * k + s : Nat) : Int)) % 32 = s := by omega
  have q3 : (0 : Int) ≤ ((32 * k + s : Nat) : Int) := by omega
  have q4 : ((32 * k + s : Nat) : Int) ≤ 32000032 := by omega
  generalize hN0 : ((32 * k + s : Nat) : Int) = n0 at *
  clear hN0
  generalize hn : l.length = n at *
  have HN : Hid (l.length = n) := hn
  clear hn
  have hn0 : ((n : Int) == 0) = false := beq_eq_false_iff_ne.2 (by omega)
  go_enter Try.func52, Try.ntmps52
  go_wp2
  simp only [q1, q2]
  clear q1 q2 q3 q4
  go_loopw [8] (fun i wr => ∃ j : Nat, ∃ o : List Nat, j ≤ n ∧ i = .int .i64 j ∧ o.length = n + k + 1 ∧ Dg o ∧ Ow wr w.heap.size o ∧ Fr w wr ∧ o.getD (j + k) 0 < 2 ^ s ∧ vL (o.take (j + k + 1)) = vL (l.take j) * 2 ^ s * 4294967296 ^ k) (fun i _ => n - (intOf i).toNat)
  case atStart => exact ⟨0, List.replicate (n + k + 1) 0, Nat.zero_le _, rfl, by simp, Dg_zeros _, Ow.made _ _ _, (Fr.refl _).alloc _ _, by rw [getD_zeros]; exact Nat.two_pow_pos _, by rw [List.take_replicate, vL_zeros]; simp [vL]⟩
  case round =>
    obtain ⟨j, o, hj, rfl, ho, hdo, how, hf, hpend, hinv⟩ := hrel
    have HI : Hid (vL (o.take (j + k + 1)) = vL (l.take j) * 2 ^ s * 4294967296 ^ k) := hinv
    have HO : Hid (o.length = n + k + 1) := ho
    have HPd : Hid (o.getD (j + k) 0 < 2 ^ s) := hpend
    clear hinv ho hpend
    by_cases hlt : j < n
    · have h1 : wr.cell? ⟨b, of + j, none⟩ = some (.int .u32 (l.getD j 0 : Nat)) := (hf.1.cell (p := ⟨b, of + j, none⟩) hb).trans (hcell j (by have := HN.out; omega))
      have x1 := hda j
      have hw1 := how.2.1 (j + k) (by have := HO.out; omega)
      have hw2 := how.2.2 (j + k)
      have hw3 := how.2.1 (j + k + 1)
      have hw4 := how.2.2 (j + k + 1)
      have hltI : (j : Int) < n := by omega
      have hI2 : (j : Int) + k < (n : Int) + k + 1 := by omega
      have hI3 : (j : Int) + k + 1 < (n : Int) + k + 1 := by omega
      have HS : Hid (vL (((o.set (j + k) (o.getD (j + k) 0 + l.getD j 0 * 2 ^ s % 4294967296)).set (j + k + 1) (l.getD j 0 * 2 ^ s / 4294967296)).take (j + 1 + k + 1)) = vL (l.take (j + 1)) * 2 ^ s * 4294967296 ^ k) := up_step l o j k s _ _ (by have := HO.out; omega) rfl rfl HI.out
      have hw3' := hw3 (by have := HO.out; omega)
      clear hw3
      generalize l.getD j 0 = x at *
      have hz := hdo (j + k)
      generalize o.getD (j + k) 0 = z at *
      generalize o.getD (j + k + 1) 0 = z2 at *
      have l1 := shl_lt x s x1 hs
      have l2 := high_lt x s x1 hs
      have l3 := low_lt x z s HPd.out hs
      have l4 := low_dvd x s hs
      have eT : IntKind.u64.wrap ((x : Int) * 2 ^ s) = ((x * 2 ^ s : Nat) : Int) := by
        rw [IntKind.wrap_u64, show (x : Int) * 2 ^ s = ((x * 2 ^ s : Nat) : Int) by simp]; omega
      have eO : bits .or .u32 (z : Int) (((x * 2 ^ s : Nat) : Int) % 4294967296) = ((z + x * 2 ^ s % 4294967296 : Nat) : Int) := by
        have e := u32_or_nat z (x * 2 ^ s % 4294967296) hz (Nat.mod_lt _ (by omega))
        rw [or_low z _ s HPd.out l4] at e
        rw [← e]; rfl
      have L2 : Hid (x * 2 ^ s / 4294967296 < 2 ^ s) := l2
      clear l2 l4
      generalize x * 2 ^ s = t at *
      go_wp2
      have HL := HO.out
      refine ⟨⟨j + 1, (o.set (j + k) (z + t % 4294967296)).set (j + k + 1) (t / 4294967296), by omega, by go_num, by rw [List.length_set, List.length_set]; exact HO.out, Dg_set (Dg_set hdo _ _ (by omega)) _ _ (by omega), (how.set _ _ (by omega)).set _ _ (by rw [List.length_set]; omega), (hf.setCell (Nat.le_refl _) _).setCell (Nat.le_refl _) _, ?_, HS.out⟩, by simp [intOf]; omega⟩
      rw [show j + 1 + k = j + k + 1 by omega, getD_set _ _ _ _ (by rw [List.length_set]; omega), if_pos rfl]
      exact L2.out
    · have hjn : j = n := by omega
      subst hjn
      have HV : Hid (vL o = vL l * 2 ^ (32 * k + s)) := by
        have h := HI.out
        rw [List.take_of_length_le (l := l) (by have := HN.out; omega), List.take_of_length_le (l := o) (by have := HO.out; omega)] at h
        show vL o = _
        rw [h, Nat.mul_assoc, pow32, ← Nat.pow_add, Nat.add_comm s]
      have hlt' : ¬ (j : Int) < j := by omega
      go_wp2_with fail
      refine (nm_own how hdo HO.out (by omega)).mono ?_
      rintro e w1 ⟨v, rfl, hnm, rfl⟩
      rw [HV.out] at hnm
      have HNM := hnm
      go_wp2
      go_ret
      exact ⟨v, rfl, HNM, hf⟩
theorem up_words (v : Value) (N n : Nat) (w : World) (hv : Nm w v N) (hN : N.log2 < 32000000) (hn : n < 32000000) :
    Calls Try.prog 52 #[v, .int .i64 (n : Int)] w fun e w' => ∃ x, e = .returned x ∧ Nm w' x (N * 2 ^ n) ∧ Fr w w' := by
  obtain ⟨a, l, ca, rfl, hca, hma, hha, hda, rfl, hta, kl⟩ := hv.len 1000000 (by omega)
  by_cases c : l.length = 0
  · have e : l = [] := List.length_eq_zero_iff.1 c
    subst e
    have hz : vL [] * 2 ^ n = 0 := by simp [vL]
    rw [hz]
    go_enter Try.func52, Try.ntmps52
    go_wp2
    go_ret
    exact ⟨_, rfl, nm_nil _, Fr.refl _⟩
  · obtain ⟨b, of, rfl, hb, hcell⟩ := hs_len hha c
    have := up_core b of l ca (n / 32) (n % 32) w hb hcell hda hca hma kl (by omega) (by omega) c
    rw [show 32 * (n / 32) + n % 32 = n by omega] at this
    exact this
end Go.Proofs.Ytpfaaimfembhdaa
/-
  OWN TEXT: what down of package eddybig returns, for all words.
-/
namespace Go.Proofs.Ytpfaaimfembhdaa
open Go.ChangeShapes Go.WideShapes Go.ChangeAt Go.RowKit
open Bg
set_option linter.unusedVariables false
set_option maxHeartbeats 4000000 in
theorem down_core (b of : Nat) (l : List Nat) (ca k s : Nat) (w : World) (hb : b < w.heap.size) (hcell : ∀ i, i < l.length → w.cell? ⟨b, of + i, none⟩ = some (.int .u32 (l.getD i 0 : Nat))) (hda : Dg l) (hca : l.length ≤ ca) (hma : ca ≤ 1099511627776) (hlen : l.length ≤ 1000000) (hk : k < l.length) (hs : s < 32) :
    Calls Try.prog 82 #[.slice (some ⟨b, of, none⟩) l.length ca, .int .i64 ((32 * k + s : Nat) : Int)] w fun e w' => ∃ v, e = .returned v ∧ Nm w' v (vL l / 2 ^ (32 * k + s)) ∧ Fr w w' := by
  have hmk := make_words ((l.length : Int) - k) (l.length - k) (by omega) (by omega)
  have q1 : (((32 * k + s : Nat) : Int)) / 32 = k := by omega
  have q2 : (((32 * k + s : Nat) : Int)) % 32 = s := by omega
  have q3 : (0 : Int) ≤ ((32 * k + s : Nat) : Int) := by omega
  have q4 : ((32 * k + s : Nat) : Int) ≤ 32000032 := by omega
  generalize hN0 : ((32 * k + s : Nat) : Int) = n0 at *
  clear hN0
  generalize hn : l.length = n at *
  have HN : Hid (l.length = n) := hn
  clear hn
  obtain ⟨r, hr⟩ : ∃ r : Nat, n = k + r := ⟨n - k, by omega⟩
  have hr1 : n - k = r := by omega
  have hr2 : (n : Int) - k = r := by omega
  rw [hr1, hr2] at hmk
  have HR : Hid (n = k + r) := hr
  have k1 : (k : Int) < n := by omega
  clear hr hr1
  go_enter Try.func82, Try.ntmps82
  go_wp2
  simp only [q1, q2]
  clear q1 q2 q3 q4 hr2
  go_loopw [8] (fun i wr => ∃ j : Nat, ∃ o : List Nat, j ≤ r ∧ i = .int .i64 j ∧ o.length = r ∧ Dg o ∧ Ow wr w.heap.size o ∧ Fr w wr ∧ ∀ i, i < j → o.getD i 0 = (l.getD (k + i) 0 + 4294967296 * l.getD (k + (i + 1)) 0) / 2 ^ s % 4294967296) (fun i _ => r - (intOf i).toNat)
  case atStart => exact ⟨0, List.replicate r 0, Nat.zero_le _, rfl, by simp, Dg_zeros _, Ow.made _ _ _, (Fr.refl _).alloc _ _, fun i hi => absurd hi (by omega)⟩
  case round =>
    obtain ⟨j, o, hj, rfl, ho, hdo, how, hf, hinv⟩ := hrel
    have HI : Hid (∀ i, i < j → o.getD i 0 = (l.getD (k + i) 0 + 4294967296 * l.getD (k + (i + 1)) 0) / 2 ^ s % 4294967296) := hinv
    have HO : Hid (o.length = r) := ho
    clear hinv ho
    by_cases hlt : j < r
    · have h1 : wr.cell? ⟨b, of + (j + k), none⟩ = some (.int .u32 (l.getD (k + j) 0 : Nat)) := by
        have := (hf.1.cell (p := ⟨b, of + (k + j), none⟩) hb).trans (hcell (k + j) (by have := HR.out; omega))
        rwa [Nat.add_comm k] at this ⊢
      have x1 := hda (k + j)
      have hw1 := how.2.1 j (by have := HO.out; omega)
      have hw2 := how.2.2 j
      have hltI : (j : Int) < r := by omega
      have hI2 : (j : Int) + k < n := by have := HR.out; omega
      have HS : Hid (∀ d, d = (l.getD (k + j) 0 + 4294967296 * l.getD (k + (j + 1)) 0) / 2 ^ s % 4294967296 → ∀ i, i < j + 1 → (o.set j d).getD i 0 = (l.getD (k + i) 0 + 4294967296 * l.getD (k + (i + 1)) 0) / 2 ^ s % 4294967296) := by
        intro d hd i hi
        rw [getD_set _ _ _ _ (by have := HO.out; omega)]
        by_cases c : i = j
        · subst c; rw [if_pos rfl]; exact hd
        · rw [if_neg c]; exact HI.out i (by omega)
      by_cases hl2 : k + (j + 1) < n
      · have h2 : wr.cell? ⟨b, of + (j + k + 1), none⟩ = some (.int .u32 (l.getD (k + (j + 1)) 0 : Nat)) := by
          have := (hf.1.cell (p := ⟨b, of + (k + (j + 1)), none⟩) hb).trans (hcell (k + (j + 1)) hl2)
          rwa [show k + (j + 1) = j + k + 1 by omega] at this ⊢
        have x2 := hda (k + (j + 1))
        have hI3 : (j : Int) + k + 1 < n := by omega
        generalize l.getD (k + j) 0 = x at *
        generalize l.getD (k + (j + 1)) 0 = y at *
        generalize o.getD j 0 = z at *
        have eO := or32' x y x1 x2
        have xy : x + 4294967296 * y < 18446744073709551616 := by omega
        generalize hT : x + 4294967296 * y = t at *
        clear hT
        have HS' := HS.out (t / 2 ^ s % 4294967296) rfl
        have HSh : Hid (∀ i, i < j + 1 → (o.set j (t / 2 ^ s % 4294967296)).getD i 0 = (l.getD (k + i) 0 + 4294967296 * l.getD (k + (i + 1)) 0) / 2 ^ s % 4294967296) := HS'
        clear HS' HS
        go_wp2
        have e2 : (t : Int) / 2 ^ s % 4294967296 = ((t / 2 ^ s % 4294967296 : Nat) : Int) := by simp
        rw [e2]
        exact ⟨⟨j + 1, o.set j (t / 2 ^ s % 4294967296), by omega, by go_num, by rw [List.length_set]; exact HO.out, Dg_set hdo _ _ (Nat.mod_lt _ (by omega)), how.set _ _ (by have := HO.out; omega), hf.setCell (Nat.le_refl _) _, HSh.out⟩, by simp [intOf]; omega⟩
      · have y0 : l.getD (k + (j + 1)) 0 = 0 := getD_out (by have := HN.out; omega)
        have hI3 : ¬ (j : Int) + k + 1 < n := by omega
        rw [y0] at HS
        generalize l.getD (k + j) 0 = x at *
        generalize o.getD j 0 = z at *
        have HS' := HS.out (x / 2 ^ s % 4294967296) rfl
        have HSh : Hid (∀ i, i < j + 1 → (o.set j (x / 2 ^ s % 4294967296)).getD i 0 = (l.getD (k + i) 0 + 4294967296 * l.getD (k + (i + 1)) 0) / 2 ^ s % 4294967296) := HS'
        clear HS' HS y0
        go_wp2
        have e2 : (x : Int) / 2 ^ s % 4294967296 = ((x / 2 ^ s % 4294967296 : Nat) : Int) := by simp
        rw [e2]
        exact ⟨⟨j + 1, o.set j (x / 2 ^ s % 4294967296), by omega, by go_num, by rw [List.length_set]; exact HO.out, Dg_set hdo _ _ (Nat.mod_lt _ (by omega)), how.set _ _ (by have := HO.out; omega), hf.setCell (Nat.le_refl _) _, HSh.out⟩, by simp [intOf]; omega⟩
    · have hjn : j = r := by omega
      subst hjn
      have HV : Hid (vL o = vL l / 2 ^ (32 * k + s)) := by
        show vL o = _
        have h := down_val (l.drop k) o s hs (by rw [List.length_drop]; have := HO.out; have := HN.out; have := HR.out; omega) (Dg_drop hda k) (fun i hi => by rw [getD_drop, getD_drop]; exact HI.out i (by have := HO.out; omega))
        rw [h, vL_drop l k hda, Nat.div_div_eq_div_mul, pow32, ← Nat.pow_add]
      have hlt' : ¬ (j : Int) < j := by omega
      have hjj : j ≤ n := by have := HR.out; omega
      go_wp2_with fail
      refine (nm_own how hdo HO.out (by omega)).mono ?_
      rintro e w1 ⟨v, rfl, hnm, rfl⟩
      rw [HV.out] at hnm
      have HNM := hnm
      go_wp2
      go_ret
      exact ⟨v, rfl, HNM, hf⟩
theorem down_words (v : Value) (N n : Nat) (w : World) (hv : Nm w v N) (hN : N.log2 < 32000000) (hn : n < 32000000) :
    Calls Try.prog 82 #[v, .int .i64 (n : Int)] w fun e w' => ∃ x, e = .returned x ∧ Nm w' x (N / 2 ^ n) ∧ Fr w w' := by
  obtain ⟨a, l, ca, rfl, hca, hma, hha, hda, rfl, hta, kl⟩ := hv.len 1000000 (by omega)
  by_cases c : n / 32 < l.length
  · obtain ⟨b, of, rfl, hb, hcell⟩ := hs_len hha (by omega)
    have := down_core b of l ca (n / 32) (n % 32) w hb hcell hda hca hma kl c (by omega)
    rw [show 32 * (n / 32) + n % 32 = n by omega] at this
    exact this
  · have hz : vL l / 2 ^ n = 0 := by
      refine Nat.div_eq_of_lt ?_
      have h1 := vL_lt l hda
      rw [pow32] at h1
      exact Nat.lt_of_lt_of_le h1 (Nat.pow_le_pow_right (by omega) (by omega))
    rw [hz]
    have t1 : ¬ (n : Int) / 32 < l.length := by omega
    have t2 : (l.length : Int) ≤ (n : Int) / 32 := by omega
    generalize l.length = m at *
    clear hha hda hta hz
    go_enter Try.func82, Try.ntmps82
    go_wp2
    go_ret
    exact ⟨_, rfl, nm_nil _, Fr.refl _⟩
end Go.Proofs.Ytpfaaimfembhdaa
