/-
  OWN TEXT: what fromUint, toUint, cmpWords and addWords of package eddybig return, for all words.
-/
import Derived.Test.YtlbikopancleoaaDoorJnBe
import Derived.Laws.BitsAllLaws
import Derived.BigQuiet
import Derived.Deep.QuietTactic
namespace Go.Proofs.YtlbikopancleoaaDoor
open Go.ChangeShapes Go.WideShapes Go.ChangeAt Go.RowKit
open Bg
set_option linter.unusedVariables false

theorem hs_two {w : World} (x y : Nat) : Hs (w.alloc (.cells #[.int .u32 (x : Nat), .int .u32 (y : Nat)] 64)) (some ⟨w.heap.size, 0, none⟩) [x, y] := by
  right
  refine ⟨_, _, rfl, by simp, fun i hi => ?_⟩
  simp only [List.length_cons, List.length_nil] at hi
  match i, hi with
  | 0, _ => simp
  | 1, _ => simp
theorem fromUint_any (x : Nat) (w : World) (hx : x < 18446744073709551616) :
    Calls Tryd.prog 77 #[.int .u64 x] w fun e w' => ∃ v, e = .returned v ∧ Nm w' v x ∧ Fr w w' := by
  have h2 := hs_two (w := w) (x % 4294967296) (x / 4294967296)
  have hd : Dg [x % 4294967296, x / 4294967296] := by
    intro i
    match i with
    | 0 => show x % 4294967296 < _; omega
    | 1 => show x / 4294967296 < _; omega
    | n + 2 => show 0 < _; omega
  have hv : vL [x % 4294967296, x / 4294967296] = x := by simp only [vL]; omega
  go_enter Tryd.func77, Tryd.ntmps77
  go_wp2_with fail
  refine (trim_nm _ [x % 4294967296, x / 4294967296] 2 2 _ h2 hd rfl (by omega) (by omega)).mono ?_
  rintro e w1 ⟨v, rfl, hnm, rfl⟩
  rw [hv] at hnm
  have HN := hnm
  clear hv hd h2
  go_wp2
  go_ret
  exact ⟨v, rfl, HN, (Fr.refl _).alloc _ _⟩
theorem ri' {k : IntKind} {a b : Int} (h : a = b) : Ending.returned (.int k a) = .returned (.int k b) := by rw [h]
theorem or32 (x y : Nat) (hx : x < 4294967296) (hy : y < 4294967296) : bits BinOp.or IntKind.u64 ((y : Int) * 4294967296) (x : Int) = ((x + 4294967296 * y : Nat) : Int) := by
  have e := u64_or_nat (y * 4294967296) x (by omega) (by omega)
  rw [show ((y * 4294967296 : Nat) : Int) = (y : Int) * 4294967296 from by omega] at e
  rw [e]
  have h := (Nat.two_pow_add_eq_or_of_lt (i := 32) (b := x) (by omega) y)
  rw [show 2 ^ 32 * y = y * 4294967296 by omega] at h
  rw [← h]; omega
theorem or32' (x y : Nat) (hx : x < 4294967296) (hy : y < 4294967296) : bits BinOp.or IntKind.u64 (x : Int) ((y : Int) * 4294967296) = ((x + 4294967296 * y : Nat) : Int) := by
  rw [← or32 x y hx hy]; simp only [bits, BitVec.or_comm]
theorem toUint_any (v : Value) (N : Nat) (w : World) (h : Nm w v N) :
    Calls Tryd.prog 92 #[v] w fun e w' => e = .returned (.int .u64 ((N % 18446744073709551616 : Nat) : Int)) ∧ w' = w := by
  obtain ⟨a, l, cap, rfl, hc, hm, hh, hd, hv, ht⟩ := h
  have d0 := hd 0
  have d1 := hd 1
  have e2 : vL l % 18446744073709551616 = l.getD 0 0 + 4294967296 * l.getD 1 0 := by
    match l with
    | [] => rfl
    | [x] => simp only [vL, List.getD]; simp at d0 ⊢; omega
    | x :: y :: r => simp only [vL, List.getD]; simp at d0 d1 ⊢; omega
  rw [← hv, e2]
  rcases hh with rfl | ⟨b, o, rfl, hb, hcell⟩
  · cases a
    all_goals
      go_enter Tryd.func92, Tryd.ntmps92
      go_wp2
      go_ret
      exact ⟨rfl, rfl⟩
  · by_cases c0 : l.length = 0
    · have : l = [] := List.length_eq_zero_iff.1 c0
      subst this
      go_enter Tryd.func92, Tryd.ntmps92
      go_wp2
      go_ret
      exact ⟨rfl, rfl⟩
    · have h0 := hcell 0 (by omega)
      rw [Nat.add_zero] at h0
      by_cases c1 : l.length = 1
      · have z1 : l.getD 1 0 = 0 := getD_out (by omega)
        rw [z1]
        generalize l.getD 0 0 = x at *
        generalize l.length = n at *
        have hn : 0 < n := by omega
        have hn1 : ¬ 1 < n := by omega
        clear hcell c0 c1 hv e2 ht z1 hd
        go_enter Tryd.func92, Tryd.ntmps92
        go_wp2
        go_ret
        refine ⟨ri' ?_, rfl⟩
        have := or32 x 0 d0 (by omega)
        simpa using this
      · have h1 := hcell 1 (by omega)
        generalize l.getD 0 0 = x at *
        generalize l.getD 1 0 = y at *
        generalize l.length = n at *
        have hn1 : 1 < n := by omega
        clear hcell c0 c1 hv e2 ht hd
        go_enter Tryd.func92, Tryd.ntmps92
        go_wp2
        go_ret
        exact ⟨ri' (or32 x y d0 d1), rfl⟩
theorem quiet_fr {a b : World} (h : Fr a b) (n : Nat) : Fr a (b.drewN n) := ⟨h.1.trans ⟨rfl, rfl, rfl, Nat.le_refl _, fun _ _ => rfl⟩, h.2⟩
theorem hs_len {w : World} {a : Option Addr} {l : List Nat} (h : Hs w a l) (hl : l.length ≠ 0) : ∃ b o, a = some ⟨b, o, none⟩ ∧ b < w.heap.size ∧ ∀ i, i < l.length → w.cell? ⟨b, o + i, none⟩ = some (.int .u32 (l.getD i 0 : Nat)) := by
  rcases h with h | h
  · subst h; exact absurd rfl hl
  · exact h
set_option maxHeartbeats 2000000 in
theorem cmpWords_any (v u : Value) (N M : Nat) (w : World) (hv : Nm w v N) (hu : Nm w u M) :
    Calls Tryd.prog 87 #[v, u] w fun e w' => e = .returned (.int .i64 (cmpI N M)) ∧ Fr w w' := by
  obtain ⟨a, l, ca, rfl, hca, hma, hha, hda, rfl, hta⟩ := hv
  obtain ⟨c, m, cc, rfl, hcc, hmc, hhc, hdc, rfl, htc⟩ := hu
  by_cases c1 : l.length < m.length
  · have H : Hid (cmpI (vL l) (vL m) = -1) := cmpI_lt (vL_lt_len l m hda htc c1)
    generalize l.length = n at *
    generalize m.length = k at *
    have e1 : ((n : Int) != k) = true := by rw [bne_iff_ne]; omega
    clear hha hhc hta htc hda hdc
    go_enter Tryd.func87, Tryd.ntmps87
    go_wp2
    go_ret
    exact ⟨ri' H.out.symm, Fr.refl _⟩
  by_cases c2 : m.length < l.length
  · have H : Hid (cmpI (vL l) (vL m) = 1) := cmpI_gt (vL_lt_len m l hdc hta c2)
    generalize l.length = n at *
    generalize m.length = k at *
    have e1 : ((n : Int) != k) = true := by rw [bne_iff_ne]; omega
    have e2 : ¬ (n : Int) < k := by omega
    clear hha hhc hta htc hda hdc c1
    go_enter Tryd.func87, Tryd.ntmps87
    go_wp2
    go_ret
    exact ⟨ri' H.out.symm, Fr.refl _⟩
  have hl : l.length = m.length := by omega
  by_cases c0 : l.length = 0
  · have e1 : l = [] := List.length_eq_zero_iff.1 c0
    have e2 : m = [] := List.length_eq_zero_iff.1 (by omega)
    subst e1 e2
    go_enter Tryd.func87, Tryd.ntmps87
    go_wp2
    refine wp_loop_rounds 1 ?_
    rw [rounds_succ]
    go_wp2
    go_ret
    exact ⟨rfl, Fr.refl _⟩
  obtain ⟨b, o, rfl, hb, hcell⟩ := hs_len hha c0
  obtain ⟨b2, o2, rfl, hb2, hcell2⟩ := hs_len hhc (by omega)
  rw [← hl] at hcell2 hcc ⊢
  have HL : Hid (l.length = m.length) := hl
  clear hha hhc hta htc hl c1 c2
  generalize hn : l.length = n at *
  have HNL : Hid (l.length = n) := hn
  clear hn
  go_enter Tryd.func87, Tryd.ntmps87
  go_wp2
  go_loopw [5] (fun i wr => ∃ k : Nat, k ≤ n ∧ i = .int .i64 ((k : Int) - 1) ∧ (∀ j, k ≤ j → l.getD j 0 = m.getD j 0) ∧ Fr w wr) (fun i _ => (intOf i + 1).toNat)
  case atStart => exact ⟨n, Nat.le_refl _, rfl, fun j hj => by rw [getD_out (by have := HNL.out; omega), getD_out (by have := HNL.out; have := HL.out; omega)], Fr.refl _⟩
  case round =>
    obtain ⟨k, hk, rfl, hz, hf⟩ := hrel
    have HZ : Hid (∀ j, k ≤ j → l.getD j 0 = m.getD j 0) := hz
    clear hz
    cases k with
    | zero =>
      have H : Hid (cmpI (vL l) (vL m) = 0) := cmpI_eq (vL_eq l m (HNL.out.trans HL.out) (fun j => HZ.out j (by omega)))
      go_wp2
      go_ret
      exact ⟨ri' H.out.symm, hf⟩
    | succ j =>
      have h1 : wr.cell? ⟨b, o + j, none⟩ = some (.int .u32 (l.getD j 0 : Nat)) := (hf.1.cell (p := ⟨b, o + j, none⟩) hb).trans (hcell j (by omega))
      have h2 : wr.cell? ⟨b2, o2 + j, none⟩ = some (.int .u32 (m.getD j 0 : Nat)) := (hf.1.cell (p := ⟨b2, o2 + j, none⟩) hb2).trans (hcell2 j (by omega))
      have HX : Hid (l.getD j 0 < m.getD j 0 → cmpI (vL l) (vL m) = -1) := fun h => cmpI_lt (vL_lt_top l m j (HNL.out.trans HL.out) hda HZ.out h)
      have HY : Hid (m.getD j 0 < l.getD j 0 → cmpI (vL l) (vL m) = 1) := fun h => cmpI_gt (vL_lt_top m l j (HNL.out.trans HL.out).symm hdc (fun i hi => (HZ.out i hi).symm) h)
      have HE : Hid (l.getD j 0 = m.getD j 0 → ∀ i, j ≤ i → l.getD i 0 = m.getD i 0) := by
        intro h i hi
        by_cases e : i = j
        · rw [e]; exact h
        · exact HZ.out i (by omega)
      generalize l.getD j 0 = x at *
      generalize m.getD j 0 = y at *
      clear hcell hcell2 HZ
      rw [show (((j + 1 : Nat) : Int) - 1) = (j : Int) by omega]
      have hjn : (j : Int) < n := by omega
      by_cases t1 : x < y
      · have t1' : (x : Int) < y := by omega
        go_wp2
        go_quiet (fail)
        go_wp2
        go_ret
        exact ⟨ri' (HX.out t1).symm, quiet_fr hf _⟩
      · have t1' : ¬ (x : Int) < y := by omega
        by_cases t2 : y < x
        · have t2' : (y : Int) < x := by omega
          go_wp2
          go_quiet (fail)
          go_wp2
          go_quiet (fail)
          go_wp2
          go_ret
          exact ⟨ri' (HY.out t2).symm, quiet_fr (quiet_fr hf _) _⟩
        · have t2' : ¬ (y : Int) < x := by omega
          have HE' : Hid (∀ i, j ≤ i → l.getD i 0 = m.getD i 0) := HE.out (by omega)
          go_wp2
          go_quiet (fail)
          go_wp2
          go_quiet (fail)
          go_wp2
          go_roundw
          case rel => exact ⟨j, by omega, by go_num, HE'.out, quiet_fr hf _⟩
          case measure => simp [intOf]
end Go.Proofs.YtlbikopancleoaaDoor
/-
  OWN TEXT: words that a call makes itself and writes one by one; what addWords and subWords of package eddybig return.
-/
namespace Go.Proofs.YtlbikopancleoaaDoor
open Go.ChangeShapes Go.WideShapes Go.ChangeAt Go.RowKit
open Bg
set_option linter.unusedVariables false

/-- a row of the call's own: block B holds these words, and may be written -/
def Ow (w : World) (B : Nat) (o : List Nat) : Prop := B < w.heap.size ∧ (∀ i, i < o.length → w.cell? ⟨B, i, none⟩ = some (.int .u32 (o.getD i 0 : Nat))) ∧ ∀ i, w.frozen? ⟨B, i, none⟩ = false
theorem Ow.set {w : World} {B : Nat} {o : List Nat} (h : Ow w B o) (i x : Nat) (hi : i < o.length) : Ow (w.setCell ⟨B, i, none⟩ (.int .u32 (x : Nat))) B (o.set i x) := by
  obtain ⟨h1, h2, h3⟩ := h
  refine ⟨by simpa [World.setCell] using h1, fun j hj => ?_, fun j => (World.frozen?_setCell _ _ _ _).trans (h3 j)⟩
  rw [List.length_set] at hj
  rw [getD_set _ _ _ _ hi]
  by_cases c : j = i
  · subst c
    rw [if_pos rfl]; exact World.cell?_setCell_same _ _ _ (h2 j hj)
  · rw [if_neg c, World.cell?_setCell_other]
    · exact h2 j hj
    · intro e; exact c (by cases e; rfl)
theorem Ow.hs {w : World} {B : Nat} {o : List Nat} (h : Ow w B o) : Hs w (some ⟨B, 0, none⟩) o := by
  right
  exact ⟨B, 0, rfl, h.1, fun i hi => by rw [Nat.zero_add]; exact h.2.1 i hi⟩
/-- noughts, as make lays them -/
def zc (n : Nat) : Array Value := madeCells #[.int .u32 0] n
theorem make_words (c : Int) (n : Nat) (hc : c = n) (h : n ≤ 2199023255552) (w : World) :
    (Instr.makeSlice 54 (.int .i64 c) (.int .i64 c)).run Tryd.prog w = .ok (.slice (some ⟨w.heap.size, 0, none⟩) n n) (w.alloc (.cells (zc n) 64)) := by
  subst hc
  have k : (Tryd.prog.info? 64).map (fun i => (i.zero, i.size, i.bytes)) = some (some (.int .u32 0), 1, 4) := by kernel_rfl
  obtain ⟨i, hi, he⟩ := Option.map_eq_some_iff.1 k
  simp only [Prod.mk.injEq] at he
  have hr := run_make (P := Tryd.prog) w 54 64 i (.int .u32 0) (by kernel_rfl) hi he.1 .i64 .i64 n n (by omega) (by omega) (by rw [he.2.2]; omega) (by omega)
  rw [he.2.1] at hr
  simp only [Int.toNat_natCast, Nat.mul_one] at hr
  exact hr
theorem Ow.made (w : World) (n : Nat) (t : TypeId) : Ow (w.alloc (.cells (zc n) t)) w.heap.size (List.replicate n 0) := by
  refine ⟨by simp, fun i hi => ?_, fun i => ?_⟩
  · rw [List.length_replicate] at hi
    rw [getD_zeros]
    rw [World.cell?_alloc_at _ _ _ _ rfl]
    unfold zc madeCells
    simp [hi, Nat.mod_one]
  · exact World.frozen?_alloc_at _ _ _ _ rfl
theorem nm_own {w : World} {B : Nat} {o : List Nat} {n : Nat} (h : Ow w B o) (hd : Dg o) (hn : o.length = n) (hm : n ≤ 1099511627776) :
    Calls Tryd.prog 83 #[.slice (some ⟨B, 0, none⟩) n n] w fun e w' => ∃ v, e = .returned v ∧ Nm w v (vL o) ∧ w' = w :=
  trim_nm _ o n n w h.hs hd hn (Nat.le_refl _) hm
set_option maxHeartbeats 2000000 in
theorem addWords_core (a c : Option Addr) (l m : List Nat) (ca cc : Nat) (w : World) (hha : Hs w a l) (hhc : Hs w c m) (hda : Dg l) (hdc : Dg m) (hca : l.length ≤ ca) (hcc : m.length ≤ cc) (hma : ca ≤ 1099511627776) (hlen : l.length ≤ 1099511627000) (hmc : cc ≤ 1099511627776) (hlm : m.length ≤ l.length) :
    Calls Tryd.prog 88 #[.slice a l.length ca, .slice c m.length cc] w fun e w' => ∃ v, e = .returned v ∧ Nm w' v (vL l + vL m) ∧ Fr w w' := by
  have hmk := make_words ((l.length : Int) + 1) (l.length + 1) (by omega) (by omega)
  generalize hn : l.length = n at *
  generalize hk2 : m.length = n2 at *
  have HN : Hid (l.length = n) := hn
  have HM : Hid (m.length = n2) := hk2
  clear hn hk2
  have t0 : ¬ (n : Int) < n2 := by omega
  go_enter Tryd.func88, Tryd.ntmps88
  go_wp2
  go_loopw [6, 7] (fun cy i wr => ∃ k cr : Nat, ∃ o : List Nat, k ≤ n ∧ i = .int .i64 k ∧ cy = .int .u64 cr ∧ cr ≤ 1 ∧ o.length = n + 1 ∧ Dg o ∧ Ow wr w.heap.size o ∧ Fr w wr ∧ vL (o.take k) + cr * 4294967296 ^ k = vL (l.take k) + vL (m.take k)) (fun _ i _ => n - (intOf i).toNat)
  case atStart => exact ⟨0, 0, List.replicate (n + 1) 0, Nat.zero_le _, rfl, rfl, by omega, by simp, Dg_zeros _, Ow.made _ _ _, (Fr.refl _).alloc _ _, by simp [vL]⟩
  case round =>
    obtain ⟨k, cr, o, hk, rfl, rfl, hcr, ho, hdo, how, hf, hinv⟩ := hrel
    have HI : Hid (vL (o.take k) + cr * 4294967296 ^ k = vL (l.take k) + vL (m.take k)) := hinv
    have HO : Hid (o.length = n + 1) := ho
    clear hinv ho
    by_cases hlt : k < n
    · obtain ⟨b, of, rfl, hb, hcell⟩ := hs_len hha (by have := HN.out; omega)
      have h1 : wr.cell? ⟨b, of + k, none⟩ = some (.int .u32 (l.getD k 0 : Nat)) := (hf.1.cell (p := ⟨b, of + k, none⟩) hb).trans (hcell k (by have := HN.out; omega))
      have x1 := hda k
      have hw1 := how.2.1 k (by have := HO.out; omega)
      have hw2 := how.2.2 k
      have hltI : (k : Int) < n := by omega
      by_cases hl2 : k < n2
      · obtain ⟨b2, of2, rfl, hb2, hcell2⟩ := hs_len hhc (by have := HM.out; omega)
        have h2 : wr.cell? ⟨b2, of2 + k, none⟩ = some (.int .u32 (m.getD k 0 : Nat)) := (hf.1.cell (p := ⟨b2, of2 + k, none⟩) hb2).trans (hcell2 k (by have := HM.out; omega))
        have x2 := hdc k
        have hl2I : (k : Int) < n2 := by omega
        have HS : Hid (vL ((o.set k ((l.getD k 0 + cr + m.getD k 0) % 4294967296)).take (k + 1)) + (l.getD k 0 + cr + m.getD k 0) / 4294967296 * 4294967296 ^ (k + 1) = vL (l.take (k + 1)) + vL (m.take (k + 1))) := add_step l m o k cr _ (by have := HO.out; omega) HI.out rfl
        generalize l.getD k 0 = x at *
        generalize m.getD k 0 = y at *
        generalize o.getD k 0 = z at *
        go_wp2
        have e1 : ((x : Int) + cr + y) % 4294967296 = (((x + cr + y) % 4294967296 : Nat) : Int) := by omega
        rw [e1]
        exact ⟨⟨k + 1, (x + cr + y) / 4294967296, o.set k ((x + cr + y) % 4294967296), by omega, by go_num, congrArg _ (by omega), by omega, by rw [List.length_set]; exact HO.out, Dg_set hdo _ _ (by omega), how.set _ _ (by have := HO.out; omega), hf.setCell (Nat.le_refl _) _, HS.out⟩, by simp [intOf]; omega⟩
      · have y0 : m.getD k 0 = 0 := getD_out (by have := HM.out; omega)
        have hl2I : ¬ (k : Int) < n2 := by omega
        have HS : Hid (vL ((o.set k ((l.getD k 0 + cr) % 4294967296)).take (k + 1)) + (l.getD k 0 + cr) / 4294967296 * 4294967296 ^ (k + 1) = vL (l.take (k + 1)) + vL (m.take (k + 1))) := add_step l m o k cr _ (by have := HO.out; omega) HI.out (by rw [y0]; rfl)
        generalize l.getD k 0 = x at *
        generalize o.getD k 0 = z at *
        clear y0
        go_wp2
        have e1 : ((x : Int) + cr) % 4294967296 = (((x + cr) % 4294967296 : Nat) : Int) := by omega
        rw [e1]
        exact ⟨⟨k + 1, (x + cr) / 4294967296, o.set k ((x + cr) % 4294967296), by omega, by go_num, congrArg _ (by omega), by omega, by rw [List.length_set]; exact HO.out, Dg_set hdo _ _ (by omega), how.set _ _ (by have := HO.out; omega), hf.setCell (Nat.le_refl _) _, HS.out⟩, by simp [intOf]; omega⟩
    · have hkn : k = n := by omega
      subst hkn
      have hw1 := how.2.1 k (by have := HO.out; omega)
      have hw2 := how.2.2 k
      have HV : Hid (vL (o.set k cr) = vL l + vL m) := by
        have h1 := take_set_succ o k cr (by have := HO.out; omega)
        rw [List.take_of_length_le (by rw [List.length_set]; have := HO.out; omega)] at h1
        show vL (o.set k cr) = _
        have h2 := HI.out
        rw [List.take_of_length_le (l := l) (by have := HN.out; omega), List.take_of_length_le (l := m) (by have := HM.out; omega)] at h2
        omega
      have hlt' : ¬ (k : Int) < k := by omega
      generalize o.getD k 0 = z at *
      go_wp2_with fail
      have e1 : (cr : Int) % 4294967296 = ((cr : Nat) : Int) := by omega
      have hown := how.set k cr (by have := HO.out; omega)
      refine (nm_own hown (Dg_set hdo _ _ (by omega)) (by rw [List.length_set]; exact HO.out) (by omega)).mono ?_
      rintro e w1 ⟨v, rfl, hnm, rfl⟩
      rw [HV.out] at hnm
      have HNM := hnm
      go_wp2
      go_ret
      exact ⟨v, rfl, HNM, hf.setCell (Nat.le_refl _) _⟩
set_option maxHeartbeats 2000000 in
theorem addWords_turn (a c : Option Addr) (l m : List Nat) (ca cc : Nat) (w : World) (hha : Hs w a l) (hhc : Hs w c m) (hda : Dg l) (hdc : Dg m) (hca : l.length ≤ ca) (hcc : m.length ≤ cc) (hma : ca ≤ 1099511627776) (hlen : l.length ≤ 1099511627000) (hmc : cc ≤ 1099511627776) (hlm : m.length < l.length) :
    Calls Tryd.prog 88 #[.slice c m.length cc, .slice a l.length ca] w fun e w' => ∃ v, e = .returned v ∧ Nm w' v (vL l + vL m) ∧ Fr w w' := by
  have hmk := make_words ((l.length : Int) + 1) (l.length + 1) (by omega) (by omega)
  generalize hn : l.length = n at *
  generalize hk2 : m.length = n2 at *
  have HN : Hid (l.length = n) := hn
  have HM : Hid (m.length = n2) := hk2
  clear hn hk2
  have t0 : (n2 : Int) < n := by omega
  go_enter Tryd.func88, Tryd.ntmps88
  go_wp2
  go_loopw [6, 7] (fun cy i wr => ∃ k cr : Nat, ∃ o : List Nat, k ≤ n ∧ i = .int .i64 k ∧ cy = .int .u64 cr ∧ cr ≤ 1 ∧ o.length = n + 1 ∧ Dg o ∧ Ow wr w.heap.size o ∧ Fr w wr ∧ vL (o.take k) + cr * 4294967296 ^ k = vL (l.take k) + vL (m.take k)) (fun _ i _ => n - (intOf i).toNat)
  case atStart => exact ⟨0, 0, List.replicate (n + 1) 0, Nat.zero_le _, rfl, rfl, by omega, by simp, Dg_zeros _, Ow.made _ _ _, (Fr.refl _).alloc _ _, by simp [vL]⟩
  case round =>
    obtain ⟨k, cr, o, hk, rfl, rfl, hcr, ho, hdo, how, hf, hinv⟩ := hrel
    have HI : Hid (vL (o.take k) + cr * 4294967296 ^ k = vL (l.take k) + vL (m.take k)) := hinv
    have HO : Hid (o.length = n + 1) := ho
    clear hinv ho
    by_cases hlt : k < n
    · obtain ⟨b, of, rfl, hb, hcell⟩ := hs_len hha (by have := HN.out; omega)
      have h1 : wr.cell? ⟨b, of + k, none⟩ = some (.int .u32 (l.getD k 0 : Nat)) := (hf.1.cell (p := ⟨b, of + k, none⟩) hb).trans (hcell k (by have := HN.out; omega))
      have x1 := hda k
      have hw1 := how.2.1 k (by have := HO.out; omega)
      have hw2 := how.2.2 k
      have hltI : (k : Int) < n := by omega
      by_cases hl2 : k < n2
      · obtain ⟨b2, of2, rfl, hb2, hcell2⟩ := hs_len hhc (by have := HM.out; omega)
        have h2 : wr.cell? ⟨b2, of2 + k, none⟩ = some (.int .u32 (m.getD k 0 : Nat)) := (hf.1.cell (p := ⟨b2, of2 + k, none⟩) hb2).trans (hcell2 k (by have := HM.out; omega))
        have x2 := hdc k
        have hl2I : (k : Int) < n2 := by omega
        have HS : Hid (vL ((o.set k ((l.getD k 0 + cr + m.getD k 0) % 4294967296)).take (k + 1)) + (l.getD k 0 + cr + m.getD k 0) / 4294967296 * 4294967296 ^ (k + 1) = vL (l.take (k + 1)) + vL (m.take (k + 1))) := add_step l m o k cr _ (by have := HO.out; omega) HI.out rfl
        generalize l.getD k 0 = x at *
        generalize m.getD k 0 = y at *
        generalize o.getD k 0 = z at *
        go_wp2
        have e1 : ((x : Int) + cr + y) % 4294967296 = (((x + cr + y) % 4294967296 : Nat) : Int) := by omega
        rw [e1]
        exact ⟨⟨k + 1, (x + cr + y) / 4294967296, o.set k ((x + cr + y) % 4294967296), by omega, by go_num, congrArg _ (by omega), by omega, by rw [List.length_set]; exact HO.out, Dg_set hdo _ _ (by omega), how.set _ _ (by have := HO.out; omega), hf.setCell (Nat.le_refl _) _, HS.out⟩, by simp [intOf]; omega⟩
      · have y0 : m.getD k 0 = 0 := getD_out (by have := HM.out; omega)
        have hl2I : ¬ (k : Int) < n2 := by omega
        have HS : Hid (vL ((o.set k ((l.getD k 0 + cr) % 4294967296)).take (k + 1)) + (l.getD k 0 + cr) / 4294967296 * 4294967296 ^ (k + 1) = vL (l.take (k + 1)) + vL (m.take (k + 1))) := add_step l m o k cr _ (by have := HO.out; omega) HI.out (by rw [y0]; rfl)
        generalize l.getD k 0 = x at *
        generalize o.getD k 0 = z at *
        clear y0
        go_wp2
        have e1 : ((x : Int) + cr) % 4294967296 = (((x + cr) % 4294967296 : Nat) : Int) := by omega
        rw [e1]
        exact ⟨⟨k + 1, (x + cr) / 4294967296, o.set k ((x + cr) % 4294967296), by omega, by go_num, congrArg _ (by omega), by omega, by rw [List.length_set]; exact HO.out, Dg_set hdo _ _ (by omega), how.set _ _ (by have := HO.out; omega), hf.setCell (Nat.le_refl _) _, HS.out⟩, by simp [intOf]; omega⟩
    · have hkn : k = n := by omega
      subst hkn
      have hw1 := how.2.1 k (by have := HO.out; omega)
      have hw2 := how.2.2 k
      have HV : Hid (vL (o.set k cr) = vL l + vL m) := by
        have h1 := take_set_succ o k cr (by have := HO.out; omega)
        rw [List.take_of_length_le (by rw [List.length_set]; have := HO.out; omega)] at h1
        show vL (o.set k cr) = _
        have h2 := HI.out
        rw [List.take_of_length_le (l := l) (by have := HN.out; omega), List.take_of_length_le (l := m) (by have := HM.out; omega)] at h2
        omega
      have hlt' : ¬ (k : Int) < k := by omega
      generalize o.getD k 0 = z at *
      go_wp2_with fail
      have e1 : (cr : Int) % 4294967296 = ((cr : Nat) : Int) := by omega
      have hown := how.set k cr (by have := HO.out; omega)
      refine (nm_own hown (Dg_set hdo _ _ (by omega)) (by rw [List.length_set]; exact HO.out) (by omega)).mono ?_
      rintro e w1 ⟨v, rfl, hnm, rfl⟩
      rw [HV.out] at hnm
      have HNM := hnm
      go_wp2
      go_ret
      exact ⟨v, rfl, HNM, hf.setCell (Nat.le_refl _) _⟩
theorem pow32 (k : Nat) : 4294967296 ^ k = 2 ^ (32 * k) := by rw [Nat.pow_mul]
/-- how long the words of a number are -/
theorem Nm.len {w : World} {v : Value} {N : Nat} (h : Nm w v N) (k : Nat) (hN : N.log2 < 32 * k) : ∃ a l cap, v = .slice a l.length cap ∧ l.length ≤ cap ∧ cap ≤ 1099511627776 ∧ Hs w a l ∧ Dg l ∧ vL l = N ∧ tn l = l.length ∧ l.length ≤ k := by
  obtain ⟨a, l, cap, h1, h2, h3, h4, h5, h6, h7⟩ := h
  refine ⟨a, l, cap, h1, h2, h3, h4, h5, h6, h7, ?_⟩
  by_cases c : l.length ≤ k
  · exact c
  · exfalso
    have hne : l ≠ [] := by intro e; subst e; simp at c
    have h8 := vL_ge l h7 hne
    rw [pow32, h6] at h8
    have hz : N ≠ 0 := by have := Nat.two_pow_pos (32 * (l.length - 1)); omega
    have := (Nat.le_log2 hz).2 h8
    omega
theorem addWords_any (v u : Value) (N M : Nat) (w : World) (hv : Nm w v N) (hu : Nm w u M) (hN : N.log2 < 32000000) (hM : M.log2 < 32000000) :
    Calls Tryd.prog 88 #[v, u] w fun e w' => ∃ x, e = .returned x ∧ Nm w' x (N + M) ∧ Fr w w' := by
  obtain ⟨a, l, ca, rfl, hca, hma, hha, hda, rfl, hta, kl⟩ := hv.len 1000000 (by omega)
  obtain ⟨c, m, cc, rfl, hcc, hmc, hhc, hdc, rfl, htc, km⟩ := hu.len 1000000 (by omega)
  by_cases h : m.length ≤ l.length
  · exact addWords_core a c l m ca cc w hha hhc hda hdc hca hcc hma (by omega) hmc h
  · have := addWords_turn c a m l cc ca w hhc hha hdc hda hcc hca hmc (by omega) hma (by omega)
    rw [Nat.add_comm (vL l)]
    exact this
set_option maxHeartbeats 2000000 in
theorem subWords_core (a c : Option Addr) (l m : List Nat) (ca cc : Nat) (w : World) (hha : Hs w a l) (hhc : Hs w c m) (hda : Dg l) (hdc : Dg m) (hca : l.length ≤ ca) (hcc : m.length ≤ cc) (hma : ca ≤ 1099511627776) (hlen : l.length ≤ 1099511627000) (hmc : cc ≤ 1099511627776) (hlm : m.length ≤ l.length) (hle : vL m ≤ vL l) :
    Calls Tryd.prog 85 #[.slice a l.length ca, .slice c m.length cc] w fun e w' => ∃ v, e = .returned v ∧ Nm w' v (vL l - vL m) ∧ Fr w w' := by
  have hmk := make_words (l.length : Int) l.length rfl (by omega)
  generalize hn : l.length = n at *
  generalize hk2 : m.length = n2 at *
  have HN : Hid (l.length = n) := hn
  have HM : Hid (m.length = n2) := hk2
  have HLE : Hid (vL m ≤ vL l) := hle
  clear hn hk2 hle
  go_enter Tryd.func85, Tryd.ntmps85
  go_wp2
  go_loopw [6, 7] (fun cy i wr => ∃ k cr : Nat, ∃ o : List Nat, k ≤ n ∧ i = .int .i64 k ∧ cy = .int .u64 cr ∧ cr ≤ 1 ∧ o.length = n ∧ Dg o ∧ Ow wr w.heap.size o ∧ Fr w wr ∧ vL (o.take k) + vL (m.take k) = vL (l.take k) + cr * 4294967296 ^ k) (fun _ i _ => n - (intOf i).toNat)
  case atStart => exact ⟨0, 0, List.replicate n 0, Nat.zero_le _, rfl, rfl, by omega, by simp, Dg_zeros _, Ow.made _ _ _, (Fr.refl _).alloc _ _, by simp [vL]⟩
  case round =>
    obtain ⟨k, cr, o, hk, rfl, rfl, hcr, ho, hdo, how, hf, hinv⟩ := hrel
    have HI : Hid (vL (o.take k) + vL (m.take k) = vL (l.take k) + cr * 4294967296 ^ k) := hinv
    have HO : Hid (o.length = n) := ho
    clear hinv ho
    by_cases hlt : k < n
    · obtain ⟨b, of, rfl, hb, hcell⟩ := hs_len hha (by have := HN.out; omega)
      have h1 : wr.cell? ⟨b, of + k, none⟩ = some (.int .u32 (l.getD k 0 : Nat)) := (hf.1.cell (p := ⟨b, of + k, none⟩) hb).trans (hcell k (by have := HN.out; omega))
      have x1 := hda k
      have hw1 := how.2.1 k (by have := HO.out; omega)
      have hw2 := how.2.2 k
      have hltI : (k : Int) < n := by omega
      by_cases hl2 : k < n2
      · obtain ⟨b2, of2, rfl, hb2, hcell2⟩ := hs_len hhc (by have := HM.out; omega)
        have h2 : wr.cell? ⟨b2, of2 + k, none⟩ = some (.int .u32 (m.getD k 0 : Nat)) := (hf.1.cell (p := ⟨b2, of2 + k, none⟩) hb2).trans (hcell2 k (by have := HM.out; omega))
        have x2 := hdc k
        have hl2I : (k : Int) < n2 := by omega
        have HS : Hid (∀ d c', d + m.getD k 0 + cr = l.getD k 0 + c' * 4294967296 → vL ((o.set k d).take (k + 1)) + vL (m.take (k + 1)) = vL (l.take (k + 1)) + c' * 4294967296 ^ (k + 1)) := fun d c' h => sub_step l m o k cr d c' (by have := HO.out; omega) HI.out h
        generalize l.getD k 0 = x at *
        generalize m.getD k 0 = y at *
        generalize o.getD k 0 = z at *
        obtain ⟨t1, e1, b1⟩ : ∃ t1 : Nat, IntKind.u64.wrap ((x : Int) - cr) = t1 ∧ t1 = (x + 18446744073709551616 - cr) % 18446744073709551616 := ⟨_, by rw [IntKind.wrap_u64]; omega, rfl⟩
        obtain ⟨t2, e2, b2'⟩ : ∃ t2 : Nat, IntKind.u64.wrap ((t1 : Int) - y) = t2 ∧ t2 = (t1 + 18446744073709551616 - y) % 18446744073709551616 := ⟨_, by rw [IntKind.wrap_u64]; omega, rfl⟩
        have B1 : Hid (t1 = (x + 18446744073709551616 - cr) % 18446744073709551616) := b1
        have B2 : Hid (t2 = (t1 + 18446744073709551616 - y) % 18446744073709551616) := b2'
        have l2 : t2 < 18446744073709551616 := by omega
        clear b1 b2'
        go_wp2
        have E : t2 % 4294967296 + y + cr = x + t2 / 9223372036854775808 * 4294967296 := by have := B1.out; have := B2.out; omega
        have e3 : (t2 : Int) % 4294967296 = ((t2 % 4294967296 : Nat) : Int) := by omega
        rw [e3]
        exact ⟨⟨k + 1, t2 / 9223372036854775808, o.set k (t2 % 4294967296), by omega, by go_num, congrArg _ (by omega), by omega, by rw [List.length_set]; exact HO.out, Dg_set hdo _ _ (by omega), how.set _ _ (by have := HO.out; omega), hf.setCell (Nat.le_refl _) _, HS.out _ _ E⟩, by simp [intOf]; omega⟩
      · have y0 : m.getD k 0 = 0 := getD_out (by have := HM.out; omega)
        have hl2I : ¬ (k : Int) < n2 := by omega
        have HS : Hid (∀ d c', d + cr = l.getD k 0 + c' * 4294967296 → vL ((o.set k d).take (k + 1)) + vL (m.take (k + 1)) = vL (l.take (k + 1)) + c' * 4294967296 ^ (k + 1)) := fun d c' h => sub_step l m o k cr d c' (by have := HO.out; omega) HI.out (by rw [y0]; exact h)
        generalize l.getD k 0 = x at *
        generalize o.getD k 0 = z at *
        clear y0
        obtain ⟨t1, e1, b1⟩ : ∃ t1 : Nat, IntKind.u64.wrap ((x : Int) - cr) = t1 ∧ t1 = (x + 18446744073709551616 - cr) % 18446744073709551616 := ⟨_, by rw [IntKind.wrap_u64]; omega, rfl⟩
        have B1 : Hid (t1 = (x + 18446744073709551616 - cr) % 18446744073709551616) := b1
        have l2 : t1 < 18446744073709551616 := by omega
        clear b1
        go_wp2
        have E : t1 % 4294967296 + cr = x + t1 / 9223372036854775808 * 4294967296 := by have := B1.out; omega
        have e3 : (t1 : Int) % 4294967296 = ((t1 % 4294967296 : Nat) : Int) := by omega
        rw [e3]
        exact ⟨⟨k + 1, t1 / 9223372036854775808, o.set k (t1 % 4294967296), by omega, by go_num, congrArg _ (by omega), by omega, by rw [List.length_set]; exact HO.out, Dg_set hdo _ _ (by omega), how.set _ _ (by have := HO.out; omega), hf.setCell (Nat.le_refl _) _, HS.out _ _ E⟩, by simp [intOf]; omega⟩
    · have hkn : k = n := by omega
      subst hkn
      have HV : Hid (vL o = vL l - vL m) := by
        show vL o = _
        have h2 := HI.out
        have h3 := vL_lt o hdo
        rw [HO.out] at h3
        rw [List.take_of_length_le (l := l) (by have := HN.out; omega), List.take_of_length_le (l := m) (by have := HM.out; omega), List.take_of_length_le (l := o) (by have := HO.out; omega)] at h2
        have h4 := HLE.out
        have hc0 : cr = 0 ∨ cr = 1 := by omega
        rcases hc0 with rfl | rfl
        · omega
        · generalize 4294967296 ^ k = p at *
          omega
      have hlt' : ¬ (k : Int) < k := by omega
      go_wp2_with fail
      refine (nm_own how hdo HO.out (by omega)).mono ?_
      rintro e w1 ⟨v, rfl, hnm, rfl⟩
      rw [HV.out] at hnm
      have HNM := hnm
      go_wp2
      go_ret
      exact ⟨v, rfl, HNM, hf⟩
theorem subWords_any (v u : Value) (N M : Nat) (w : World) (hv : Nm w v N) (hu : Nm w u M) (hN : N.log2 < 32000000) (hle : M ≤ N) :
    Calls Tryd.prog 85 #[v, u] w fun e w' => ∃ x, e = .returned x ∧ Nm w' x (N - M) ∧ Fr w w' := by
  obtain ⟨a, l, ca, rfl, hca, hma, hha, hda, rfl, hta, kl⟩ := hv.len 1000000 (by omega)
  obtain ⟨c, m, cc, rfl, hcc, hmc, hhc, hdc, rfl, htc⟩ := hu
  have h : m.length ≤ l.length := by
    by_cases c : m.length ≤ l.length
    · exact c
    · have := vL_lt_len l m hda htc (by omega); omega
  exact subWords_core a c l m ca cc w hha hhc hda hdc hca hcc hma (by omega) hmc h hle
end Go.Proofs.YtlbikopancleoaaDoor
