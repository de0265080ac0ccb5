/-
  OWN TEXT: words in memory: what a slice of words holds, and that it still holds it behind a call that writes nothing that was there.
-/
import Derived.Test.YtlbikopancleoaaGreatDoorRows
import Derived.Test.YtlbikopancleoaaGreatDoorJnBe
import Derived.WalkKit
import Derived.ProofKit
import Derived.OpenShut
import Derived.WalkLawsBesides
import Derived.Laws.BitsAllLaws
import Derived.BigQuiet
import Derived.Deep.QuietTactic
namespace Go.Proofs.YtlbikopancleoaaGreatDoor
open Go.ChangeShapes Go.WideShapes Go.ChangeAt Go.RowKit
open Bg

/-- nothing that was there has turned, and no new mark lies on anything -/
def Fr (w w' : World) : Prop := Below w.heap.size w w' ∧ ∀ a, w'.frozen? a = w.frozen? a
theorem Fr.refl (w : World) : Fr w w := ⟨Below.refl _ _, fun _ => rfl⟩
theorem Fr.trans {a b c : World} (h : Fr a b) (k : Fr b c) : Fr a c := ⟨h.1.trans (k.1.mono h.1.size), fun x => (k.2 x).trans (h.2 x)⟩
theorem Fr.drew {a b : World} (h : Fr a b) : Fr a b.drew := ⟨h.1.drew, h.2⟩
theorem Fr.alloc {a b : World} (h : Fr a b) (c : Array Value) (t : TypeId) : Fr a (b.alloc (.cells c t)) := ⟨h.1.alloc h.1.size _, fun x => (frozen?_alloc_cells _ _ _ x).trans (h.2 x)⟩
theorem Fr.setCell {a b : World} (h : Fr a b) {p : Addr} (hp : a.heap.size ≤ p.block) (v : Value) : Fr a (b.setCell p v) := ⟨h.1.setCell hp v, fun x => (World.frozen?_setCell _ _ _ _).trans (h.2 x)⟩
theorem Fr.grown {a b : World} (h : Fr a b) : Grown a b := ⟨h.1.frame _, h.2, h.1.size⟩

/-- the cells at a hold these words -/
def Hs (w : World) (a : Option Addr) (l : List Nat) : Prop := l = [] ∨ ∃ b o, a = some ⟨b, o, none⟩ ∧ b < w.heap.size ∧ ∀ i, i < l.length → w.cell? ⟨b, o + i, none⟩ = some (.int .u32 (l.getD i 0 : Nat))
theorem Hs.mono {w w' : World} {a : Option Addr} {l : List Nat} (h : Hs w a l) (f : Fr w w') : Hs w' a l := by
  rcases h with h | ⟨b, o, h1, h2, h3⟩
  · exact Or.inl h
  · exact Or.inr ⟨b, o, h1, Nat.lt_of_lt_of_le h2 f.1.size, fun i hi => (f.1.cell (p := ⟨b, o + i, none⟩) h2).trans (h3 i hi)⟩
theorem Hs.take {w : World} {a : Option Addr} {l : List Nat} (h : Hs w a l) (n : Nat) : Hs w a (l.take n) := by
  rcases h with h | ⟨b, o, h1, h2, h3⟩
  · left; rw [h]; simp
  · right
    refine ⟨b, o, h1, h2, fun i hi => ?_⟩
    rw [List.length_take] at hi
    rw [h3 i (by omega), getD_take, if_pos (by omega)]
/-- the value is a slice that holds the words of N, without noughts at the end -/
def Nm (w : World) (v : Value) (N : Nat) : Prop := ∃ a l cap, v = .slice a l.length cap ∧ l.length ≤ cap ∧ cap ≤ 1099511627776 ∧ Hs w a l ∧ Dg l ∧ vL l = N ∧ tn l = l.length
theorem Nm.mono {w w' : World} {v : Value} {N : Nat} (h : Nm w v N) (f : Fr w w') : Nm w' v N := by
  obtain ⟨a, l, cap, h1, h2, h3, h4, h5⟩ := h
  exact ⟨a, l, cap, h1, h2, h3, h4.mono f, h5⟩
theorem nm_trim {w : World} {a : Option Addr} {l : List Nat} {cap : Nat} (hh : Hs w a l) (hd : Dg l) (hc : l.length ≤ cap) (hm : cap ≤ 1099511627776) : Nm w (.slice a (tn l) cap) (vL l) := by
  have ht := tn_le l
  refine ⟨a, l.take (tn l), cap, by rw [length_trim], by rw [length_trim]; omega, hm, hh.take _, Dg_take hd _, vL_trim l, by rw [tn_trim, length_trim]⟩

theorem rv {a b : Value} (h : a = b) : Ending.returned a = .returned b := by rw [h]
set_option maxHeartbeats 1000000 in
theorem trim_any (a : Option Addr) (l : List Nat) (cap : Nat) (w : World) (hh : Hs w a l) (hc : l.length ≤ cap) (hm : cap ≤ 1099511627776) :
    Calls Tryz.prog 138 #[.slice a l.length cap] w fun e w' => e = .returned (.slice a (tn l) cap) ∧ w' = w := by
  rcases hh with rfl | ⟨b, o, rfl, hb, hcell⟩
  · cases a
    all_goals
      go_enter Tryz.func138, Tryz.ntmps138
      go_wp2
      refine wp_loop_rounds 1 ?_
      rw [rounds_succ]
      go_wp2
      go_ret
      exact ⟨rfl, rfl⟩
  · generalize hn : l.length = n at *
    go_enter Tryz.func138, Tryz.ntmps138
    go_wp2
    go_loop [3] (fun t => ∃ k : Nat, k ≤ n ∧ t = .int .i64 k ∧ ∀ i, k ≤ i → l.getD i 0 = 0) (fun t => (intOf t).toNat)
    case atStart => exact ⟨n, Nat.le_refl _, rfl, fun i hi => getD_out (by omega)⟩
    case round =>
      obtain ⟨k, hk, rfl, hz⟩ := hrel
      have HZ : Hid (∀ i, k ≤ i → l.getD i 0 = 0) := hz
      clear hz
      cases k with
      | zero =>
        have ht : Hid (tn l = 0) := (tn_unique l 0 HZ.out (Or.inl rfl)).symm
        go_wp2
        go_ret
        exact ⟨rv (by rw [ht.out]; rfl), rfl⟩
      | succ j =>
        have hj := hcell j (by omega)
        by_cases c : l.getD j 0 = 0
        · rw [c] at hj
          have HZ' : Hid (∀ i, j ≤ i → l.getD i 0 = 0) := by
            intro i hi
            by_cases e : i = j
            · rw [e]; exact c
            · exact HZ.out i (by omega)
          clear c hcell HZ
          go_wp2
          go_round
          case rel => exact ⟨j, by omega, by go_num, HZ'.out⟩
          case measure => simp [intOf]
        · have ht : Hid (tn l = j + 1) := (tn_unique l (j + 1) HZ.out (Or.inr c)).symm
          have c0 : ((l.getD j 0 : Int) == 0) = false := beq_eq_false_iff_ne.2 (by omega)
          generalize l.getD j 0 = x at *
          clear c hcell HZ
          go_wp2
          go_ret
          exact ⟨rv (by rw [ht.out]; rfl), rfl⟩
theorem trim_nm (a : Option Addr) (l : List Nat) (n cap : Nat) (w : World) (hh : Hs w a l) (hd : Dg l) (hn : l.length = n) (hc : n ≤ cap) (hm : cap ≤ 1099511627776) :
    Calls Tryz.prog 138 #[.slice a n cap] w fun e w' => ∃ v, e = .returned v ∧ Nm w v (vL l) ∧ w' = w := by
  subst hn
  refine (trim_any a l cap w hh hc hm).mono ?_
  rintro e w' ⟨rfl, rfl⟩
  exact ⟨_, rfl, nm_trim hh hd hc hm, rfl⟩
end Go.Proofs.YtlbikopancleoaaGreatDoor
/-
  OWN TEXT: what fromUint, toUint, cmpWords and addWords of package eddybig return, for all words.
-/
namespace Go.Proofs.YtlbikopancleoaaGreatDoor
open Go.ChangeShapes Go.WideShapes Go.ChangeAt Go.RowKit
open Bg
set_option linter.unusedVariables false

theorem hs_two {w : World} (x y : Nat) : Hs (w.alloc (.cells #[.int .u32 (x : Nat), .int .u32 (y : Nat)] 71)) (some ⟨w.heap.size, 0, none⟩) [x, y] := by
  right
  refine ⟨_, _, rfl, by simp, fun i hi => ?_⟩
  simp only [List.length_cons, List.length_nil] at hi
  match i, hi with
  | 0, _ => simp
  | 1, _ => simp
theorem fromUint_any (x : Nat) (w : World) (hx : x < 18446744073709551616) :
    Calls Tryz.prog 123 #[.int .u64 x] w fun e w' => ∃ v, e = .returned v ∧ Nm w' v x ∧ Fr w w' := by
  have h2 := hs_two (w := w) (x % 4294967296) (x / 4294967296)
  have hd : Dg [x % 4294967296, x / 4294967296] := by
    intro i
    match i with
    | 0 => show x % 4294967296 < _; omega
    | 1 => show x / 4294967296 < _; omega
    | n + 2 => show 0 < _; omega
  have hv : vL [x % 4294967296, x / 4294967296] = x := by simp only [vL]; omega
  go_enter Tryz.func123, Tryz.ntmps123
  go_wp2_with fail
  refine (trim_nm _ [x % 4294967296, x / 4294967296] 2 2 _ h2 hd rfl (by omega) (by omega)).mono ?_
  rintro e w1 ⟨v, rfl, hnm, rfl⟩
  rw [hv] at hnm
  have HN := hnm
  clear hv hd h2
  go_wp2
  go_ret
  exact ⟨v, rfl, HN, (Fr.refl _).alloc _ _⟩
theorem ri' {k : IntKind} {a b : Int} (h : a = b) : Ending.returned (.int k a) = .returned (.int k b) := by rw [h]
theorem or32 (x y : Nat) (hx : x < 4294967296) (hy : y < 4294967296) : bits BinOp.or IntKind.u64 ((y : Int) * 4294967296) (x : Int) = ((x + 4294967296 * y : Nat) : Int) := by
  have e := u64_or_nat (y * 4294967296) x (by omega) (by omega)
  rw [show ((y * 4294967296 : Nat) : Int) = (y : Int) * 4294967296 from by omega] at e
  rw [e]
  have h := (Nat.two_pow_add_eq_or_of_lt (i := 32) (b := x) (by omega) y)
  rw [show 2 ^ 32 * y = y * 4294967296 by omega] at h
  rw [← h]; omega
theorem or32' (x y : Nat) (hx : x < 4294967296) (hy : y < 4294967296) : bits BinOp.or IntKind.u64 (x : Int) ((y : Int) * 4294967296) = ((x + 4294967296 * y : Nat) : Int) := by
  rw [← or32 x y hx hy]; simp only [bits, BitVec.or_comm]
theorem toUint_any (v : Value) (N : Nat) (w : World) (h : Nm w v N) :
    Calls Tryz.prog 147 #[v] w fun e w' => e = .returned (.int .u64 ((N % 18446744073709551616 : Nat) : Int)) ∧ w' = w := by
  obtain ⟨a, l, cap, rfl, hc, hm, hh, hd, hv, ht⟩ := h
  have d0 := hd 0
  have d1 := hd 1
  have e2 : vL l % 18446744073709551616 = l.getD 0 0 + 4294967296 * l.getD 1 0 := by
    match l with
    | [] => rfl
    | [x] => simp only [vL, List.getD]; simp at d0 ⊢; omega
    | x :: y :: r => simp only [vL, List.getD]; simp at d0 d1 ⊢; omega
  rw [← hv, e2]
  rcases hh with rfl | ⟨b, o, rfl, hb, hcell⟩
  · cases a
    all_goals
      go_enter Tryz.func147, Tryz.ntmps147
      go_wp2
      go_ret
      exact ⟨rfl, rfl⟩
  · by_cases c0 : l.length = 0
    · have : l = [] := List.length_eq_zero_iff.1 c0
      subst this
      go_enter Tryz.func147, Tryz.ntmps147
      go_wp2
      go_ret
      exact ⟨rfl, rfl⟩
    · have h0 := hcell 0 (by omega)
      rw [Nat.add_zero] at h0
      by_cases c1 : l.length = 1
      · have z1 : l.getD 1 0 = 0 := getD_out (by omega)
        rw [z1]
        generalize l.getD 0 0 = x at *
        generalize l.length = n at *
        have hn : 0 < n := by omega
        have hn1 : ¬ 1 < n := by omega
        clear hcell c0 c1 hv e2 ht z1 hd
        go_enter Tryz.func147, Tryz.ntmps147
        go_wp2
        go_ret
        refine ⟨ri' ?_, rfl⟩
        have := or32 x 0 d0 (by omega)
        simpa using this
      · have h1 := hcell 1 (by omega)
        generalize l.getD 0 0 = x at *
        generalize l.getD 1 0 = y at *
        generalize l.length = n at *
        have hn1 : 1 < n := by omega
        clear hcell c0 c1 hv e2 ht hd
        go_enter Tryz.func147, Tryz.ntmps147
        go_wp2
        go_ret
        exact ⟨ri' (or32 x y d0 d1), rfl⟩
theorem quiet_fr {a b : World} (h : Fr a b) (n : Nat) : Fr a (b.drewN n) := ⟨h.1.trans ⟨rfl, rfl, rfl, Nat.le_refl _, fun _ _ => rfl⟩, h.2⟩
theorem hs_len {w : World} {a : Option Addr} {l : List Nat} (h : Hs w a l) (hl : l.length ≠ 0) : ∃ b o, a = some ⟨b, o, none⟩ ∧ b < w.heap.size ∧ ∀ i, i < l.length → w.cell? ⟨b, o + i, none⟩ = some (.int .u32 (l.getD i 0 : Nat)) := by
  rcases h with h | h
  · subst h; exact absurd rfl hl
  · exact h
set_option maxHeartbeats 2000000 in
theorem cmpWords_any (v u : Value) (N M : Nat) (w : World) (hv : Nm w v N) (hu : Nm w u M) :
    Calls Tryz.prog 142 #[v, u] w fun e w' => e = .returned (.int .i64 (cmpI N M)) ∧ Fr w w' := by
  obtain ⟨a, l, ca, rfl, hca, hma, hha, hda, rfl, hta⟩ := hv
  obtain ⟨c, m, cc, rfl, hcc, hmc, hhc, hdc, rfl, htc⟩ := hu
  by_cases c1 : l.length < m.length
  · have H : Hid (cmpI (vL l) (vL m) = -1) := cmpI_lt (vL_lt_len l m hda htc c1)
    generalize l.length = n at *
    generalize m.length = k at *
    have e1 : ((n : Int) != k) = true := by rw [bne_iff_ne]; omega
    clear hha hhc hta htc hda hdc
    go_enter Tryz.func142, Tryz.ntmps142
    go_wp2
    go_ret
    exact ⟨ri' H.out.symm, Fr.refl _⟩
  by_cases c2 : m.length < l.length
  · have H : Hid (cmpI (vL l) (vL m) = 1) := cmpI_gt (vL_lt_len m l hdc hta c2)
    generalize l.length = n at *
    generalize m.length = k at *
    have e1 : ((n : Int) != k) = true := by rw [bne_iff_ne]; omega
    have e2 : ¬ (n : Int) < k := by omega
    clear hha hhc hta htc hda hdc c1
    go_enter Tryz.func142, Tryz.ntmps142
    go_wp2
    go_ret
    exact ⟨ri' H.out.symm, Fr.refl _⟩
  have hl : l.length = m.length := by omega
  by_cases c0 : l.length = 0
  · have e1 : l = [] := List.length_eq_zero_iff.1 c0
    have e2 : m = [] := List.length_eq_zero_iff.1 (by omega)
    subst e1 e2
    go_enter Tryz.func142, Tryz.ntmps142
    go_wp2
    refine wp_loop_rounds 1 ?_
    rw [rounds_succ]
    go_wp2
    go_ret
    exact ⟨rfl, Fr.refl _⟩
  obtain ⟨b, o, rfl, hb, hcell⟩ := hs_len hha c0
  obtain ⟨b2, o2, rfl, hb2, hcell2⟩ := hs_len hhc (by omega)
  rw [← hl] at hcell2 hcc ⊢
  have HL : Hid (l.length = m.length) := hl
  clear hha hhc hta htc hl c1 c2
  generalize hn : l.length = n at *
  have HNL : Hid (l.length = n) := hn
  clear hn
  go_enter Tryz.func142, Tryz.ntmps142
  go_wp2
  go_loopw [5] (fun i wr => ∃ k : Nat, k ≤ n ∧ i = .int .i64 ((k : Int) - 1) ∧ (∀ j, k ≤ j → l.getD j 0 = m.getD j 0) ∧ Fr w wr) (fun i _ => (intOf i + 1).toNat)
  case atStart => exact ⟨n, Nat.le_refl _, rfl, fun j hj => by rw [getD_out (by have := HNL.out; omega), getD_out (by have := HNL.out; have := HL.out; omega)], Fr.refl _⟩
  case round =>
    obtain ⟨k, hk, rfl, hz, hf⟩ := hrel
    have HZ : Hid (∀ j, k ≤ j → l.getD j 0 = m.getD j 0) := hz
    clear hz
    cases k with
    | zero =>
      have H : Hid (cmpI (vL l) (vL m) = 0) := cmpI_eq (vL_eq l m (HNL.out.trans HL.out) (fun j => HZ.out j (by omega)))
      go_wp2
      go_ret
      exact ⟨ri' H.out.symm, hf⟩
    | succ j =>
      have h1 : wr.cell? ⟨b, o + j, none⟩ = some (.int .u32 (l.getD j 0 : Nat)) := (hf.1.cell (p := ⟨b, o + j, none⟩) hb).trans (hcell j (by omega))
      have h2 : wr.cell? ⟨b2, o2 + j, none⟩ = some (.int .u32 (m.getD j 0 : Nat)) := (hf.1.cell (p := ⟨b2, o2 + j, none⟩) hb2).trans (hcell2 j (by omega))
      have HX : Hid (l.getD j 0 < m.getD j 0 → cmpI (vL l) (vL m) = -1) := fun h => cmpI_lt (vL_lt_top l m j (HNL.out.trans HL.out) hda HZ.out h)
      have HY : Hid (m.getD j 0 < l.getD j 0 → cmpI (vL l) (vL m) = 1) := fun h => cmpI_gt (vL_lt_top m l j (HNL.out.trans HL.out).symm hdc (fun i hi => (HZ.out i hi).symm) h)
      have HE : Hid (l.getD j 0 = m.getD j 0 → ∀ i, j ≤ i → l.getD i 0 = m.getD i 0) := by
        intro h i hi
        by_cases e : i = j
        · rw [e]; exact h
        · exact HZ.out i (by omega)
      generalize l.getD j 0 = x at *
      generalize m.getD j 0 = y at *
      clear hcell hcell2 HZ
      rw [show (((j + 1 : Nat) : Int) - 1) = (j : Int) by omega]
      have hjn : (j : Int) < n := by omega
      by_cases t1 : x < y
      · have t1' : (x : Int) < y := by omega
        go_wp2
        go_quiet (fail)
        go_wp2
        go_ret
        exact ⟨ri' (HX.out t1).symm, quiet_fr hf _⟩
      · have t1' : ¬ (x : Int) < y := by omega
        by_cases t2 : y < x
        · have t2' : (y : Int) < x := by omega
          go_wp2
          go_quiet (fail)
          go_wp2
          go_quiet (fail)
          go_wp2
          go_ret
          exact ⟨ri' (HY.out t2).symm, quiet_fr (quiet_fr hf _) _⟩
        · have t2' : ¬ (y : Int) < x := by omega
          have HE' : Hid (∀ i, j ≤ i → l.getD i 0 = m.getD i 0) := HE.out (by omega)
          go_wp2
          go_quiet (fail)
          go_wp2
          go_quiet (fail)
          go_wp2
          go_roundw
          case rel => exact ⟨j, by omega, by go_num, HE'.out, quiet_fr hf _⟩
          case measure => simp [intOf]
end Go.Proofs.YtlbikopancleoaaGreatDoor
