/-
 OWN TEXT: package ratio over whole complex numbers: its tests.
-/
import Derived.Test.YtjpllggchjgjpaaGreatJPyHToPyP
import Derived.Defers
namespace Go.Proofs.YtjpllggchjgjpaaGreat
open Go.ChangeShapes Go.WideShapes Go.ChangeAt Go.RowKit
set_option linter.unusedVariables false
attribute [local go_sem] frombits_call tobits_call run_neg run_store_cx
theorem risnought10 {c x y : Nat} {g : Py.G} (hg : wC c x y g) (w : World) : Calls Tryz.prog 75 #[.complex .f64 x y] w fun e w' => e = .returned (.bool (decide (g = (0, 0)))) ∧ w' = w := by
 have P : Hid (∀ wz, Calls Tryz.prog 55 #[.complex .f64 x y, .complex .f64 0 0] wz fun e w' => e = .returned (.bool (decide (g = (0, 0)))) ∧ w' = wz) := fun wz => plike8 hg (wC.nought c) wz
 clear hg
 generalize decide (g = (0, 0)) = p at *
 go_enter Tryz.func75, Tryz.ntmps75
 go_wp2_with fail
 refine (P.out _).mono ?_
 rintro e' w ⟨rfl, rfl⟩
 go_wp2
 go_ret
 exact ⟨rfl, rfl⟩
/-- not the nought polynomial -/
def Nz (n : Nat) (l : List Py.G) : Prop := n ≠ 0 ∨ Py.co l n ≠ (0, 0)
theorem nzp10 {c : Nat} {w : World} {b o cap n : Nat} {l : List Py.G} (hm : May n l) (h : Gl c w b o l) (hz : Nz n l) : Calls Tryz.prog 73 #[.slice (some ⟨b, o, none⟩) (n + 1) cap] w fun e w' => e = .returned (.bool false) ∧ w' = w := by
 have h1 := hm.1
 have h2 := hm.2.1
 by_cases z : n = 0
 ·
  subst z
  obtain ⟨x, y, e, q⟩ := h.2 0 (by omega)
  rw [Nat.add_zero] at e
  have P : Hid (∀ wz, Calls Tryz.prog 75 #[.complex .f64 x y] wz fun e w' => e = .returned (.bool false) ∧ w' = wz) := fun wz => by
   have k := risnought10 q wz
   rw [decide_eq_false (hz.resolve_left (fun k => k rfl))] at k
   exact k
  clear hm h hz q h1 h2
  go_enter Tryz.func73, Tryz.ntmps73
  go_wp2_with fail
  refine (P.out _).mono ?_
  rintro e' w ⟨rfl, rfl⟩
  go_wp2
  go_ret
  exact ⟨rfl, rfl⟩
 ·
  have t1 : ((n : Int) + 1 == 1) = false := by rw [beq_eq_false_iff_ne]; omega
  clear hm h hz h1
  go_enter Tryz.func73, Tryz.ntmps73
  go_wp2
  go_ret
  exact ⟨rfl, rfl⟩
/-- two slices in a block: a fraction -/
def Fc (w : World) (W : Nat) (s t : Value) : Prop := W < w.heap.size ∧ w.cell? ⟨W, 0, none⟩ = some s ∧ w.cell? ⟨W, 1, none⟩ = some t
theorem Fc.bw {w w' : World} {W : Nat} {s t : Value} (h : Fc w W s t) (k : Bw w w') : Fc w' W s t :=
 ⟨Nat.lt_of_lt_of_le h.1 (Below.size k), (Below.cell k (p := ⟨W, 0, none⟩) h.1).trans h.2.1, (Below.cell k (p := ⟨W, 1, none⟩) h.1).trans h.2.2⟩
theorem Fc.made (w : World) (s t : Value) (T : TypeId) : Fc (w.alloc (.cells #[s, t] T)) w.heap.size s t := ⟨by simp, by simp, by simp⟩
theorem rcheck10 {c : Nat} (hc : c = 1074) {w : World} {b o cap n b' o' cap' n' : Nat} {l l' : List Py.G} (hm : May n l) (h : Gl c w b o l) (hm' : May n' l') (h' : Gl c w b' o' l') (hz : Nz n' l') : Calls Tryz.prog 44 #[.agg #[.slice (some ⟨b, o, none⟩) (n + 1) cap, .slice (some ⟨b', o', none⟩) (n' + 1) cap']] w fun e w' => e = .returned (.int .i64 0) ∧ Bw w w' := by
 have A1 : Hid (∀ wz, Bw w wz → Calls Tryz.prog 72 #[.slice (some ⟨b, o, none⟩) (n + 1) cap] wz fun e w' => e = .returned (.int .i64 0) ∧ Bw wz w') := fun wz hz => check8 (cap := cap) hc hm (h.bw hz)
 have A2 : Hid (∀ wz, Bw w wz → Calls Tryz.prog 72 #[.slice (some ⟨b', o', none⟩) (n' + 1) cap'] wz fun e w' => e = .returned (.int .i64 0) ∧ Bw wz w') := fun wz hz => check8 (cap := cap') hc hm' (h'.bw hz)
 have A3 : Hid (∀ wz, Bw w wz → Calls Tryz.prog 73 #[.slice (some ⟨b', o', none⟩) (n' + 1) cap'] wz fun e w' => e = .returned (.bool false) ∧ w' = wz) := fun wz hb => nzp10 (cap := cap') hm' (h'.bw hb) hz
 clear hm h hm' h' hz
 have F0 := hide (Fc.made w (.slice (some ⟨b, o, none⟩) (n + 1) cap) (.slice (some ⟨b', o', none⟩) (n' + 1) cap') 45)
 have hb0 := bw_alloc w (.cells #[.slice (some ⟨b, o, none⟩) (n + 1) cap, .slice (some ⟨b', o', none⟩) (n' + 1) cap'] 45)
 go_enter Tryz.func44, Tryz.ntmps44
 go_wp2_with fail
 refine (A1.out _ hb0).mono ?_
 rintro e' w1 ⟨rfl, hb⟩
 obtain ⟨hlt, _, c1⟩ := F0.out.bw hb
 replace hb := bw_trans hb0 hb
 clear A1 F0 hb0
 go_wp2_with fail
 refine (A2.out _ hb).mono ?_
 rintro e' w2 ⟨rfl, hb2⟩
 have c2 : w2.cell? ⟨w.heap.size, 1, none⟩ = some (.slice (some ⟨b', o', none⟩) (n' + 1) cap') := (Below.cell hb2 (p := ⟨w.heap.size, 1, none⟩) hlt).trans c1
 replace hb := bw_trans hb hb2
 clear A2 hb2 c1 hlt
 go_wp2_with fail
 refine (A3.out _ hb).mono ?_
 rintro e' w3 ⟨rfl, rfl⟩
 go_wp2
 go_ret
 exact ⟨rfl, hb⟩
end Go.Proofs.YtjpllggchjgjpaaGreat

/-
 OWN TEXT: package poly: Mul, of lists of whole complex numbers, the nought polynomial too; what it answers may be written.
-/
namespace Go.Proofs.YtjpllggchjgjpaaGreat
open Go.ChangeShapes Go.WideShapes Go.ChangeAt Go.RowKit
set_option linter.unusedVariables false
attribute [local go_sem] frombits_call tobits_call run_neg run_store_cx
theorem Gw.take {c : Nat} {w : World} {B : Nat} {l : List Py.G} (h : Gw c w B l) (n : Nat) : Gw c w B (l.take n) := ⟨h.1.take n, h.2⟩
/-- an answered polynomial that may be written -/
def AnsW (c : Nat) (w w' : World) (e : Ending) (N : Nat) (F : Nat → Py.G) : Prop := ∃ B m l, e = .returned (.tuple #[.slice (some ⟨B, 0, none⟩) (m + 1) (m + 1), .int .i64 0]) ∧ May m l ∧ m + 1 ≤ N ∧ Gw c w' B l ∧ w.heap.size ≤ B ∧ Bw w w' ∧ ∀ i, Py.co l i = F i
theorem AnsW.use {c : Nat} {w w' : World} {e : Ending} {N : Nat} {F : Nat → Py.G} (h : AnsW c w w' e N F) : ∃ B m l, e = .returned (.tuple #[.slice (some ⟨B, 0, none⟩) (m + 1) (m + 1), .int .i64 0]) ∧ May m l ∧ m + 1 ≤ N ∧ Gw c w' B l ∧ w.heap.size ≤ B ∧ Bw w w' ∧ ∀ i, Py.co l i = F i := h
theorem AnsW.of {c : Nat} {w w' : World} {B n : Nat} {l : List Py.G} (hn : l.length = n) (h0 : 0 < n) (hm : n ≤ 65) (h : Gw c w' B l) (hB : w.heap.size ≤ B) (hb : Bw w w') (hl : ∀ i, Py.Le (Py.co l i) 1099511627776) : AnsW c w w' (.returned (.tuple #[.slice (some ⟨B, 0, none⟩) (Py.tl l n) (Py.tl l n), .int .i64 0])) n (Py.co l) := by
 have hp := Py.tl_pos l n h0
 have hle := Py.tl_le l n
 have hlast := Py.tl_last l n
 have hlen := Py.tr_len l
 rw [hn] at hlen
 obtain ⟨m, hm'⟩ : ∃ m, Py.tl l n = m + 1 := ⟨Py.tl l n - 1, by omega⟩
 refine ⟨B, m, Py.tr l, by rw [hm'], ⟨by omega, by omega, ?_, fun i _ => by rw [Py.co_tr]; exact hl i⟩, by omega, ?_, hB, hb, Py.co_tr l⟩
 ·
  rw [hm'] at hlast
  rw [Py.co_tr]
  rcases hlast with k | k | k
  · omega
  · left; omega
  · right; rw [Nat.add_sub_cancel] at k; exact k
 · unfold Py.tr; rw [hn]; exact h.take _
set_option maxHeartbeats 4000000 in
theorem mulw8 {c : Nat} (hc : c = 1074) {w : World} {b o cap n b' o' cap' n' A A' : Nat} {l l' : List Py.G} (hm : May n l) (h : Gl c w b o l) (hm' : May n' l') (h' : Gl c w b' o' l') (hl : ∀ i, Py.Le (Py.co l i) A) (hl' : ∀ i, Py.Le (Py.co l' i) A') (hA : (n + 1) * (A * A') ≤ 1099511627776) (h64 : n + n' ≤ 64) (z : Py.co l n ≠ (0, 0)) (z' : Py.co l' n' ≠ (0, 0)) :
  Calls Tryz.prog 64 #[.slice (some ⟨b, o, none⟩) (n + 1) cap, .slice (some ⟨b', o', none⟩) (n' + 1) cap'] w fun e w' => AnsW c w w' e (n + n' + 1) (fun j => Py.ts l l' j (n + 1)) := by
 have C := hide (checktwo8 (cap := cap) (cap' := cap') hc hm h hm' h')
 have L1 : Hid (∀ wz, Bw w wz → ∃ x y, Calls Tryz.prog 88 #[.slice (some ⟨b, o, none⟩) (n + 1) cap] wz (fun e w' => e = .returned (.complex .f64 x y) ∧ w' = wz) ∧ ∀ wz, Calls Tryz.prog 87 #[.complex .f64 x y] wz fun e w' => e = .returned (.bool false) ∧ w' = wz) := fun wz hz => by
  obtain ⟨x, y, q, L⟩ := last8 (cap := cap) n hm.1 (by omega) (h.bw hz)
  exact ⟨x, y, L, fun wz => by have k := isnought8 q wz; rw [decide_eq_false z] at k; exact k⟩
 have L2 : Hid (∀ wz, Bw w wz → ∃ x y, Calls Tryz.prog 88 #[.slice (some ⟨b', o', none⟩) (n' + 1) cap'] wz (fun e w' => e = .returned (.complex .f64 x y) ∧ w' = wz) ∧ ∀ wz, Calls Tryz.prog 87 #[.complex .f64 x y] wz fun e w' => e = .returned (.bool false) ∧ w' = wz) := fun wz hz => by
  obtain ⟨x, y, q, L⟩ := last8 (cap := cap') n' hm'.1 (by omega) (h'.bw hz)
  exact ⟨x, y, L, fun wz => by have k := isnought8 q wz; rw [decide_eq_false z'] at k; exact k⟩
 have PR : Hid (∀ wz k, Bw w wz → k ≤ n + n' → Calls Tryz.prog 90 #[.slice (some ⟨b, o, none⟩) (n + 1) cap, .slice (some ⟨b', o', none⟩) (n' + 1) cap', .int .i64 (k : Nat)] wz fun e w' => ∃ r s, e = .returned (.complex .f64 r s) ∧ wC c r s (Py.ts l l' k (n + 1)) ∧ Bw wz w') := fun wz k hz hk => prods8 hc hm.1 hm'.1 hm.2.1 hm'.2.1 (h.bw hz) (h'.bw hz) hl hl' hA hk
 have hmk := make_c ((n : Int) + 1 + (n' + 1) - 1) (n + n' + 1) (by omega) (by omega)
 have HLT : Hid (∀ j, Py.Le (Py.ts l l' j (n + 1)) 1099511627776) := fun j => (Py.ts_le hl hl' j (n + 1)).mono hA
 have HFAR : Hid (∀ j, n + n' + 1 ≤ j → Py.ts l l' j (n + 1) = (0, 0)) := fun j hj => by
  have := Py.ts_far l l' j 0 (n + 1) (fun i _ h2 h3 => by rw [Py.co_out (l := l') (by have := hm'.1; omega), Py.gm_nought])
  rw [Nat.zero_add] at this
  rw [this]; rfl
 have t1 : ¬ 65 < (n : Int) + 1 + (n' + 1) - 1 := by omega
 have HC := hide hc
 clear hm h hm' h' hl hl' hA z z' hc
 go_enter Tryz.func64, Tryz.ntmps64
 go_wp2_with fail
 refine C.out.mono ?_
 rintro e' w1 ⟨rfl, b1⟩
 clear C
 obtain ⟨x, y, LA, IA⟩ := L1.out _ b1
 obtain ⟨x', y', LB, IB⟩ := L2.out _ b1
 have HLA := hide LA
 have HLB := hide LB
 have HIA := hide IA
 have HIB := hide IB
 clear LA LB IA IB L1 L2
 go_wp2_with fail
 refine HLA.out.mono ?_
 rintro e' w2 ⟨rfl, hw2⟩
 subst hw2
 go_wp2_with fail
 refine (HIA.out _).mono ?_
 rintro e' w3 ⟨rfl, hw3⟩
 subst hw3
 go_wp2_with fail
 refine HLB.out.mono ?_
 rintro e' w2 ⟨rfl, hw2⟩
 subst hw2
 go_wp2_with fail
 refine (HIB.out _).mono ?_
 rintro e' w3 ⟨rfl, hw3⟩
 subst hw3
 clear HLA HIA HLB HIB
 go_wp2
 have G0 := hide (Gw.made c w3 (n + n' + 1) 26)
 have hB : w.heap.size ≤ w3.heap.size := Below.size b1
 have b2 := bw_trans b1 (bw_alloc w3 (.cells (zcC (n + n' + 1)) 26))
 clear hmk b1
 generalize w3.alloc (.cells (zcC (n + n' + 1)) 26) = W at *
 generalize w3.heap.size = B at *
 go_loopw [37] (fun i wr => ∃ (k : Nat) (L : List Py.G), k ≤ n + n' + 1 ∧ i = .int .i64 k ∧ L.length = n + n' + 1 ∧ Gw c wr B L ∧ (∀ i, i < k → Py.co L i = Py.ts l l' i (n + 1)) ∧ Bw w wr) (fun i _ => n + n' + 1 - (intOf i).toNat)
 case atStart => exact ⟨0, _, Nat.zero_le _, rfl, by simp, G0.out, fun i hi => by omega, b2⟩
 case round =>
  obtain ⟨k, L, hk, rfl, hL, hw, hco, hbw⟩ := hrel
  clear G0 b2
  by_cases hk1 : k < n + n' + 1
  ·
   have hk2 : (k : Int) < (n : Int) + (n' : Int) + 1 := by omega
   have HLL := hide hL
   have HW := hide hw
   have HCO := hide hco
   clear hL hw hco
   go_wp2_with fail
   refine (PR.out _ k hbw (by omega)).mono ?_
   rintro e' w4 ⟨r, s, rfl, hrs, b4⟩
   have hw4 : Gw c w4 B L := by
    have hs : B < wr.heap.size := HW.out.1.1
    refine ⟨HW.out.1.bw b4, fun i => ?_⟩
    exact (Below.frozen b4 (p := ⟨B, i, none⟩) hs).trans (HW.out.2 i)
   obtain ⟨u, v, e2, q2⟩ := hw4.1.2 k (by have := HLL.out; omega)
   rw [Nat.zero_add] at e2
   have e3 := hw4.2 k
   have R : Hid (Gw c (w4.setCell ⟨B, k, none⟩ (.complex .f64 r s)) B (L.set k (Py.ts l l' k (n + 1))) ∧ (∀ i, i < k + 1 → Py.co (L.set k (Py.ts l l' k (n + 1))) i = Py.ts l l' i (n + 1)) ∧ Bw w (w4.setCell ⟨B, k, none⟩ (.complex .f64 r s))) := by
    refine ⟨hw4.set k r s _ (by have := HLL.out; omega) hrs, fun i hi => ?_, Below.setCell (bw_trans hbw b4) hB _⟩
    rw [Py.co_set _ _ _ _ (by have := HLL.out; omega)]
    by_cases z : i = k
    · subst z; rw [if_pos rfl]
    · rw [if_neg z]; exact HCO.out i (by omega)
   clear hrs b4 hw4 q2 hbw HW HCO
   go_wp2
   go_roundw
   case rel => exact ⟨k + 1, _, by omega, by simp, by rw [List.length_set]; exact HLL.out, R.out.1, R.out.2.1, R.out.2.2⟩
   case measure => simp [intOf]; omega
  ·
   have hk3 : k = n + n' + 1 := by omega
   subst hk3
   have hF : ∀ i, Py.co L i = Py.ts l l' i (n + 1) := fun i => by
    by_cases z : i < n + n' + 1
    · exact hco i z
    · rw [Py.co_out (by omega), HFAR.out i (by omega)]
   have H2 : Hid (∀ i, Py.Le (Py.co L i) 1099511627776) := fun i => by rw [hF]; exact HLT.out i
   have HF := hide hF
   have HW := hide hw
   have HLL := hide hL
   clear hF hw hco hL HLT HFAR PR
   have hlt' : ¬ ((n + n' + 1 : Nat) : Int) < (n : Int) + (n' : Int) + 1 := by omega
   go_wp2_with fail
   refine (answered8 HC.out (n + n' + 1) HLL.out (by omega) (by omega) (Nat.le_refl _) HW.out.1 H2.out).mono ?_
   rintro e' w3 ⟨rfl, b3⟩
   have hw3 : Gw c w3 B L := HW.out.bw b3
   have A9 := AnsW.of HLL.out (by omega) (by omega) hw3 hB (bw_trans hbw b3) H2.out
   have AA : Hid (AnsW c w w3 (.returned (.tuple #[.slice (some ⟨B, 0, none⟩) (Py.tl L (n + n' + 1)) (Py.tl L (n + n' + 1)), .int .i64 0])) (n + n' + 1) (fun j => Py.ts l l' j (n + 1))) := by
    obtain ⟨B', m, l9, z1, z2, z3, z4, z5, z6, z7⟩ := A9
    exact ⟨B', m, l9, z1, z2, z3, z4, z5, z6, fun i => (z7 i).trans (HF.out i)⟩
   clear hw3
   clear A9 HW H2 HF HLL
   generalize Py.tl L (n + n' + 1) = tt at *
   go_wp2
   go_ret2
   exact AA.out
theorem nought10 (c : Nat) (w : World) : Calls Tryz.prog 89 #[] w fun e w' => e = .returned (.slice (some ⟨w.heap.size, 0, none⟩) 1 1) ∧ Gw c w' w.heap.size [(0, 0)] ∧ Bw w w' := by
 have g : Gw c (w.alloc (.cells #[.complex .f64 0 0] 26)) w.heap.size [(0, 0)] := by
  refine ⟨⟨by simp, fun i hi => ?_⟩, fun i => World.frozen?_alloc_at _ _ _ _ rfl⟩
  match i, hi with
  | 0, _ => exact ⟨0, 0, by simp, wC.nought c⟩
 have hb := bw_alloc w (.cells #[.complex .f64 0 0] 26)
 have HG := hide g
 clear g
 go_enter Tryz.func89, Tryz.ntmps89
 go_wp2
 go_ret
 exact ⟨rfl, HG.out, hb⟩
theorem May.nought : May 0 [(0, 0)] := ⟨rfl, by omega, Or.inl rfl, fun i _ => by cases i <;> exact Py.Le.nought _⟩
theorem co_nought (i : Nat) : Py.co [(0, 0)] i = (0, 0) := by cases i <;> rfl
theorem May.all0 {n : Nat} {l : List Py.G} (h : May n l) (z : Py.co l n = (0, 0)) (i : Nat) : Py.co l i = (0, 0) := by
 have hn : n = 0 := h.2.2.1.resolve_right (fun k => k z)
 subst hn
 cases i with
 | zero => exact z
 | succ i => exact Py.co_out (by have := h.1; omega)
theorem ts_zero1 {a b : List Py.G} (h : ∀ i, Py.co a i = (0, 0)) (j k : Nat) : Py.ts a b j k = (0, 0) := by
 have := Py.ts_far a b j 0 k (fun i _ _ _ => by rw [h, Py.nought_gm])
 rw [Nat.zero_add] at this
 rw [this]; rfl
theorem ts_zero2 {a b : List Py.G} (h : ∀ i, Py.co b i = (0, 0)) (j k : Nat) : Py.ts a b j k = (0, 0) := by
 have := Py.ts_far a b j 0 k (fun i _ _ _ => by rw [h, Py.gm_nought])
 rw [Nat.zero_add] at this
 rw [this]; rfl
set_option maxHeartbeats 4000000 in
theorem mul10 {c : Nat} (hc : c = 1074) {w : World} {b o cap n b' o' cap' n' A A' : Nat} {l l' : List Py.G} (hm : May n l) (h : Gl c w b o l) (hm' : May n' l') (h' : Gl c w b' o' l') (hl : ∀ i, Py.Le (Py.co l i) A) (hl' : ∀ i, Py.Le (Py.co l' i) A') (hA : (n + 1) * (A * A') ≤ 1099511627776) (h64 : n + n' ≤ 64) :
  Calls Tryz.prog 64 #[.slice (some ⟨b, o, none⟩) (n + 1) cap, .slice (some ⟨b', o', none⟩) (n' + 1) cap'] w fun e w' => AnsW c w w' e (n + n' + 1) (fun j => Py.ts l l' j (n + 1)) := by
 by_cases z : Py.co l n = (0, 0)
 ·
  have C := hide (checktwo8 (cap := cap) (cap' := cap') hc hm h hm' h')
  have HZ : Hid (∀ j, Py.ts l l' j (n + 1) = (0, 0)) := fun j => ts_zero1 (hm.all0 z) j _
  have L1 : Hid (∀ wz, Bw w wz → ∃ x y, Calls Tryz.prog 88 #[.slice (some ⟨b, o, none⟩) (n + 1) cap] wz (fun e w' => e = .returned (.complex .f64 x y) ∧ w' = wz) ∧ ∀ wz, Calls Tryz.prog 87 #[.complex .f64 x y] wz fun e w' => e = .returned (.bool true) ∧ w' = wz) := fun wz hz => by
   obtain ⟨x, y, q, L⟩ := last8 (cap := cap) n hm.1 (by omega) (h.bw hz)
   exact ⟨x, y, L, fun wz => by have k := isnought8 q wz; rw [decide_eq_true z] at k; exact k⟩
  clear hm h hm' h' hl hl' hA z hc
  go_enter Tryz.func64, Tryz.ntmps64
  go_wp2_with fail
  refine C.out.mono ?_
  rintro e' w1 ⟨rfl, b1⟩
  clear C
  obtain ⟨x, y, LA, IA⟩ := L1.out _ b1
  have HLA := hide LA
  have HIA := hide IA
  clear LA IA L1
  go_wp2_with fail
  refine HLA.out.mono ?_
  rintro e' w2 ⟨rfl, hw2⟩
  subst hw2
  go_wp2_with fail
  refine (HIA.out _).mono ?_
  rintro e' w3 ⟨rfl, hw3⟩
  subst hw3
  clear HLA HIA
  go_wp2_with fail
  refine (nought10 c _).mono ?_
  rintro e' w4 ⟨rfl, hg, b4⟩
  have R : Hid (AnsW c w w4 (.returned (.tuple #[.slice (some ⟨w3.heap.size, 0, none⟩) 1 1, .int .i64 0])) (n + n' + 1) (fun j => Py.ts l l' j (n + 1))) :=
   ⟨_, 0, _, rfl, May.nought, by omega, hg, Below.size b1, bw_trans b1 b4, fun i => (co_nought i).trans (HZ.out i).symm⟩
  clear hg b4 HZ
  generalize w3.heap.size = B at *
  go_wp2
  go_ret2
  exact R.out
 ·
  by_cases z' : Py.co l' n' = (0, 0)
  ·
   have C := hide (checktwo8 (cap := cap) (cap' := cap') hc hm h hm' h')
   have HZ : Hid (∀ j, Py.ts l l' j (n + 1) = (0, 0)) := fun j => ts_zero2 (hm'.all0 z') j _
   have L1 : Hid (∀ wz, Bw w wz → ∃ x y, Calls Tryz.prog 88 #[.slice (some ⟨b, o, none⟩) (n + 1) cap] wz (fun e w' => e = .returned (.complex .f64 x y) ∧ w' = wz) ∧ ∀ wz, Calls Tryz.prog 87 #[.complex .f64 x y] wz fun e w' => e = .returned (.bool false) ∧ w' = wz) := fun wz hz => by
    obtain ⟨x, y, q, L⟩ := last8 (cap := cap) n hm.1 (by omega) (h.bw hz)
    exact ⟨x, y, L, fun wz => by have k := isnought8 q wz; rw [decide_eq_false z] at k; exact k⟩
   have L2 : Hid (∀ wz, Bw w wz → ∃ x y, Calls Tryz.prog 88 #[.slice (some ⟨b', o', none⟩) (n' + 1) cap'] wz (fun e w' => e = .returned (.complex .f64 x y) ∧ w' = wz) ∧ ∀ wz, Calls Tryz.prog 87 #[.complex .f64 x y] wz fun e w' => e = .returned (.bool true) ∧ w' = wz) := fun wz hz => by
    obtain ⟨x, y, q, L⟩ := last8 (cap := cap') n' hm'.1 (by omega) (h'.bw hz)
    exact ⟨x, y, L, fun wz => by have k := isnought8 q wz; rw [decide_eq_true z'] at k; exact k⟩
   clear hm h hm' h' hl hl' hA z z' hc
   go_enter Tryz.func64, Tryz.ntmps64
   go_wp2_with fail
   refine C.out.mono ?_
   rintro e' w1 ⟨rfl, b1⟩
   clear C
   obtain ⟨x, y, LA, IA⟩ := L1.out _ b1
   obtain ⟨x', y', LB, IB⟩ := L2.out _ b1
   have HLA := hide LA
   have HIA := hide IA
   have HLB := hide LB
   have HIB := hide IB
   clear LA IA LB IB L1 L2
   go_wp2_with fail
   refine HLA.out.mono ?_
   rintro e' w2 ⟨rfl, hw2⟩
   subst hw2
   go_wp2_with fail
   refine (HIA.out _).mono ?_
   rintro e' w3 ⟨rfl, hw3⟩
   subst hw3
   go_wp2_with fail
   refine HLB.out.mono ?_
   rintro e' w2 ⟨rfl, hw2⟩
   subst hw2
   go_wp2_with fail
   refine (HIB.out _).mono ?_
   rintro e' w3 ⟨rfl, hw3⟩
   subst hw3
   clear HLA HIA HLB HIB
   go_wp2_with fail
   refine (nought10 c _).mono ?_
   rintro e' w4 ⟨rfl, hg, b4⟩
   have R : Hid (AnsW c w w4 (.returned (.tuple #[.slice (some ⟨w3.heap.size, 0, none⟩) 1 1, .int .i64 0])) (n + n' + 1) (fun j => Py.ts l l' j (n + 1))) :=
    ⟨_, 0, _, rfl, May.nought, by omega, hg, Below.size b1, bw_trans b1 b4, fun i => (co_nought i).trans (HZ.out i).symm⟩
   clear hg b4 HZ
   generalize w3.heap.size = B at *
   go_wp2
   go_ret2
   exact R.out
  · exact mulw8 hc hm h hm' h' hl hl' hA h64 z z'
end Go.Proofs.YtjpllggchjgjpaaGreat

