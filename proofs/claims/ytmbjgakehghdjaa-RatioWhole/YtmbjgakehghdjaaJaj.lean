/-
  OWN TEXT: package poly: Mul, of lists of whole complex numbers.
-/
import Derived.Test.YtmbjgakehghdjaaJai
namespace Go.Proofs.Ytmbjgakehghdjaa
open Go.ChangeShapes Go.WideShapes Go.ChangeAt Go.RowKit
set_option linter.unusedVariables false
attribute [local go_sem] frombits_call tobits_call run_neg run_store_cx
set_option maxHeartbeats 4000000 in
theorem mul8 {c : Nat} (hc : c = 1074) {w : World} {b o cap n b' o' cap' n' A A' : Nat} {l l' : List Py.G} (hm : May n l) (h : Gl c w b o l) (hm' : May n' l') (h' : Gl c w b' o' l') (hl : ∀ i, Py.Le (Py.co l i) A) (hl' : ∀ i, Py.Le (Py.co l' i) A') (hA : (n + 1) * (A * A') ≤ 1099511627776) (h64 : n + n' ≤ 64) (z : Py.co l n ≠ (0, 0)) (z' : Py.co l' n' ≠ (0, 0)) :
    Calls Try.prog 63 #[.slice (some ⟨b, o, none⟩) (n + 1) cap, .slice (some ⟨b', o', none⟩) (n' + 1) cap'] w fun e w' => Ans c w w' e (n + n' + 1) (fun j => Py.ts l l' j (n + 1)) := by
  have C := hide (checktwo8 (cap := cap) (cap' := cap') hc hm h hm' h')
  have L1 : Hid (∀ wz, Bw w wz → ∃ x y, Calls Try.prog 58 #[.slice (some ⟨b, o, none⟩) (n + 1) cap] wz (fun e w' => e = .returned (.complex .f64 x y) ∧ w' = wz) ∧ ∀ wz, Calls Try.prog 57 #[.complex .f64 x y] wz fun e w' => e = .returned (.bool false) ∧ w' = wz) := fun wz hz => by
    obtain ⟨x, y, q, L⟩ := last8 (cap := cap) n hm.1 (by omega) (h.bw hz)
    exact ⟨x, y, L, fun wz => by have k := isnought8 q wz; rw [decide_eq_false z] at k; exact k⟩
  have L2 : Hid (∀ wz, Bw w wz → ∃ x y, Calls Try.prog 58 #[.slice (some ⟨b', o', none⟩) (n' + 1) cap'] wz (fun e w' => e = .returned (.complex .f64 x y) ∧ w' = wz) ∧ ∀ wz, Calls Try.prog 57 #[.complex .f64 x y] wz fun e w' => e = .returned (.bool false) ∧ w' = wz) := fun wz hz => by
    obtain ⟨x, y, q, L⟩ := last8 (cap := cap') n' hm'.1 (by omega) (h'.bw hz)
    exact ⟨x, y, L, fun wz => by have k := isnought8 q wz; rw [decide_eq_false z'] at k; exact k⟩
  have PR : Hid (∀ wz k, Bw w wz → k ≤ n + n' → Calls Try.prog 76 #[.slice (some ⟨b, o, none⟩) (n + 1) cap, .slice (some ⟨b', o', none⟩) (n' + 1) cap', .int .i64 (k : Nat)] wz fun e w' => ∃ r s, e = .returned (.complex .f64 r s) ∧ wC c r s (Py.ts l l' k (n + 1)) ∧ Bw wz w') := fun wz k hz hk => prods8 hc hm.1 hm'.1 hm.2.1 hm'.2.1 (h.bw hz) (h'.bw hz) hl hl' hA hk
  have hmk := make_c ((n : Int) + 1 + (n' + 1) - 1) (n + n' + 1) (by omega) (by omega)
  have HLT : Hid (∀ j, Py.Le (Py.ts l l' j (n + 1)) 1099511627776) := fun j => (Py.ts_le hl hl' j (n + 1)).mono hA
  have HFAR : Hid (∀ j, n + n' + 1 ≤ j → Py.ts l l' j (n + 1) = (0, 0)) := fun j hj => by
    have := Py.ts_far l l' j 0 (n + 1) (fun i _ h2 h3 => by rw [Py.co_out (l := l') (by have := hm'.1; omega), Py.gm_nought])
    rw [Nat.zero_add] at this
    rw [this]; rfl
  have t1 : ¬ 65 < (n : Int) + 1 + (n' + 1) - 1 := by omega
  have HC := hide hc
  clear hm h hm' h' hl hl' hA z z' hc
  go_enter Try.func63, Try.ntmps63
  go_wp2_with fail
  refine C.out.mono ?_
  rintro e' w1 ⟨rfl, b1⟩
  clear C
  obtain ⟨x, y, LA, IA⟩ := L1.out _ b1
  obtain ⟨x', y', LB, IB⟩ := L2.out _ b1
  have HLA := hide LA
  have HLB := hide LB
  have HIA := hide IA
  have HIB := hide IB
  clear LA LB IA IB L1 L2
  go_wp2_with fail
  refine HLA.out.mono ?_
  rintro e' w2 ⟨rfl, hw2⟩
  subst hw2
  go_wp2_with fail
  refine (HIA.out _).mono ?_
  rintro e' w3 ⟨rfl, hw3⟩
  subst hw3
  go_wp2_with fail
  refine HLB.out.mono ?_
  rintro e' w2 ⟨rfl, hw2⟩
  subst hw2
  go_wp2_with fail
  refine (HIB.out _).mono ?_
  rintro e' w3 ⟨rfl, hw3⟩
  subst hw3
  clear HLA HIA HLB HIB
  go_wp2
  have G0 := hide (Gw.made c w3 (n + n' + 1) 27)
  have hB : w.heap.size ≤ w3.heap.size := Below.size b1
  have b2 := bw_trans b1 (bw_alloc w3 (.cells (zcC (n + n' + 1)) 27))
  clear hmk b1
  generalize w3.alloc (.cells (zcC (n + n' + 1)) 27) = W at *
  generalize w3.heap.size = B at *
  go_loopw [37] (fun i wr => ∃ (k : Nat) (L : List Py.G), k ≤ n + n' + 1 ∧ i = .int .i64 k ∧ L.length = n + n' + 1 ∧ Gw c wr B L ∧ (∀ i, i < k → Py.co L i = Py.ts l l' i (n + 1)) ∧ Bw w wr) (fun i _ => n + n' + 1 - (intOf i).toNat)
  case atStart => exact ⟨0, _, Nat.zero_le _, rfl, by simp, G0.out, fun i hi => by omega, b2⟩
  case round =>
    obtain ⟨k, L, hk, rfl, hL, hw, hco, hbw⟩ := hrel
    clear G0 b2
    by_cases hk1 : k < n + n' + 1
    · have hk2 : (k : Int) < (n : Int) + (n' : Int) + 1 := by omega
      have HLL := hide hL
      have HW := hide hw
      have HCO := hide hco
      clear hL hw hco
      go_wp2_with fail
      refine (PR.out _ k hbw (by omega)).mono ?_
      rintro e' w4 ⟨r, s, rfl, hrs, b4⟩
      have hw4 : Gw c w4 B L := by
        have hs : B < wr.heap.size := HW.out.1.1
        refine ⟨HW.out.1.bw b4, fun i => ?_⟩
        exact (Below.frozen b4 (p := ⟨B, i, none⟩) hs).trans (HW.out.2 i)
      obtain ⟨u, v, e2, q2⟩ := hw4.1.2 k (by have := HLL.out; omega)
      rw [Nat.zero_add] at e2
      have e3 := hw4.2 k
      have R : Hid (Gw c (w4.setCell ⟨B, k, none⟩ (.complex .f64 r s)) B (L.set k (Py.ts l l' k (n + 1))) ∧ (∀ i, i < k + 1 → Py.co (L.set k (Py.ts l l' k (n + 1))) i = Py.ts l l' i (n + 1)) ∧ Bw w (w4.setCell ⟨B, k, none⟩ (.complex .f64 r s))) := by
        refine ⟨hw4.set k r s _ (by have := HLL.out; omega) hrs, fun i hi => ?_, Below.setCell (bw_trans hbw b4) hB _⟩
        rw [Py.co_set _ _ _ _ (by have := HLL.out; omega)]
        by_cases z : i = k
        · subst z; rw [if_pos rfl]
        · rw [if_neg z]; exact HCO.out i (by omega)
      clear hrs b4 hw4 q2 hbw HW HCO
      go_wp2
      go_roundw
      case rel => exact ⟨k + 1, _, by omega, by simp, by rw [List.length_set]; exact HLL.out, R.out.1, R.out.2.1, R.out.2.2⟩
      case measure => simp [intOf]; omega
    · have hk3 : k = n + n' + 1 := by omega
      subst hk3
      have hF : ∀ i, Py.co L i = Py.ts l l' i (n + 1) := fun i => by
        by_cases z : i < n + n' + 1
        · exact hco i z
        · rw [Py.co_out (by omega), HFAR.out i (by omega)]
      have H2 : Hid (∀ i, Py.Le (Py.co L i) 1099511627776) := fun i => by rw [hF]; exact HLT.out i
      have HF := hide hF
      have HW := hide hw
      have HLL := hide hL
      clear hF hw hco hL HLT HFAR PR
      have hlt' : ¬ ((n + n' + 1 : Nat) : Int) < (n : Int) + (n' : Int) + 1 := by omega
      go_wp2_with fail
      refine (answered8 HC.out (n + n' + 1) HLL.out (by omega) (by omega) (Nat.le_refl _) HW.out.1 H2.out).mono ?_
      rintro e' w3 ⟨rfl, b3⟩
      have A9 := Ans.of HLL.out (by omega) (by omega) (HW.out.1.bw b3) hB (bw_trans hbw b3) H2.out
      have AA : Hid (Ans c w w3 (.returned (.tuple #[.slice (some ⟨B, 0, none⟩) (Py.tl L (n + n' + 1)) (Py.tl L (n + n' + 1)), .int .i64 0])) (n + n' + 1) (fun j => Py.ts l l' j (n + 1))) := by
        obtain ⟨B', m, l9, z1, z2, z3, z4, z5, z6, z7⟩ := A9
        exact ⟨B', m, l9, z1, z2, z3, z4, z5, z6, fun i => (z7 i).trans (HF.out i)⟩
      clear A9 HW H2 HF HLL
      generalize Py.tl L (n + n' + 1) = tt at *
      go_wp2
      go_ret2
      exact AA.out
end Go.Proofs.Ytmbjgakehghdjaa
/-
  OWN TEXT: package poly: Shift, of lists of whole complex numbers.
-/
namespace Go.Proofs.Ytmbjgakehghdjaa
open Go.ChangeShapes Go.WideShapes Go.ChangeAt Go.RowKit
set_option linter.unusedVariables false
attribute [local go_sem] frombits_call tobits_call run_neg run_store_cx
end Go.Proofs.Ytmbjgakehghdjaa
/-
  OWN TEXT: package poly: Of, of lists of whole complex numbers.
-/
namespace Go.Proofs.Ytmbjgakehghdjaa
open Go.ChangeShapes Go.WideShapes Go.ChangeAt Go.RowKit
set_option linter.unusedVariables false
attribute [local go_sem] frombits_call tobits_call run_neg run_store_cx
set_option maxHeartbeats 4000000 in
theorem withzero8 {c : Nat} (hc : c = 1074) {w : World} {b cap n x y A Z : Nat} {l : List Py.G} {g : Py.G} (hn : l.length = n + 1) (h64 : n ≤ 64) (h : Gl c w b 0 l) (hg : wC c x y g) (lg : Py.Le g Z) (hl : ∀ i, Py.Le (Py.co l i) A) (hA : A * (Z + 1) ≤ 9007199254740992) :
    Calls Try.prog 79 #[.slice (some ⟨b, 0, none⟩) (n + 1) cap, .complex .f64 x y] w fun e w' => e = .returned (.slice (some ⟨w.heap.size, 0, none⟩) (n + 1 + 1) (n + 1 + 1)) ∧ Gw c w' w.heap.size (Py.wz l g) ∧ Bw w w' := by
  have hmk := make_c ((n : Int) + 1 + 1) (n + 1 + 1) (by omega) (by omega)
  have hZA : Z * A + A ≤ 9007199254740992 := by rw [Nat.mul_add, Nat.mul_one, Nat.mul_comm] at hA; exact hA
  have G0 := hide (Gw.made c w (n + 1 + 1) 27)
  have b0 := bw_alloc w (.cells (zcC (n + 1 + 1)) 27)
  obtain ⟨x0, y0, e0, q0⟩ := h.2 0 (by omega)
  have e0' : (w.alloc (.cells (zcC (n + 1 + 1)) 27)).cell? ⟨b, 0, none⟩ = some (.complex .f64 x0 y0) := (Below.cell b0 (p := ⟨b, 0, none⟩) h.1).trans e0
  obtain ⟨p1, p2, q1, P⟩ := pmul8 hc hg q0 lg (hl 0) (by omega)
  obtain ⟨r, s, q2, NG⟩ := pneg8 q1
  have HP := hide P
  have HNG := hide NG
  have t0 : Hid (Py.gn (Py.gm g (Py.co l 0)) = Py.co (Py.wz l g) 0) := by
    show _ = _
    rw [Py.co_wz, Py.co_zero]
    exact Py.gext (by unfold Py.gn Py.gs; simp only; omega) (by unfold Py.gn Py.gs; simp only; omega)
  rw [t0.out] at q2
  have hbB : b < w.heap.size := h.1
  have G1 : Gw c ((w.alloc (.cells (zcC (n + 1 + 1)) 27)).setCell ⟨w.heap.size, 0, none⟩ (.complex .f64 r s)) w.heap.size ((List.replicate (n + 1 + 1) (0, 0)).set 0 (Py.co (Py.wz l g) 0)) := G0.out.set 0 r s _ (by simp) q2
  have b1 : Bw w ((w.alloc (.cells (zcC (n + 1 + 1)) 27)).setCell ⟨w.heap.size, 0, none⟩ (.complex .f64 r s)) := Below.setCell b0 (Nat.le_refl _) _
  obtain ⟨ux, uy, eu, qu⟩ := G0.out.1.2 0 (by simp)
  rw [Nat.zero_add] at eu
  have ef := G0.out.2 0
  obtain ⟨F, hF⟩ := (h.bw b1).words
  have hcp := copy_c (w := (w.alloc (.cells (zcC (n + 1 + 1)) 27)).setCell ⟨w.heap.size, 0, none⟩ (.complex .f64 r s)) (l := l) 1 (n + 1) (n + 1) cap (n + 1) F G1 (fun i hi => (hF i hi).1) hn (Nat.le_refl _) (by simp; omega)
  have G2 := Gw.lay (l := l) 1 F G1 (fun i hi => (hF i hi).2) (by simp; omega)
  have b2 := bw_setCells w.heap.size (Nat.le_refl _) (vsC F (n + 1)) 1 _ b1
  rw [hn] at G2
  have G3 : Hid (∃ L : List Py.G, L.length = n + 1 + 1 ∧ Gw c (((w.alloc (.cells (zcC (n + 1 + 1)) 27)).setCell ⟨w.heap.size, 0, none⟩ (.complex .f64 r s)).setCells w.heap.size 1 (vsC F (n + 1))) w.heap.size L ∧ ∀ t, Py.co L t = if t < 1 then Py.co (Py.wz l g) t else Py.co ((0, 0) :: l) t) := by
    refine ⟨_, by rw [lay_len]; simp, G2, fun t => ?_⟩
    rw [co_lay _ _ _ (by simp; omega)]
    by_cases z : t < 1
    · have : t = 0 := by omega
      subst this
      rw [if_neg (by omega), if_pos (by omega), Py.co_set _ _ _ _ (by simp), if_pos rfl]
    · obtain ⟨t', rfl⟩ : ∃ t', t = t' + 1 := ⟨t - 1, by omega⟩
      rw [if_neg z, Py.co_succ]
      by_cases z2 : t' < n + 1
      · rw [if_pos (by omega), Nat.add_sub_cancel]
      · rw [if_neg (by omega), Py.co_set _ _ _ _ (by simp), if_neg (by omega), co_rep, Py.co_out (by omega)]
  have HLL := hide hl
  have HGL := hide h
  have HGG := hide hg
  have HLG := hide lg
  have HN := hide hn
  have HC := hide hc
  clear P NG G2 G1 hF qu q2 q1 q0 G0 b0 b1 h hl hg lg hn hc e0 t0
  go_enter Try.func79, Try.ntmps79
  go_wp2_with fail
  generalize w.alloc (.cells (zcC (n + 1 + 1)) 27) = W at *
  generalize hB : w.heap.size = B at *
  have HBB := hide hB
  clear hB
  refine (HP.out _).mono ?_
  rintro e' w7 ⟨rfl, hw7⟩
  subst hw7
  go_wp2_with fail
  refine (HNG.out _).mono ?_
  rintro e' w7 ⟨rfl, hw7⟩
  subst hw7
  clear HP HNG
  generalize ((w7.setCell ⟨B, 0, none⟩ (.complex .f64 r s)).setCells B 1 (vsC F (n + 1))) = W2 at *
  go_wp2
  obtain ⟨L0, hL0, hG3, hT⟩ := G3.out
  have HG3 := hide hG3
  have HT := hide hT
  clear G3 hG3 hT hcp hmk eu ef e0'
  go_loopw [7] (fun q wr => ∃ (i : Nat) (L : List Py.G), 1 ≤ i ∧ i ≤ n + 1 ∧ q = .int .i64 i ∧ L.length = n + 1 + 1 ∧ Gw c wr B L ∧ (∀ t, Py.co L t = if t < i then Py.co (Py.wz l g) t else Py.co ((0, 0) :: l) t) ∧ Bw w wr) (fun q _ => n + 1 - (intOf q).toNat)
  case atStart => exact ⟨1, L0, Nat.le_refl _, by omega, rfl, hL0, HG3.out, HT.out, b2⟩
  case round =>
    obtain ⟨i, L, hi1, hi2, rfl, hL, hw, hco, hbw⟩ := hrel
    clear HG3 HT b2 hL0
    by_cases hi3 : i < n + 1
    · have hi4 : (i : Int) < (n : Int) + 1 := by omega
      have hi5 : (i : Int) < (n : Int) + 1 + 1 := by omega
      obtain ⟨x1, y1, e1, q1⟩ := hw.1.2 i (by omega)
      obtain ⟨x2, y2, e2, q2⟩ := (HGL.out.bw hbw).2 i (by have := HN.out; omega)
      have e3 := hw.2 i
      rw [Nat.zero_add] at e1 e2
      rw [hco i, if_neg (by omega)] at q1
      have l1 : Py.Le (Py.co ((0, 0) :: l) i) A := by
        cases i with
        | zero => exact Py.Le.nought _
        | succ i => exact HLL.out i
      obtain ⟨p3, p4, q3, P⟩ := pmul8 HC.out HGG.out q2 HLG.out (HLL.out i) (by omega)
      obtain ⟨r2, s2, q4, E⟩ := c_sub HC.out q1 q3 l1 (HLG.out.mul (HLL.out i)) (by omega)
      rw [← Py.co_wz] at q4
      have HP := hide P
      have R : Hid (Gw c (wr.drew.setCell ⟨B, i, none⟩ (.complex .f64 r2 s2)) B (L.set i (Py.co (Py.wz l g) i)) ∧ (∀ t, Py.co (L.set i (Py.co (Py.wz l g) i)) t = if t < i + 1 then Py.co (Py.wz l g) t else Py.co ((0, 0) :: l) t) ∧ Bw w (wr.drew.setCell ⟨B, i, none⟩ (.complex .f64 r2 s2))) := by
        have hwd : Gw c wr.drew B L := ⟨⟨hw.1.1, hw.1.2⟩, hw.2⟩
        refine ⟨hwd.set i r2 s2 _ (by omega) q4, fun t => ?_, Below.setCell hbw.drew (by have := HBB.out; show w.heap.size ≤ B; omega) _⟩
        rw [Py.co_set _ _ _ _ (by omega)]
        by_cases z : t = i
        · subst z; rw [if_pos rfl, if_pos (by omega)]
        · rw [if_neg z, hco t]
          by_cases z2 : t < i
          · rw [if_pos z2, if_pos (by omega)]
          · rw [if_neg z2, if_neg (by omega)]
      have HL1 := hide hL
      clear q1 q2 q3 q4 l1 P hw hco hbw hL
      go_wp2_with fail
      have S0 : wr.drew.cell? ⟨B, i, none⟩ = some (.complex .f64 x1 y1) ∧ wr.drew.cell? ⟨b, i, none⟩ = some (.complex .f64 x2 y2) ∧ wr.drew.frozen? ⟨B, i, none⟩ = false := ⟨e1, e2, e3⟩
      refine wp_region_K (fun w' => w'.cell? ⟨B, i, none⟩ = some (.complex .f64 x1 y1) ∧ w'.cell? ⟨b, i, none⟩ = some (.complex .f64 x2 y2) ∧ w'.frozen? ⟨B, i, none⟩ = false) 12 13 #[false, false, false, false, false, false, false, false, false, false, false, false, false] (by kernel_rfl) (by kernel_rfl) (by kernel_rfl) ?_
      refine wpAnyK_take 0 30 (v := ?v0) rfl (by kernel_rfl) (by kernel_rfl) (by kernel_rfl) (by kernel_rfl) (by kernel_rfl) (fun _ _ _ h => h) rfl (Or.inl ⟨by rfl, ?h0⟩) (by assumption) ?r0
      case h0 => (intro w hSw; go_simp; with_reducible rfl)
      simp only [Act.put, List.setIfInBounds_toArray, List.set_cons_zero, List.set_cons_succ]
      refine wpAnyK_take 1 31 (v := ?v1) rfl (by kernel_rfl) (by kernel_rfl) (by kernel_rfl) (by kernel_rfl) (by kernel_rfl) (fun _ _ _ h => h) rfl (Or.inl ⟨by rfl, ?h1⟩) (by assumption) ?r1
      case h1 => (intro w hSw; go_simp; with_reducible rfl)
      simp only [Act.put, List.setIfInBounds_toArray, List.set_cons_zero, List.set_cons_succ]
      refine wpAnyK_take 2 32 (v := ?v2) rfl (by kernel_rfl) (by kernel_rfl) (by kernel_rfl) (by kernel_rfl) (by kernel_rfl) (fun _ _ _ h => h) rfl (Or.inl ⟨by rfl, ?h2⟩) (by assumption) ?r2
      case h2 => (intro w hSw; go_simp; with_reducible rfl)
      simp only [Act.put, List.setIfInBounds_toArray, List.set_cons_zero, List.set_cons_succ]
      refine wpAnyK_take 3 33 (v := ?v3) rfl (by kernel_rfl) (by kernel_rfl) (by kernel_rfl) (by kernel_rfl) (by kernel_rfl) (fun _ _ _ h => h) rfl (Or.inl ⟨by rfl, ?h3⟩) (by assumption) ?r3
      case h3 => (intro w hSw; go_simp; with_reducible rfl)
      simp only [Act.put, List.setIfInBounds_toArray, List.set_cons_zero, List.set_cons_succ]
      refine wpAnyK_take 4 34 (v := ?v4) rfl (by kernel_rfl) (by kernel_rfl) (by kernel_rfl) (by kernel_rfl) (by kernel_rfl) (fun _ _ _ h => h) rfl (Or.inl ⟨by rfl, ?h4⟩) (by assumption) ?r4
      case h4 => (intro w hSw; go_simp; with_reducible rfl)
      simp only [Act.put, List.setIfInBounds_toArray, List.set_cons_zero, List.set_cons_succ]
      refine wpAnyK_take 5 35 (v := ?v5) rfl (by kernel_rfl) (by kernel_rfl) (by kernel_rfl) (by kernel_rfl) (by kernel_rfl) (fun _ _ _ h => h) rfl (Or.inl ⟨by rfl, ?h5⟩) (by assumption) ?r5
      case h5 => (intro w hSw; go_simp; with_reducible rfl)
      simp only [Act.put, List.setIfInBounds_toArray, List.set_cons_zero, List.set_cons_succ]
      refine wpAnyK_take 6 36 (v := ?v6) rfl (by kernel_rfl) (by kernel_rfl) (by kernel_rfl) (by kernel_rfl) (by kernel_rfl) (fun _ _ _ h => h) rfl (Or.inl ⟨by rfl, ?h6⟩) (by assumption) ?r6
      case h6 => (intro w hSw; go_simp; with_reducible rfl)
      simp only [Act.put, List.setIfInBounds_toArray, List.set_cons_zero, List.set_cons_succ]
      refine wpAnyK_take 7 37 (v := ?v7) rfl (by kernel_rfl) (by kernel_rfl) (by kernel_rfl) (by kernel_rfl) (by kernel_rfl) (fun _ _ _ h => h) rfl (Or.inl ⟨by rfl, ?h7⟩) (by assumption) ?r7
      case h7 => (intro w hSw; go_simp; with_reducible rfl)
      simp only [Act.put, List.setIfInBounds_toArray, List.set_cons_zero, List.set_cons_succ]
      refine wpAnyK_take 8 38 (v := ?v8) rfl (by kernel_rfl) (by kernel_rfl) (by kernel_rfl) (by kernel_rfl) (by kernel_rfl) (fun _ _ _ h => h) rfl (Or.inl ⟨by rfl, ?h8⟩) (by assumption) ?r8
      case h8 => (intro w hSw; go_simp; with_reducible rfl)
      simp only [Act.put, List.setIfInBounds_toArray, List.set_cons_zero, List.set_cons_succ]
      refine wpAnyK_one 9 (by kernel_rfl) rfl (fun K hK => ?_)
      go_simp
      go_wp2_with (go_at_call 23; refine (HP.out _).mono ?_; rintro e' w7 ⟨rfl, hw7⟩; subst hw7)
      refine hK.out _ _ (fun _ _ => S0) ?_
      clear hK K
      simp only [List.setIfInBounds_toArray, List.set_cons_zero, List.set_cons_succ]
      refine wpAnyK_take 10 40 (v := ?v10) rfl (by kernel_rfl) (by kernel_rfl) (by kernel_rfl) (by kernel_rfl) (by kernel_rfl) (fun _ _ _ h => h) rfl (Or.inl ⟨by rfl, ?h10⟩) (by assumption) ?r10
      case h10 => (intro w hSw; go_simp; with_reducible rfl)
      simp only [Act.put, List.setIfInBounds_toArray, List.set_cons_zero, List.set_cons_succ]
      refine wpAnyK_take 11 41 (v := ?v11) rfl (by kernel_rfl) (by kernel_rfl) (by kernel_rfl) (by kernel_rfl) (by kernel_rfl) (fun _ _ _ h => h) rfl (Or.inl ⟨by rfl, ?h11⟩) (by assumption) ?r11
      case h11 => (intro w hSw; go_simp; with_reducible rfl)
      simp only [Act.put, List.setIfInBounds_toArray, List.set_cons_zero, List.set_cons_succ]
      refine wpAnyK_one 12 (by kernel_rfl) rfl (fun K hK => ?_)
      go_simp
      refine hK.out _ _ (fun h => absurd rfl h) ?_
      clear hK K
      simp only [List.setIfInBounds_toArray, List.set_cons_zero, List.set_cons_succ]
      refine wpAnyK_done (by kernel_rfl) ?_ _
      clear S0 e1 e2 e3 HP
      go_wp2
      go_roundw
      case rel => exact ⟨i + 1, _, by omega, by omega, by simp, by rw [List.length_set]; exact HL1.out, R.out.1, R.out.2.1, R.out.2.2⟩
      case measure => simp [intOf]; omega
    · have hi4 : i = n + 1 := by omega
      subst hi4
      have hLe : L = Py.wz l g := Py.list_ext (by rw [Py.wz_len, HN.out, hL]) (fun t ht => by
        rw [hco t]
        by_cases z : t < n + 1
        · rw [if_pos z]
        · have : t = n + 1 := by omega
          subst this
          rw [if_neg (by omega), Py.co_wz, Py.co_out (l := l) (i := n + 1) (by have := HN.out; omega), Py.gm_nought]
          exact Py.gext (by unfold Py.gs; simp only; omega) (by unfold Py.gs; simp only; omega))
      have HW : Hid (Gw c wr B (Py.wz l g)) := by rw [← hLe]; exact hw
      have hlt : ¬ ((n + 1 : Nat) : Int) < (n : Int) + 1 := by omega
      clear hw hco hL hLe
      go_wp2
      go_ret
      rw [HBB.out]
      exact ⟨rfl, HW.out, hbw⟩
end Go.Proofs.Ytmbjgakehghdjaa
