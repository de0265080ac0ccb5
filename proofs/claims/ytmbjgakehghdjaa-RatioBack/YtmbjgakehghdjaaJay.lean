/-
  OWN TEXT: package poly: Of, of lists of whole complex numbers.
-/
import Derived.Test.YtmbjgakehghdjaaJax
import Derived.Test.YtmbjgakehghdjaaJaw
namespace Go.Proofs.Ytmbjgakehghdjaa
open Go.ChangeShapes Go.WideShapes Go.ChangeAt Go.RowKit
set_option linter.unusedVariables false
attribute [local go_sem] frombits_call tobits_call run_neg run_store_cx
set_option maxHeartbeats 4000000 in
theorem withzero8 {c : Nat} (hc : c = 1074) {w : World} {b cap n x y A Z : Nat} {l : List Py.G} {g : Py.G} (hn : l.length = n + 1) (h64 : n ≤ 64) (h : Gl c w b 0 l) (hg : wC c x y g) (lg : Py.Le g Z) (hl : ∀ i, Py.Le (Py.co l i) A) (hA : A * (Z + 1) ≤ 9007199254740992) :
    Calls Try.prog 79 #[.slice (some ⟨b, 0, none⟩) (n + 1) cap, .complex .f64 x y] w fun e w' => e = .returned (.slice (some ⟨w.heap.size, 0, none⟩) (n + 1 + 1) (n + 1 + 1)) ∧ Gw c w' w.heap.size (Py.wz l g) ∧ Bw w w' := by
  have hmk := make_c ((n : Int) + 1 + 1) (n + 1 + 1) (by omega) (by omega)
  have hZA : Z * A + A ≤ 9007199254740992 := by rw [Nat.mul_add, Nat.mul_one, Nat.mul_comm] at hA; exact hA
  have G0 := hide (Gw.made c w (n + 1 + 1) 27)
  have b0 := bw_alloc w (.cells (zcC (n + 1 + 1)) 27)
  obtain ⟨x0, y0, e0, q0⟩ := h.2 0 (by omega)
  have e0' : (w.alloc (.cells (zcC (n + 1 + 1)) 27)).cell? ⟨b, 0, none⟩ = some (.complex .f64 x0 y0) := (Below.cell b0 (p := ⟨b, 0, none⟩) h.1).trans e0
  obtain ⟨p1, p2, q1, P⟩ := pmul8 hc hg q0 lg (hl 0) (by omega)
  obtain ⟨r, s, q2, NG⟩ := pneg8 q1
  have HP := hide P
  have HNG := hide NG
  have t0 : Hid (Py.gn (Py.gm g (Py.co l 0)) = Py.co (Py.wz l g) 0) := by
    show _ = _
    rw [Py.co_wz, Py.co_zero]
    exact Py.gext (by unfold Py.gn Py.gs; simp only; omega) (by unfold Py.gn Py.gs; simp only; omega)
  rw [t0.out] at q2
  have hbB : b < w.heap.size := h.1
  have G1 : Gw c ((w.alloc (.cells (zcC (n + 1 + 1)) 27)).setCell ⟨w.heap.size, 0, none⟩ (.complex .f64 r s)) w.heap.size ((List.replicate (n + 1 + 1) (0, 0)).set 0 (Py.co (Py.wz l g) 0)) := G0.out.set 0 r s _ (by simp) q2
  have b1 : Bw w ((w.alloc (.cells (zcC (n + 1 + 1)) 27)).setCell ⟨w.heap.size, 0, none⟩ (.complex .f64 r s)) := Below.setCell b0 (Nat.le_refl _) _
  obtain ⟨ux, uy, eu, qu⟩ := G0.out.1.2 0 (by simp)
  rw [Nat.zero_add] at eu
  have ef := G0.out.2 0
  obtain ⟨F, hF⟩ := (h.bw b1).words
  have hcp := copy_c (w := (w.alloc (.cells (zcC (n + 1 + 1)) 27)).setCell ⟨w.heap.size, 0, none⟩ (.complex .f64 r s)) (l := l) 1 (n + 1) (n + 1) cap (n + 1) F G1 (fun i hi => (hF i hi).1) hn (Nat.le_refl _) (by simp; omega)
  have G2 := Gw.lay (l := l) 1 F G1 (fun i hi => (hF i hi).2) (by simp; omega)
  have b2 := bw_setCells w.heap.size (Nat.le_refl _) (vsC F (n + 1)) 1 _ b1
  rw [hn] at G2
  have G3 : Hid (∃ L : List Py.G, L.length = n + 1 + 1 ∧ Gw c (((w.alloc (.cells (zcC (n + 1 + 1)) 27)).setCell ⟨w.heap.size, 0, none⟩ (.complex .f64 r s)).setCells w.heap.size 1 (vsC F (n + 1))) w.heap.size L ∧ ∀ t, Py.co L t = if t < 1 then Py.co (Py.wz l g) t else Py.co ((0, 0) :: l) t) := by
    refine ⟨_, by rw [lay_len]; simp, G2, fun t => ?_⟩
    rw [co_lay _ _ _ (by simp; omega)]
    by_cases z : t < 1
    · have : t = 0 := by omega
      subst this
      rw [if_neg (by omega), if_pos (by omega), Py.co_set _ _ _ _ (by simp), if_pos rfl]
    · obtain ⟨t', rfl⟩ : ∃ t', t = t' + 1 := ⟨t - 1, by omega⟩
      rw [if_neg z, Py.co_succ]
      by_cases z2 : t' < n + 1
      · rw [if_pos (by omega), Nat.add_sub_cancel]
      · rw [if_neg (by omega), Py.co_set _ _ _ _ (by simp), if_neg (by omega), co_rep, Py.co_out (by omega)]
  have HLL := hide hl
  have HGL := hide h
  have HGG := hide hg
  have HLG := hide lg
  have HN := hide hn
  have HC := hide hc
  clear P NG G2 G1 hF qu q2 q1 q0 G0 b0 b1 h hl hg lg hn hc e0 t0
  go_enter Try.func79, Try.ntmps79
  go_wp2_with fail
  generalize w.alloc (.cells (zcC (n + 1 + 1)) 27) = W at *
  generalize hB : w.heap.size = B at *
  have HBB := hide hB
  clear hB
  refine (HP.out _).mono ?_
  rintro e' w7 ⟨rfl, hw7⟩
  subst hw7
  go_wp2_with fail
  refine (HNG.out _).mono ?_
  rintro e' w7 ⟨rfl, hw7⟩
  subst hw7
  clear HP HNG
  generalize ((w7.setCell ⟨B, 0, none⟩ (.complex .f64 r s)).setCells B 1 (vsC F (n + 1))) = W2 at *
  go_wp2
  obtain ⟨L0, hL0, hG3, hT⟩ := G3.out
  have HG3 := hide hG3
  have HT := hide hT
  clear G3 hG3 hT hcp hmk eu ef e0'
  go_loopw [7] (fun q wr => ∃ (i : Nat) (L : List Py.G), 1 ≤ i ∧ i ≤ n + 1 ∧ q = .int .i64 i ∧ L.length = n + 1 + 1 ∧ Gw c wr B L ∧ (∀ t, Py.co L t = if t < i then Py.co (Py.wz l g) t else Py.co ((0, 0) :: l) t) ∧ Bw w wr) (fun q _ => n + 1 - (intOf q).toNat)
  case atStart => exact ⟨1, L0, Nat.le_refl _, by omega, rfl, hL0, HG3.out, HT.out, b2⟩
  case round =>
    obtain ⟨i, L, hi1, hi2, rfl, hL, hw, hco, hbw⟩ := hrel
    clear HG3 HT b2 hL0
    by_cases hi3 : i < n + 1
    · have hi4 : (i : Int) < (n : Int) + 1 := by omega
      have hi5 : (i : Int) < (n : Int) + 1 + 1 := by omega
      obtain ⟨x1, y1, e1, q1⟩ := hw.1.2 i (by omega)
      obtain ⟨x2, y2, e2, q2⟩ := (HGL.out.bw hbw).2 i (by have := HN.out; omega)
      have e3 := hw.2 i
      rw [Nat.zero_add] at e1 e2
      rw [hco i, if_neg (by omega)] at q1
      have l1 : Py.Le (Py.co ((0, 0) :: l) i) A := by
        cases i with
        | zero => exact Py.Le.nought _
        | succ i => exact HLL.out i
      obtain ⟨p3, p4, q3, P⟩ := pmul8 HC.out HGG.out q2 HLG.out (HLL.out i) (by omega)
      obtain ⟨r2, s2, q4, E⟩ := c_sub HC.out q1 q3 l1 (HLG.out.mul (HLL.out i)) (by omega)
      rw [← Py.co_wz] at q4
      have HP := hide P
      have R : Hid (Gw c (wr.drew.setCell ⟨B, i, none⟩ (.complex .f64 r2 s2)) B (L.set i (Py.co (Py.wz l g) i)) ∧ (∀ t, Py.co (L.set i (Py.co (Py.wz l g) i)) t = if t < i + 1 then Py.co (Py.wz l g) t else Py.co ((0, 0) :: l) t) ∧ Bw w (wr.drew.setCell ⟨B, i, none⟩ (.complex .f64 r2 s2))) := by
        have hwd : Gw c wr.drew B L := ⟨⟨hw.1.1, hw.1.2⟩, hw.2⟩
        refine ⟨hwd.set i r2 s2 _ (by omega) q4, fun t => ?_, Below.setCell hbw.drew (by have := HBB.out; show w.heap.size ≤ B; omega) _⟩
        rw [Py.co_set _ _ _ _ (by omega)]
        by_cases z : t = i
        · subst z; rw [if_pos rfl, if_pos (by omega)]
        · rw [if_neg z, hco t]
          by_cases z2 : t < i
          · rw [if_pos z2, if_pos (by omega)]
          · rw [if_neg z2, if_neg (by omega)]
      have HL1 := hide hL
      clear q1 q2 q3 q4 l1 P hw hco hbw hL
      go_wp2_with fail
      have S0 : wr.drew.cell? ⟨B, i, none⟩ = some (.complex .f64 x1 y1) ∧ wr.drew.cell? ⟨b, i, none⟩ = some (.complex .f64 x2 y2) ∧ wr.drew.frozen? ⟨B, i, none⟩ = false := ⟨e1, e2, e3⟩
      refine wp_region_K (fun w' => w'.cell? ⟨B, i, none⟩ = some (.complex .f64 x1 y1) ∧ w'.cell? ⟨b, i, none⟩ = some (.complex .f64 x2 y2) ∧ w'.frozen? ⟨B, i, none⟩ = false) 12 13 #[false, false, false, false, false, false, false, false, false, false, false, false, false] (by kernel_rfl) (by kernel_rfl) (by kernel_rfl) ?_
      refine wpAnyK_take 0 30 (v := ?v0) rfl (by kernel_rfl) (by kernel_rfl) (by kernel_rfl) (by kernel_rfl) (by kernel_rfl) (fun _ _ _ h => h) rfl (Or.inl ⟨by rfl, ?h0⟩) (by assumption) ?r0
      case h0 => (intro w hSw; go_simp; with_reducible rfl)
      simp only [Act.put, List.setIfInBounds_toArray, List.set_cons_zero, List.set_cons_succ]
      refine wpAnyK_take 1 31 (v := ?v1) rfl (by kernel_rfl) (by kernel_rfl) (by kernel_rfl) (by kernel_rfl) (by kernel_rfl) (fun _ _ _ h => h) rfl (Or.inl ⟨by rfl, ?h1⟩) (by assumption) ?r1
      case h1 => (intro w hSw; go_simp; with_reducible rfl)
      simp only [Act.put, List.setIfInBounds_toArray, List.set_cons_zero, List.set_cons_succ]
      refine wpAnyK_take 2 32 (v := ?v2) rfl (by kernel_rfl) (by kernel_rfl) (by kernel_rfl) (by kernel_rfl) (by kernel_rfl) (fun _ _ _ h => h) rfl (Or.inl ⟨by rfl, ?h2⟩) (by assumption) ?r2
      case h2 => (intro w hSw; go_simp; with_reducible rfl)
      simp only [Act.put, List.setIfInBounds_toArray, List.set_cons_zero, List.set_cons_succ]
      refine wpAnyK_take 3 33 (v := ?v3) rfl (by kernel_rfl) (by kernel_rfl) (by kernel_rfl) (by kernel_rfl) (by kernel_rfl) (fun _ _ _ h => h) rfl (Or.inl ⟨by rfl, ?h3⟩) (by assumption) ?r3
      case h3 => (intro w hSw; go_simp; with_reducible rfl)
      simp only [Act.put, List.setIfInBounds_toArray, List.set_cons_zero, List.set_cons_succ]
      refine wpAnyK_take 4 34 (v := ?v4) rfl (by kernel_rfl) (by kernel_rfl) (by kernel_rfl) (by kernel_rfl) (by kernel_rfl) (fun _ _ _ h => h) rfl (Or.inl ⟨by rfl, ?h4⟩) (by assumption) ?r4
      case h4 => (intro w hSw; go_simp; with_reducible rfl)
      simp only [Act.put, List.setIfInBounds_toArray, List.set_cons_zero, List.set_cons_succ]
      refine wpAnyK_take 5 35 (v := ?v5) rfl (by kernel_rfl) (by kernel_rfl) (by kernel_rfl) (by kernel_rfl) (by kernel_rfl) (fun _ _ _ h => h) rfl (Or.inl ⟨by rfl, ?h5⟩) (by assumption) ?r5
      case h5 => (intro w hSw; go_simp; with_reducible rfl)
      simp only [Act.put, List.setIfInBounds_toArray, List.set_cons_zero, List.set_cons_succ]
      refine wpAnyK_take 6 36 (v := ?v6) rfl (by kernel_rfl) (by kernel_rfl) (by kernel_rfl) (by kernel_rfl) (by kernel_rfl) (fun _ _ _ h => h) rfl (Or.inl ⟨by rfl, ?h6⟩) (by assumption) ?r6
      case h6 => (intro w hSw; go_simp; with_reducible rfl)
      simp only [Act.put, List.setIfInBounds_toArray, List.set_cons_zero, List.set_cons_succ]
      refine wpAnyK_take 7 37 (v := ?v7) rfl (by kernel_rfl) (by kernel_rfl) (by kernel_rfl) (by kernel_rfl) (by kernel_rfl) (fun _ _ _ h => h) rfl (Or.inl ⟨by rfl, ?h7⟩) (by assumption) ?r7
      case h7 => (intro w hSw; go_simp; with_reducible rfl)
      simp only [Act.put, List.setIfInBounds_toArray, List.set_cons_zero, List.set_cons_succ]
      refine wpAnyK_take 8 38 (v := ?v8) rfl (by kernel_rfl) (by kernel_rfl) (by kernel_rfl) (by kernel_rfl) (by kernel_rfl) (fun _ _ _ h => h) rfl (Or.inl ⟨by rfl, ?h8⟩) (by assumption) ?r8
      case h8 => (intro w hSw; go_simp; with_reducible rfl)
      simp only [Act.put, List.setIfInBounds_toArray, List.set_cons_zero, List.set_cons_succ]
      refine wpAnyK_one 9 (by kernel_rfl) rfl (fun K hK => ?_)
      go_simp
      go_wp2_with (go_at_call 23; refine (HP.out _).mono ?_; rintro e' w7 ⟨rfl, hw7⟩; subst hw7)
      refine hK.out _ _ (fun _ _ => S0) ?_
      clear hK K
      simp only [List.setIfInBounds_toArray, List.set_cons_zero, List.set_cons_succ]
      refine wpAnyK_take 10 40 (v := ?v10) rfl (by kernel_rfl) (by kernel_rfl) (by kernel_rfl) (by kernel_rfl) (by kernel_rfl) (fun _ _ _ h => h) rfl (Or.inl ⟨by rfl, ?h10⟩) (by assumption) ?r10
      case h10 => (intro w hSw; go_simp; with_reducible rfl)
      simp only [Act.put, List.setIfInBounds_toArray, List.set_cons_zero, List.set_cons_succ]
      refine wpAnyK_take 11 41 (v := ?v11) rfl (by kernel_rfl) (by kernel_rfl) (by kernel_rfl) (by kernel_rfl) (by kernel_rfl) (fun _ _ _ h => h) rfl (Or.inl ⟨by rfl, ?h11⟩) (by assumption) ?r11
      case h11 => (intro w hSw; go_simp; with_reducible rfl)
      simp only [Act.put, List.setIfInBounds_toArray, List.set_cons_zero, List.set_cons_succ]
      refine wpAnyK_one 12 (by kernel_rfl) rfl (fun K hK => ?_)
      go_simp
      refine hK.out _ _ (fun h => absurd rfl h) ?_
      clear hK K
      simp only [List.setIfInBounds_toArray, List.set_cons_zero, List.set_cons_succ]
      refine wpAnyK_done (by kernel_rfl) ?_ _
      clear S0 e1 e2 e3 HP
      go_wp2
      go_roundw
      case rel => exact ⟨i + 1, _, by omega, by omega, by simp, by rw [List.length_set]; exact HL1.out, R.out.1, R.out.2.1, R.out.2.2⟩
      case measure => simp [intOf]; omega
    · have hi4 : i = n + 1 := by omega
      subst hi4
      have hLe : L = Py.wz l g := Py.list_ext (by rw [Py.wz_len, HN.out, hL]) (fun t ht => by
        rw [hco t]
        by_cases z : t < n + 1
        · rw [if_pos z]
        · have : t = n + 1 := by omega
          subst this
          rw [if_neg (by omega), Py.co_wz, Py.co_out (l := l) (i := n + 1) (by have := HN.out; omega), Py.gm_nought]
          exact Py.gext (by unfold Py.gs; simp only; omega) (by unfold Py.gs; simp only; omega))
      have HW : Hid (Gw c wr B (Py.wz l g)) := by rw [← hLe]; exact hw
      have hlt : ¬ ((n + 1 : Nat) : Int) < (n : Int) + 1 := by omega
      clear hw hco hL hLe
      go_wp2
      go_ret
      rw [HBB.out]
      exact ⟨rfl, HW.out, hbw⟩
end Go.Proofs.Ytmbjgakehghdjaa
/-
  OWN TEXT: package poly: Of, of lists of whole complex numbers.
-/
namespace Go.Proofs.Ytmbjgakehghdjaa
open Go.ChangeShapes Go.WideShapes Go.ChangeAt Go.RowKit
set_option linter.unusedVariables false
attribute [local go_sem] frombits_call tobits_call run_neg run_store_cx
theorem one_le (i A : Nat) (h : 1 ≤ A) : Py.Le (Py.co [(1, 0)] i) A := by
  refine Py.Le.mono (M := 1) ?_ h
  cases i with
  | zero => show (1 : Int) * 1 + 0 * 0 ≤ _; decide
  | succ i => exact Py.Le.nought _
set_option maxHeartbeats 4000000 in
theorem of8 {c : Nat} (hc : c = 1074) {w : World} {b o cap m Z : Nat} {zs : List Py.G} (hn : zs.length = m) (h64 : m ≤ 64) (h : Gl c w b o zs) (hz : ∀ i, Py.Le (Py.co zs i) Z) (hZ : Z ≤ 1099511627776) (hA : (Z + 1) ^ m ≤ 1099511627776) :
    Calls Try.prog 66 #[.slice (some ⟨b, o, none⟩) m cap] w fun e w' => Ans c w w' e (m + 1) (Py.co (Py.ofl [(1, 0)] zs)) := by
  have C := hide (places8 (cap := cap) hc m hn (by omega) h (fun i _ => (hz i).mono hZ))
  have t1 : ¬ 64 < (m : Int) := by omega
  have HN := hide hn
  have HZ := hide hz
  have HG := hide h
  have HA := hide hA
  have HC := hide hc
  clear h hz hn hA hc
  go_enter Try.func66, Try.ntmps66
  go_wp2_with fail
  refine C.out.mono ?_
  rintro e' w1 ⟨rfl, b1⟩
  clear C
  go_wp2
  have G0 : Hid (Gl c (w1.alloc (.cells #[.complex .f64 4607182418800017408 0] 27)) w1.heap.size 0 [(1, 0)]) := by
    refine ⟨by simp, fun i hi => ?_⟩
    match i, hi with
    | 0, _ => exact ⟨4607182418800017408, 0, by simp, wC.one HC.out⟩
  have hB : w.heap.size ≤ w1.heap.size := Below.size b1
  have b2 := bw_trans b1 (bw_alloc w1 (.cells #[.complex .f64 4607182418800017408 0] 27))
  generalize w1.alloc (.cells #[.complex .f64 4607182418800017408 0] 27) = W at *
  generalize w1.heap.size = B0 at *
  go_loopw [4, 16] (fun p q wr => ∃ (k B : Nat), k ≤ m ∧ q = .int .i64 k ∧ p = .slice (some ⟨B, 0, none⟩) (k + 1) (k + 1) ∧ Gl c wr B 0 (Py.ofl [(1, 0)] (zs.take k)) ∧ w.heap.size ≤ B ∧ Bw w wr) (fun _ q _ => m - (intOf q).toNat)
  case atStart => exact ⟨0, B0, Nat.zero_le _, rfl, rfl, G0.out, hB, b2⟩
  case round =>
    obtain ⟨k, B, hk, rfl, rfl, hG, hB1, hbw⟩ := hrel
    clear G0 b2 hB
    have hlen : (Py.ofl [(1, 0)] (zs.take k)).length = k + 1 := by
      rw [Py.ofl_len, List.length_take]; have := HN.out; simp only [List.length_cons, List.length_nil]; omega
    have hle : ∀ i, Py.Le (Py.co (Py.ofl [(1, 0)] (zs.take k)) i) ((Z + 1) ^ k) := fun i => by
      have := Py.ofl_le (p := [(1, 0)]) (zs := zs.take k) (A := 1) (Z := Z) (fun i => one_le i 1 (Nat.le_refl _)) (fun z hz => by
        obtain ⟨i, hi, rfl⟩ := List.getElem_of_mem hz
        have h1 := HZ.out i
        rw [List.length_take] at hi
        have h2 : Py.co zs i = zs[i] := by simp [Py.co, List.getD, show i < zs.length by omega]
        rw [h2] at h1
        rw [List.getElem_take]
        exact h1) i
      rw [Nat.one_mul, List.length_take, Nat.min_eq_left (by have := HN.out; omega)] at this
      exact this
    by_cases hk1 : k < m
    · have hk2 : (k : Int) < m := by omega
      obtain ⟨x, y, e, q⟩ := (HG.out.bw hbw).2 k (by have := HN.out; omega)
      have hpow : (Z + 1) ^ k * (Z + 1) ≤ 1099511627776 := by
        rw [← Nat.pow_succ]
        exact Nat.le_trans (Nat.pow_le_pow_right (by omega) (by omega)) HA.out
      have WZ := hide (withzero8 (cap := k + 1) HC.out hlen (by omega) hG q (HZ.out k) hle (by omega))
      have hnext : Py.wz (Py.ofl [(1, 0)] (zs.take k)) (Py.co zs k) = Py.ofl [(1, 0)] (zs.take (k + 1)) := by
        have hkz : k < zs.length := by have := HN.out; omega
        rw [List.take_succ_eq_append_getElem hkz, Py.ofl_snoc]
        congr 1
        simp [Py.co, List.getD, hkz]
      have HNX := hide hnext
      clear q hlen hle hG hnext hpow
      go_wp2_with fail
      refine WZ.out.mono ?_
      rintro e' w2 ⟨rfl, hw2, b2⟩
      have R : Hid (Gl c w2 wr.heap.size 0 (Py.ofl [(1, 0)] (zs.take (k + 1))) ∧ w.heap.size ≤ wr.heap.size ∧ Bw w w2) := by
        refine ⟨?_, Below.size hbw, bw_trans hbw b2⟩
        rw [← HNX.out]; exact hw2.1
      clear WZ hw2 b2 hbw HNX e
      generalize wr.heap.size = B2 at *
      go_wp2
      go_roundw
      case rel => exact ⟨k + 1, B2, by omega, by simp, rfl, R.out.1, R.out.2.1, R.out.2.2⟩
      case measure => simp [intOf]; omega
    · have hk3 : k = m := by omega
      subst hk3
      have ht : zs.take k = zs := List.take_of_length_le (by have := HN.out; omega)
      rw [ht] at hG hlen hle
      have H2 : Hid (∀ i, Py.Le (Py.co (Py.ofl [(1, 0)] zs) i) 1099511627776) := fun i => (hle i).mono HA.out
      have HW := hide hG
      have HLL := hide hlen
      clear hG hlen hle ht
      go_wp2_with fail
      refine (answered8 HC.out (k + 1) HLL.out (by omega) (by omega) (Nat.le_refl _) HW.out H2.out).mono ?_
      rintro e' w3 ⟨rfl, b3⟩
      have AA := hide (Ans.of HLL.out (by omega) (by omega) (HW.out.bw b3) hB1 (bw_trans hbw b3) H2.out)
      clear HW H2 HLL
      generalize Py.tl (Py.ofl [(1, 0)] zs) (k + 1) = tt at *
      go_wp2
      go_ret2
      exact AA.out
end Go.Proofs.Ytmbjgakehghdjaa
/-
  OWN TEXT: package poly: a product divided by one of its factors, of lists of whole complex numbers.
-/
namespace Go.Proofs.Ytmbjgakehghdjaa
open Go.ChangeShapes Go.WideShapes Go.ChangeAt Go.RowKit
set_option linter.unusedVariables false
attribute [local go_sem] frombits_call tobits_call run_neg run_store_cx
theorem Gw.bw {c : Nat} {w w' : World} {B : Nat} {l : List Py.G} (h : Gw c w B l) (k : Bw w w') : Gw c w' B l :=
  ⟨h.1.bw k, fun i => (Below.frozen k (p := ⟨B, i, none⟩) h.1.1).trans (h.2 i)⟩
theorem Gw.drew {c : Nat} {w : World} {B : Nat} {l : List Py.G} (h : Gw c w B l) : Gw c w.drew B l := ⟨⟨h.1.1, h.1.2⟩, h.2⟩
theorem Gl.other {c : Nat} {w : World} {b o : Nat} {l : List Py.G} (h : Gl c w b o l) (B i : Nat) (v : Value) (hne : b ≠ B) : Gl c (w.setCell ⟨B, i, none⟩ v) b o l := by
  refine ⟨by simpa [World.setCell] using h.1, fun j hj => ?_⟩
  obtain ⟨x, y, e, q⟩ := h.2 j hj
  refine ⟨x, y, ?_, q⟩
  rw [World.cell?_setCell_other]
  · exact e
  · intro e'; cases e'; exact hne rfl
theorem Gw.other {c : Nat} {w : World} {b : Nat} {l : List Py.G} (h : Gw c w b l) (B i : Nat) (v : Value) (hne : b ≠ B) : Gw c (w.setCell ⟨B, i, none⟩ v) b l :=
  ⟨h.1.other B i v hne, fun j => (World.frozen?_setCell _ _ _ _).trans (h.2 j)⟩
end Go.Proofs.Ytmbjgakehghdjaa
