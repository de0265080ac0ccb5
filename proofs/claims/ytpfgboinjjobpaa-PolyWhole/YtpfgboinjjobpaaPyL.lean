/-
  OWN TEXT: package poly: Shift, of lists of whole complex numbers.
-/
import Derived.Test.YtpfgboinjjobpaaPyK
import Derived.Test.YtpfgboinjjobpaaBhL
namespace Go.Proofs.Ytpfgboinjjobpaa
open Go.ChangeShapes Go.WideShapes Go.ChangeAt Go.RowKit
set_option linter.unusedVariables false
attribute [local go_sem] frombits_call tobits_call run_neg run_store_cx
set_option maxHeartbeats 4000000 in
theorem shift8 {c : Nat} (hc : c = 1074) {w : World} {b o cap n x y M Z : Nat} {l : List Py.G} {g : Py.G} (hm : May n l) (h : Gl c w b o l) (hg : wC c x y g) (lg : Py.Le g Z) (hZ : Z ≤ 1099511627776) (hM : ∀ j, j ≤ n → ∀ i, Py.Le (Py.co (Py.shs g l j) i) M) (hM1 : M ≤ 1099511627776) (hM2 : M * Z + M ≤ 9007199254740992) :
    Calls Try.prog 10 #[.slice (some ⟨b, o, none⟩) (n + 1) cap, .complex .f64 x y] w fun e w' => Ans c w w' e (n + 1) (Py.co (Py.shs g l n)) := by
  have C := hide (checkwith8 (cap := cap) hc hm h hg (lg.mono hZ))
  have CP : Hid (∀ wz, Bw w wz → Calls Try.prog 26 #[.slice (some ⟨b, o, none⟩) (n + 1) cap] wz fun e w' => e = .returned (.slice (some ⟨wz.heap.size, 0, none⟩) (n + 1) (n + 1)) ∧ Gw c w' wz.heap.size l ∧ Bw wz w') := fun wz hz => copied8 (n + 1) hm.1 (by have := hm.2.1; omega) (h.bw hz)
  have hn64 := hm.2.1
  have HN := hide hm.1
  have HM := hide hM
  have HG := hide hg
  have HLG := hide lg
  have HC := hide hc
  clear hm h hg hM lg hc
  go_enter Try.func10, Try.ntmps10
  go_wp2_with fail
  refine C.out.mono ?_
  rintro e' w1 ⟨rfl, b1⟩
  clear C
  go_wp2_with fail
  refine (CP.out _ b1).mono ?_
  rintro e' w2 ⟨rfl, hw2, b2⟩
  replace b2 := bw_trans b1 b2
  have hB : w.heap.size ≤ w1.heap.size := Below.size b1
  have HW := hide hw2
  generalize w1.heap.size = B at *
  clear CP hw2 b1
  go_wp2
  go_loopw [23] (fun q wr => ∃ (j : Nat) (L : List Py.G), j ≤ n ∧ q = .int .i64 j ∧ L.length = n + 1 ∧ Gw c wr B L ∧ (∀ i, Py.co L i = Py.co (Py.shs g l j) i) ∧ Bw w wr) (fun q _ => n - (intOf q).toNat)
  case atStart => exact ⟨0, l, Nat.zero_le _, rfl, HN.out, HW.out, fun i => rfl, b2⟩
  case round =>
    obtain ⟨j, L, hj, rfl, hL, hw, hco, hbw⟩ := hrel
    clear HW b2
    by_cases hj1 : j < n
    · have hj2 : (j : Int) < n := by omega
      have HL0 := hide hL
      have HW0 := hide hw
      have HCO := hide hco
      have HB0 := hide hbw
      clear hL hw hco hbw
      go_wp2
      go_loopw [10] (fun q wr => ∃ (k : Nat) (L : List Py.G), j ≤ k ∧ k ≤ n ∧ q = .int .i64 ((k : Int) - 1) ∧ L.length = n + 1 ∧ Gw c wr B L ∧ (∀ i, Py.co L i = if k ≤ i then Py.co (Py.shs g l (j + 1)) i else Py.co (Py.shs g l j) i) ∧ Bw w wr) (fun q _ => (intOf q + 1).toNat)
      case atStart =>
        refine ⟨n, L, by omega, Nat.le_refl _, rfl, HL0.out, HW0.out, fun i => ?_, HB0.out⟩
        rw [HCO.out i]
        by_cases z : n ≤ i
        · rw [if_pos z]
          by_cases z2 : i = n
          · subst z2
            rw [Py.shs, Py.co_pass _ _ _ _ (by omega) (by rw [Py.shs_len]; have := HN.out; omega), Py.co_out (i := i + 1) (by rw [Py.pass_len, Py.shs_len]; have := HN.out; omega), Py.nought_gm, Py.ga_nought]
          · rw [Py.co_out (by rw [Py.shs_len]; have := HN.out; omega), Py.co_out (by rw [Py.shs_len]; have := HN.out; omega)]
        · rw [if_neg z]
      case round =>
        obtain ⟨k, L, hjk, hk, rfl, hL, hw, hco, hbw⟩ := hrel
        clear HW0 HCO HB0 HL0
        by_cases hk1 : j < k
        · obtain ⟨i, rfl⟩ : ∃ i, k = i + 1 := ⟨k - 1, by omega⟩
          rw [show (((i + 1 : Nat) : Int) - 1) = (i : Int) by omega]
          obtain ⟨i1, hi1⟩ : ∃ i1, i1 = i + 1 := ⟨_, rfl⟩
          have hs : (i : Int) + 1 = (i1 : Int) := by omega
          have hge : (j : Int) ≤ i := by omega
          have hin : (i : Int) < (n : Int) + 1 := by omega
          have hin1 : (i1 : Int) < (n : Int) + 1 := by omega
          obtain ⟨x1, y1, e1, q1⟩ := hw.1.2 i (by omega)
          obtain ⟨x2, y2, e2, q2⟩ := hw.1.2 i1 (by omega)
          have e3 := hw.2 i
          rw [Nat.zero_add] at e1 e2
          rw [hco i, if_neg (by omega)] at q1
          rw [hco i1, if_pos (by omega)] at q2
          have l1 := HM.out j (by omega) i
          have l2 := HM.out (j + 1) (by omega) i1
          obtain ⟨p1, p2, q3, P⟩ := pmul8 HC.out q2 HG.out l2 HLG.out (by omega)
          obtain ⟨r, s, q4, E⟩ := c_add HC.out q1 q3 l1 (l2.mul HLG.out) (by omega)
          have hnew : Py.ga (Py.co (Py.shs g l j) i) (Py.gm (Py.co (Py.shs g l (j + 1)) i1) g) = Py.co (Py.shs g l (j + 1)) i := by
            rw [hi1, Py.shs, ← Py.co_pass _ _ _ _ (by omega) (by rw [Py.shs_len]; have := HN.out; omega)]
          rw [hnew] at q4
          have HP := hide P
          have R : Hid (Gw c (wr.drew.setCell ⟨B, i, none⟩ (.complex .f64 r s)) B (L.set i (Py.co (Py.shs g l (j + 1)) i)) ∧ (∀ t, Py.co (L.set i (Py.co (Py.shs g l (j + 1)) i)) t = if i ≤ t then Py.co (Py.shs g l (j + 1)) t else Py.co (Py.shs g l j) t) ∧ Bw w (wr.drew.setCell ⟨B, i, none⟩ (.complex .f64 r s))) := by
            have hwd : Gw c wr.drew B L := ⟨⟨hw.1.1, hw.1.2⟩, hw.2⟩
            refine ⟨hwd.set i r s _ (by omega) q4, fun t => ?_, Below.setCell hbw.drew hB _⟩
            rw [Py.co_set _ _ _ _ (by omega)]
            by_cases z : t = i
            · subst z; rw [if_pos rfl, if_pos (by omega)]
            · rw [if_neg z, hco t]
              by_cases z2 : i + 1 ≤ t
              · rw [if_pos z2, if_pos (by omega)]
              · rw [if_neg z2, if_neg (by omega)]
          have HLL := hide hL
          have HI1 := hide hi1
          clear q1 q2 q3 q4 l1 l2 P hw hco hbw hL hnew hi1
          go_wp2_with fail
          have wg : IntKind.i64.wrap (i1 : Int) = i1 := wrap_small i1 (by omega)
          have S0 : wr.drew.cell? ⟨B, i, none⟩ = some (.complex .f64 x1 y1) ∧ wr.drew.cell? ⟨B, i1, none⟩ = some (.complex .f64 x2 y2) ∧ wr.drew.frozen? ⟨B, i, none⟩ = false := ⟨e1, e2, e3⟩
          refine wp_region_K (fun w' => w'.cell? ⟨B, i, none⟩ = some (.complex .f64 x1 y1) ∧ w'.cell? ⟨B, i1, none⟩ = some (.complex .f64 x2 y2) ∧ w'.frozen? ⟨B, i, none⟩ = false) 13 14 #[false, false, false, false, false, false, false, false, false, false, false, false, false, false] (by kernel_rfl) (by kernel_rfl) (by kernel_rfl) ?_
          refine wpAnyK_take 0 33 (v := ?v0) rfl (by kernel_rfl) (by kernel_rfl) (by kernel_rfl) (by kernel_rfl) (by kernel_rfl) (fun _ _ _ h => h) rfl (Or.inl ⟨by rfl, ?h0⟩) (by assumption) ?r0
          case h0 => (intro w hSw; go_simp; with_reducible rfl)
          simp only [Act.put, List.setIfInBounds_toArray, List.set_cons_zero, List.set_cons_succ]
          refine wpAnyK_take 1 34 (v := ?v1) rfl (by kernel_rfl) (by kernel_rfl) (by kernel_rfl) (by kernel_rfl) (by kernel_rfl) (fun _ _ _ h => h) rfl (Or.inl ⟨by rfl, ?h1⟩) (by assumption) ?r1
          case h1 => (intro w hSw; go_simp; with_reducible rfl)
          simp only [Act.put, List.setIfInBounds_toArray, List.set_cons_zero, List.set_cons_succ]
          refine wpAnyK_take 2 35 (v := ?v2) rfl (by kernel_rfl) (by kernel_rfl) (by kernel_rfl) (by kernel_rfl) (by kernel_rfl) (fun _ _ _ h => h) rfl (Or.inl ⟨by rfl, ?h2⟩) (by assumption) ?r2
          case h2 => (intro w hSw; go_simp; with_reducible rfl)
          simp only [Act.put, List.setIfInBounds_toArray, List.set_cons_zero, List.set_cons_succ]
          refine wpAnyK_take 3 36 (v := ?v3) rfl (by kernel_rfl) (by kernel_rfl) (by kernel_rfl) (by kernel_rfl) (by kernel_rfl) (fun _ _ _ h => h) rfl (Or.inl ⟨by rfl, ?h3⟩) (by assumption) ?r3
          case h3 => (intro w hSw; go_simp; with_reducible rfl)
          simp only [Act.put, List.setIfInBounds_toArray, List.set_cons_zero, List.set_cons_succ]
          refine wpAnyK_take 4 37 (v := ?v4) rfl (by kernel_rfl) (by kernel_rfl) (by kernel_rfl) (by kernel_rfl) (by kernel_rfl) (fun _ _ _ h => h) rfl (Or.inl ⟨by rfl, ?h4⟩) (by assumption) ?r4
          case h4 => (intro w hSw; go_simp; with_reducible rfl)
          simp only [Act.put, List.setIfInBounds_toArray, List.set_cons_zero, List.set_cons_succ]
          refine wpAnyK_take 5 38 (v := ?v5) rfl (by kernel_rfl) (by kernel_rfl) (by kernel_rfl) (by kernel_rfl) (by kernel_rfl) (fun _ _ _ h => h) rfl (Or.inl ⟨by rfl, ?h5⟩) (by assumption) ?r5
          case h5 => (intro w hSw; go_simp; with_reducible rfl)
          simp only [Act.put, List.setIfInBounds_toArray, List.set_cons_zero, List.set_cons_succ]
          refine wpAnyK_take 6 39 (v := ?v6) rfl (by kernel_rfl) (by kernel_rfl) (by kernel_rfl) (by kernel_rfl) (by kernel_rfl) (fun _ _ _ h => h) rfl (Or.inl ⟨by rfl, ?h6⟩) (by assumption) ?r6
          case h6 => (intro w hSw; go_simp; with_reducible rfl)
          simp only [Act.put, List.setIfInBounds_toArray, List.set_cons_zero, List.set_cons_succ]
          refine wpAnyK_take 7 40 (v := ?v7) rfl (by kernel_rfl) (by kernel_rfl) (by kernel_rfl) (by kernel_rfl) (by kernel_rfl) (fun _ _ _ h => h) rfl (Or.inl ⟨by rfl, ?h7⟩) (by assumption) ?r7
          case h7 => (intro w hSw; go_simp; with_reducible rfl)
          simp only [Act.put, List.setIfInBounds_toArray, List.set_cons_zero, List.set_cons_succ]
          refine wpAnyK_take 8 41 (v := ?v8) rfl (by kernel_rfl) (by kernel_rfl) (by kernel_rfl) (by kernel_rfl) (by kernel_rfl) (fun _ _ _ h => h) rfl (Or.inl ⟨by rfl, ?h8⟩) (by assumption) ?r8
          case h8 => (intro w hSw; go_simp; with_reducible rfl)
          simp only [Act.put, List.setIfInBounds_toArray, List.set_cons_zero, List.set_cons_succ]
          refine wpAnyK_take 9 42 (v := ?v9) rfl (by kernel_rfl) (by kernel_rfl) (by kernel_rfl) (by kernel_rfl) (by kernel_rfl) (fun _ _ _ h => h) rfl (Or.inl ⟨by rfl, ?h9⟩) (by assumption) ?r9
          case h9 => (intro w hSw; go_simp; with_reducible rfl)
          simp only [Act.put, List.setIfInBounds_toArray, List.set_cons_zero, List.set_cons_succ]
          refine wpAnyK_one 10 (by kernel_rfl) rfl (fun K hK => ?_)
          go_simp
          go_wp2_with (go_at_call 14; refine (HP.out _).mono ?_; rintro e' w7 ⟨rfl, hw7⟩; subst hw7)
          refine hK.out _ _ (fun _ _ => S0) ?_
          clear hK K
          simp only [List.setIfInBounds_toArray, List.set_cons_zero, List.set_cons_succ]
          refine wpAnyK_take 11 44 (v := ?v11) rfl (by kernel_rfl) (by kernel_rfl) (by kernel_rfl) (by kernel_rfl) (by kernel_rfl) (fun _ _ _ h => h) rfl (Or.inl ⟨by rfl, ?h11⟩) (by assumption) ?r11
          case h11 => (intro w hSw; go_simp; with_reducible rfl)
          simp only [Act.put, List.setIfInBounds_toArray, List.set_cons_zero, List.set_cons_succ]
          refine wpAnyK_take 12 45 (v := ?v12) rfl (by kernel_rfl) (by kernel_rfl) (by kernel_rfl) (by kernel_rfl) (by kernel_rfl) (fun _ _ _ h => h) rfl (Or.inl ⟨by rfl, ?h12⟩) (by assumption) ?r12
          case h12 => (intro w hSw; go_simp; with_reducible rfl)
          simp only [Act.put, List.setIfInBounds_toArray, List.set_cons_zero, List.set_cons_succ]
          refine wpAnyK_one 13 (by kernel_rfl) rfl (fun K hK => ?_)
          go_simp
          refine hK.out _ _ (fun h => absurd rfl h) ?_
          clear hK K
          simp only [List.setIfInBounds_toArray, List.set_cons_zero, List.set_cons_succ]
          refine wpAnyK_done (by kernel_rfl) ?_ _
          clear S0 e1 e2 e3 HP wg hs
          go_wp2
          go_roundw
          case rel => exact ⟨i, _, by omega, by omega, rfl, by rw [List.length_set]; exact HLL.out, R.out.1, R.out.2.1, R.out.2.2⟩
          case measure => simp [intOf]; try omega
        · have hk2 : k = j := by omega
          subst hk2
          have R : Hid (∀ i, Py.co L i = Py.co (Py.shs g l (k + 1)) i) := fun i => by
            rw [hco i]
            by_cases z : k ≤ i
            · rw [if_pos z]
            · rw [if_neg z, Py.shs, Py.co_pass_low _ _ _ _ (by omega)]
          have HLL := hide hL
          have HW := hide hw
          clear hco hL hw
          have hlt : ¬ (k : Int) ≤ (k : Int) - 1 := by omega
          go_wp2
          go_roundw
          case rel => exact ⟨k + 1, L, by omega, by simp, HLL.out, HW.out, R.out, hbw⟩
          case measure => simp [intOf]; omega
    · have hj3 : j = n := by omega
      subst hj3
      have H2 : Hid (∀ i, Py.Le (Py.co L i) 1099511627776) := fun i => by rw [hco]; exact (HM.out j (Nat.le_refl _) i).mono hM1
      have HF := hide hco
      have HW := hide hw
      have HLL := hide hL
      clear hco hw hL HM
      go_wp2_with fail
      refine (answered8 HC.out (j + 1) HLL.out (by omega) (by omega) (Nat.le_refl _) HW.out.1 H2.out).mono ?_
      rintro e' w3 ⟨rfl, b3⟩
      have A9 := Ans.of HLL.out (by omega) (by omega) (HW.out.1.bw b3) hB (bw_trans hbw b3) H2.out
      have AA : Hid (Ans c w w3 (.returned (.tuple #[.slice (some ⟨B, 0, none⟩) (Py.tl L (j + 1)) (Py.tl L (j + 1)), .int .i64 0])) (j + 1) (Py.co (Py.shs g l j))) := by
        obtain ⟨B', m, l9, z1, z2, z3, z4, z5, z6, z7⟩ := A9
        exact ⟨B', m, l9, z1, z2, z3, z4, z5, z6, fun i => (z7 i).trans (HF.out i)⟩
      clear A9 HW H2 HF HLL
      generalize Py.tl L (j + 1) = tt at *
      go_wp2
      go_ret2
      exact AA.out
end Go.Proofs.Ytpfgboinjjobpaa
