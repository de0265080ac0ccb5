/-
  OWN TEXT: package poly: a product divided by one of its factors, of lists of whole complex numbers.
-/
import Derived.Test.YtpfgboinjjobpaaPyN
import Derived.Test.YtpfgboinjjobpaaBhL
namespace Go.Proofs.Ytpfgboinjjobpaa
open Go.ChangeShapes Go.WideShapes Go.ChangeAt Go.RowKit
set_option linter.unusedVariables false
attribute [local go_sem] frombits_call tobits_call run_neg run_store_cx
theorem Gw.bw {c : Nat} {w w' : World} {B : Nat} {l : List Py.G} (h : Gw c w B l) (k : Bw w w') : Gw c w' B l :=
  ⟨h.1.bw k, fun i => (Below.frozen k (p := ⟨B, i, none⟩) h.1.1).trans (h.2 i)⟩
theorem Gw.drew {c : Nat} {w : World} {B : Nat} {l : List Py.G} (h : Gw c w B l) : Gw c w.drew B l := ⟨⟨h.1.1, h.1.2⟩, h.2⟩
theorem Gl.other {c : Nat} {w : World} {b o : Nat} {l : List Py.G} (h : Gl c w b o l) (B i : Nat) (v : Value) (hne : b ≠ B) : Gl c (w.setCell ⟨B, i, none⟩ v) b o l := by
  refine ⟨by simpa [World.setCell] using h.1, fun j hj => ?_⟩
  obtain ⟨x, y, e, q⟩ := h.2 j hj
  refine ⟨x, y, ?_, q⟩
  rw [World.cell?_setCell_other]
  · exact e
  · intro e'; cases e'; exact hne rfl
theorem Gw.other {c : Nat} {w : World} {b : Nat} {l : List Py.G} (h : Gw c w b l) (B i : Nat) (v : Value) (hne : b ≠ B) : Gw c (w.setCell ⟨B, i, none⟩ v) b l :=
  ⟨h.1.other B i v hne, fun j => (World.frozen?_setCell _ _ _ _).trans (h.2 j)⟩
set_option maxHeartbeats 4000000 in
theorem divided8 {c : Nat} (hc : c = 1074) {w : World} {b o cap n b' o' cap' m A A' : Nat} {p a l' : List Py.G} (hp : p.length = n + m + 1) (ha : a.length = n + 1) (hl'n : l'.length = m + 1) (h : Gl c w b o p) (h' : Gl c w b' o' l') (hco : ∀ j, Py.co p j = Py.ts a l' j (n + 1)) (h1 : Py.co l' m = (1, 0)) (hl : ∀ i, Py.Le (Py.co a i) A) (hl' : ∀ i, Py.Le (Py.co l' i) A') (hA : (n + 1) * (A * A') + A * A' + A ≤ 1099511627776) (h64 : n + m ≤ 64) (hcap : m + 1 ≤ cap') :
    Calls Try.prog 35 #[.slice (some ⟨b, o, none⟩) (n + m + 1) cap, .slice (some ⟨b', o', none⟩) (m + 1) cap'] w fun e w' => ∃ Q R r cr Lr, e = .returned (.tuple #[.slice (some ⟨Q, 0, none⟩) (n + 1) (n + 1), .slice (some ⟨R, 0, none⟩) r cr]) ∧ Gl c w' Q 0 a ∧ Gl c w' R 0 Lr ∧ Lr.length = r ∧ 0 < r ∧ r ≤ 65 ∧ r ≤ cr ∧ (∀ i, Py.co Lr i = (0, 0)) ∧ Bw w w' ∧ w.heap.size ≤ Q ∧ w.heap.size ≤ R := by
  have CP := hide (copied8 (cap := cap) (n + m + 1) hp (by omega) h)
  have hmk := make_c ((n : Int) + m + 1 - m) (n + 1) (by omega) (by omega)
  have HP := hide hp
  have HA0 := hide ha
  have HN' := hide hl'n
  have HG := hide h
  have HG' := hide h'
  have HCO := hide hco
  have H1 := hide h1
  have HL := hide hl
  have HL' := hide hl'
  have HA := hide hA
  have HC := hide hc
  clear hp ha hl'n h h' hco h1 hl hl' hA hc
  go_enter Try.func35, Try.ntmps35
  go_wp2_with fail
  refine CP.out.mono ?_
  rintro e' w1 ⟨rfl, hw1, b1⟩
  have HW1 := hide hw1
  clear CP hw1
  go_wp2
  have G0 := hide (Gw.made c w1 (n + 1) 26)
  have b2 := bw_trans b1 (bw_alloc w1 (.cells (zcC (n + 1)) 26))
  have HL0 : Hid (Gw c (w1.alloc (.cells (zcC (n + 1)) 26)) w.heap.size p) := HW1.out.bw (bw_alloc _ _)
  have hne : w.heap.size < w1.heap.size := HW1.out.1.1
  have hBL : w.heap.size ≤ w.heap.size := Nat.le_refl _
  have hBQ : w.heap.size ≤ w1.heap.size := by omega
  clear HW1 hmk b1
  generalize w1.alloc (.cells (zcC (n + 1)) 26) = W at *
  generalize w1.heap.size = BQ at *
  generalize hBLe : w.heap.size = BL at hne hBL G0 HL0 ⊢
  have HBL : Hid (w.heap.size ≤ BL) := by show w.heap.size ≤ BL; omega
  have HBQ := hide hBQ
  have HNE : Hid (BL ≠ BQ) := by show BL ≠ BQ; omega
  clear hne hBL hBQ hBLe
  go_loopw [8] (fun v wr => ∃ (K : Nat) (Ll Lq : List Py.G), K ≤ n + 1 ∧ v = .int .i64 ((K : Int) - 1) ∧ Ll.length = n + m + 1 ∧ Lq.length = n + 1 ∧ Gw c wr BL Ll ∧ Gw c wr BQ Lq ∧ (∀ j, j < K + m → Py.co Ll j = Py.ts a l' j K) ∧ (∀ j, K ≤ j → Py.co Lq j = Py.co a j) ∧ Bw w wr) (fun v _ => (intOf v + 1).toNat)
  case atStart => exact ⟨n + 1, p, _, Nat.le_refl _, by simp; try omega, HP.out, by simp, HL0.out, G0.out, fun j _ => HCO.out j, fun j hj => by rw [co_rep, Py.co_out (by have := HA0.out; omega)], b2⟩
  case round =>
    obtain ⟨K, Ll, Lq, hK, rfl, hLl, hLq, hwl, hwq, hcl, hcq, hbw⟩ := hrel
    clear G0 HL0 b2
    cases K with
    | succ k =>
      rw [show (((k + 1 : Nat) : Int) - 1) = (k : Int) by omega]
      obtain ⟨km, hkm⟩ : ∃ km, km = k + m := ⟨_, rfl⟩
      have hs : (k : Int) + m = (km : Int) := by omega
      have hkn : (k : Int) < (n : Int) + 1 := by omega
      have hkn2 : (km : Int) < (n : Int) + m + 1 := by omega
      have hmm : (m : Int) < (m : Int) + 1 := by omega
      obtain ⟨x1, y1, e1, q1⟩ := hwl.1.2 km (by omega)
      obtain ⟨x2, y2, e2, q2⟩ := (HG'.out.bw hbw).2 m (by have := HN'.out; omega)
      obtain ⟨x3, y3, e3, q3⟩ := hwq.1.2 k (by omega)
      have e4 := hwq.2 k
      rw [Nat.zero_add] at e1 e3
      rw [H1.out] at q2
      have htop : Py.co Ll km = Py.co a k := by
        rw [hcl km (by omega), hkm]
        have := Py.ts_top a l' k (by have := HN'.out; omega) (by rw [HN'.out, Nat.add_sub_cancel]; exact H1.out)
        rw [HN'.out, Nat.add_sub_cancel] at this
        exact this
      rw [htop] at q1
      obtain ⟨r, s, q4, D⟩ := pdiv8 HC.out q1 q2 (HL.out k) (by have := HA.out; omega)
      have HD := hide D
      have Q1 : Hid (∀ v, v = Value.complex .f64 r s → Gw c (wr.drew.setCell ⟨BQ, k, none⟩ v) BQ (Lq.set k (Py.co a k)) ∧ Gw c (wr.drew.setCell ⟨BQ, k, none⟩ v) BL Ll ∧ (wr.drew.setCell ⟨BQ, k, none⟩ v).cell? ⟨BQ, k, none⟩ = some (.complex .f64 r s) ∧ Bw w (wr.drew.setCell ⟨BQ, k, none⟩ v)) := by
        rintro v rfl
        refine ⟨hwq.drew.set k r s _ (by omega) q4, hwl.drew.other _ _ _ HNE.out, ?_, Below.setCell hbw.drew HBQ.out _⟩
        exact World.cell?_setCell_same _ _ _ e3
      have HCL := hide hcl
      have HCQ : Hid (∀ j, k ≤ j → Py.co (Lq.set k (Py.co a k)) j = Py.co a j) := fun j hj => by
        rw [Py.co_set _ _ _ _ (by omega)]
        by_cases z : j = k
        · subst z; rw [if_pos rfl]
        · rw [if_neg z]; exact hcq j (by omega)
      have HLl := hide hLl
      have HLq := hide hLq
      have HKM := hide hkm
      clear q1 q2 q3 D hwl hwq hcl hcq hbw hLl hLq htop hkm
      go_wp2_with fail
      have wg : IntKind.i64.wrap (km : Int) = km := wrap_small km (by omega)
      have S0 : wr.drew.cell? ⟨BL, km, none⟩ = some (.complex .f64 x1 y1) ∧ wr.drew.cell? ⟨b', o' + m, none⟩ = some (.complex .f64 x2 y2) ∧ wr.drew.cell? ⟨BQ, k, none⟩ = some (.complex .f64 x3 y3) ∧ wr.drew.frozen? ⟨BQ, k, none⟩ = false := ⟨e1, e2, e3, e4⟩
      refine wp_region_K (fun w' => w'.cell? ⟨BL, km, none⟩ = some (.complex .f64 x1 y1) ∧ w'.cell? ⟨b', o' + m, none⟩ = some (.complex .f64 x2 y2) ∧ w'.cell? ⟨BQ, k, none⟩ = some (.complex .f64 x3 y3) ∧ w'.frozen? ⟨BQ, k, none⟩ = false) 14 15 #[false, false, false, false, false, false, false, false, false, false, false, false, false, false, false] (by kernel_rfl) (by kernel_rfl) (by kernel_rfl) ?_
      refine wpAnyK_take 0 28 (v := ?v0) rfl (by kernel_rfl) (by kernel_rfl) (by kernel_rfl) (by kernel_rfl) (by kernel_rfl) (fun _ _ _ h => h) rfl (Or.inl ⟨by rfl, ?h0⟩) (by assumption) ?r0
      case h0 => (intro w hSw; go_simp; with_reducible rfl)
      simp only [Act.put, List.setIfInBounds_toArray, List.set_cons_zero, List.set_cons_succ]
      refine wpAnyK_take 1 29 (v := ?v1) rfl (by kernel_rfl) (by kernel_rfl) (by kernel_rfl) (by kernel_rfl) (by kernel_rfl) (fun _ _ _ h => h) rfl (Or.inl ⟨by rfl, ?h1⟩) (by assumption) ?r1
      case h1 => (intro w hSw; go_simp; with_reducible rfl)
      simp only [Act.put, List.setIfInBounds_toArray, List.set_cons_zero, List.set_cons_succ]
      refine wpAnyK_take 2 30 (v := ?v2) rfl (by kernel_rfl) (by kernel_rfl) (by kernel_rfl) (by kernel_rfl) (by kernel_rfl) (fun _ _ _ h => h) rfl (Or.inl ⟨by rfl, ?h2⟩) (by assumption) ?r2
      case h2 => (intro w hSw; go_simp; with_reducible rfl)
      simp only [Act.put, List.setIfInBounds_toArray, List.set_cons_zero, List.set_cons_succ]
      refine wpAnyK_take 3 31 (v := ?v3) rfl (by kernel_rfl) (by kernel_rfl) (by kernel_rfl) (by kernel_rfl) (by kernel_rfl) (fun _ _ _ h => h) rfl (Or.inl ⟨by rfl, ?h3⟩) (by assumption) ?r3
      case h3 => (intro w hSw; go_simp; with_reducible rfl)
      simp only [Act.put, List.setIfInBounds_toArray, List.set_cons_zero, List.set_cons_succ]
      refine wpAnyK_take 4 32 (v := ?v4) rfl (by kernel_rfl) (by kernel_rfl) (by kernel_rfl) (by kernel_rfl) (by kernel_rfl) (fun _ _ _ h => h) rfl (Or.inl ⟨by rfl, ?h4⟩) (by assumption) ?r4
      case h4 => (intro w hSw; go_simp; with_reducible rfl)
      simp only [Act.put, List.setIfInBounds_toArray, List.set_cons_zero, List.set_cons_succ]
      refine wpAnyK_take 5 33 (v := ?v5) rfl (by kernel_rfl) (by kernel_rfl) (by kernel_rfl) (by kernel_rfl) (by kernel_rfl) (fun _ _ _ h => h) rfl (Or.inl ⟨by rfl, ?h5⟩) (by assumption) ?r5
      case h5 => (intro w hSw; go_simp; with_reducible rfl)
      simp only [Act.put, List.setIfInBounds_toArray, List.set_cons_zero, List.set_cons_succ]
      refine wpAnyK_take 6 34 (v := ?v6) rfl (by kernel_rfl) (by kernel_rfl) (by kernel_rfl) (by kernel_rfl) (by kernel_rfl) (fun _ _ _ h => h) rfl (Or.inl ⟨by rfl, ?h6⟩) (by assumption) ?r6
      case h6 => (intro w hSw; go_simp; with_reducible rfl)
      simp only [Act.put, List.setIfInBounds_toArray, List.set_cons_zero, List.set_cons_succ]
      refine wpAnyK_take 7 35 (v := ?v7) rfl (by kernel_rfl) (by kernel_rfl) (by kernel_rfl) (by kernel_rfl) (by kernel_rfl) (fun _ _ _ h => h) rfl (Or.inl ⟨by rfl, ?h7⟩) (by assumption) ?r7
      case h7 => (intro w hSw; go_simp; with_reducible rfl)
      simp only [Act.put, List.setIfInBounds_toArray, List.set_cons_zero, List.set_cons_succ]
      refine wpAnyK_take 8 36 (v := ?v8) rfl (by kernel_rfl) (by kernel_rfl) (by kernel_rfl) (by kernel_rfl) (by kernel_rfl) (fun _ _ _ h => h) rfl (Or.inl ⟨by rfl, ?h8⟩) (by assumption) ?r8
      case h8 => (intro w hSw; go_simp; with_reducible rfl)
      simp only [Act.put, List.setIfInBounds_toArray, List.set_cons_zero, List.set_cons_succ]
      refine wpAnyK_take 9 37 (v := ?v9) rfl (by kernel_rfl) (by kernel_rfl) (by kernel_rfl) (by kernel_rfl) (by kernel_rfl) (fun _ _ _ h => h) rfl (Or.inl ⟨by rfl, ?h9⟩) (by assumption) ?r9
      case h9 => (intro w hSw; go_simp; with_reducible rfl)
      simp only [Act.put, List.setIfInBounds_toArray, List.set_cons_zero, List.set_cons_succ]
      refine wpAnyK_take 10 38 (v := ?v10) rfl (by kernel_rfl) (by kernel_rfl) (by kernel_rfl) (by kernel_rfl) (by kernel_rfl) (fun _ _ _ h => h) rfl (Or.inl ⟨by rfl, ?h10⟩) (by assumption) ?r10
      case h10 => (intro w hSw; go_simp; with_reducible rfl)
      simp only [Act.put, List.setIfInBounds_toArray, List.set_cons_zero, List.set_cons_succ]
      refine wpAnyK_take 11 39 (v := ?v11) rfl (by kernel_rfl) (by kernel_rfl) (by kernel_rfl) (by kernel_rfl) (by kernel_rfl) (fun _ _ _ h => h) rfl (Or.inl ⟨by rfl, ?h11⟩) (by assumption) ?r11
      case h11 => (intro w hSw; go_simp; with_reducible rfl)
      simp only [Act.put, List.setIfInBounds_toArray, List.set_cons_zero, List.set_cons_succ]
      refine wpAnyK_one 12 (by kernel_rfl) rfl (fun K hK => ?_)
      go_simp
      go_wp2_with (go_at_call 50; refine (HD.out _).mono ?_; rintro e' w7 ⟨rfl, hw7⟩; subst hw7)
      refine hK.out _ _ (fun _ _ => S0) ?_
      clear hK K
      simp only [List.setIfInBounds_toArray, List.set_cons_zero, List.set_cons_succ]
      refine wpAnyK_take 13 41 (v := ?v13) rfl (by kernel_rfl) (by kernel_rfl) (by kernel_rfl) (by kernel_rfl) (by kernel_rfl) (fun _ _ _ h => h) rfl (Or.inl ⟨by rfl, ?h13⟩) (by assumption) ?r13
      case h13 => (intro w hSw; go_simp; with_reducible rfl)
      simp only [Act.put, List.setIfInBounds_toArray, List.set_cons_zero, List.set_cons_succ]
      refine wpAnyK_one 14 (by kernel_rfl) rfl (fun K hK => ?_)
      go_simp
      refine hK.out _ _ (fun h => absurd rfl h) ?_
      clear hK K
      simp only [List.setIfInBounds_toArray, List.set_cons_zero, List.set_cons_succ]
      refine wpAnyK_done (by kernel_rfl) ?_ _
      obtain ⟨z1, z2, z3, z4⟩ := Q1.out _ rfl
      clear S0 e1 e2 e3 e4 HD wg hs Q1
      have HQ1 := hide z1
      have HQ2 := hide z2
      have HQ3 := hide z3
      have HQ4 := hide z4
      clear z1 z2 z3 z4
      have HRS := hide q4
      clear q4
      go_wp2
      go_loopw [46] (fun v wr => ∃ (i : Nat) (Li : List Py.G), i ≤ m ∧ v = .int .i64 i ∧ Li.length = n + m + 1 ∧ Gw c wr BL Li ∧ Gw c wr BQ (Lq.set k (Py.co a k)) ∧ wr.cell? ⟨BQ, k, none⟩ = some (.complex .f64 r s) ∧ (∀ j, j < k + m → Py.co Li j = if j < k + i then Py.ts a l' j k else Py.ts a l' j (k + 1)) ∧ Bw w wr) (fun v _ => m - (intOf v).toNat)
      case atStart =>
        refine ⟨0, Ll, Nat.zero_le _, rfl, HLl.out, HQ2.out, HQ1.out, HQ3.out, fun j hj => ?_, HQ4.out⟩
        rw [HCL.out j (by omega)]
        by_cases z : j < k + 0
        · rw [if_pos z, Py.ts_low _ _ _ _ (by omega)]
        · rw [if_neg z]
      case round =>
        obtain ⟨i, Li, hi, rfl, hLi, hwl, hwq, hcell, hcl, hbw⟩ := hrel
        clear HQ1 HQ2 HQ3 HQ4 HCL HLl
        by_cases him : i < m
        · obtain ⟨ki, hki⟩ : ∃ ki, ki = k + i := ⟨_, rfl⟩
          have hs : (k : Int) + i = (ki : Int) := by omega
          have him2 : (i : Int) < m := by omega
          have hkin : (ki : Int) < (n : Int) + m + 1 := by omega
          obtain ⟨x4, y4, e1, q1⟩ := hwl.1.2 ki (by omega)
          obtain ⟨x5, y5, e2, q2⟩ := (HG'.out.bw hbw).2 i (by have := HN'.out; omega)
          have e4 := hwl.2 ki
          rw [Nat.zero_add] at e1
          rw [hcl ki (by omega), if_neg (by omega)] at q1
          have bb : (k + 1) * (A * A') ≤ (n + 1) * (A * A') := Nat.mul_le_mul_right _ (by omega)
          obtain ⟨p1, p2, q3, P2⟩ := pmul8 HC.out HRS.out q2 (HL.out k) (HL'.out i) (by have := HA.out; omega)
          obtain ⟨r2, s2, q4, E⟩ := c_sub HC.out q1 q3 (Py.ts_le HL.out HL'.out ki (k + 1)) ((HL.out k).mul (HL'.out i)) (by have := HA.out; omega)
          have hoff : Py.gs (Py.ts a l' ki (k + 1)) (Py.gm (Py.co a k) (Py.co l' i)) = Py.ts a l' ki k := by rw [hki]; exact Py.ts_off a l' k i
          rw [hoff] at q4
          have HP2 := hide P2
          have R : Hid (∀ v, v = Value.complex .f64 r2 s2 → Gw c (wr.drew.setCell ⟨BL, ki, none⟩ v) BL (Li.set ki (Py.ts a l' ki k)) ∧ Gw c (wr.drew.setCell ⟨BL, ki, none⟩ v) BQ (Lq.set k (Py.co a k)) ∧ (wr.drew.setCell ⟨BL, ki, none⟩ v).cell? ⟨BQ, k, none⟩ = some (.complex .f64 r s) ∧ (∀ j, j < k + m → Py.co (Li.set ki (Py.ts a l' ki k)) j = if j < k + (i + 1) then Py.ts a l' j k else Py.ts a l' j (k + 1)) ∧ Bw w (wr.drew.setCell ⟨BL, ki, none⟩ v)) := by
            rintro v rfl
            refine ⟨hwl.drew.set ki r2 s2 _ (by omega) q4, hwq.drew.other _ _ _ (Ne.symm HNE.out), ?_, fun j hj => ?_, Below.setCell hbw.drew HBL.out _⟩
            · rw [World.cell?_setCell_other]
              · exact hcell
              · intro e'; cases e'; exact HNE.out rfl
            · rw [Py.co_set _ _ _ _ (by omega)]
              by_cases z : j = ki
              · subst z; rw [if_pos rfl, if_pos (by omega)]
              · rw [if_neg z, hcl j hj]
                by_cases z2 : j < k + i
                · rw [if_pos z2, if_pos (by omega)]
                · rw [if_neg z2, if_neg (by omega)]
          have HLi := hide hLi
          have HKI := hide hki
          clear q1 q2 q3 q4 P2 bb hoff hwl hwq hcl hbw hLi hki
          go_wp2_with fail
          have wg : IntKind.i64.wrap (ki : Int) = ki := wrap_small ki (by omega)
          have S0 : wr.drew.cell? ⟨BL, ki, none⟩ = some (.complex .f64 x4 y4) ∧ wr.drew.cell? ⟨BQ, k, none⟩ = some (.complex .f64 r s) ∧ wr.drew.frozen? ⟨BL, ki, none⟩ = false := ⟨e1, hcell, e4⟩
          refine wp_region_K (fun w' => w'.cell? ⟨BL, ki, none⟩ = some (.complex .f64 x4 y4) ∧ w'.cell? ⟨BQ, k, none⟩ = some (.complex .f64 r s) ∧ w'.frozen? ⟨BL, ki, none⟩ = false) 14 15 #[false, false, false, false, false, false, false, false, false, false, false, false, false, false, false] (by kernel_rfl) (by kernel_rfl) (by kernel_rfl) ?_
          refine wpAnyK_take 0 51 (v := ?vb0) rfl (by kernel_rfl) (by kernel_rfl) (by kernel_rfl) (by kernel_rfl) (by kernel_rfl) (fun _ _ _ h => h) rfl (Or.inl ⟨by rfl, ?hb0⟩) (by assumption) ?rb0
          case hb0 => (intro w hSw; go_simp; with_reducible rfl)
          simp only [Act.put, List.setIfInBounds_toArray, List.set_cons_zero, List.set_cons_succ]
          refine wpAnyK_take 1 52 (v := ?vb1) rfl (by kernel_rfl) (by kernel_rfl) (by kernel_rfl) (by kernel_rfl) (by kernel_rfl) (fun _ _ _ h => h) rfl (Or.inl ⟨by rfl, ?hb1⟩) (by assumption) ?rb1
          case hb1 => (intro w hSw; go_simp; with_reducible rfl)
          simp only [Act.put, List.setIfInBounds_toArray, List.set_cons_zero, List.set_cons_succ]
          refine wpAnyK_take 2 53 (v := ?vb2) rfl (by kernel_rfl) (by kernel_rfl) (by kernel_rfl) (by kernel_rfl) (by kernel_rfl) (fun _ _ _ h => h) rfl (Or.inl ⟨by rfl, ?hb2⟩) (by assumption) ?rb2
          case hb2 => (intro w hSw; go_simp; with_reducible rfl)
          simp only [Act.put, List.setIfInBounds_toArray, List.set_cons_zero, List.set_cons_succ]
          refine wpAnyK_take 3 54 (v := ?vb3) rfl (by kernel_rfl) (by kernel_rfl) (by kernel_rfl) (by kernel_rfl) (by kernel_rfl) (fun _ _ _ h => h) rfl (Or.inl ⟨by rfl, ?hb3⟩) (by assumption) ?rb3
          case hb3 => (intro w hSw; go_simp; with_reducible rfl)
          simp only [Act.put, List.setIfInBounds_toArray, List.set_cons_zero, List.set_cons_succ]
          refine wpAnyK_take 4 55 (v := ?vb4) rfl (by kernel_rfl) (by kernel_rfl) (by kernel_rfl) (by kernel_rfl) (by kernel_rfl) (fun _ _ _ h => h) rfl (Or.inl ⟨by rfl, ?hb4⟩) (by assumption) ?rb4
          case hb4 => (intro w hSw; go_simp; with_reducible rfl)
          simp only [Act.put, List.setIfInBounds_toArray, List.set_cons_zero, List.set_cons_succ]
          refine wpAnyK_take 5 56 (v := ?vb5) rfl (by kernel_rfl) (by kernel_rfl) (by kernel_rfl) (by kernel_rfl) (by kernel_rfl) (fun _ _ _ h => h) rfl (Or.inl ⟨by rfl, ?hb5⟩) (by assumption) ?rb5
          case hb5 => (intro w hSw; go_simp; with_reducible rfl)
          simp only [Act.put, List.setIfInBounds_toArray, List.set_cons_zero, List.set_cons_succ]
          refine wpAnyK_take 6 57 (v := ?vb6) rfl (by kernel_rfl) (by kernel_rfl) (by kernel_rfl) (by kernel_rfl) (by kernel_rfl) (fun _ _ _ h => h) rfl (Or.inl ⟨by rfl, ?hb6⟩) (by assumption) ?rb6
          case hb6 => (intro w hSw; go_simp; with_reducible rfl)
          simp only [Act.put, List.setIfInBounds_toArray, List.set_cons_zero, List.set_cons_succ]
          refine wpAnyK_take 7 58 (v := ?vb7) rfl (by kernel_rfl) (by kernel_rfl) (by kernel_rfl) (by kernel_rfl) (by kernel_rfl) (fun _ _ _ h => h) rfl (Or.inl ⟨by rfl, ?hb7⟩) (by assumption) ?rb7
          case hb7 => (intro w hSw; go_simp; with_reducible rfl)
          simp only [Act.put, List.setIfInBounds_toArray, List.set_cons_zero, List.set_cons_succ]
          refine wpAnyK_take 8 59 (v := ?vb8) rfl (by kernel_rfl) (by kernel_rfl) (by kernel_rfl) (by kernel_rfl) (by kernel_rfl) (fun _ _ _ h => h) rfl (Or.inl ⟨by rfl, ?hb8⟩) (by assumption) ?rb8
          case hb8 => (intro w hSw; go_simp; with_reducible rfl)
          simp only [Act.put, List.setIfInBounds_toArray, List.set_cons_zero, List.set_cons_succ]
          refine wpAnyK_take 9 60 (v := ?vb9) rfl (by kernel_rfl) (by kernel_rfl) (by kernel_rfl) (by kernel_rfl) (by kernel_rfl) (fun _ _ _ h => h) rfl (Or.inl ⟨by rfl, ?hb9⟩) (by assumption) ?rb9
          case hb9 => (intro w hSw; go_simp; with_reducible rfl)
          simp only [Act.put, List.setIfInBounds_toArray, List.set_cons_zero, List.set_cons_succ]
          refine wpAnyK_take 10 61 (v := ?vb10) rfl (by kernel_rfl) (by kernel_rfl) (by kernel_rfl) (by kernel_rfl) (by kernel_rfl) (fun _ _ _ h => h) rfl (Or.inl ⟨by rfl, ?hb10⟩) (by assumption) ?rb10
          case hb10 => (intro w hSw; go_simp; with_reducible rfl)
          simp only [Act.put, List.setIfInBounds_toArray, List.set_cons_zero, List.set_cons_succ]
          refine wpAnyK_one 11 (by kernel_rfl) rfl (fun K hK => ?_)
          go_simp
          go_wp2_with (go_at_call 14; refine (HP2.out _).mono ?_; rintro e' w7 ⟨rfl, hw7⟩; subst hw7)
          refine hK.out _ _ (fun _ _ => S0) ?_
          clear hK K
          simp only [List.setIfInBounds_toArray, List.set_cons_zero, List.set_cons_succ]
          refine wpAnyK_take 12 63 (v := ?vb12) rfl (by kernel_rfl) (by kernel_rfl) (by kernel_rfl) (by kernel_rfl) (by kernel_rfl) (fun _ _ _ h => h) rfl (Or.inl ⟨by rfl, ?hb12⟩) (by assumption) ?rb12
          case hb12 => (intro w hSw; go_simp; with_reducible rfl)
          simp only [Act.put, List.setIfInBounds_toArray, List.set_cons_zero, List.set_cons_succ]
          refine wpAnyK_take 13 64 (v := ?vb13) rfl (by kernel_rfl) (by kernel_rfl) (by kernel_rfl) (by kernel_rfl) (by kernel_rfl) (fun _ _ _ h => h) rfl (Or.inl ⟨by rfl, ?hb13⟩) (by assumption) ?rb13
          case hb13 => (intro w hSw; go_simp; with_reducible rfl)
          simp only [Act.put, List.setIfInBounds_toArray, List.set_cons_zero, List.set_cons_succ]
          refine wpAnyK_one 14 (by kernel_rfl) rfl (fun K hK => ?_)
          go_simp
          refine hK.out _ _ (fun h => absurd rfl h) ?_
          clear hK K
          simp only [List.setIfInBounds_toArray, List.set_cons_zero, List.set_cons_succ]
          refine wpAnyK_done (by kernel_rfl) ?_ _
          obtain ⟨z1, z2, z3, z4, z5⟩ := R.out _ rfl
          clear S0 e1 e2 e4 hcell HP2 wg hs R
          have HQ1 := hide z1
          have HQ2 := hide z2
          have HQ3 := hide z3
          have HQ4 := hide z4
          clear z1 z2 z3 z4
          go_wp2
          go_roundw
          case rel => exact ⟨i + 1, _, by omega, by simp, by rw [List.length_set]; exact HLi.out, HQ1.out, HQ2.out, HQ3.out, HQ4.out, z5⟩
          case measure => simp [intOf]; omega
        · have him2 : i = m := by omega
          subst him2
          have R : Hid (∀ j, j < k + i → Py.co Li j = Py.ts a l' j k) := fun j hj => by rw [hcl j hj, if_pos hj]
          have HLi := hide hLi
          have H5 := hide hwl
          have H6 := hide hwq
          clear hcl hLi hwl hwq hcell
          go_wp2
          go_roundw
          case rel => exact ⟨k, Li, _, by omega, by simp, HLi.out, by rw [List.length_set]; exact HLq.out, H5.out, H6.out, R.out, HCQ.out, hbw⟩
          case measure => simp [intOf]; try omega
    | zero =>
      have hLqa : Lq = a := Py.list_ext (by rw [hLq, HA0.out]) (fun j _ => hcq j (Nat.zero_le _))
      subst hLqa
      have HZ : Hid (∀ j, j < m → Py.co Ll j = (0, 0)) := fun j hj => by rw [hcl j (by omega)]; rfl
      have HLl := hide hLl
      have H5 := hide hwl
      have H6 := hide hwq
      clear hcl hcq hLl hLq hwl hwq
      by_cases hm0 : m = 0
      · subst hm0
        go_wp2_with fail
        refine (nought8 c _).mono ?_
        rintro e' w3 ⟨rfl, hG3, b3⟩
        have F : Hid (Gl c w3 BQ 0 Lq ∧ Gl c w3 wr.heap.size 0 [(0, 0)] ∧ Bw w w3 ∧ w.heap.size ≤ wr.heap.size) := ⟨H6.out.1.bw b3, hG3, bw_trans hbw b3, Below.size hbw⟩
        clear H5 H6 hG3 b3 hbw
        generalize wr.heap.size = BR at *
        go_wp2
        go_ret2
        refine ⟨BQ, BR, 1, 1, [(0, 0)], rfl, F.out.1, F.out.2.1, rfl, by omega, by omega, by omega, fun i => ?_, F.out.2.2.1, HBQ.out, F.out.2.2.2⟩
        cases i <;> rfl
      · have hm1 : ((m : Int) == 0) = false := by rw [beq_eq_false_iff_ne]; omega
        have hmc : (m : Int) ≤ (n : Int) + m + 1 := by omega
        go_wp2
        have TT : True := trivial
        refine wp_region_K (fun _ => True) 5 6 #[false, false, false, false, false, false] (by kernel_rfl) (by kernel_rfl) (by kernel_rfl) ?_
        refine wpAnyK_take 0 70 (v := ?vd0) rfl (by kernel_rfl) (by kernel_rfl) (by kernel_rfl) (by kernel_rfl) (by kernel_rfl) (fun _ _ _ h => h) rfl (Or.inl ⟨by rfl, ?hd0⟩) (by assumption) ?rd0
        case hd0 => (intro w hSw; go_simp; with_reducible rfl)
        simp only [Act.put, List.setIfInBounds_toArray, List.set_cons_zero, List.set_cons_succ]
        refine wpAnyK_take 1 71 (v := ?vd1) rfl (by kernel_rfl) (by kernel_rfl) (by kernel_rfl) (by kernel_rfl) (by kernel_rfl) (fun _ _ _ h => h) rfl (Or.inl ⟨by rfl, ?hd1⟩) (by assumption) ?rd1
        case hd1 => (intro w hSw; go_simp; with_reducible rfl)
        simp only [Act.put, List.setIfInBounds_toArray, List.set_cons_zero, List.set_cons_succ]
        refine wpAnyK_take 2 72 (v := ?vd2) rfl (by kernel_rfl) (by kernel_rfl) (by kernel_rfl) (by kernel_rfl) (by kernel_rfl) (fun _ _ _ h => h) rfl (Or.inl ⟨by rfl, ?hd2⟩) (by assumption) ?rd2
        case hd2 => (intro w hSw; go_simp; with_reducible rfl)
        simp only [Act.put, List.setIfInBounds_toArray, List.set_cons_zero, List.set_cons_succ]
        refine wpAnyK_take 3 73 (v := ?vd3) rfl (by kernel_rfl) (by kernel_rfl) (by kernel_rfl) (by kernel_rfl) (by kernel_rfl) (fun _ _ _ h => h) rfl (Or.inl ⟨by rfl, ?hd3⟩) (by assumption) ?rd3
        case hd3 => (intro w hSw; go_simp; with_reducible rfl)
        simp only [Act.put, List.setIfInBounds_toArray, List.set_cons_zero, List.set_cons_succ]
        refine wpAnyK_one 4 (by kernel_rfl) rfl (fun K hK => ?_)
        go_simp
        refine hK.out _ _ (fun _ _ => trivial) ?_
        clear hK K
        simp only [List.setIfInBounds_toArray, List.set_cons_zero, List.set_cons_succ]
        refine wpAnyK_one 5 (by kernel_rfl) rfl (fun K hK => ?_)
        go_simp
        refine hK.out _ _ (fun h => absurd rfl h) ?_
        clear hK K
        simp only [List.setIfInBounds_toArray, List.set_cons_zero, List.set_cons_succ]
        refine wpAnyK_done (by kernel_rfl) ?_ _
        go_wp2
        go_ret2
        refine ⟨BQ, BL, m, n + m + 1, Ll.take m, rfl, H6.out.1, H5.out.1.take m, by rw [List.length_take, HLl.out]; omega, by omega, by omega, by omega, fun i => ?_, hbw.drew, HBQ.out, HBL.out⟩
        rw [Py.co_take]
        by_cases z : i < m
        · rw [if_pos z]; exact HZ.out i z
        · rw [if_neg z]
end Go.Proofs.Ytpfgboinjjobpaa
