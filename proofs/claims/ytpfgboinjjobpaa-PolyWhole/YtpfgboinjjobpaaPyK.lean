/-
  OWN TEXT: package poly: Mul, of lists of whole complex numbers.
-/
import Derived.Test.YtpfgboinjjobpaaPyJ
namespace Go.Proofs.Ytpfgboinjjobpaa
open Go.ChangeShapes Go.WideShapes Go.ChangeAt Go.RowKit
set_option linter.unusedVariables false
attribute [local go_sem] frombits_call tobits_call run_neg run_store_cx
set_option maxHeartbeats 4000000 in
theorem mul8 {c : Nat} (hc : c = 1074) {w : World} {b o cap n b' o' cap' n' A A' : Nat} {l l' : List Py.G} (hm : May n l) (h : Gl c w b o l) (hm' : May n' l') (h' : Gl c w b' o' l') (hl : ∀ i, Py.Le (Py.co l i) A) (hl' : ∀ i, Py.Le (Py.co l' i) A') (hA : (n + 1) * (A * A') ≤ 1099511627776) (h64 : n + n' ≤ 64) (z : Py.co l n ≠ (0, 0)) (z' : Py.co l' n' ≠ (0, 0)) :
    Calls Try.prog 9 #[.slice (some ⟨b, o, none⟩) (n + 1) cap, .slice (some ⟨b', o', none⟩) (n' + 1) cap'] w fun e w' => Ans c w w' e (n + n' + 1) (fun j => Py.ts l l' j (n + 1)) := by
  have C := hide (checktwo8 (cap := cap) (cap' := cap') hc hm h hm' h')
  have L1 : Hid (∀ wz, Bw w wz → ∃ x y, Calls Try.prog 29 #[.slice (some ⟨b, o, none⟩) (n + 1) cap] wz (fun e w' => e = .returned (.complex .f64 x y) ∧ w' = wz) ∧ ∀ wz, Calls Try.prog 28 #[.complex .f64 x y] wz fun e w' => e = .returned (.bool false) ∧ w' = wz) := fun wz hz => by
    obtain ⟨x, y, q, L⟩ := last8 (cap := cap) n hm.1 (by omega) (h.bw hz)
    exact ⟨x, y, L, fun wz => by have k := isnought8 q wz; rw [decide_eq_false z] at k; exact k⟩
  have L2 : Hid (∀ wz, Bw w wz → ∃ x y, Calls Try.prog 29 #[.slice (some ⟨b', o', none⟩) (n' + 1) cap'] wz (fun e w' => e = .returned (.complex .f64 x y) ∧ w' = wz) ∧ ∀ wz, Calls Try.prog 28 #[.complex .f64 x y] wz fun e w' => e = .returned (.bool false) ∧ w' = wz) := fun wz hz => by
    obtain ⟨x, y, q, L⟩ := last8 (cap := cap') n' hm'.1 (by omega) (h'.bw hz)
    exact ⟨x, y, L, fun wz => by have k := isnought8 q wz; rw [decide_eq_false z'] at k; exact k⟩
  have PR : Hid (∀ wz k, Bw w wz → k ≤ n + n' → Calls Try.prog 31 #[.slice (some ⟨b, o, none⟩) (n + 1) cap, .slice (some ⟨b', o', none⟩) (n' + 1) cap', .int .i64 (k : Nat)] wz fun e w' => ∃ r s, e = .returned (.complex .f64 r s) ∧ wC c r s (Py.ts l l' k (n + 1)) ∧ Bw wz w') := fun wz k hz hk => prods8 hc hm.1 hm'.1 hm.2.1 hm'.2.1 (h.bw hz) (h'.bw hz) hl hl' hA hk
  have hmk := make_c ((n : Int) + 1 + (n' + 1) - 1) (n + n' + 1) (by omega) (by omega)
  have HLT : Hid (∀ j, Py.Le (Py.ts l l' j (n + 1)) 1099511627776) := fun j => (Py.ts_le hl hl' j (n + 1)).mono hA
  have HFAR : Hid (∀ j, n + n' + 1 ≤ j → Py.ts l l' j (n + 1) = (0, 0)) := fun j hj => by
    have := Py.ts_far l l' j 0 (n + 1) (fun i _ h2 h3 => by rw [Py.co_out (l := l') (by have := hm'.1; omega), Py.gm_nought])
    rw [Nat.zero_add] at this
    rw [this]; rfl
  have t1 : ¬ 65 < (n : Int) + 1 + (n' + 1) - 1 := by omega
  have HC := hide hc
  clear hm h hm' h' hl hl' hA z z' hc
  go_enter Try.func9, Try.ntmps9
  go_wp2_with fail
  refine C.out.mono ?_
  rintro e' w1 ⟨rfl, b1⟩
  clear C
  obtain ⟨x, y, LA, IA⟩ := L1.out _ b1
  obtain ⟨x', y', LB, IB⟩ := L2.out _ b1
  have HLA := hide LA
  have HLB := hide LB
  have HIA := hide IA
  have HIB := hide IB
  clear LA LB IA IB L1 L2
  go_wp2_with fail
  refine HLA.out.mono ?_
  rintro e' w2 ⟨rfl, hw2⟩
  subst hw2
  go_wp2_with fail
  refine (HIA.out _).mono ?_
  rintro e' w3 ⟨rfl, hw3⟩
  subst hw3
  go_wp2_with fail
  refine HLB.out.mono ?_
  rintro e' w2 ⟨rfl, hw2⟩
  subst hw2
  go_wp2_with fail
  refine (HIB.out _).mono ?_
  rintro e' w3 ⟨rfl, hw3⟩
  subst hw3
  clear HLA HIA HLB HIB
  go_wp2
  have G0 := hide (Gw.made c w3 (n + n' + 1) 26)
  have hB : w.heap.size ≤ w3.heap.size := Below.size b1
  have b2 := bw_trans b1 (bw_alloc w3 (.cells (zcC (n + n' + 1)) 26))
  clear hmk b1
  generalize w3.alloc (.cells (zcC (n + n' + 1)) 26) = W at *
  generalize w3.heap.size = B at *
  go_loopw [37] (fun i wr => ∃ (k : Nat) (L : List Py.G), k ≤ n + n' + 1 ∧ i = .int .i64 k ∧ L.length = n + n' + 1 ∧ Gw c wr B L ∧ (∀ i, i < k → Py.co L i = Py.ts l l' i (n + 1)) ∧ Bw w wr) (fun i _ => n + n' + 1 - (intOf i).toNat)
  case atStart => exact ⟨0, _, Nat.zero_le _, rfl, by simp, G0.out, fun i hi => by omega, b2⟩
  case round =>
    obtain ⟨k, L, hk, rfl, hL, hw, hco, hbw⟩ := hrel
    clear G0 b2
    by_cases hk1 : k < n + n' + 1
    · have hk2 : (k : Int) < (n : Int) + (n' : Int) + 1 := by omega
      have HLL := hide hL
      have HW := hide hw
      have HCO := hide hco
      clear hL hw hco
      go_wp2_with fail
      refine (PR.out _ k hbw (by omega)).mono ?_
      rintro e' w4 ⟨r, s, rfl, hrs, b4⟩
      have hw4 : Gw c w4 B L := by
        have hs : B < wr.heap.size := HW.out.1.1
        refine ⟨HW.out.1.bw b4, fun i => ?_⟩
        exact (Below.frozen b4 (p := ⟨B, i, none⟩) hs).trans (HW.out.2 i)
      obtain ⟨u, v, e2, q2⟩ := hw4.1.2 k (by have := HLL.out; omega)
      rw [Nat.zero_add] at e2
      have e3 := hw4.2 k
      have R : Hid (Gw c (w4.setCell ⟨B, k, none⟩ (.complex .f64 r s)) B (L.set k (Py.ts l l' k (n + 1))) ∧ (∀ i, i < k + 1 → Py.co (L.set k (Py.ts l l' k (n + 1))) i = Py.ts l l' i (n + 1)) ∧ Bw w (w4.setCell ⟨B, k, none⟩ (.complex .f64 r s))) := by
        refine ⟨hw4.set k r s _ (by have := HLL.out; omega) hrs, fun i hi => ?_, Below.setCell (bw_trans hbw b4) hB _⟩
        rw [Py.co_set _ _ _ _ (by have := HLL.out; omega)]
        by_cases z : i = k
        · subst z; rw [if_pos rfl]
        · rw [if_neg z]; exact HCO.out i (by omega)
      clear hrs b4 hw4 q2 hbw HW HCO
      go_wp2
      go_roundw
      case rel => exact ⟨k + 1, _, by omega, by simp, by rw [List.length_set]; exact HLL.out, R.out.1, R.out.2.1, R.out.2.2⟩
      case measure => simp [intOf]; omega
    · have hk3 : k = n + n' + 1 := by omega
      subst hk3
      have hF : ∀ i, Py.co L i = Py.ts l l' i (n + 1) := fun i => by
        by_cases z : i < n + n' + 1
        · exact hco i z
        · rw [Py.co_out (by omega), HFAR.out i (by omega)]
      have H2 : Hid (∀ i, Py.Le (Py.co L i) 1099511627776) := fun i => by rw [hF]; exact HLT.out i
      have HF := hide hF
      have HW := hide hw
      have HLL := hide hL
      clear hF hw hco hL HLT HFAR PR
      have hlt' : ¬ ((n + n' + 1 : Nat) : Int) < (n : Int) + (n' : Int) + 1 := by omega
      go_wp2_with fail
      refine (answered8 HC.out (n + n' + 1) HLL.out (by omega) (by omega) (Nat.le_refl _) HW.out.1 H2.out).mono ?_
      rintro e' w3 ⟨rfl, b3⟩
      have A9 := Ans.of HLL.out (by omega) (by omega) (HW.out.1.bw b3) hB (bw_trans hbw b3) H2.out
      have AA : Hid (Ans c w w3 (.returned (.tuple #[.slice (some ⟨B, 0, none⟩) (Py.tl L (n + n' + 1)) (Py.tl L (n + n' + 1)), .int .i64 0])) (n + n' + 1) (fun j => Py.ts l l' j (n + 1))) := by
        obtain ⟨B', m, l9, z1, z2, z3, z4, z5, z6, z7⟩ := A9
        exact ⟨B', m, l9, z1, z2, z3, z4, z5, z6, fun i => (z7 i).trans (HF.out i)⟩
      clear A9 HW H2 HF HLL
      generalize Py.tl L (n + n' + 1) = tt at *
      go_wp2
      go_ret2
      exact AA.out
end Go.Proofs.Ytpfgboinjjobpaa
