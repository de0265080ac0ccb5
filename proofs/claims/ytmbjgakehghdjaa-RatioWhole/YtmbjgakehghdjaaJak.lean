/-
  OWN TEXT: package poly: Of, of lists of whole complex numbers.
-/
import Derived.Test.YtmbjgakehghdjaaJaj
import Derived.Test.YtmbjgakehghdjaaJai
import Derived.OwnWalk
namespace Go.Proofs.Ytmbjgakehghdjaa
open Go.ChangeShapes Go.WideShapes Go.ChangeAt Go.RowKit
set_option linter.unusedVariables false
attribute [local go_sem] frombits_call tobits_call run_neg run_store_cx
theorem one_le (i A : Nat) (h : 1 ≤ A) : Py.Le (Py.co [(1, 0)] i) A := by
  refine Py.Le.mono (M := 1) ?_ h
  cases i with
  | zero => show (1 : Int) * 1 + 0 * 0 ≤ _; decide
  | succ i => exact Py.Le.nought _
set_option maxHeartbeats 4000000 in
theorem of8 {c : Nat} (hc : c = 1074) {w : World} {b o cap m Z : Nat} {zs : List Py.G} (hn : zs.length = m) (h64 : m ≤ 64) (h : Gl c w b o zs) (hz : ∀ i, Py.Le (Py.co zs i) Z) (hZ : Z ≤ 1099511627776) (hA : (Z + 1) ^ m ≤ 1099511627776) :
    Calls Try.prog 66 #[.slice (some ⟨b, o, none⟩) m cap] w fun e w' => Ans c w w' e (m + 1) (Py.co (Py.ofl [(1, 0)] zs)) := by
  have C := hide (places8 (cap := cap) hc m hn (by omega) h (fun i _ => (hz i).mono hZ))
  have t1 : ¬ 64 < (m : Int) := by omega
  have HN := hide hn
  have HZ := hide hz
  have HG := hide h
  have HA := hide hA
  have HC := hide hc
  clear h hz hn hA hc
  go_enter Try.func66, Try.ntmps66
  go_wp2_with fail
  refine C.out.mono ?_
  rintro e' w1 ⟨rfl, b1⟩
  clear C
  go_wp2
  have G0 : Hid (Gl c (w1.alloc (.cells #[.complex .f64 4607182418800017408 0] 27)) w1.heap.size 0 [(1, 0)]) := by
    refine ⟨by simp, fun i hi => ?_⟩
    match i, hi with
    | 0, _ => exact ⟨4607182418800017408, 0, by simp, wC.one HC.out⟩
  have hB : w.heap.size ≤ w1.heap.size := Below.size b1
  have b2 := bw_trans b1 (bw_alloc w1 (.cells #[.complex .f64 4607182418800017408 0] 27))
  generalize w1.alloc (.cells #[.complex .f64 4607182418800017408 0] 27) = W at *
  generalize w1.heap.size = B0 at *
  go_loopw [4, 16] (fun p q wr => ∃ (k B : Nat), k ≤ m ∧ q = .int .i64 k ∧ p = .slice (some ⟨B, 0, none⟩) (k + 1) (k + 1) ∧ Gl c wr B 0 (Py.ofl [(1, 0)] (zs.take k)) ∧ w.heap.size ≤ B ∧ Bw w wr) (fun _ q _ => m - (intOf q).toNat)
  case atStart => exact ⟨0, B0, Nat.zero_le _, rfl, rfl, G0.out, hB, b2⟩
  case round =>
    obtain ⟨k, B, hk, rfl, rfl, hG, hB1, hbw⟩ := hrel
    clear G0 b2 hB
    have hlen : (Py.ofl [(1, 0)] (zs.take k)).length = k + 1 := by
      rw [Py.ofl_len, List.length_take]; have := HN.out; simp only [List.length_cons, List.length_nil]; omega
    have hle : ∀ i, Py.Le (Py.co (Py.ofl [(1, 0)] (zs.take k)) i) ((Z + 1) ^ k) := fun i => by
      have := Py.ofl_le (p := [(1, 0)]) (zs := zs.take k) (A := 1) (Z := Z) (fun i => one_le i 1 (Nat.le_refl _)) (fun z hz => by
        obtain ⟨i, hi, rfl⟩ := List.getElem_of_mem hz
        have h1 := HZ.out i
        rw [List.length_take] at hi
        have h2 : Py.co zs i = zs[i] := by simp [Py.co, List.getD, show i < zs.length by omega]
        rw [h2] at h1
        rw [List.getElem_take]
        exact h1) i
      rw [Nat.one_mul, List.length_take, Nat.min_eq_left (by have := HN.out; omega)] at this
      exact this
    by_cases hk1 : k < m
    · have hk2 : (k : Int) < m := by omega
      obtain ⟨x, y, e, q⟩ := (HG.out.bw hbw).2 k (by have := HN.out; omega)
      have hpow : (Z + 1) ^ k * (Z + 1) ≤ 1099511627776 := by
        rw [← Nat.pow_succ]
        exact Nat.le_trans (Nat.pow_le_pow_right (by omega) (by omega)) HA.out
      have WZ := hide (withzero8 (cap := k + 1) HC.out hlen (by omega) hG q (HZ.out k) hle (by omega))
      have hnext : Py.wz (Py.ofl [(1, 0)] (zs.take k)) (Py.co zs k) = Py.ofl [(1, 0)] (zs.take (k + 1)) := by
        have hkz : k < zs.length := by have := HN.out; omega
        rw [List.take_succ_eq_append_getElem hkz, Py.ofl_snoc]
        congr 1
        simp [Py.co, List.getD, hkz]
      have HNX := hide hnext
      clear q hlen hle hG hnext hpow
      go_wp2_with fail
      refine WZ.out.mono ?_
      rintro e' w2 ⟨rfl, hw2, b2⟩
      have R : Hid (Gl c w2 wr.heap.size 0 (Py.ofl [(1, 0)] (zs.take (k + 1))) ∧ w.heap.size ≤ wr.heap.size ∧ Bw w w2) := by
        refine ⟨?_, Below.size hbw, bw_trans hbw b2⟩
        rw [← HNX.out]; exact hw2.1
      clear WZ hw2 b2 hbw HNX e
      generalize wr.heap.size = B2 at *
      go_wp2
      go_roundw
      case rel => exact ⟨k + 1, B2, by omega, by simp, rfl, R.out.1, R.out.2.1, R.out.2.2⟩
      case measure => simp [intOf]; omega
    · have hk3 : k = m := by omega
      subst hk3
      have ht : zs.take k = zs := List.take_of_length_le (by have := HN.out; omega)
      rw [ht] at hG hlen hle
      have H2 : Hid (∀ i, Py.Le (Py.co (Py.ofl [(1, 0)] zs) i) 1099511627776) := fun i => (hle i).mono HA.out
      have HW := hide hG
      have HLL := hide hlen
      clear hG hlen hle ht
      go_wp2_with fail
      refine (answered8 HC.out (k + 1) HLL.out (by omega) (by omega) (Nat.le_refl _) HW.out H2.out).mono ?_
      rintro e' w3 ⟨rfl, b3⟩
      have AA := hide (Ans.of HLL.out (by omega) (by omega) (HW.out.bw b3) hB1 (bw_trans hbw b3) H2.out)
      clear HW H2 HLL
      generalize Py.tl (Py.ofl [(1, 0)] zs) (k + 1) = tt at *
      go_wp2
      go_ret2
      exact AA.out
end Go.Proofs.Ytmbjgakehghdjaa
/-
  OWN TEXT: package poly: a product divided by one of its factors, of lists of whole complex numbers.
-/
namespace Go.Proofs.Ytmbjgakehghdjaa
open Go.ChangeShapes Go.WideShapes Go.ChangeAt Go.RowKit
set_option linter.unusedVariables false
attribute [local go_sem] frombits_call tobits_call run_neg run_store_cx
theorem Gw.bw {c : Nat} {w w' : World} {B : Nat} {l : List Py.G} (h : Gw c w B l) (k : Bw w w') : Gw c w' B l :=
  ⟨h.1.bw k, fun i => (Below.frozen k (p := ⟨B, i, none⟩) h.1.1).trans (h.2 i)⟩
theorem Gw.drew {c : Nat} {w : World} {B : Nat} {l : List Py.G} (h : Gw c w B l) : Gw c w.drew B l := ⟨⟨h.1.1, h.1.2⟩, h.2⟩
theorem Gl.other {c : Nat} {w : World} {b o : Nat} {l : List Py.G} (h : Gl c w b o l) (B i : Nat) (v : Value) (hne : b ≠ B) : Gl c (w.setCell ⟨B, i, none⟩ v) b o l := by
  refine ⟨by simpa [World.setCell] using h.1, fun j hj => ?_⟩
  obtain ⟨x, y, e, q⟩ := h.2 j hj
  refine ⟨x, y, ?_, q⟩
  rw [World.cell?_setCell_other]
  · exact e
  · intro e'; cases e'; exact hne rfl
theorem Gw.other {c : Nat} {w : World} {b : Nat} {l : List Py.G} (h : Gw c w b l) (B i : Nat) (v : Value) (hne : b ≠ B) : Gw c (w.setCell ⟨B, i, none⟩ v) b l :=
  ⟨h.1.other B i v hne, fun j => (World.frozen?_setCell _ _ _ _).trans (h.2 j)⟩
end Go.Proofs.Ytmbjgakehghdjaa
/-
  OWN TEXT: package poly: Div of a product by one of its factors, of lists of whole complex numbers.
-/
namespace Go.Proofs.Ytmbjgakehghdjaa
open Go.ChangeShapes Go.WideShapes Go.ChangeAt Go.RowKit
set_option linter.unusedVariables false
attribute [local go_sem] frombits_call tobits_call run_neg run_store_cx
theorem tl_noughts (l : List Py.G) (h : ∀ i, Py.co l i = (0, 0)) : ∀ n, 0 < n → Py.tl l n = 1
  | 1, _ => rfl
  | n + 2, _ => by rw [Py.tl, if_pos (h _)]; exact tl_noughts l h (n + 1) (by omega)
end Go.Proofs.Ytmbjgakehghdjaa
