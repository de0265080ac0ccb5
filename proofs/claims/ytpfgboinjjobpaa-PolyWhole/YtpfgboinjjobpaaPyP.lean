/-
  OWN TEXT: package poly: Div of a product by one of its factors, of lists of whole complex numbers.
-/
import Derived.Test.YtpfgboinjjobpaaPyO
import Derived.OwnWalk
namespace Go.Proofs.Ytpfgboinjjobpaa
open Go.ChangeShapes Go.WideShapes Go.ChangeAt Go.RowKit
set_option linter.unusedVariables false
attribute [local go_sem] frombits_call tobits_call run_neg run_store_cx
theorem tl_noughts (l : List Py.G) (h : ∀ i, Py.co l i = (0, 0)) : ∀ n, 0 < n → Py.tl l n = 1
  | 1, _ => rfl
  | n + 2, _ => by rw [Py.tl, if_pos (h _)]; exact tl_noughts l h (n + 1) (by omega)
set_option maxHeartbeats 4000000 in
theorem div8 {c : Nat} (hc : c = 1074) {w : World} {b o cap n b' o' cap' m A A' : Nat} {p a l' : List Py.G} (hm : May (n + m) p) (hm' : May m l') (ha : a.length = n + 1) (h : Gl c w b o p) (h' : Gl c w b' o' l') (hco : ∀ j, Py.co p j = Py.ts a l' j (n + 1)) (h1 : Py.co l' m = (1, 0)) (hl : ∀ i, Py.Le (Py.co a i) A) (hl' : ∀ i, Py.Le (Py.co l' i) A') (hA : (n + 1) * (A * A') + A * A' + A ≤ 1099511627776) (hcap : m + 1 ≤ cap') (hz : n = 0 ∨ Py.co a n ≠ (0, 0)) :
    Calls Try.prog 15 #[.slice (some ⟨b, o, none⟩) (n + m + 1) cap, .slice (some ⟨b', o', none⟩) (m + 1) cap'] w fun e w' => ∃ Q R, e = .returned (.tuple #[.slice (some ⟨Q, 0, none⟩) (n + 1) (n + 1), .slice (some ⟨R, 0, none⟩) 1 1, .int .i64 0]) ∧ Gl c w' Q 0 a ∧ Gl c w' R 0 [(0, 0)] ∧ Bw w w' := by
  have C := hide (checktwo8 (cap := cap) (cap' := cap') hc hm h hm' h')
  have L2 : Hid (∀ wz, Bw w wz → ∃ x y, Calls Try.prog 29 #[.slice (some ⟨b', o', none⟩) (m + 1) cap'] wz (fun e w' => e = .returned (.complex .f64 x y) ∧ w' = wz) ∧ ∀ wz, Calls Try.prog 28 #[.complex .f64 x y] wz fun e w' => e = .returned (.bool false) ∧ w' = wz) := fun wz hz => by
    obtain ⟨x, y, q, L⟩ := last8 (cap := cap') m hm'.1 (by have := hm'.2.1; omega) (h'.bw hz)
    exact ⟨x, y, L, fun wz => by have k := isnought8 q wz; rw [decide_eq_false (by rw [h1]; decide)] at k; exact k⟩
  have D : Hid (∀ wz, Bw w wz → Calls Try.prog 35 #[.slice (some ⟨b, o, none⟩) (n + m + 1) cap, .slice (some ⟨b', o', none⟩) (m + 1) cap'] wz fun e w' => ∃ Q R r cr Lr, e = .returned (.tuple #[.slice (some ⟨Q, 0, none⟩) (n + 1) (n + 1), .slice (some ⟨R, 0, none⟩) r cr]) ∧ Gl c w' Q 0 a ∧ Gl c w' R 0 Lr ∧ Lr.length = r ∧ 0 < r ∧ r ≤ 65 ∧ r ≤ cr ∧ (∀ i, Py.co Lr i = (0, 0)) ∧ Bw wz w' ∧ wz.heap.size ≤ Q ∧ wz.heap.size ≤ R) := fun wz hz => divided8 hc hm.1 ha hm'.1 (h.bw hz) (h'.bw hz) hco h1 hl hl' hA hm.2.1 hcap
  have ht : Py.tl a (n + 1) = n + 1 := by
    have := Py.tl_whole a (by
      rw [ha]
      rcases hz with z | z
      · left; omega
      · right; exact z)
    rw [ha] at this; exact this
  have HT := hide ht
  have HA := hide ha
  have HL : Hid (∀ i, Py.Le (Py.co a i) 1099511627776) := fun i => (hl i).mono (by omega)
  have HC := hide hc
  have hnm := hm.2.1
  have t1 : ¬ (n : Int) + m + 1 < (m : Int) + 1 := by omega
  clear hm hm' ha h h' hco h1 hl hl' hA hz hc ht
  go_enter Try.func15, Try.ntmps15
  go_wp2_with fail
  refine C.out.mono ?_
  rintro e' w1 ⟨rfl, b1⟩
  clear C
  obtain ⟨x', y', LB, IB⟩ := L2.out _ b1
  have HLB := hide LB
  have HIB := hide IB
  clear LB IB L2
  go_wp2_with fail
  refine HLB.out.mono ?_
  rintro e' w2 ⟨rfl, hw2⟩
  subst hw2
  go_wp2_with fail
  refine (HIB.out _).mono ?_
  rintro e' w3 ⟨rfl, hw3⟩
  subst hw3
  clear HLB HIB
  go_wp2_with fail
  refine (D.out _ b1).mono ?_
  rintro e' w4 ⟨Q, R, r, cr, Lr, rfl, g1, g2, hr, hr0, hr1, hr2, hz, b4, _, _⟩
  have HG1 := hide g1
  have HG2 := hide g2
  have HR := hide hr
  have HZ := hide hz
  replace b1 := bw_trans b1 b4
  clear D g1 g2 hr hz b4
  go_wp2_with fail
  refine (answered8 HC.out (n + 1) HA.out (by omega) (by omega) (Nat.le_refl _) HG1.out HL.out).mono ?_
  rintro e' w5 ⟨rfl, b5⟩
  rw [HT.out]
  have HG3 := hide (HG1.out.bw b5)
  have HG4 := hide (HG2.out.bw b5)
  replace b1 := bw_trans b1 b5
  clear HG1 HG2 b5
  go_wp2_with fail
  refine (answered8 HC.out r HR.out hr0 (by omega) hr2 HG4.out (fun i => by rw [HZ.out i]; exact Py.Le.nought _)).mono ?_
  rintro e' w6 ⟨rfl, b6⟩
  rw [tl_noughts _ HZ.out r hr0]
  have F : Hid (Gl c w6 Q 0 a ∧ Gl c w6 R 0 [(0, 0)] ∧ Bw w w6) := by
    refine ⟨HG3.out.bw b6, ?_, bw_trans b1 b6⟩
    have g := (HG4.out.bw b6).take 1
    have e : Lr.take 1 = [(0, 0)] := Py.list_ext (by rw [List.length_take, HR.out]; simp; omega) (fun i _ => by
      rw [Py.co_take, HZ.out]
      cases i <;> simp [Py.co])
    rw [e] at g
    exact g
  clear HG3 HG4 HZ HR b1 b6
  go_wp2
  go_ret3
  exact ⟨Q, R, rfl, F.out.1, F.out.2.1, F.out.2.2⟩
end Go.Proofs.Ytpfgboinjjobpaa
