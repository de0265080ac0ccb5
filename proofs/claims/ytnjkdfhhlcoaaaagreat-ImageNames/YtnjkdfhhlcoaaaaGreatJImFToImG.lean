/-
 OWN TEXT: package image: what a wall does with a stream, a circle with a source and a stream.
-/
import Derived.Test.YtnjkdfhhlcoaaaaGreatJImE
namespace Go.Proofs.YtnjkdfhhlcoaaaaGreat
open Go.ChangeShapes Go.WideShapes Go.ChangeAt Go.RowKit
set_option linter.unusedVariables false
set_option linter.unusedSimpArgs false
attribute [local go_sem] frombits_call tobits_call run_neg run_store_cx El.run_store_fl
set_option maxHeartbeats 16000000 in
theorem wstreamI {k : Int} {a b s t p s' t' u0 u1 v0 v1 c0 c1 m0 m1 : Nat} (w : World)
  (CJ : Hid (∀ wz, Calls Tryz.prog 43 #[.complex .f64 v0 v1] wz fun r w' => r = .returned (.complex .f64 c0 c1) ∧ Bw wz w'))
  (MU : Hid (∀ wz, Calls Tryz.prog 21 #[.complex .f64 s t, .complex .f64 v0 v1] wz fun r w' => r = .returned (.complex .f64 m0 m1) ∧ Bw wz w'))
  (SC : Hid (∀ wz, Calls Tryz.prog 106 #[.complex .f64 c0 c1, .float .f64 m0] wz fun r w' => r = .returned (.complex .f64 s' t') ∧ Bw wz w')) :
  Calls Tryz.prog 103 #[.agg #[.complex .f64 u0 u1, .complex .f64 v0 v1], .agg #[.int .u8 k, .complex .f64 a b, .complex .f64 s t, .float .f64 p]] w fun r w' => r = .returned (.tuple #[.agg #[.int .u8 k, .complex .f64 a b, .complex .f64 s' t', .float .f64 p, .slice none 0 0], .bool true]) ∧ Bw w w' := by
 have g1 := Im.Bl.new w #[.complex .f64 u0 u1, .complex .f64 v0 v1] 47
 have z1 : (w.alloc (.cells #[.complex .f64 u0 u1, .complex .f64 v0 v1] 47)).heap.size = w.heap.size + 1 := by simp
 have b1 := bw_alloc w (.cells #[.complex .f64 u0 u1, .complex .f64 v0 v1] 47)
 obtain ⟨W1, hW1⟩ : ∃ v, w.alloc (.cells #[.complex .f64 u0 u1, .complex .f64 v0 v1] 47) = v := ⟨_, rfl⟩
 rw [hW1] at g1 z1 b1
 have g2 := Im.Bl.new W1 #[.int .u8 k, .complex .f64 a b, .complex .f64 s t, .float .f64 p] 28
 have z2 : (W1.alloc (.cells #[.int .u8 k, .complex .f64 a b, .complex .f64 s t, .float .f64 p] 28)).heap.size = w.heap.size + 1 + 1 := by simp [z1]
 have b2 := bw_alloc W1 (.cells #[.int .u8 k, .complex .f64 a b, .complex .f64 s t, .float .f64 p] 28)
 obtain ⟨W2, hW2⟩ : ∃ v, W1.alloc (.cells #[.int .u8 k, .complex .f64 a b, .complex .f64 s t, .float .f64 p] 28) = v := ⟨_, rfl⟩
 rw [hW2] at g2 z2 b2
 have g3 := Im.Bl.new W2 #[.int .u8 0, .complex .f64 0 0, .complex .f64 0 0, .float .f64 0, .slice none 0 0] 70
 have z3 : (W2.alloc (.cells #[.int .u8 0, .complex .f64 0 0, .complex .f64 0 0, .float .f64 0, .slice none 0 0] 70)).heap.size = w.heap.size + 1 + 1 + 1 := by simp [z2]
 have b3 := bw_alloc W2 (.cells #[.int .u8 0, .complex .f64 0 0, .complex .f64 0 0, .float .f64 0, .slice none 0 0] 70)
 obtain ⟨W3, hW3⟩ : ∃ v, W2.alloc (.cells #[.int .u8 0, .complex .f64 0 0, .complex .f64 0 0, .float .f64 0, .slice none 0 0] 70) = v := ⟨_, rfl⟩
 rw [hW3] at g3 z3 b3
 have GG : Hid (Im.Bl W3 (w.heap.size) [.complex .f64 u0 u1, .complex .f64 v0 v1] ∧ Im.Bl W3 (w.heap.size + 1) [.int .u8 k, .complex .f64 a b, .complex .f64 s t, .float .f64 p] ∧ Im.Bl W3 (w.heap.size + 1 + 1) [.int .u8 0, .complex .f64 0 0, .complex .f64 0 0, .float .f64 0, .slice none 0 0] ∧ Bw w W3) := ⟨(show Im.Bl _ (w.heap.size) _ from g1).bw (bw_trans b2 b3), (show Im.Bl _ (w.heap.size + 1) _ from z1 ▸ g2).bw b3, (show Im.Bl _ (w.heap.size + 1 + 1) _ from z2 ▸ g3), (bw_trans b1 (bw_trans b2 b3))⟩
 have HW := hide (And.intro hW1 (And.intro hW2 (hW3)))
 clear g1 b1 z1 hW1 g2 b2 z2 hW2 g3 b3 z3 hW3
 go_enter Tryz.func103, Tryz.ntmps103
 go_wp2_with fail
 rw [HW.out.1, HW.out.2.1, HW.out.2.2]
 obtain ⟨A, hA⟩ : ∃ A, w.heap.size = A := ⟨_, rfl⟩
 rw [hA] at GG ⊢
 have HA := hide hA
 refine wp_region_K (fun w' => Im.Bl w' (A) [.complex .f64 u0 u1, .complex .f64 v0 v1] ∧ Im.Bl w' (A + 1) [.int .u8 k, .complex .f64 a b, .complex .f64 s t, .float .f64 p]) 11 12 #[false, false, false, false, false, false, false, false, false, false, false, false] (by kernel_rfl) (by kernel_rfl) (by kernel_rfl) ?_
 have GGd : Hid (Im.Bl W3.drew (A) [.complex .f64 u0 u1, .complex .f64 v0 v1] ∧ Im.Bl W3.drew (A + 1) [.int .u8 k, .complex .f64 a b, .complex .f64 s t, .float .f64 p] ∧ Im.Bl W3.drew (A + 1 + 1) [.int .u8 0, .complex .f64 0 0, .complex .f64 0 0, .float .f64 0, .slice none 0 0] ∧ Bw w W3.drew) := ⟨GG.out.1.bw (Bw.refl W3).drew, GG.out.2.1.bw (Bw.refl W3).drew, GG.out.2.2.1.bw (Bw.refl W3).drew, bw_trans GG.out.2.2.2 (Bw.refl W3).drew⟩
 generalize W3.drew = W3d at *
 have GGS : Im.Bl W3d (A) [.complex .f64 u0 u1, .complex .f64 v0 v1] ∧ Im.Bl W3d (A + 1) [.int .u8 k, .complex .f64 a b, .complex .f64 s t, .float .f64 p] := ⟨GGd.out.1, GGd.out.2.1⟩
 refine wpAnyK_take 0 6 (v := ?v0) rfl (by kernel_rfl) (by kernel_rfl) (by kernel_rfl) (by kernel_rfl) (by kernel_rfl) (fun _ _ _ h => h) rfl (Or.inl ⟨by rfl, ?h0⟩) (by assumption) ?r0
 case h0 => (intro w hSw; obtain ⟨h0, h1⟩ := hSw; have c00 := h0.c 0 _ rfl; have c01 := h0.c 1 _ rfl; have c10 := h1.c 0 _ rfl; have c11 := h1.c 1 _ rfl; have c12 := h1.c 2 _ rfl; have c13 := h1.c 3 _ rfl; go_simp; with_reducible rfl)
 simp only [Act.put, List.setIfInBounds_toArray, List.set_cons_zero, List.set_cons_succ]
 refine wpAnyK_take 1 7 (v := ?v1) rfl (by kernel_rfl) (by kernel_rfl) (by kernel_rfl) (by kernel_rfl) (by kernel_rfl) (fun _ _ _ h => h) rfl (Or.inl ⟨by rfl, ?h1⟩) (by assumption) ?r1
 case h1 => (intro w hSw; obtain ⟨h0, h1⟩ := hSw; have c00 := h0.c 0 _ rfl; have c01 := h0.c 1 _ rfl; have c10 := h1.c 0 _ rfl; have c11 := h1.c 1 _ rfl; have c12 := h1.c 2 _ rfl; have c13 := h1.c 3 _ rfl; go_simp; with_reducible rfl)
 simp only [Act.put, List.setIfInBounds_toArray, List.set_cons_zero, List.set_cons_succ]
 refine wpAnyK_take 3 9 (v := ?v3) rfl (by kernel_rfl) (by kernel_rfl) (by kernel_rfl) (by kernel_rfl) (by kernel_rfl) (fun _ _ _ h => h) rfl (Or.inl ⟨by rfl, ?h3⟩) (by assumption) ?r3
 case h3 => (intro w hSw; obtain ⟨h0, h1⟩ := hSw; have c00 := h0.c 0 _ rfl; have c01 := h0.c 1 _ rfl; have c10 := h1.c 0 _ rfl; have c11 := h1.c 1 _ rfl; have c12 := h1.c 2 _ rfl; have c13 := h1.c 3 _ rfl; go_simp; with_reducible rfl)
 simp only [Act.put, List.setIfInBounds_toArray, List.set_cons_zero, List.set_cons_succ]
 refine wpAnyK_take 4 10 (v := ?v4) rfl (by kernel_rfl) (by kernel_rfl) (by kernel_rfl) (by kernel_rfl) (by kernel_rfl) (fun _ _ _ h => h) rfl (Or.inl ⟨by rfl, ?h4⟩) (by assumption) ?r4
 case h4 => (intro w hSw; obtain ⟨h0, h1⟩ := hSw; have c00 := h0.c 0 _ rfl; have c01 := h0.c 1 _ rfl; have c10 := h1.c 0 _ rfl; have c11 := h1.c 1 _ rfl; have c12 := h1.c 2 _ rfl; have c13 := h1.c 3 _ rfl; go_simp; with_reducible rfl)
 simp only [Act.put, List.setIfInBounds_toArray, List.set_cons_zero, List.set_cons_succ]
 refine wpAnyK_take 5 11 (v := ?v5) rfl (by kernel_rfl) (by kernel_rfl) (by kernel_rfl) (by kernel_rfl) (by kernel_rfl) (fun _ _ _ h => h) rfl (Or.inl ⟨by rfl, ?h5⟩) (by assumption) ?r5
 case h5 => (intro w hSw; obtain ⟨h0, h1⟩ := hSw; have c00 := h0.c 0 _ rfl; have c01 := h0.c 1 _ rfl; have c10 := h1.c 0 _ rfl; have c11 := h1.c 1 _ rfl; have c12 := h1.c 2 _ rfl; have c13 := h1.c 3 _ rfl; go_simp; with_reducible rfl)
 simp only [Act.put, List.setIfInBounds_toArray, List.set_cons_zero, List.set_cons_succ]
 refine wpAnyK_take 6 12 (v := ?v6) rfl (by kernel_rfl) (by kernel_rfl) (by kernel_rfl) (by kernel_rfl) (by kernel_rfl) (fun _ _ _ h => h) rfl (Or.inl ⟨by rfl, ?h6⟩) (by assumption) ?r6
 case h6 => (intro w hSw; obtain ⟨h0, h1⟩ := hSw; have c00 := h0.c 0 _ rfl; have c01 := h0.c 1 _ rfl; have c10 := h1.c 0 _ rfl; have c11 := h1.c 1 _ rfl; have c12 := h1.c 2 _ rfl; have c13 := h1.c 3 _ rfl; go_simp; with_reducible rfl)
 simp only [Act.put, List.setIfInBounds_toArray, List.set_cons_zero, List.set_cons_succ]
 refine wpAnyK_one 2 (by kernel_rfl) rfl (fun K hK => ?_)
 go_simp
 refine (CJ.out _).mono ?_
 rintro e' w5 ⟨rfl, bb⟩
 have G5 : Hid (Im.Bl w5 (A) [.complex .f64 u0 u1, .complex .f64 v0 v1] ∧ Im.Bl w5 (A + 1) [.int .u8 k, .complex .f64 a b, .complex .f64 s t, .float .f64 p] ∧ Im.Bl w5 (A + 1 + 1) [.int .u8 0, .complex .f64 0 0, .complex .f64 0 0, .float .f64 0, .slice none 0 0] ∧ Bw w w5) := ⟨GGd.out.1.bw bb, GGd.out.2.1.bw bb, GGd.out.2.2.1.bw bb, bw_trans GGd.out.2.2.2 bb⟩
 clear bb GGS
 have G5S : Im.Bl w5 (A) [.complex .f64 u0 u1, .complex .f64 v0 v1] ∧ Im.Bl w5 (A + 1) [.int .u8 k, .complex .f64 a b, .complex .f64 s t, .float .f64 p] := ⟨G5.out.1, G5.out.2.1⟩
 refine hK.out _ _ (fun _ _ => G5S) ?_
 clear hK K
 simp only [List.setIfInBounds_toArray, List.set_cons_zero, List.set_cons_succ]
 refine wpAnyK_one 7 (by kernel_rfl) rfl (fun K hK => ?_)
 go_simp
 refine (MU.out _).mono ?_
 rintro e' w6 ⟨rfl, bb⟩
 have G6 : Hid (Im.Bl w6 (A) [.complex .f64 u0 u1, .complex .f64 v0 v1] ∧ Im.Bl w6 (A + 1) [.int .u8 k, .complex .f64 a b, .complex .f64 s t, .float .f64 p] ∧ Im.Bl w6 (A + 1 + 1) [.int .u8 0, .complex .f64 0 0, .complex .f64 0 0, .float .f64 0, .slice none 0 0] ∧ Bw w w6) := ⟨G5.out.1.bw bb, G5.out.2.1.bw bb, G5.out.2.2.1.bw bb, bw_trans G5.out.2.2.2 bb⟩
 clear bb G5S
 have G6S : Im.Bl w6 (A) [.complex .f64 u0 u1, .complex .f64 v0 v1] ∧ Im.Bl w6 (A + 1) [.int .u8 k, .complex .f64 a b, .complex .f64 s t, .float .f64 p] := ⟨G6.out.1, G6.out.2.1⟩
 refine hK.out _ _ (fun _ _ => G6S) ?_
 clear hK K
 simp only [List.setIfInBounds_toArray, List.set_cons_zero, List.set_cons_succ]
 refine wpAnyK_take 8 14 (v := ?ve8) rfl (by kernel_rfl) (by kernel_rfl) (by kernel_rfl) (by kernel_rfl) (by kernel_rfl) (fun _ _ _ h => h) rfl (Or.inl ⟨by rfl, ?he8⟩) (by assumption) ?re8
 case he8 => (intro w hSw; obtain ⟨h0, h1⟩ := hSw; have c00 := h0.c 0 _ rfl; have c01 := h0.c 1 _ rfl; have c10 := h1.c 0 _ rfl; have c11 := h1.c 1 _ rfl; have c12 := h1.c 2 _ rfl; have c13 := h1.c 3 _ rfl; go_simp; with_reducible rfl)
 simp only [Act.put, List.setIfInBounds_toArray, List.set_cons_zero, List.set_cons_succ]
 refine wpAnyK_one 9 (by kernel_rfl) rfl (fun K hK => ?_)
 go_simp
 refine (SC.out _).mono ?_
 rintro e' w7 ⟨rfl, bb⟩
 have G7 : Hid (Im.Bl w7 (A) [.complex .f64 u0 u1, .complex .f64 v0 v1] ∧ Im.Bl w7 (A + 1) [.int .u8 k, .complex .f64 a b, .complex .f64 s t, .float .f64 p] ∧ Im.Bl w7 (A + 1 + 1) [.int .u8 0, .complex .f64 0 0, .complex .f64 0 0, .float .f64 0, .slice none 0 0] ∧ Bw w w7) := ⟨G6.out.1.bw bb, G6.out.2.1.bw bb, G6.out.2.2.1.bw bb, bw_trans G6.out.2.2.2 bb⟩
 clear bb G6S
 have G7S : Im.Bl w7 (A) [.complex .f64 u0 u1, .complex .f64 v0 v1] ∧ Im.Bl w7 (A + 1) [.int .u8 k, .complex .f64 a b, .complex .f64 s t, .float .f64 p] := ⟨G7.out.1, G7.out.2.1⟩
 refine hK.out _ _ (fun _ _ => G7S) ?_
 clear hK K
 simp only [List.setIfInBounds_toArray, List.set_cons_zero, List.set_cons_succ]
 refine wpAnyK_take 10 16 (v := ?vf10) rfl (by kernel_rfl) (by kernel_rfl) (by kernel_rfl) (by kernel_rfl) (by kernel_rfl) (fun _ _ _ h => h) rfl (Or.inl ⟨by rfl, ?hf10⟩) (by assumption) ?rf10
 case hf10 => (intro w hSw; obtain ⟨h0, h1⟩ := hSw; have c00 := h0.c 0 _ rfl; have c01 := h0.c 1 _ rfl; have c10 := h1.c 0 _ rfl; have c11 := h1.c 1 _ rfl; have c12 := h1.c 2 _ rfl; have c13 := h1.c 3 _ rfl; go_simp; with_reducible rfl)
 simp only [Act.put, List.setIfInBounds_toArray, List.set_cons_zero, List.set_cons_succ]
 have q2 := G7.out.2.1.c 2 _ rfl
 have r2 := G7.out.2.1.fz 2
 refine wpAnyK_one 11 (by kernel_rfl) rfl (fun K hK => ?_)
 go_simp
 obtain ⟨V, hV⟩ : ∃ V, V = w7.setCell ⟨A + 1, 2, none⟩ (.complex .f64 s' t') := ⟨_, rfl⟩
 have GV : Hid (Im.Bl V (A + 1) [.int .u8 k, .complex .f64 a b, .complex .f64 s' t', .float .f64 p] ∧ Im.Bl V (A + 1 + 1) [.int .u8 0, .complex .f64 0 0, .complex .f64 0 0, .float .f64 0, .slice none 0 0] ∧ Bw w V) := by
  rw [hV]
  exact ⟨G7.out.2.1.set (i := 2) (by simp) _, G7.out.2.2.1.off (by omega), Below.setCell G7.out.2.2.2 (by show _ ≤ A + 1; have := HA.out; omega) _⟩
 rw [← hV]
 clear hV q2 r2 G7S
 refine hK.out _ _ (fun h => absurd rfl h) ?_
 clear hK K
 simp only [List.setIfInBounds_toArray, List.set_cons_zero, List.set_cons_succ]
 refine wpAnyK_done (by kernel_rfl) ?_ _
 have FIN : Hid (∀ X, X = Im.s5 V (A + 1 + 1) (.int .u8 k) (.complex .f64 a b) (.complex .f64 s' t') (.float .f64 p) (.slice none 0 0) → Im.Bl X (A + 1 + 1) [.int .u8 k, .complex .f64 a b, .complex .f64 s' t', .float .f64 p, .slice none 0 0] ∧ Bw w X) := by
  rintro X rfl
  exact ⟨Im.s5_at GV.out.2.1 _ _ _ _ _, Im.s5_bw GV.out.2.2 (by have := HA.out; omega) _ _ _ _ _⟩
 have e0 := GV.out.1.c 0 _ rfl
 have e1 := GV.out.1.c 1 _ rfl
 have e2 := GV.out.1.c 2 _ rfl
 have e3 := GV.out.1.c 3 _ rfl
 have q0 := GV.out.2.1.c 0 _ rfl
 have r0 := GV.out.2.1.fz 0
 have q1 := GV.out.2.1.c 1 _ rfl
 have r1 := GV.out.2.1.fz 1
 have q2 := GV.out.2.1.c 2 _ rfl
 have r2 := GV.out.2.1.fz 2
 have q3 := GV.out.2.1.c 3 _ rfl
 have r3 := GV.out.2.1.fz 3
 have q4 := GV.out.2.1.c 4 _ rfl
 have r4 := GV.out.2.1.fz 4
 go_wp2
 obtain ⟨f0, f1⟩ := FIN.out _ rfl
 unfold Im.s5 at f0 f1
 refine bodyPost_ret (Im.res_refl rfl _ _ (A + 1 + 1) rfl f0) rfl ?_
 exact ⟨rfl, f1⟩
set_option maxHeartbeats 16000000 in
theorem csourceI {k : Int} {a b s t p s' t' o0 o1 rr n0 n1 x y : Nat} {ok : Bool} (w : World)
  (CJ : Hid (∀ wz, Calls Tryz.prog 43 #[.complex .f64 s t] wz fun r w' => r = .returned (.complex .f64 s' t') ∧ Bw wz w'))
  (PL : Hid (∀ wz, Calls Tryz.prog 25 #[.agg #[.complex .f64 o0 o1, .float .f64 rr], .complex .f64 a b] wz fun r w' => r = .returned (.complex .f64 x y) ∧ Bw wz w'))
  (NG : Hid (∀ wz, Calls Tryz.prog 115 #[.complex .f64 s' t'] wz fun r w' => r = .returned (.complex .f64 n0 n1) ∧ Bw wz w'))
  (IO : Hid (∀ wz, Calls Tryz.prog 114 #[.agg #[.complex .f64 o0 o1, .float .f64 rr], .complex .f64 a b] wz fun r w' => r = .returned (.bool ok) ∧ Bw wz w')) :
  Calls Tryz.prog 112 #[.agg #[.complex .f64 o0 o1, .float .f64 rr], .agg #[.int .u8 k, .complex .f64 a b, .complex .f64 s t, .float .f64 p]] w fun r w' => ∃ B, r = .returned (.tuple #[.agg #[.int .u8 k, .complex .f64 a b, .complex .f64 s t, .float .f64 p, .slice (some ⟨B, 0, none⟩) 2 2], .bool ok]) ∧ w.heap.size ≤ B ∧ Im.Bl w' B [.int .u8 2, .complex .f64 x y, .complex .f64 s' t', .float .f64 0, .int .u8 2, .complex .f64 o0 o1, .complex .f64 n0 n1, .float .f64 0] ∧ Bw w w' := by
 have g1 := Im.Bl.new w #[.complex .f64 o0 o1, .float .f64 rr] 53
 have z1 : (w.alloc (.cells #[.complex .f64 o0 o1, .float .f64 rr] 53)).heap.size = w.heap.size + 1 := by simp
 have b1 := bw_alloc w (.cells #[.complex .f64 o0 o1, .float .f64 rr] 53)
 obtain ⟨W1, hW1⟩ : ∃ v, w.alloc (.cells #[.complex .f64 o0 o1, .float .f64 rr] 53) = v := ⟨_, rfl⟩
 rw [hW1] at g1 z1 b1
 have g2 := Im.Bl.new W1 #[.int .u8 k, .complex .f64 a b, .complex .f64 s t, .float .f64 p] 28
 have z2 : (W1.alloc (.cells #[.int .u8 k, .complex .f64 a b, .complex .f64 s t, .float .f64 p] 28)).heap.size = w.heap.size + 1 + 1 := by simp [z1]
 have b2 := bw_alloc W1 (.cells #[.int .u8 k, .complex .f64 a b, .complex .f64 s t, .float .f64 p] 28)
 obtain ⟨W2, hW2⟩ : ∃ v, W1.alloc (.cells #[.int .u8 k, .complex .f64 a b, .complex .f64 s t, .float .f64 p] 28) = v := ⟨_, rfl⟩
 rw [hW2] at g2 z2 b2
 have g3 := Im.Bl.new W2 #[.int .u8 0, .complex .f64 0 0, .complex .f64 0 0, .float .f64 0, .slice none 0 0] 70
 have z3 : (W2.alloc (.cells #[.int .u8 0, .complex .f64 0 0, .complex .f64 0 0, .float .f64 0, .slice none 0 0] 70)).heap.size = w.heap.size + 1 + 1 + 1 := by simp [z2]
 have b3 := bw_alloc W2 (.cells #[.int .u8 0, .complex .f64 0 0, .complex .f64 0 0, .float .f64 0, .slice none 0 0] 70)
 obtain ⟨W3, hW3⟩ : ∃ v, W2.alloc (.cells #[.int .u8 0, .complex .f64 0 0, .complex .f64 0 0, .float .f64 0, .slice none 0 0] 70) = v := ⟨_, rfl⟩
 rw [hW3] at g3 z3 b3
 have GG : Hid (Im.Bl W3 (w.heap.size) [.complex .f64 o0 o1, .float .f64 rr] ∧ Im.Bl W3 (w.heap.size + 1) [.int .u8 k, .complex .f64 a b, .complex .f64 s t, .float .f64 p] ∧ Im.Bl W3 (w.heap.size + 1 + 1) [.int .u8 0, .complex .f64 0 0, .complex .f64 0 0, .float .f64 0, .slice none 0 0] ∧ Bw w W3) := ⟨(show Im.Bl _ (w.heap.size) _ from g1).bw (bw_trans b2 b3), (show Im.Bl _ (w.heap.size + 1) _ from z1 ▸ g2).bw b3, (show Im.Bl _ (w.heap.size + 1 + 1) _ from z2 ▸ g3), (bw_trans b1 (bw_trans b2 b3))⟩
 have HW := hide (And.intro hW1 (And.intro hW2 (hW3)))
 clear g1 b1 z1 hW1 g2 b2 z2 hW2 g3 b3 z3 hW3
 go_enter Tryz.func112, Tryz.ntmps112
 go_wp2_with fail
 rw [HW.out.1, HW.out.2.1, HW.out.2.2]
 obtain ⟨A, hA⟩ : ∃ A, w.heap.size = A := ⟨_, rfl⟩
 rw [hA] at GG ⊢
 have HA := hide hA
 refine (CJ.out _).mono ?_
 rintro e' w4 ⟨rfl, bb⟩
 have G4 : Hid (Im.Bl w4 (A) [.complex .f64 o0 o1, .float .f64 rr] ∧ Im.Bl w4 (A + 1) [.int .u8 k, .complex .f64 a b, .complex .f64 s t, .float .f64 p] ∧ Im.Bl w4 (A + 1 + 1) [.int .u8 0, .complex .f64 0 0, .complex .f64 0 0, .float .f64 0, .slice none 0 0] ∧ Bw w w4) := ⟨GG.out.1.bw bb, GG.out.2.1.bw bb, GG.out.2.2.1.bw bb, bw_trans GG.out.2.2.2 bb⟩
 clear bb
 have G4S : Im.Bl w4 (A) [.complex .f64 o0 o1, .float .f64 rr] ∧ Im.Bl w4 (A + 1) [.int .u8 k, .complex .f64 a b, .complex .f64 s t, .float .f64 p] := ⟨G4.out.1, G4.out.2.1⟩
 clear G4S
 go_wp2_with fail
 refine wp_region_K (fun w' => Im.Bl w' (A) [.complex .f64 o0 o1, .float .f64 rr] ∧ Im.Bl w' (A + 1) [.int .u8 k, .complex .f64 a b, .complex .f64 s t, .float .f64 p]) 13 14 #[false, false, false, false, false, false, false, false, false, false, false, false, false, false] (by kernel_rfl) (by kernel_rfl) (by kernel_rfl) ?_
 have G5 : Hid (Im.Bl w4.drew (A) [.complex .f64 o0 o1, .float .f64 rr] ∧ Im.Bl w4.drew (A + 1) [.int .u8 k, .complex .f64 a b, .complex .f64 s t, .float .f64 p] ∧ Im.Bl w4.drew (A + 1 + 1) [.int .u8 0, .complex .f64 0 0, .complex .f64 0 0, .float .f64 0, .slice none 0 0] ∧ Bw w w4.drew) := ⟨G4.out.1.bw (Bw.refl w4).drew, G4.out.2.1.bw (Bw.refl w4).drew, G4.out.2.2.1.bw (Bw.refl w4).drew, bw_trans G4.out.2.2.2 (Bw.refl w4).drew⟩
 generalize w4.drew = w5 at *
 have G5S : Im.Bl w5 (A) [.complex .f64 o0 o1, .float .f64 rr] ∧ Im.Bl w5 (A + 1) [.int .u8 k, .complex .f64 a b, .complex .f64 s t, .float .f64 p] := ⟨G5.out.1, G5.out.2.1⟩
 refine wpAnyK_take 0 11 (v := ?v0) rfl (by kernel_rfl) (by kernel_rfl) (by kernel_rfl) (by kernel_rfl) (by kernel_rfl) (fun _ _ _ h => h) rfl (Or.inl ⟨by rfl, ?h0⟩) (by assumption) ?r0
 case h0 => (intro w hSw; obtain ⟨h0, h1⟩ := hSw; have c00 := h0.c 0 _ rfl; have c01 := h0.c 1 _ rfl; have c10 := h1.c 0 _ rfl; have c11 := h1.c 1 _ rfl; have c12 := h1.c 2 _ rfl; have c13 := h1.c 3 _ rfl; go_simp; with_reducible rfl)
 simp only [Act.put, List.setIfInBounds_toArray, List.set_cons_zero, List.set_cons_succ]
 refine wpAnyK_take 1 12 (v := ?v1) rfl (by kernel_rfl) (by kernel_rfl) (by kernel_rfl) (by kernel_rfl) (by kernel_rfl) (fun _ _ _ h => h) rfl (Or.inl ⟨by rfl, ?h1⟩) (by assumption) ?r1
 case h1 => (intro w hSw; obtain ⟨h0, h1⟩ := hSw; have c00 := h0.c 0 _ rfl; have c01 := h0.c 1 _ rfl; have c10 := h1.c 0 _ rfl; have c11 := h1.c 1 _ rfl; have c12 := h1.c 2 _ rfl; have c13 := h1.c 3 _ rfl; go_simp; with_reducible rfl)
 simp only [Act.put, List.setIfInBounds_toArray, List.set_cons_zero, List.set_cons_succ]
 refine wpAnyK_take 2 13 (v := ?v2) rfl (by kernel_rfl) (by kernel_rfl) (by kernel_rfl) (by kernel_rfl) (by kernel_rfl) (fun _ _ _ h => h) rfl (Or.inl ⟨by rfl, ?h2⟩) (by assumption) ?r2
 case h2 => (intro w hSw; obtain ⟨h0, h1⟩ := hSw; have c00 := h0.c 0 _ rfl; have c01 := h0.c 1 _ rfl; have c10 := h1.c 0 _ rfl; have c11 := h1.c 1 _ rfl; have c12 := h1.c 2 _ rfl; have c13 := h1.c 3 _ rfl; go_simp; with_reducible rfl)
 simp only [Act.put, List.setIfInBounds_toArray, List.set_cons_zero, List.set_cons_succ]
 refine wpAnyK_take 4 15 (v := ?v4) rfl (by kernel_rfl) (by kernel_rfl) (by kernel_rfl) (by kernel_rfl) (by kernel_rfl) (fun _ _ _ h => h) rfl (Or.inl ⟨by rfl, ?h4⟩) (by assumption) ?r4
 case h4 => (intro w hSw; obtain ⟨h0, h1⟩ := hSw; have c00 := h0.c 0 _ rfl; have c01 := h0.c 1 _ rfl; have c10 := h1.c 0 _ rfl; have c11 := h1.c 1 _ rfl; have c12 := h1.c 2 _ rfl; have c13 := h1.c 3 _ rfl; go_simp; with_reducible rfl)
 simp only [Act.put, List.setIfInBounds_toArray, List.set_cons_zero, List.set_cons_succ]
 refine wpAnyK_take 6 17 (v := ?v6) rfl (by kernel_rfl) (by kernel_rfl) (by kernel_rfl) (by kernel_rfl) (by kernel_rfl) (fun _ _ _ h => h) rfl (Or.inl ⟨by rfl, ?h6⟩) (by assumption) ?r6
 case h6 => (intro w hSw; obtain ⟨h0, h1⟩ := hSw; have c00 := h0.c 0 _ rfl; have c01 := h0.c 1 _ rfl; have c10 := h1.c 0 _ rfl; have c11 := h1.c 1 _ rfl; have c12 := h1.c 2 _ rfl; have c13 := h1.c 3 _ rfl; go_simp; with_reducible rfl)
 simp only [Act.put, List.setIfInBounds_toArray, List.set_cons_zero, List.set_cons_succ]
 refine wpAnyK_take 7 18 (v := ?v7) rfl (by kernel_rfl) (by kernel_rfl) (by kernel_rfl) (by kernel_rfl) (by kernel_rfl) (fun _ _ _ h => h) rfl (Or.inl ⟨by rfl, ?h7⟩) (by assumption) ?r7
 case h7 => (intro w hSw; obtain ⟨h0, h1⟩ := hSw; have c00 := h0.c 0 _ rfl; have c01 := h0.c 1 _ rfl; have c10 := h1.c 0 _ rfl; have c11 := h1.c 1 _ rfl; have c12 := h1.c 2 _ rfl; have c13 := h1.c 3 _ rfl; go_simp; with_reducible rfl)
 simp only [Act.put, List.setIfInBounds_toArray, List.set_cons_zero, List.set_cons_succ]
 refine wpAnyK_take 8 19 (v := ?v8) rfl (by kernel_rfl) (by kernel_rfl) (by kernel_rfl) (by kernel_rfl) (by kernel_rfl) (fun _ _ _ h => h) rfl (Or.inl ⟨by rfl, ?h8⟩) (by assumption) ?r8
 case h8 => (intro w hSw; obtain ⟨h0, h1⟩ := hSw; have c00 := h0.c 0 _ rfl; have c01 := h0.c 1 _ rfl; have c10 := h1.c 0 _ rfl; have c11 := h1.c 1 _ rfl; have c12 := h1.c 2 _ rfl; have c13 := h1.c 3 _ rfl; go_simp; with_reducible rfl)
 simp only [Act.put, List.setIfInBounds_toArray, List.set_cons_zero, List.set_cons_succ]
 refine wpAnyK_take 9 20 (v := ?v9) rfl (by kernel_rfl) (by kernel_rfl) (by kernel_rfl) (by kernel_rfl) (by kernel_rfl) (fun _ _ _ h => h) rfl (Or.inl ⟨by rfl, ?h9⟩) (by assumption) ?r9
 case h9 => (intro w hSw; obtain ⟨h0, h1⟩ := hSw; have c00 := h0.c 0 _ rfl; have c01 := h0.c 1 _ rfl; have c10 := h1.c 0 _ rfl; have c11 := h1.c 1 _ rfl; have c12 := h1.c 2 _ rfl; have c13 := h1.c 3 _ rfl; go_simp; with_reducible rfl)
 simp only [Act.put, List.setIfInBounds_toArray, List.set_cons_zero, List.set_cons_succ]
 refine wpAnyK_one 3 (by kernel_rfl) rfl (fun K hK => ?_)
 go_simp
 refine (PL.out _).mono ?_
 rintro e' w6 ⟨rfl, bb⟩
 have G6 : Hid (Im.Bl w6 (A) [.complex .f64 o0 o1, .float .f64 rr] ∧ Im.Bl w6 (A + 1) [.int .u8 k, .complex .f64 a b, .complex .f64 s t, .float .f64 p] ∧ Im.Bl w6 (A + 1 + 1) [.int .u8 0, .complex .f64 0 0, .complex .f64 0 0, .float .f64 0, .slice none 0 0] ∧ Bw w w6) := ⟨G5.out.1.bw bb, G5.out.2.1.bw bb, G5.out.2.2.1.bw bb, bw_trans G5.out.2.2.2 bb⟩
 clear bb G5S
 have G6S : Im.Bl w6 (A) [.complex .f64 o0 o1, .float .f64 rr] ∧ Im.Bl w6 (A + 1) [.int .u8 k, .complex .f64 a b, .complex .f64 s t, .float .f64 p] := ⟨G6.out.1, G6.out.2.1⟩
 refine hK.out _ _ (fun _ _ => G6S) ?_
 clear hK K
 simp only [List.setIfInBounds_toArray, List.set_cons_zero, List.set_cons_succ]
 refine wpAnyK_take 5 16 (v := ?ve5) rfl (by kernel_rfl) (by kernel_rfl) (by kernel_rfl) (by kernel_rfl) (by kernel_rfl) (fun _ _ _ h => h) rfl (Or.inl ⟨by rfl, ?he5⟩) (by assumption) ?re5
 case he5 => (intro w hSw; obtain ⟨h0, h1⟩ := hSw; have c00 := h0.c 0 _ rfl; have c01 := h0.c 1 _ rfl; have c10 := h1.c 0 _ rfl; have c11 := h1.c 1 _ rfl; have c12 := h1.c 2 _ rfl; have c13 := h1.c 3 _ rfl; go_simp; with_reducible rfl)
 simp only [Act.put, List.setIfInBounds_toArray, List.set_cons_zero, List.set_cons_succ]
 refine wpAnyK_one 10 (by kernel_rfl) rfl (fun K hK => ?_)
 go_simp
 refine (NG.out _).mono ?_
 rintro e' w7 ⟨rfl, bb⟩
 have G7 : Hid (Im.Bl w7 (A) [.complex .f64 o0 o1, .float .f64 rr] ∧ Im.Bl w7 (A + 1) [.int .u8 k, .complex .f64 a b, .complex .f64 s t, .float .f64 p] ∧ Im.Bl w7 (A + 1 + 1) [.int .u8 0, .complex .f64 0 0, .complex .f64 0 0, .float .f64 0, .slice none 0 0] ∧ Bw w w7) := ⟨G6.out.1.bw bb, G6.out.2.1.bw bb, G6.out.2.2.1.bw bb, bw_trans G6.out.2.2.2 bb⟩
 clear bb G6S
 have G7S : Im.Bl w7 (A) [.complex .f64 o0 o1, .float .f64 rr] ∧ Im.Bl w7 (A + 1) [.int .u8 k, .complex .f64 a b, .complex .f64 s t, .float .f64 p] := ⟨G7.out.1, G7.out.2.1⟩
 refine hK.out _ _ (fun _ _ => G7S) ?_
 clear hK K
 simp only [List.setIfInBounds_toArray, List.set_cons_zero, List.set_cons_succ]
 refine wpAnyK_take 11 22 (v := ?vf11) rfl (by kernel_rfl) (by kernel_rfl) (by kernel_rfl) (by kernel_rfl) (by kernel_rfl) (fun _ _ _ h => h) rfl (Or.inl ⟨by rfl, ?hf11⟩) (by assumption) ?rf11
 case hf11 => (intro w hSw; obtain ⟨h0, h1⟩ := hSw; have c00 := h0.c 0 _ rfl; have c01 := h0.c 1 _ rfl; have c10 := h1.c 0 _ rfl; have c11 := h1.c 1 _ rfl; have c12 := h1.c 2 _ rfl; have c13 := h1.c 3 _ rfl; go_simp; with_reducible rfl)
 simp only [Act.put, List.setIfInBounds_toArray, List.set_cons_zero, List.set_cons_succ]
 refine wpAnyK_one 12 (by kernel_rfl) rfl (fun K hK => ?_)
 go_simp
 have GB := Im.Bl.new w7 #[.int .u8 2, .complex .f64 x y, .complex .f64 s' t', .float .f64 0, .int .u8 2, .complex .f64 o0 o1, .complex .f64 n0 n1, .float .f64 0] 28
 have bB := bw_alloc w7 (.cells #[.int .u8 2, .complex .f64 x y, .complex .f64 s' t', .float .f64 0, .int .u8 2, .complex .f64 o0 o1, .complex .f64 n0 n1, .float .f64 0] 28)
 obtain ⟨w8, hw8⟩ : ∃ V, w7.alloc (.cells #[.int .u8 2, .complex .f64 x y, .complex .f64 s' t', .float .f64 0, .int .u8 2, .complex .f64 o0 o1, .complex .f64 n0 n1, .float .f64 0] 28) = V := ⟨_, rfl⟩
 rw [hw8] at GB bB ⊢
 obtain ⟨B, hB⟩ : ∃ B, w7.heap.size = B := ⟨_, rfl⟩
 rw [hB] at GB ⊢
 have HN := hide (show w.heap.size ≤ B ∧ A + 1 + 1 < B from ⟨by have := G7.out.2.2.2.size; omega, by rw [← hB]; exact G7.out.2.2.1.lt⟩)
 have G8 : Hid (Im.Bl w8 (A) [.complex .f64 o0 o1, .float .f64 rr] ∧ Im.Bl w8 (A + 1) [.int .u8 k, .complex .f64 a b, .complex .f64 s t, .float .f64 p] ∧ Im.Bl w8 (A + 1 + 1) [.int .u8 0, .complex .f64 0 0, .complex .f64 0 0, .float .f64 0, .slice none 0 0] ∧ Bw w w8) := ⟨G7.out.1.bw bB, G7.out.2.1.bw bB, G7.out.2.2.1.bw bB, bw_trans G7.out.2.2.2 bB⟩
 have GB8 := hide GB
 have G8S : Im.Bl w8 (A) [.complex .f64 o0 o1, .float .f64 rr] ∧ Im.Bl w8 (A + 1) [.int .u8 k, .complex .f64 a b, .complex .f64 s t, .float .f64 p] := ⟨G8.out.1, G8.out.2.1⟩
 clear hw8 hB GB bB G7S
 refine hK.out _ _ (fun _ _ => G8S) ?_
 clear hK K
 simp only [List.setIfInBounds_toArray, List.set_cons_zero, List.set_cons_succ]
 refine wpAnyK_one 13 (by kernel_rfl) rfl (fun K hK => ?_)
 go_simp
 refine hK.out _ _ (fun h => absurd rfl h) ?_
 clear hK K
 simp only [List.setIfInBounds_toArray, List.set_cons_zero, List.set_cons_succ]
 refine wpAnyK_done (by kernel_rfl) ?_ _
 clear G8S
 go_wp2_with fail
 refine wp_region_K (fun w' => Im.Bl w' (A) [.complex .f64 o0 o1, .float .f64 rr] ∧ Im.Bl w' (A + 1) [.int .u8 k, .complex .f64 a b, .complex .f64 s t, .float .f64 p]) 8 9 #[false, false, false, false, false, false, false, false, false] (by kernel_rfl) (by kernel_rfl) (by kernel_rfl) ?_
 have G9 : Hid (Im.Bl w8.drew (A) [.complex .f64 o0 o1, .float .f64 rr] ∧ Im.Bl w8.drew (A + 1) [.int .u8 k, .complex .f64 a b, .complex .f64 s t, .float .f64 p] ∧ Im.Bl w8.drew (A + 1 + 1) [.int .u8 0, .complex .f64 0 0, .complex .f64 0 0, .float .f64 0, .slice none 0 0] ∧ Bw w w8.drew) := ⟨G8.out.1.bw (Bw.refl w8).drew, G8.out.2.1.bw (Bw.refl w8).drew, G8.out.2.2.1.bw (Bw.refl w8).drew, bw_trans G8.out.2.2.2 (Bw.refl w8).drew⟩
 have GBd := hide (GB8.out.bw (Bw.refl w8).drew)
 generalize w8.drew = w9 at *
 have G9S : Im.Bl w9 (A) [.complex .f64 o0 o1, .float .f64 rr] ∧ Im.Bl w9 (A + 1) [.int .u8 k, .complex .f64 a b, .complex .f64 s t, .float .f64 p] := ⟨G9.out.1, G9.out.2.1⟩
 have GB9 : Hid (Im.Bl w9 B [.int .u8 2, .complex .f64 x y, .complex .f64 s' t', .float .f64 0, .int .u8 2, .complex .f64 o0 o1, .complex .f64 n0 n1, .float .f64 0]) := GBd.out
 refine wpAnyK_take 0 24 (v := ?vg0) rfl (by kernel_rfl) (by kernel_rfl) (by kernel_rfl) (by kernel_rfl) (by kernel_rfl) (fun _ _ _ h => h) rfl (Or.inl ⟨by rfl, ?hg0⟩) (by assumption) ?rg0
 case hg0 => (intro w hSw; obtain ⟨h0, h1⟩ := hSw; have c00 := h0.c 0 _ rfl; have c01 := h0.c 1 _ rfl; have c10 := h1.c 0 _ rfl; have c11 := h1.c 1 _ rfl; have c12 := h1.c 2 _ rfl; have c13 := h1.c 3 _ rfl; go_simp; with_reducible rfl)
 simp only [Act.put, List.setIfInBounds_toArray, List.set_cons_zero, List.set_cons_succ]
 refine wpAnyK_take 1 25 (v := ?vg1) rfl (by kernel_rfl) (by kernel_rfl) (by kernel_rfl) (by kernel_rfl) (by kernel_rfl) (fun _ _ _ h => h) rfl (Or.inl ⟨by rfl, ?hg1⟩) (by assumption) ?rg1
 case hg1 => (intro w hSw; obtain ⟨h0, h1⟩ := hSw; have c00 := h0.c 0 _ rfl; have c01 := h0.c 1 _ rfl; have c10 := h1.c 0 _ rfl; have c11 := h1.c 1 _ rfl; have c12 := h1.c 2 _ rfl; have c13 := h1.c 3 _ rfl; go_simp; with_reducible rfl)
 simp only [Act.put, List.setIfInBounds_toArray, List.set_cons_zero, List.set_cons_succ]
 refine wpAnyK_take 2 26 (v := ?vg2) rfl (by kernel_rfl) (by kernel_rfl) (by kernel_rfl) (by kernel_rfl) (by kernel_rfl) (fun _ _ _ h => h) rfl (Or.inl ⟨by rfl, ?hg2⟩) (by assumption) ?rg2
 case hg2 => (intro w hSw; obtain ⟨h0, h1⟩ := hSw; have c00 := h0.c 0 _ rfl; have c01 := h0.c 1 _ rfl; have c10 := h1.c 0 _ rfl; have c11 := h1.c 1 _ rfl; have c12 := h1.c 2 _ rfl; have c13 := h1.c 3 _ rfl; go_simp; with_reducible rfl)
 simp only [Act.put, List.setIfInBounds_toArray, List.set_cons_zero, List.set_cons_succ]
 refine wpAnyK_take 3 27 (v := ?vg3) rfl (by kernel_rfl) (by kernel_rfl) (by kernel_rfl) (by kernel_rfl) (by kernel_rfl) (fun _ _ _ h => h) rfl (Or.inl ⟨by rfl, ?hg3⟩) (by assumption) ?rg3
 case hg3 => (intro w hSw; obtain ⟨h0, h1⟩ := hSw; have c00 := h0.c 0 _ rfl; have c01 := h0.c 1 _ rfl; have c10 := h1.c 0 _ rfl; have c11 := h1.c 1 _ rfl; have c12 := h1.c 2 _ rfl; have c13 := h1.c 3 _ rfl; go_simp; with_reducible rfl)
 simp only [Act.put, List.setIfInBounds_toArray, List.set_cons_zero, List.set_cons_succ]
 refine wpAnyK_take 4 28 (v := ?vg4) rfl (by kernel_rfl) (by kernel_rfl) (by kernel_rfl) (by kernel_rfl) (by kernel_rfl) (fun _ _ _ h => h) rfl (Or.inl ⟨by rfl, ?hg4⟩) (by assumption) ?rg4
 case hg4 => (intro w hSw; obtain ⟨h0, h1⟩ := hSw; have c00 := h0.c 0 _ rfl; have c01 := h0.c 1 _ rfl; have c10 := h1.c 0 _ rfl; have c11 := h1.c 1 _ rfl; have c12 := h1.c 2 _ rfl; have c13 := h1.c 3 _ rfl; go_simp; with_reducible rfl)
 simp only [Act.put, List.setIfInBounds_toArray, List.set_cons_zero, List.set_cons_succ]
 refine wpAnyK_take 5 29 (v := ?vg5) rfl (by kernel_rfl) (by kernel_rfl) (by kernel_rfl) (by kernel_rfl) (by kernel_rfl) (fun _ _ _ h => h) rfl (Or.inl ⟨by rfl, ?hg5⟩) (by assumption) ?rg5
 case hg5 => (intro w hSw; obtain ⟨h0, h1⟩ := hSw; have c00 := h0.c 0 _ rfl; have c01 := h0.c 1 _ rfl; have c10 := h1.c 0 _ rfl; have c11 := h1.c 1 _ rfl; have c12 := h1.c 2 _ rfl; have c13 := h1.c 3 _ rfl; go_simp; with_reducible rfl)
 simp only [Act.put, List.setIfInBounds_toArray, List.set_cons_zero, List.set_cons_succ]
 refine wpAnyK_one 6 (by kernel_rfl) rfl (fun K hK => ?_)
 go_simp
 refine (IO.out _).mono ?_
 rintro e' w10 ⟨rfl, bb⟩
 have G10 : Hid (Im.Bl w10 (A) [.complex .f64 o0 o1, .float .f64 rr] ∧ Im.Bl w10 (A + 1) [.int .u8 k, .complex .f64 a b, .complex .f64 s t, .float .f64 p] ∧ Im.Bl w10 (A + 1 + 1) [.int .u8 0, .complex .f64 0 0, .complex .f64 0 0, .float .f64 0, .slice none 0 0] ∧ Bw w w10) := ⟨G9.out.1.bw bb, G9.out.2.1.bw bb, G9.out.2.2.1.bw bb, bw_trans G9.out.2.2.2 bb⟩
 have GB10 := hide (GB9.out.bw bb)
 clear bb G9S
 have G10S : Im.Bl w10 (A) [.complex .f64 o0 o1, .float .f64 rr] ∧ Im.Bl w10 (A + 1) [.int .u8 k, .complex .f64 a b, .complex .f64 s t, .float .f64 p] := ⟨G10.out.1, G10.out.2.1⟩
 refine hK.out _ _ (fun _ _ => G10S) ?_
 clear hK K
 simp only [List.setIfInBounds_toArray, List.set_cons_zero, List.set_cons_succ]
 have GZ : Hid (∀ V, V = Im.s5 w10 (A + 1 + 1) (.int .u8 k) (.complex .f64 a b) (.complex .f64 s t) (.float .f64 p) (.slice (some ⟨B, 0, none⟩) 2 2) → (Im.Bl V (A) [.complex .f64 o0 o1, .float .f64 rr] ∧ Im.Bl V (A + 1) [.int .u8 k, .complex .f64 a b, .complex .f64 s t, .float .f64 p]) ∧ Im.Bl V (A + 1 + 1) [.int .u8 k, .complex .f64 a b, .complex .f64 s t, .float .f64 p, .slice (some ⟨B, 0, none⟩) 2 2] ∧ Im.Bl V B [.int .u8 2, .complex .f64 x y, .complex .f64 s' t', .float .f64 0, .int .u8 2, .complex .f64 o0 o1, .complex .f64 n0 n1, .float .f64 0] ∧ w.heap.size ≤ B ∧ Bw w V) := by
  rintro V rfl
  have n1 := HN.out.2
  have n2 := HA.out
  exact ⟨⟨Im.s5_off G10.out.1 (by omega) _ _ _ _ _, Im.s5_off G10.out.2.1 (by omega) _ _ _ _ _⟩, Im.s5_at G10.out.2.2.1 _ _ _ _ _, Im.s5_off GB10.out (by omega) _ _ _ _ _, HN.out.1, Im.s5_bw G10.out.2.2.2 (by omega) _ _ _ _ _⟩
 have q0 := G10.out.2.2.1.c 0 _ rfl
 have r0 := G10.out.2.2.1.fz 0
 have q1 := G10.out.2.2.1.c 1 _ rfl
 have r1 := G10.out.2.2.1.fz 1
 have q2 := G10.out.2.2.1.c 2 _ rfl
 have r2 := G10.out.2.2.1.fz 2
 have q3 := G10.out.2.2.1.c 3 _ rfl
 have r3 := G10.out.2.2.1.fz 3
 have q4 := G10.out.2.2.1.c 4 _ rfl
 have r4 := G10.out.2.2.1.fz 4
 refine wpAnyK_one 7 (by kernel_rfl) rfl (fun K hK => ?_)
 go_simp
 obtain ⟨V, hV⟩ : ∃ V, V = Im.s5 w10 (A + 1 + 1) (.int .u8 k) (.complex .f64 a b) (.complex .f64 s t) (.float .f64 p) (.slice (some ⟨B, 0, none⟩) 2 2) := ⟨_, rfl⟩
 have GV := hide (GZ.out _ hV)
 unfold Im.s5 at hV
 rw [← hV]
 clear hV GZ q0 r0 q1 r1 q2 r2 q3 r3 q4 r4
 refine hK.out _ _ (fun _ _ => GV.out.1) ?_
 clear hK K
 simp only [List.setIfInBounds_toArray, List.set_cons_zero, List.set_cons_succ]
 refine wpAnyK_one 8 (by kernel_rfl) rfl (fun K hK => ?_)
 go_simp
 refine hK.out _ _ (fun h => absurd rfl h) ?_
 clear hK K
 simp only [List.setIfInBounds_toArray, List.set_cons_zero, List.set_cons_succ]
 refine wpAnyK_done (by kernel_rfl) ?_ _
 go_wp2
 refine bodyPost_ret (Im.res_refl rfl _ _ (A + 1 + 1) rfl GV.out.2.1) rfl ?_
 exact ⟨B, rfl, GV.out.2.2.2.1, GV.out.2.2.1, GV.out.2.2.2.2⟩
set_option maxHeartbeats 16000000 in
theorem cstreamI {k : Int} {a b s t p s' t' o0 o1 rr c0 c1 sq : Nat} (w : World)
  (CJ : Hid (∀ wz, Calls Tryz.prog 43 #[.complex .f64 s t] wz fun r w' => r = .returned (.complex .f64 c0 c1) ∧ Bw wz w'))
  (SQ : Hid (∀ wz, Calls Tryz.prog 58 #[.agg #[.complex .f64 o0 o1, .float .f64 rr]] wz fun r w' => r = .returned (.float .f64 sq) ∧ Bw wz w'))
  (SC : Hid (∀ wz, Calls Tryz.prog 106 #[.complex .f64 c0 c1, .float .f64 sq] wz fun r w' => r = .returned (.complex .f64 s' t') ∧ Bw wz w')) :
  Calls Tryz.prog 113 #[.agg #[.complex .f64 o0 o1, .float .f64 rr], .agg #[.int .u8 k, .complex .f64 a b, .complex .f64 s t, .float .f64 p]] w fun r w' => ∃ B, r = .returned (.tuple #[.agg #[.int .u8 k, .complex .f64 a b, .complex .f64 s t, .float .f64 p, .slice (some ⟨B, 0, none⟩) 1 1], .bool true]) ∧ w.heap.size ≤ B ∧ Im.Bl w' B [.int .u8 3, .complex .f64 o0 o1, .complex .f64 s' t', .float .f64 4607182418800017408] ∧ Bw w w' := by
 have g1 := Im.Bl.new w #[.complex .f64 o0 o1, .float .f64 rr] 53
 have z1 : (w.alloc (.cells #[.complex .f64 o0 o1, .float .f64 rr] 53)).heap.size = w.heap.size + 1 := by simp
 have b1 := bw_alloc w (.cells #[.complex .f64 o0 o1, .float .f64 rr] 53)
 obtain ⟨W1, hW1⟩ : ∃ v, w.alloc (.cells #[.complex .f64 o0 o1, .float .f64 rr] 53) = v := ⟨_, rfl⟩
 rw [hW1] at g1 z1 b1
 have g2 := Im.Bl.new W1 #[.int .u8 k, .complex .f64 a b, .complex .f64 s t, .float .f64 p] 28
 have z2 : (W1.alloc (.cells #[.int .u8 k, .complex .f64 a b, .complex .f64 s t, .float .f64 p] 28)).heap.size = w.heap.size + 1 + 1 := by simp [z1]
 have b2 := bw_alloc W1 (.cells #[.int .u8 k, .complex .f64 a b, .complex .f64 s t, .float .f64 p] 28)
 obtain ⟨W2, hW2⟩ : ∃ v, W1.alloc (.cells #[.int .u8 k, .complex .f64 a b, .complex .f64 s t, .float .f64 p] 28) = v := ⟨_, rfl⟩
 rw [hW2] at g2 z2 b2
 have g3 := Im.Bl.new W2 #[.int .u8 0, .complex .f64 0 0, .complex .f64 0 0, .float .f64 0, .slice none 0 0] 70
 have z3 : (W2.alloc (.cells #[.int .u8 0, .complex .f64 0 0, .complex .f64 0 0, .float .f64 0, .slice none 0 0] 70)).heap.size = w.heap.size + 1 + 1 + 1 := by simp [z2]
 have b3 := bw_alloc W2 (.cells #[.int .u8 0, .complex .f64 0 0, .complex .f64 0 0, .float .f64 0, .slice none 0 0] 70)
 obtain ⟨W3, hW3⟩ : ∃ v, W2.alloc (.cells #[.int .u8 0, .complex .f64 0 0, .complex .f64 0 0, .float .f64 0, .slice none 0 0] 70) = v := ⟨_, rfl⟩
 rw [hW3] at g3 z3 b3
 have GG : Hid (Im.Bl W3 (w.heap.size) [.complex .f64 o0 o1, .float .f64 rr] ∧ Im.Bl W3 (w.heap.size + 1) [.int .u8 k, .complex .f64 a b, .complex .f64 s t, .float .f64 p] ∧ Im.Bl W3 (w.heap.size + 1 + 1) [.int .u8 0, .complex .f64 0 0, .complex .f64 0 0, .float .f64 0, .slice none 0 0] ∧ Bw w W3) := ⟨(show Im.Bl _ (w.heap.size) _ from g1).bw (bw_trans b2 b3), (show Im.Bl _ (w.heap.size + 1) _ from z1 ▸ g2).bw b3, (show Im.Bl _ (w.heap.size + 1 + 1) _ from z2 ▸ g3), (bw_trans b1 (bw_trans b2 b3))⟩
 have HW := hide (And.intro hW1 (And.intro hW2 (hW3)))
 clear g1 b1 z1 hW1 g2 b2 z2 hW2 g3 b3 z3 hW3
 go_enter Tryz.func113, Tryz.ntmps113
 go_wp2_with fail
 rw [HW.out.1, HW.out.2.1, HW.out.2.2]
 obtain ⟨A, hA⟩ : ∃ A, w.heap.size = A := ⟨_, rfl⟩
 rw [hA] at GG ⊢
 have HA := hide hA
 refine wp_region_K (fun w' => Im.Bl w' (A) [.complex .f64 o0 o1, .float .f64 rr] ∧ Im.Bl w' (A + 1) [.int .u8 k, .complex .f64 a b, .complex .f64 s t, .float .f64 p]) 6 7 #[false, false, false, false, false, false, false] (by kernel_rfl) (by kernel_rfl) (by kernel_rfl) ?_
 have GGd : Hid (Im.Bl W3.drew (A) [.complex .f64 o0 o1, .float .f64 rr] ∧ Im.Bl W3.drew (A + 1) [.int .u8 k, .complex .f64 a b, .complex .f64 s t, .float .f64 p] ∧ Im.Bl W3.drew (A + 1 + 1) [.int .u8 0, .complex .f64 0 0, .complex .f64 0 0, .float .f64 0, .slice none 0 0] ∧ Bw w W3.drew) := ⟨GG.out.1.bw (Bw.refl W3).drew, GG.out.2.1.bw (Bw.refl W3).drew, GG.out.2.2.1.bw (Bw.refl W3).drew, bw_trans GG.out.2.2.2 (Bw.refl W3).drew⟩
 generalize W3.drew = W3d at *
 have GGS : Im.Bl W3d (A) [.complex .f64 o0 o1, .float .f64 rr] ∧ Im.Bl W3d (A + 1) [.int .u8 k, .complex .f64 a b, .complex .f64 s t, .float .f64 p] := ⟨GGd.out.1, GGd.out.2.1⟩
 refine wpAnyK_take 0 8 (v := ?v0) rfl (by kernel_rfl) (by kernel_rfl) (by kernel_rfl) (by kernel_rfl) (by kernel_rfl) (fun _ _ _ h => h) rfl (Or.inl ⟨by rfl, ?h0⟩) (by assumption) ?r0
 case h0 => (intro w hSw; obtain ⟨h0, h1⟩ := hSw; have c00 := h0.c 0 _ rfl; have c01 := h0.c 1 _ rfl; have c10 := h1.c 0 _ rfl; have c11 := h1.c 1 _ rfl; have c12 := h1.c 2 _ rfl; have c13 := h1.c 3 _ rfl; go_simp; with_reducible rfl)
 simp only [Act.put, List.setIfInBounds_toArray, List.set_cons_zero, List.set_cons_succ]
 refine wpAnyK_take 1 9 (v := ?v1) rfl (by kernel_rfl) (by kernel_rfl) (by kernel_rfl) (by kernel_rfl) (by kernel_rfl) (fun _ _ _ h => h) rfl (Or.inl ⟨by rfl, ?h1⟩) (by assumption) ?r1
 case h1 => (intro w hSw; obtain ⟨h0, h1⟩ := hSw; have c00 := h0.c 0 _ rfl; have c01 := h0.c 1 _ rfl; have c10 := h1.c 0 _ rfl; have c11 := h1.c 1 _ rfl; have c12 := h1.c 2 _ rfl; have c13 := h1.c 3 _ rfl; go_simp; with_reducible rfl)
 simp only [Act.put, List.setIfInBounds_toArray, List.set_cons_zero, List.set_cons_succ]
 refine wpAnyK_take 3 11 (v := ?v3) rfl (by kernel_rfl) (by kernel_rfl) (by kernel_rfl) (by kernel_rfl) (by kernel_rfl) (fun _ _ _ h => h) rfl (Or.inl ⟨by rfl, ?h3⟩) (by assumption) ?r3
 case h3 => (intro w hSw; obtain ⟨h0, h1⟩ := hSw; have c00 := h0.c 0 _ rfl; have c01 := h0.c 1 _ rfl; have c10 := h1.c 0 _ rfl; have c11 := h1.c 1 _ rfl; have c12 := h1.c 2 _ rfl; have c13 := h1.c 3 _ rfl; go_simp; with_reducible rfl)
 simp only [Act.put, List.setIfInBounds_toArray, List.set_cons_zero, List.set_cons_succ]
 refine wpAnyK_one 2 (by kernel_rfl) rfl (fun K hK => ?_)
 go_simp
 refine (CJ.out _).mono ?_
 rintro e' w5 ⟨rfl, bb⟩
 have G5 : Hid (Im.Bl w5 (A) [.complex .f64 o0 o1, .float .f64 rr] ∧ Im.Bl w5 (A + 1) [.int .u8 k, .complex .f64 a b, .complex .f64 s t, .float .f64 p] ∧ Im.Bl w5 (A + 1 + 1) [.int .u8 0, .complex .f64 0 0, .complex .f64 0 0, .float .f64 0, .slice none 0 0] ∧ Bw w w5) := ⟨GGd.out.1.bw bb, GGd.out.2.1.bw bb, GGd.out.2.2.1.bw bb, bw_trans GGd.out.2.2.2 bb⟩
 clear bb GGS
 have G5S : Im.Bl w5 (A) [.complex .f64 o0 o1, .float .f64 rr] ∧ Im.Bl w5 (A + 1) [.int .u8 k, .complex .f64 a b, .complex .f64 s t, .float .f64 p] := ⟨G5.out.1, G5.out.2.1⟩
 refine hK.out _ _ (fun _ _ => G5S) ?_
 clear hK K
 simp only [List.setIfInBounds_toArray, List.set_cons_zero, List.set_cons_succ]
 refine wpAnyK_one 4 (by kernel_rfl) rfl (fun K hK => ?_)
 go_simp
 refine (SQ.out _).mono ?_
 rintro e' w6 ⟨rfl, bb⟩
 have G6 : Hid (Im.Bl w6 (A) [.complex .f64 o0 o1, .float .f64 rr] ∧ Im.Bl w6 (A + 1) [.int .u8 k, .complex .f64 a b, .complex .f64 s t, .float .f64 p] ∧ Im.Bl w6 (A + 1 + 1) [.int .u8 0, .complex .f64 0 0, .complex .f64 0 0, .float .f64 0, .slice none 0 0] ∧ Bw w w6) := ⟨G5.out.1.bw bb, G5.out.2.1.bw bb, G5.out.2.2.1.bw bb, bw_trans G5.out.2.2.2 bb⟩
 clear bb G5S
 have G6S : Im.Bl w6 (A) [.complex .f64 o0 o1, .float .f64 rr] ∧ Im.Bl w6 (A + 1) [.int .u8 k, .complex .f64 a b, .complex .f64 s t, .float .f64 p] := ⟨G6.out.1, G6.out.2.1⟩
 refine hK.out _ _ (fun _ _ => G6S) ?_
 clear hK K
 simp only [List.setIfInBounds_toArray, List.set_cons_zero, List.set_cons_succ]
 refine wpAnyK_one 5 (by kernel_rfl) rfl (fun K hK => ?_)
 go_simp
 refine (SC.out _).mono ?_
 rintro e' w7 ⟨rfl, bb⟩
 have G7 : Hid (Im.Bl w7 (A) [.complex .f64 o0 o1, .float .f64 rr] ∧ Im.Bl w7 (A + 1) [.int .u8 k, .complex .f64 a b, .complex .f64 s t, .float .f64 p] ∧ Im.Bl w7 (A + 1 + 1) [.int .u8 0, .complex .f64 0 0, .complex .f64 0 0, .float .f64 0, .slice none 0 0] ∧ Bw w w7) := ⟨G6.out.1.bw bb, G6.out.2.1.bw bb, G6.out.2.2.1.bw bb, bw_trans G6.out.2.2.2 bb⟩
 clear bb G6S
 have G7S : Im.Bl w7 (A) [.complex .f64 o0 o1, .float .f64 rr] ∧ Im.Bl w7 (A + 1) [.int .u8 k, .complex .f64 a b, .complex .f64 s t, .float .f64 p] := ⟨G7.out.1, G7.out.2.1⟩
 refine hK.out _ _ (fun _ _ => G7S) ?_
 clear hK K
 simp only [List.setIfInBounds_toArray, List.set_cons_zero, List.set_cons_succ]
 refine wpAnyK_one 6 (by kernel_rfl) rfl (fun K hK => ?_)
 go_simp
 refine hK.out _ _ (fun h => absurd rfl h) ?_
 clear hK K
 simp only [List.setIfInBounds_toArray, List.set_cons_zero, List.set_cons_succ]
 refine wpAnyK_done (by kernel_rfl) ?_ _
 have e0 := G7.out.1.c 0 _ rfl
 have d0 := G7.out.2.1.c 0 _ rfl
 have d1 := G7.out.2.1.c 1 _ rfl
 have d2 := G7.out.2.1.c 2 _ rfl
 have d3 := G7.out.2.1.c 3 _ rfl
 have bB := bw_alloc w7 (.cells #[.int .u8 3, .complex .f64 o0 o1, .complex .f64 s' t', .float .f64 4607182418800017408] 28)
 have zB : (w7.alloc (.cells #[.int .u8 3, .complex .f64 o0 o1, .complex .f64 s' t', .float .f64 4607182418800017408] 28)).heap.size = w7.heap.size + 1 := by simp
 have G8 : Hid (Im.Bl (w7.alloc (.cells #[.int .u8 3, .complex .f64 o0 o1, .complex .f64 s' t', .float .f64 4607182418800017408] 28)) (A) [.complex .f64 o0 o1, .float .f64 rr] ∧ Im.Bl (w7.alloc (.cells #[.int .u8 3, .complex .f64 o0 o1, .complex .f64 s' t', .float .f64 4607182418800017408] 28)) (A + 1) [.int .u8 k, .complex .f64 a b, .complex .f64 s t, .float .f64 p] ∧ Im.Bl (w7.alloc (.cells #[.int .u8 3, .complex .f64 o0 o1, .complex .f64 s' t', .float .f64 4607182418800017408] 28)) (A + 1 + 1) [.int .u8 0, .complex .f64 0 0, .complex .f64 0 0, .float .f64 0, .slice none 0 0] ∧ Bw w (w7.alloc (.cells #[.int .u8 3, .complex .f64 o0 o1, .complex .f64 s' t', .float .f64 4607182418800017408] 28))) := ⟨G7.out.1.bw bB, G7.out.2.1.bw bB, G7.out.2.2.1.bw bB, bw_trans G7.out.2.2.2 bB⟩
 have gB := Im.Bl.new w7 #[.int .u8 3, .complex .f64 o0 o1, .complex .f64 s' t', .float .f64 4607182418800017408] 28
 have i0 := gB.c 0 _ rfl
 have i1 := gB.c 1 _ rfl
 have i2 := gB.c 2 _ rfl
 have i3 := gB.c 3 _ rfl
 have f0 := G8.out.2.1.c 0 _ rfl
 have f1 := G8.out.2.1.c 1 _ rfl
 have f2 := G8.out.2.1.c 2 _ rfl
 have f3 := G8.out.2.1.c 3 _ rfl
 have gC := Im.Bl.new (w7.alloc (.cells #[.int .u8 3, .complex .f64 o0 o1, .complex .f64 s' t', .float .f64 4607182418800017408] 28)) #[.int .u8 3, .complex .f64 o0 o1, .complex .f64 s' t', .float .f64 4607182418800017408] 28
 have bC := bw_alloc (w7.alloc (.cells #[.int .u8 3, .complex .f64 o0 o1, .complex .f64 s' t', .float .f64 4607182418800017408] 28)) (.cells #[.int .u8 3, .complex .f64 o0 o1, .complex .f64 s' t', .float .f64 4607182418800017408] 28)
 rw [zB] at gC
 have gR := G8.out.2.2.1.bw bC
 have q0 := gR.c 0 _ rfl
 have r0 := gR.fz 0
 have q1 := gR.c 1 _ rfl
 have r1 := gR.fz 1
 have q2 := gR.c 2 _ rfl
 have r2 := gR.fz 2
 have q3 := gR.c 3 _ rfl
 have r3 := gR.fz 3
 have q4 := gR.c 4 _ rfl
 have r4 := gR.fz 4
 have FIN : Hid (∀ X, X = Im.s5 ((w7.alloc (.cells #[.int .u8 3, .complex .f64 o0 o1, .complex .f64 s' t', .float .f64 4607182418800017408] 28)).alloc (.cells #[.int .u8 3, .complex .f64 o0 o1, .complex .f64 s' t', .float .f64 4607182418800017408] 28)) (A + 1 + 1) (.int .u8 k) (.complex .f64 a b) (.complex .f64 s t) (.float .f64 p) (.slice (some ⟨w7.heap.size + 1, 0, none⟩) 1 1) → Im.Bl X (A + 1 + 1) [.int .u8 k, .complex .f64 a b, .complex .f64 s t, .float .f64 p, .slice (some ⟨w7.heap.size + 1, 0, none⟩) 1 1] ∧ Im.Bl X (w7.heap.size + 1) [.int .u8 3, .complex .f64 o0 o1, .complex .f64 s' t', .float .f64 4607182418800017408] ∧ w.heap.size ≤ w7.heap.size + 1 ∧ Bw w X) := by
  rintro X rfl
  have n1 := G7.out.2.2.1.lt
  have n2 := HA.out
  have n3 := G7.out.2.2.2.size
  exact ⟨Im.s5_at gR _ _ _ _ _, Im.s5_off gC (by omega) _ _ _ _ _, by omega, Im.s5_bw (bw_trans G8.out.2.2.2 bC) (by omega) _ _ _ _ _⟩
 clear bB zB gB gC bC gR G7S
 go_wp2
 obtain ⟨f0, f1⟩ := FIN.out _ rfl
 unfold Im.s5 at f0 f1
 refine bodyPost_ret (Im.res_refl rfl _ _ (A + 1 + 1) rfl f0) rfl ?_
 exact ⟨_, rfl, f1.2.1, f1.1, f1.2.2⟩
end Go.Proofs.YtnjkdfhhlcoaaaaGreat

/-
 OWN TEXT: package image: Wall, Circle; what their elements come to.
-/
namespace Go.Proofs.YtnjkdfhhlcoaaaaGreat
open Go.ChangeShapes Go.WideShapes Go.ChangeAt Go.RowKit
set_option linter.unusedVariables false
set_option linter.unusedSimpArgs false
attribute [local go_sem] frombits_call tobits_call run_neg run_store_cx El.run_store_fl
namespace Im
/-- what comes out: all the elements, or none -/
def Ot (P : Re → Re → List Re → Prop) (es : List Re) (E : Int) (w0 w' : World) (a : Option Addr) (m : Nat) : Prop :=
 (E = 0 → ∃ os fl, Rl P es os fl ∧ m = es.length + fl.length ∧ Rs w' a (os ++ fl) ∧ ∀ b o s, a = some ⟨b, o, s⟩ → w0.heap.size ≤ b) ∧ (E ≠ 0 → m = 0)
theorem Ot.set {P : Re → Re → List Re → Prop} {es : List Re} {E : Int} {w0 w1 w' : World} {a : Option Addr} {m B i : Nat} {v : Value} (h : Ot P es E w1 w' a m) (hB : B < w1.heap.size) (hw : w0.heap.size ≤ w1.heap.size) : Ot P es E w0 (w'.setCell ⟨B, i, none⟩ v) a m :=
 ⟨fun e => by
  obtain ⟨os, fl, h1, h2, h3, h4⟩ := h.1 e
  exact ⟨os, fl, h1, h2, h3.set (fun b o s q => by have := h4 b o s q; omega), fun b o s q => by have := h4 b o s q; omega⟩, h.2⟩
end Im
theorem reflectedO {w : World} {a : Option Addr} {cap n : Nat} {es : List Im.Re} {bt : TypeId} {bv : Value} {P : Im.Re → Im.Re → List Im.Re → Prop} {E : Int} (hn : es.length = n) (hm : n ≤ 256) (hl : ∀ e o l, P e o l → l.length ≤ 2) (hE : Im.Rs w a es) (H : ∀ e ∈ es, Im.Me bt bv P e)
  (hA : ∀ os fl, Im.Rl P es os fl → (E = 0 ∧ n + fl.length ≤ 256 ∧ ∀ x ∈ os ++ fl, Im.Ck x) ∨ (E = 4 ∧ 256 < n + fl.length)) :
  Calls Tryz.prog 15 #[.agg #[.slice a n cap], .iface bt bv] w fun e w' => ∃ a' m c', e = .returned (.tuple #[.agg #[.slice a' m c'], .int .i64 E]) ∧ Im.Ot P es E w w' a' m ∧ Bw w w' := by
 refine (reflectedI (cap := cap) hn hm hl hE H hA).mono ?_
 rintro e w' ⟨a', m, c', os, fl, h1, h2, h3, h4, h5⟩
 exact ⟨a', m, c', h1, ⟨fun e => ⟨os, fl, h2, by rw [hn]; exact (h3 e).1, (h3 e).2.1, (h3 e).2.2⟩, h4⟩, h5⟩
set_option maxHeartbeats 16000000 in
theorem reflectedB {w : World} {a : Option Addr} {cap : Nat} {e : Im.Re} {bt : TypeId} {bv : Value} {P : Im.Re → Im.Re → List Im.Re → Prop} {nm : String} {F i0 : Nat} (hE : Im.Rs w a [e])
  (hf : Instr.findNow (.int .u8) (.int .u8 e.k) Im.KE.toList 0 = some (some (i0, .func (.methodOf 66 nm) #[] #[]))) (hme : ∀ w, (method 242 bt bv nm).run Tryz.prog w = .ok (F, bv) w) (hcf : ∀ x y w, (callFunc F #[x, y]).run Tryz.prog w = .ok (.enter F #[x, y]) w)
  (hcall : Hid (∀ w, Calls Tryz.prog F #[bv, .agg #[.int .u8 e.k, .complex .f64 e.a e.b, .complex .f64 e.s e.t, .float .f64 e.p]] w fun r w' => ∃ k a b s t p x m c, r = .returned (.tuple #[.agg #[.int .u8 k, .complex .f64 a b, .complex .f64 s t, .float .f64 p, .slice x m c], .bool false]) ∧ Bw w w')) :
  Calls Tryz.prog 15 #[.agg #[.slice a 1 cap], .iface bt bv] w fun e' w' => ∃ a' m c', e' = .returned (.tuple #[.agg #[.slice a' m c'], .int .i64 170]) ∧ Im.Ot P [e] 170 w w' a' m ∧ Bw w w' := by
 have bA := bw_alloc w (.cells #[.slice a 1 cap] 30)
 have c0 : (w.alloc (.cells #[.slice a 1 cap] 30)).cell? ⟨w.heap.size, 0, none⟩ = some (.slice a 1 cap) := by simp
 have hs1 : (w.alloc (.cells #[.slice a 1 cap] 30)).heap.size = w.heap.size + 1 := by simp
 obtain ⟨W1, hW1⟩ : ∃ v, v = w.alloc (.cells #[.slice a 1 cap] 30) := ⟨_, rfl⟩
 rw [← hW1] at bA c0 hs1
 have b2 := bw_alloc W1 (.cells #[.slice none 0 0] 30)
 have r0 : (W1.alloc (.cells #[.slice none 0 0] 30)).cell? ⟨W1.heap.size, 0, none⟩ = some (.slice none 0 0) := by simp
 have rz := Im.fz_new W1 #[.slice none 0 0] 30 0
 have hs2 : (W1.alloc (.cells #[.slice none 0 0] 30)).heap.size = W1.heap.size + 1 := by simp
 obtain ⟨W2, hW2⟩ : ∃ v, v = W1.alloc (.cells #[.slice none 0 0] 30) := ⟨_, rfl⟩
 rw [← hW2] at b2 r0 rz hs2
 have bW := hide (bw_trans bA b2)
 have SF := hide (fun wz (hb : Bw W2 wz) => (show wz.cell? ⟨w.heap.size, 0, none⟩ = some (.slice a 1 cap) ∧ wz.cell? ⟨W1.heap.size, 0, none⟩ = some (.slice none 0 0) ∧ wz.frozen? ⟨W1.heap.size, 0, none⟩ = false from by
  have h1 : w.heap.size < W1.heap.size := by omega
  have h2 : W1.heap.size < W2.heap.size := by omega
  exact ⟨(Below.cell (bw_trans b2 hb) (p := ⟨w.heap.size, 0, none⟩) h1).trans c0, (Below.cell hb (p := ⟨W1.heap.size, 0, none⟩) h2).trans r0, (Below.frozen hb (p := ⟨W1.heap.size, 0, none⟩) h2).trans rz⟩))
 have HE := hide hE
 have SZ := hide (And.intro hs1 hs2)
 have HW1 := hide hW1
 have HW2 := hide hW2
 have S1' := hide hs1
 clear bA c0 hs1 b2 r0 rz hs2 hE hW1 hW2
 go_enter Tryz.func15, Tryz.ntmps15
 go_wp2_with fail
 rw [← HW1.out, ← HW2.out]
 refine (kinds_c _).mono ?_
 rintro e' W3 ⟨M, rfl, hM, b3⟩
 have HM := hide hM
 have B3 := hide b3
 obtain ⟨s0, s1, s2⟩ := SF.out W3 b3
 clear hM b3
 go_wp2_with fail
 go_loopw [6, 7, 17] (fun vO vI i wr => i = .int .i64 0 ∧ Hid (Bw W3 wr)) (fun _ _ i _ => 0)
 case atStart => exact ⟨rfl, hide (Bw.refl _)⟩
 case round =>
  obtain ⟨rfl, LP⟩ := hrel
  obtain ⟨b, o0, rfl, _, hcell⟩ := (HE.out.bw (bw_trans bW.out (bw_trans B3.out LP.out))).resolve_left (by simp)
  obtain ⟨e0, e1, e2, e3⟩ := hcell 0 e rfl
  simp only [Nat.zero_mul, Nat.add_zero] at e0 e1 e2 e3
  have bU := bw_alloc wr (.cells #[.int .u8 e.k, .complex .f64 e.a e.b, .complex .f64 e.s e.t, .float .f64 e.p] 28)
  have lk := Im.look_run (HM.out.bw (bw_trans LP.out bU)).1 hf
  have LP1 := hide (bw_trans LP.out bU)
  clear hcell hf bU LP
  go_wp2_with fail
  refine (hcall.out _).mono ?_
  rintro e' w5 ⟨k', a', b', s', t', p', x', m', c', rfl, b5⟩
  have bU2 := bw_alloc w5 (.cells #[.int .u8 k', .complex .f64 a' b', .complex .f64 s' t', .float .f64 p', .slice x' m' c'] 70)
  have b39 := bw_trans B3.out (bw_trans LP1.out (bw_trans b5 bU2))
  obtain ⟨s0, s1, s2⟩ := SF.out _ b39
  have FIN : Hid (∀ V, V = (w5.alloc (.cells #[.int .u8 k', .complex .f64 a' b', .complex .f64 s' t', .float .f64 p', .slice x' m' c'] 70)).setCell ⟨W1.heap.size, 0, none⟩ (.slice none 0 0) → V.cell? ⟨W1.heap.size, 0, none⟩ = some (.slice none 0 0) ∧ Bw w V) := by
   rintro V rfl
   have z1 := SZ.out.1
   exact ⟨Ff.set_any s1, Below.setCell (bw_trans bW.out b39) (by show w.heap.size ≤ W1.heap.size; omega) _⟩
  clear b5 bU2 b39
  rw [S1'.out] at FIN s1 s2
  go_wp2
  obtain ⟨f0, f2⟩ := FIN.out _ rfl
  refine bodyPost_ret (Im.res_flow rfl _ _ (w.heap.size + 1) rfl f0) rfl ?_
  exact ⟨none, 0, 0, rfl, ⟨fun h => absurd h (by decide), fun _ => rfl⟩, f2⟩
set_option maxHeartbeats 16000000 in
theorem wallI {w : World} {a : Option Addr} {cap n p0 p1 q0 q1 u0 u1 v0 v1 : Nat} {es : List Im.Re} {P : Im.Re → Im.Re → List Im.Re → Prop} {E : Int}
  (CK : Hid (∀ wz, Bw w wz → Calls Tryz.prog 13 #[.agg #[.slice a n cap]] wz fun e w' => e = .returned (.int .i64 0) ∧ Bw wz w'))
  (WA : Hid (∀ wz, Calls Tryz.prog 14 #[.complex .f64 p0 p1, .complex .f64 q0 q1] wz fun e w' => e = .returned (.tuple #[.agg #[.complex .f64 u0 u1, .complex .f64 v0 v1], .int .i64 0]) ∧ Bw wz w'))
  (RF : Hid (∀ wz, Bw w wz → Calls Tryz.prog 15 #[.agg #[.slice a n cap], .iface 47 (.agg #[.complex .f64 u0 u1, .complex .f64 v0 v1])] wz fun e w' => ∃ a' m c', e = .returned (.tuple #[.agg #[.slice a' m c'], .int .i64 E]) ∧ Im.Ot P es E wz w' a' m ∧ Bw wz w')) :
  Calls Tryz.prog 6 #[.agg #[.slice a n cap], .complex .f64 p0 p1, .complex .f64 q0 q1] w fun e w' => ∃ a' m c', e = .returned (.tuple #[.agg #[.slice a' m c'], .int .i64 E]) ∧ Im.Ot P es E w w' a' m ∧ Bw w w' := by
 have bA := bw_alloc w (.cells #[.slice a n cap] 30)
 have c0 : (w.alloc (.cells #[.slice a n cap] 30)).cell? ⟨w.heap.size, 0, none⟩ = some (.slice a n cap) := by simp
 have hs1 : (w.alloc (.cells #[.slice a n cap] 30)).heap.size = w.heap.size + 1 := by simp
 obtain ⟨W1, hW1⟩ : ∃ v, v = w.alloc (.cells #[.slice a n cap] 30) := ⟨_, rfl⟩
 rw [← hW1] at bA c0 hs1
 have b2 := bw_alloc W1 (.cells #[.slice none 0 0] 30)
 have r0 : (W1.alloc (.cells #[.slice none 0 0] 30)).cell? ⟨W1.heap.size, 0, none⟩ = some (.slice none 0 0) := by simp
 have rz := Im.fz_new W1 #[.slice none 0 0] 30 0
 have hs2 : (W1.alloc (.cells #[.slice none 0 0] 30)).heap.size = W1.heap.size + 1 := by simp
 obtain ⟨W2, hW2⟩ : ∃ v, v = W1.alloc (.cells #[.slice none 0 0] 30) := ⟨_, rfl⟩
 rw [← hW2] at b2 r0 rz hs2
 have bW := hide (bw_trans bA b2)
 have SF := hide (fun wz (hb : Bw W2 wz) => (show wz.cell? ⟨w.heap.size, 0, none⟩ = some (.slice a n cap) ∧ wz.cell? ⟨W1.heap.size, 0, none⟩ = some (.slice none 0 0) ∧ wz.frozen? ⟨W1.heap.size, 0, none⟩ = false from by
  have h1 : w.heap.size < W1.heap.size := by omega
  have h2 : W1.heap.size < W2.heap.size := by omega
  exact ⟨(Below.cell (bw_trans b2 hb) (p := ⟨w.heap.size, 0, none⟩) h1).trans c0, (Below.cell hb (p := ⟨W1.heap.size, 0, none⟩) h2).trans r0, (Below.frozen hb (p := ⟨W1.heap.size, 0, none⟩) h2).trans rz⟩))
 have SZ := hide (And.intro hs1 hs2)
 have HW1 := hide hW1
 have HW2 := hide hW2
 have S1' := hide hs1
 obtain ⟨s0, s1, s2⟩ := SF.out W2 (Bw.refl _)
 clear bA c0 hs1 b2 r0 rz hs2 hW1 hW2
 go_enter Tryz.func6, Tryz.ntmps6
 go_wp2_with fail
 rw [← HW1.out, ← HW2.out]
 refine (CK.out _ bW.out).mono ?_
 rintro e' W3 ⟨rfl, b3⟩
 have B3 := hide b3
 clear b3 s0 s1 s2
 go_wp2_with fail
 refine (WA.out _).mono ?_
 rintro e' W4 ⟨rfl, b4⟩
 have bL := bw_alloc W4 (.cells #[.complex .f64 u0 u1, .complex .f64 v0 v1] 47)
 have B5 := hide (bw_trans B3.out (bw_trans b4 bL))
 obtain ⟨s0, s1, s2⟩ := SF.out _ B5.out
 have RF2 := hide (RF.out _ (bw_trans bW.out B5.out))
 clear b4 bL
 go_wp2_with fail
 refine RF2.out.mono ?_
 rintro e' w9 ⟨a', m, c', rfl, hO, b9⟩
 have b29 := bw_trans B5.out b9
 obtain ⟨s0, s1, s2⟩ := SF.out _ b29
 have FIN : Hid (∀ V, V = w9.setCell ⟨W1.heap.size, 0, none⟩ (.slice a' m c') → V.cell? ⟨W1.heap.size, 0, none⟩ = some (.slice a' m c') ∧ Im.Ot P es E w V a' m ∧ Bw w V) := by
  rintro V rfl
  have z1 := SZ.out.1
  have z2 := SZ.out.2
  have z3 := B5.out.size
  exact ⟨Ff.set_any s1, hO.set (by omega) (by omega), Below.setCell (bw_trans bW.out b29) (by show w.heap.size ≤ W1.heap.size; omega) _⟩
 clear hO b9 b29 RF2
 rw [S1'.out] at FIN s1 s2
 go_wp2
 obtain ⟨f0, f1, f2⟩ := FIN.out _ rfl
 refine bodyPost_ret (Im.res_flow rfl _ _ (w.heap.size + 1) rfl f0) rfl ?_
 exact ⟨a', m, c', rfl, f1, f2⟩
end Go.Proofs.YtnjkdfhhlcoaaaaGreat

