/-
 OWN TEXT: package chart: back by a Moebius map; told, At, Back however they end, over contracts.
-/
import Derived.Test.YtfgfofedacehiaaGreatJChL
namespace Go.Proofs.YtfgfofedacehiaaGreat
open Go.ChangeShapes Go.WideShapes Go.ChangeAt Go.RowKit
set_option linter.unusedVariables false
set_option linter.unusedSimpArgs false
attribute [local go_sem] Ch.run_store_fn Ch.run_store_nf frombits_call tobits_call run_neg El.run_store_cx El.run_store_fl
theorem idx75_1 (w : World) : (Instr.index 75 (.agg #[.nilFunc, .nilFunc, .nilFunc, .nilFunc, .func (.func 62) #[] #[], .func (.func 63) #[] #[], .func (.func 64) #[] #[], .func (.func 65) #[] #[], .func (.func 66) #[] #[], .func (.func 67) #[] #[], .func (.func 68) #[] #[], .func (.func 69) #[] #[], .func (.func 70) #[] #[], .func (.func 71) #[] #[], .func (.func 72) #[] #[], .func (.func 73) #[] #[], .func (.func 74) #[] #[], .func (.func 75) #[] #[], .func (.func 76) #[] #[], .func (.func 77) #[] #[]]) (.int .u8 1)).run Tryz.prog w = .ok (.agg #[.func (.func 62) #[] #[], .func (.func 63) #[] #[], .func (.func 64) #[] #[], .func (.func 65) #[] #[]]) w := by kernel_rfl
theorem idx75_2 (w : World) : (Instr.index 75 (.agg #[.nilFunc, .nilFunc, .nilFunc, .nilFunc, .func (.func 62) #[] #[], .func (.func 63) #[] #[], .func (.func 64) #[] #[], .func (.func 65) #[] #[], .func (.func 66) #[] #[], .func (.func 67) #[] #[], .func (.func 68) #[] #[], .func (.func 69) #[] #[], .func (.func 70) #[] #[], .func (.func 71) #[] #[], .func (.func 72) #[] #[], .func (.func 73) #[] #[], .func (.func 74) #[] #[], .func (.func 75) #[] #[], .func (.func 76) #[] #[], .func (.func 77) #[] #[]]) (.int .u8 2)).run Tryz.prog w = .ok (.agg #[.func (.func 66) #[] #[], .func (.func 67) #[] #[], .func (.func 68) #[] #[], .func (.func 69) #[] #[]]) w := by kernel_rfl
theorem idx74_1_0 (w : World) : (Instr.index 74 (.agg #[.func (.func 62) #[] #[], .func (.func 63) #[] #[], .func (.func 64) #[] #[], .func (.func 65) #[] #[]]) (.int .i64 0)).run Tryz.prog w = .ok (.func (.func 62) #[] #[]) w := by kernel_rfl
theorem idx74_1_2 (w : World) : (Instr.index 74 (.agg #[.func (.func 62) #[] #[], .func (.func 63) #[] #[], .func (.func 64) #[] #[], .func (.func 65) #[] #[]]) (.int .i64 2)).run Tryz.prog w = .ok (.func (.func 64) #[] #[]) w := by kernel_rfl
theorem idx74_1_3 (w : World) : (Instr.index 74 (.agg #[.func (.func 62) #[] #[], .func (.func 63) #[] #[], .func (.func 64) #[] #[], .func (.func 65) #[] #[]]) (.int .i64 3)).run Tryz.prog w = .ok (.func (.func 65) #[] #[]) w := by kernel_rfl
theorem idx74_2_0 (w : World) : (Instr.index 74 (.agg #[.func (.func 66) #[] #[], .func (.func 67) #[] #[], .func (.func 68) #[] #[], .func (.func 69) #[] #[]]) (.int .i64 0)).run Tryz.prog w = .ok (.func (.func 66) #[] #[]) w := by kernel_rfl
theorem idx74_2_2 (w : World) : (Instr.index 74 (.agg #[.func (.func 66) #[] #[], .func (.func 67) #[] #[], .func (.func 68) #[] #[], .func (.func 69) #[] #[]]) (.int .i64 2)).run Tryz.prog w = .ok (.func (.func 68) #[] #[]) w := by kernel_rfl
theorem idx74_2_3 (w : World) : (Instr.index 74 (.agg #[.func (.func 66) #[] #[], .func (.func 67) #[] #[], .func (.func 68) #[] #[], .func (.func 69) #[] #[]]) (.int .i64 3)).run Tryz.prog w = .ok (.func (.func 69) #[] #[]) w := by kernel_rfl
attribute [local go_sem] idx75_1 idx75_2 idx74_1_0 idx74_1_2 idx74_1_3 idx74_2_0 idx74_2_2 idx74_2_3
set_option maxHeartbeats 8000000 in
theorem mback18 {a a' b b' c c' d d' z z' p p' g g' q q' n n' r r' : Nat}
  (M1 : Hid (∀ wz, Calls Tryz.prog 19 #[.complex .f64 c c', .complex .f64 z z'] wz fun e w' => e = .returned (.complex .f64 p p') ∧ Bw wz w')) (S1 : Hid (∀ wz, Calls Tryz.prog 18 #[.complex .f64 a a', .complex .f64 p p'] wz fun e w' => e = .returned (.complex .f64 g g') ∧ Bw wz w')) (NO : Hid (∀ wz, Calls Tryz.prog 40 #[.complex .f64 g g'] wz fun e w' => e = .returned (.bool false) ∧ w' = wz))
  (M2 : Hid (∀ wz, Calls Tryz.prog 19 #[.complex .f64 d d', .complex .f64 z z'] wz fun e w' => e = .returned (.complex .f64 q q') ∧ Bw wz w')) (S2 : Hid (∀ wz, Calls Tryz.prog 18 #[.complex .f64 q q', .complex .f64 b b'] wz fun e w' => e = .returned (.complex .f64 n n') ∧ Bw wz w')) (DV : Hid (∀ wz, Calls Tryz.prog 41 #[.complex .f64 n n', .complex .f64 g g'] wz fun e w' => e = .returned (.complex .f64 r r') ∧ Bw wz w'))
  (w : World) : Calls Tryz.prog 64 #[.agg #[.int .u8 1, .complex .f64 a a', .complex .f64 b b', .complex .f64 c c', .complex .f64 d d', .float .f64 0], .complex .f64 z z'] w fun e w' => e = .returned (.tuple #[.complex .f64 r r', .int .i64 0]) ∧ Bw w w' := by
 have g1 := Ch.Bl.new w #[.int .u8 1, .complex .f64 a a', .complex .f64 b b', .complex .f64 c c', .complex .f64 d d', .float .f64 0] 61
 have z1 : (w.alloc (.cells #[.int .u8 1, .complex .f64 a a', .complex .f64 b b', .complex .f64 c c', .complex .f64 d d', .float .f64 0] 61)).heap.size = w.heap.size + 1 := by simp
 have b1 := bw_alloc w (.cells #[.int .u8 1, .complex .f64 a a', .complex .f64 b b', .complex .f64 c c', .complex .f64 d d', .float .f64 0] 61)
 obtain ⟨W1, hW1⟩ : ∃ v, w.alloc (.cells #[.int .u8 1, .complex .f64 a a', .complex .f64 b b', .complex .f64 c c', .complex .f64 d d', .float .f64 0] 61) = v := ⟨_, rfl⟩
 rw [hW1] at g1 z1 b1
 have GG : Hid (Ch.Bl W1 (w.heap.size) [.int .u8 1, .complex .f64 a a', .complex .f64 b b', .complex .f64 c c', .complex .f64 d d', .float .f64 0] ∧ Bw w W1) := ⟨(show Ch.Bl _ (w.heap.size) _ from g1), b1⟩
 have HW := hide (hW1)
 clear g1 b1 z1 hW1
 go_enter Tryz.func64, Tryz.ntmps64
 go_wp2_with fail
 rw [HW.out]
 obtain ⟨A, hA⟩ : ∃ A, w.heap.size = A := ⟨_, rfl⟩
 rw [hA] at GG ⊢
 have HA := hide hA
 refine wp_region_K (fun w' => Ch.Bl w' (A) [.int .u8 1, .complex .f64 a a', .complex .f64 b b', .complex .f64 c c', .complex .f64 d d', .float .f64 0]) 7 8 #[false, false, false, false, false, false, false, false] (by kernel_rfl) (by kernel_rfl) (by kernel_rfl) ?_
 have GGd : Hid (Ch.Bl W1.drew (A) [.int .u8 1, .complex .f64 a a', .complex .f64 b b', .complex .f64 c c', .complex .f64 d d', .float .f64 0] ∧ Bw w W1.drew) := ⟨GG.out.1.bw (Bw.refl W1).drew, bw_trans GG.out.2 (Bw.refl W1).drew⟩
 generalize W1.drew = W1d at *
 have GGS : Ch.Bl W1d (A) [.int .u8 1, .complex .f64 a a', .complex .f64 b b', .complex .f64 c c', .complex .f64 d d', .float .f64 0] := GGd.out.1
 refine wpAnyK_take 0 7 (v := ?vx0) rfl (by kernel_rfl) (by kernel_rfl) (by kernel_rfl) (by kernel_rfl) (by kernel_rfl) (fun _ _ _ h => h) rfl (Or.inl ⟨by rfl, ?hx0⟩) (by assumption) ?rx0
 case hx0 => (intro w hSw; have h0 := hSw; have c00 := h0.c 0 _ rfl; have c01 := h0.c 1 _ rfl; have c02 := h0.c 2 _ rfl; have c03 := h0.c 3 _ rfl; have c04 := h0.c 4 _ rfl; have c05 := h0.c 5 _ rfl; go_simp; with_reducible rfl)
 simp only [Act.put, List.setIfInBounds_toArray, List.set_cons_zero, List.set_cons_succ]
 refine wpAnyK_take 1 8 (v := ?vx1) rfl (by kernel_rfl) (by kernel_rfl) (by kernel_rfl) (by kernel_rfl) (by kernel_rfl) (fun _ _ _ h => h) rfl (Or.inl ⟨by rfl, ?hx1⟩) (by assumption) ?rx1
 case hx1 => (intro w hSw; have h0 := hSw; have c00 := h0.c 0 _ rfl; have c01 := h0.c 1 _ rfl; have c02 := h0.c 2 _ rfl; have c03 := h0.c 3 _ rfl; have c04 := h0.c 4 _ rfl; have c05 := h0.c 5 _ rfl; go_simp; with_reducible rfl)
 simp only [Act.put, List.setIfInBounds_toArray, List.set_cons_zero, List.set_cons_succ]
 refine wpAnyK_take 2 9 (v := ?vx2) rfl (by kernel_rfl) (by kernel_rfl) (by kernel_rfl) (by kernel_rfl) (by kernel_rfl) (fun _ _ _ h => h) rfl (Or.inl ⟨by rfl, ?hx2⟩) (by assumption) ?rx2
 case hx2 => (intro w hSw; have h0 := hSw; have c00 := h0.c 0 _ rfl; have c01 := h0.c 1 _ rfl; have c02 := h0.c 2 _ rfl; have c03 := h0.c 3 _ rfl; have c04 := h0.c 4 _ rfl; have c05 := h0.c 5 _ rfl; go_simp; with_reducible rfl)
 simp only [Act.put, List.setIfInBounds_toArray, List.set_cons_zero, List.set_cons_succ]
 refine wpAnyK_take 3 10 (v := ?vx3) rfl (by kernel_rfl) (by kernel_rfl) (by kernel_rfl) (by kernel_rfl) (by kernel_rfl) (fun _ _ _ h => h) rfl (Or.inl ⟨by rfl, ?hx3⟩) (by assumption) ?rx3
 case hx3 => (intro w hSw; have h0 := hSw; have c00 := h0.c 0 _ rfl; have c01 := h0.c 1 _ rfl; have c02 := h0.c 2 _ rfl; have c03 := h0.c 3 _ rfl; have c04 := h0.c 4 _ rfl; have c05 := h0.c 5 _ rfl; go_simp; with_reducible rfl)
 simp only [Act.put, List.setIfInBounds_toArray, List.set_cons_zero, List.set_cons_succ]
 refine wpAnyK_take 4 11 (v := ?vx4) rfl (by kernel_rfl) (by kernel_rfl) (by kernel_rfl) (by kernel_rfl) (by kernel_rfl) (fun _ _ _ h => h) rfl (Or.inl ⟨by rfl, ?hx4⟩) (by assumption) ?rx4
 case hx4 => (intro w hSw; have h0 := hSw; have c00 := h0.c 0 _ rfl; have c01 := h0.c 1 _ rfl; have c02 := h0.c 2 _ rfl; have c03 := h0.c 3 _ rfl; have c04 := h0.c 4 _ rfl; have c05 := h0.c 5 _ rfl; go_simp; with_reducible rfl)
 simp only [Act.put, List.setIfInBounds_toArray, List.set_cons_zero, List.set_cons_succ]
 refine wpAnyK_one 5 (by kernel_rfl) rfl (fun K hK => ?_)
 go_simp
 refine (M1.out _).mono ?_
 rintro e' W1xk1 ⟨rfl, bb⟩
 have GGxk1 : Hid (Ch.Bl W1xk1 (A) [.int .u8 1, .complex .f64 a a', .complex .f64 b b', .complex .f64 c c', .complex .f64 d d', .float .f64 0] ∧ Bw w W1xk1) := ⟨GGd.out.1.bw bb, bw_trans GGd.out.2 bb⟩
 clear bb GGS
 have GGxk1S : Ch.Bl W1xk1 (A) [.int .u8 1, .complex .f64 a a', .complex .f64 b b', .complex .f64 c c', .complex .f64 d d', .float .f64 0] := GGxk1.out.1
 refine hK.out _ _ (fun _ _ => GGxk1S) ?_
 clear hK K
 simp only [List.setIfInBounds_toArray, List.set_cons_zero, List.set_cons_succ]
 refine wpAnyK_one 6 (by kernel_rfl) rfl (fun K hK => ?_)
 go_simp
 refine (S1.out _).mono ?_
 rintro e' W1xk2 ⟨rfl, bb⟩
 have GGxk2 : Hid (Ch.Bl W1xk2 (A) [.int .u8 1, .complex .f64 a a', .complex .f64 b b', .complex .f64 c c', .complex .f64 d d', .float .f64 0] ∧ Bw w W1xk2) := ⟨GGxk1.out.1.bw bb, bw_trans GGxk1.out.2 bb⟩
 clear bb GGxk1S
 have GGxk2S : Ch.Bl W1xk2 (A) [.int .u8 1, .complex .f64 a a', .complex .f64 b b', .complex .f64 c c', .complex .f64 d d', .float .f64 0] := GGxk2.out.1
 refine hK.out _ _ (fun _ _ => GGxk2S) ?_
 clear hK K
 simp only [List.setIfInBounds_toArray, List.set_cons_zero, List.set_cons_succ]
 refine wpAnyK_one 7 (by kernel_rfl) rfl (fun K hK => ?_)
 go_simp
 refine hK.out _ _ (fun h => absurd rfl h) ?_
 clear hK K
 simp only [List.setIfInBounds_toArray, List.set_cons_zero, List.set_cons_succ]
 refine wpAnyK_done (by kernel_rfl) ?_ _
 go_wp2_with fail
 refine (NO.out _).mono ?_
 rintro e' w7 ⟨rfl, hw⟩
 subst hw
 go_wp2_with fail
 have GM := GGxk2
 clear M1 S1 NO
 refine wp_region_K (fun w' => Ch.Bl w' (A) [.int .u8 1, .complex .f64 a a', .complex .f64 b b', .complex .f64 c c', .complex .f64 d d', .float .f64 0]) 10 11 #[false, false, false, false, false, false, false, false, false, false, false] (by kernel_rfl) (by kernel_rfl) (by kernel_rfl) ?_
 have GMd : Hid (Ch.Bl w7.drew (A) [.int .u8 1, .complex .f64 a a', .complex .f64 b b', .complex .f64 c c', .complex .f64 d d', .float .f64 0] ∧ Bw w w7.drew) := ⟨GM.out.1.bw (Bw.refl w7).drew, bw_trans GM.out.2 (Bw.refl w7).drew⟩
 generalize w7.drew = w7d at *
 have GMS : Ch.Bl w7d (A) [.int .u8 1, .complex .f64 a a', .complex .f64 b b', .complex .f64 c c', .complex .f64 d d', .float .f64 0] := GMd.out.1
 refine wpAnyK_take 0 16 (v := ?vy0) rfl (by kernel_rfl) (by kernel_rfl) (by kernel_rfl) (by kernel_rfl) (by kernel_rfl) (fun _ _ _ h => h) rfl (Or.inl ⟨by rfl, ?hy0⟩) (by assumption) ?ry0
 case hy0 => (intro w hSw; have h0 := hSw; have c00 := h0.c 0 _ rfl; have c01 := h0.c 1 _ rfl; have c02 := h0.c 2 _ rfl; have c03 := h0.c 3 _ rfl; have c04 := h0.c 4 _ rfl; have c05 := h0.c 5 _ rfl; go_simp; with_reducible rfl)
 simp only [Act.put, List.setIfInBounds_toArray, List.set_cons_zero, List.set_cons_succ]
 refine wpAnyK_take 1 17 (v := ?vy1) rfl (by kernel_rfl) (by kernel_rfl) (by kernel_rfl) (by kernel_rfl) (by kernel_rfl) (fun _ _ _ h => h) rfl (Or.inl ⟨by rfl, ?hy1⟩) (by assumption) ?ry1
 case hy1 => (intro w hSw; have h0 := hSw; have c00 := h0.c 0 _ rfl; have c01 := h0.c 1 _ rfl; have c02 := h0.c 2 _ rfl; have c03 := h0.c 3 _ rfl; have c04 := h0.c 4 _ rfl; have c05 := h0.c 5 _ rfl; go_simp; with_reducible rfl)
 simp only [Act.put, List.setIfInBounds_toArray, List.set_cons_zero, List.set_cons_succ]
 refine wpAnyK_take 2 18 (v := ?vy2) rfl (by kernel_rfl) (by kernel_rfl) (by kernel_rfl) (by kernel_rfl) (by kernel_rfl) (fun _ _ _ h => h) rfl (Or.inl ⟨by rfl, ?hy2⟩) (by assumption) ?ry2
 case hy2 => (intro w hSw; have h0 := hSw; have c00 := h0.c 0 _ rfl; have c01 := h0.c 1 _ rfl; have c02 := h0.c 2 _ rfl; have c03 := h0.c 3 _ rfl; have c04 := h0.c 4 _ rfl; have c05 := h0.c 5 _ rfl; go_simp; with_reducible rfl)
 simp only [Act.put, List.setIfInBounds_toArray, List.set_cons_zero, List.set_cons_succ]
 refine wpAnyK_take 4 20 (v := ?vy4) rfl (by kernel_rfl) (by kernel_rfl) (by kernel_rfl) (by kernel_rfl) (by kernel_rfl) (fun _ _ _ h => h) rfl (Or.inl ⟨by rfl, ?hy4⟩) (by assumption) ?ry4
 case hy4 => (intro w hSw; have h0 := hSw; have c00 := h0.c 0 _ rfl; have c01 := h0.c 1 _ rfl; have c02 := h0.c 2 _ rfl; have c03 := h0.c 3 _ rfl; have c04 := h0.c 4 _ rfl; have c05 := h0.c 5 _ rfl; go_simp; with_reducible rfl)
 simp only [Act.put, List.setIfInBounds_toArray, List.set_cons_zero, List.set_cons_succ]
 refine wpAnyK_take 5 21 (v := ?vy5) rfl (by kernel_rfl) (by kernel_rfl) (by kernel_rfl) (by kernel_rfl) (by kernel_rfl) (fun _ _ _ h => h) rfl (Or.inl ⟨by rfl, ?hy5⟩) (by assumption) ?ry5
 case hy5 => (intro w hSw; have h0 := hSw; have c00 := h0.c 0 _ rfl; have c01 := h0.c 1 _ rfl; have c02 := h0.c 2 _ rfl; have c03 := h0.c 3 _ rfl; have c04 := h0.c 4 _ rfl; have c05 := h0.c 5 _ rfl; go_simp; with_reducible rfl)
 simp only [Act.put, List.setIfInBounds_toArray, List.set_cons_zero, List.set_cons_succ]
 refine wpAnyK_take 7 23 (v := ?vy7) rfl (by kernel_rfl) (by kernel_rfl) (by kernel_rfl) (by kernel_rfl) (by kernel_rfl) (fun _ _ _ h => h) rfl (Or.inl ⟨by rfl, ?hy7⟩) (by assumption) ?ry7
 case hy7 => (intro w hSw; have h0 := hSw; have c00 := h0.c 0 _ rfl; have c01 := h0.c 1 _ rfl; have c02 := h0.c 2 _ rfl; have c03 := h0.c 3 _ rfl; have c04 := h0.c 4 _ rfl; have c05 := h0.c 5 _ rfl; go_simp; with_reducible rfl)
 simp only [Act.put, List.setIfInBounds_toArray, List.set_cons_zero, List.set_cons_succ]
 refine wpAnyK_one 3 (by kernel_rfl) rfl (fun K hK => ?_)
 go_simp
 refine (M2.out _).mono ?_
 rintro e' w7yk1 ⟨rfl, bb⟩
 have GMyk1 : Hid (Ch.Bl w7yk1 (A) [.int .u8 1, .complex .f64 a a', .complex .f64 b b', .complex .f64 c c', .complex .f64 d d', .float .f64 0] ∧ Bw w w7yk1) := ⟨GMd.out.1.bw bb, bw_trans GMd.out.2 bb⟩
 clear bb GMS
 have GMyk1S : Ch.Bl w7yk1 (A) [.int .u8 1, .complex .f64 a a', .complex .f64 b b', .complex .f64 c c', .complex .f64 d d', .float .f64 0] := GMyk1.out.1
 refine hK.out _ _ (fun _ _ => GMyk1S) ?_
 clear hK K
 simp only [List.setIfInBounds_toArray, List.set_cons_zero, List.set_cons_succ]
 refine wpAnyK_one 6 (by kernel_rfl) rfl (fun K hK => ?_)
 go_simp
 refine (S2.out _).mono ?_
 rintro e' w7yk2 ⟨rfl, bb⟩
 have GMyk2 : Hid (Ch.Bl w7yk2 (A) [.int .u8 1, .complex .f64 a a', .complex .f64 b b', .complex .f64 c c', .complex .f64 d d', .float .f64 0] ∧ Bw w w7yk2) := ⟨GMyk1.out.1.bw bb, bw_trans GMyk1.out.2 bb⟩
 clear bb GMyk1S
 have GMyk2S : Ch.Bl w7yk2 (A) [.int .u8 1, .complex .f64 a a', .complex .f64 b b', .complex .f64 c c', .complex .f64 d d', .float .f64 0] := GMyk2.out.1
 refine hK.out _ _ (fun _ _ => GMyk2S) ?_
 clear hK K
 simp only [List.setIfInBounds_toArray, List.set_cons_zero, List.set_cons_succ]
 refine wpAnyK_one 8 (by kernel_rfl) rfl (fun K hK => ?_)
 go_simp
 refine (DV.out _).mono ?_
 rintro e' w7yk3 ⟨rfl, bb⟩
 have GMyk3 : Hid (Ch.Bl w7yk3 (A) [.int .u8 1, .complex .f64 a a', .complex .f64 b b', .complex .f64 c c', .complex .f64 d d', .float .f64 0] ∧ Bw w w7yk3) := ⟨GMyk2.out.1.bw bb, bw_trans GMyk2.out.2 bb⟩
 clear bb GMyk2S
 have GMyk3S : Ch.Bl w7yk3 (A) [.int .u8 1, .complex .f64 a a', .complex .f64 b b', .complex .f64 c c', .complex .f64 d d', .float .f64 0] := GMyk3.out.1
 refine hK.out _ _ (fun _ _ => GMyk3S) ?_
 clear hK K
 simp only [List.setIfInBounds_toArray, List.set_cons_zero, List.set_cons_succ]
 refine wpAnyK_one 9 (by kernel_rfl) rfl (fun K hK => ?_)
 go_simp
 refine hK.out _ _ (fun _ _ => GMyk3S) ?_
 clear hK K
 simp only [List.setIfInBounds_toArray, List.set_cons_zero, List.set_cons_succ]
 refine wpAnyK_one 10 (by kernel_rfl) rfl (fun K hK => ?_)
 go_simp
 refine hK.out _ _ (fun h => absurd rfl h) ?_
 clear hK K
 simp only [List.setIfInBounds_toArray, List.set_cons_zero, List.set_cons_succ]
 refine wpAnyK_done (by kernel_rfl) ?_ _
 go_wp2
 refine bodyPost_ret (results_tmp2 rfl _ _ _) rfl ?_
 exact ⟨rfl, GMyk3.out.2⟩
set_option maxHeartbeats 8000000 in
set_option maxRecDepth 100000 in
theorem told1_check {a a' b b' c c' d d' z z' : Nat} {er : Int} {Q : Nat → Nat → Prop}
  (h0 : er ≠ 0) (CK : Hid (∀ wz, Calls Tryz.prog 14 #[.agg #[.int .u8 1, .complex .f64 a a', .complex .f64 b b', .complex .f64 c c', .complex .f64 d d', .float .f64 0]] wz fun e w' => e = .returned (.int .i64 er) ∧ Bw wz w'))
  (w : World) : Calls Tryz.prog 25 #[.agg #[.int .u8 1, .complex .f64 a a', .complex .f64 b b', .complex .f64 c c', .complex .f64 d d', .float .f64 0], .complex .f64 z z', .int .i64 0, .func (.func 26) #[] #[]] w fun e w' => e = .returned (.tuple #[.complex .f64 0 0, .int .i64 er]) ∧ Bw w w' := by
 have g1 := Ch.Bl.new w #[.int .u8 1, .complex .f64 a a', .complex .f64 b b', .complex .f64 c c', .complex .f64 d d', .float .f64 0] 33
 have z1 : (w.alloc (.cells #[.int .u8 1, .complex .f64 a a', .complex .f64 b b', .complex .f64 c c', .complex .f64 d d', .float .f64 0] 33)).heap.size = w.heap.size + 1 := by simp
 have b1 := bw_alloc w (.cells #[.int .u8 1, .complex .f64 a a', .complex .f64 b b', .complex .f64 c c', .complex .f64 d d', .float .f64 0] 33)
 obtain ⟨W1, hW1⟩ : ∃ v, w.alloc (.cells #[.int .u8 1, .complex .f64 a a', .complex .f64 b b', .complex .f64 c c', .complex .f64 d d', .float .f64 0] 33) = v := ⟨_, rfl⟩
 rw [hW1] at g1 z1 b1
 have GG : Hid (Ch.Bl W1 (w.heap.size) [.int .u8 1, .complex .f64 a a', .complex .f64 b b', .complex .f64 c c', .complex .f64 d d', .float .f64 0] ∧ Bw w W1) := ⟨(show Ch.Bl _ (w.heap.size) _ from g1), b1⟩
 have HW := hide (hW1)
 clear g1 b1 z1 hW1
 go_enter Tryz.func25, Tryz.ntmps25
 go_wp2_with fail
 rw [HW.out]
 obtain ⟨A, hA⟩ : ∃ A, w.heap.size = A := ⟨_, rfl⟩
 rw [hA] at GG ⊢
 have HA := hide hA
 have GGS := True.intro
 refine (CK.out _).mono ?_
 rintro e' w3 ⟨rfl, bb⟩
 have G3 : Hid (Ch.Bl w3 (A) [.int .u8 1, .complex .f64 a a', .complex .f64 b b', .complex .f64 c c', .complex .f64 d d', .float .f64 0] ∧ Bw w w3) := ⟨GG.out.1.bw bb, bw_trans GG.out.2 bb⟩
 clear bb GGS
 have G3S : Ch.Bl w3 (A) [.int .u8 1, .complex .f64 a a', .complex .f64 b b', .complex .f64 c c', .complex .f64 d d', .float .f64 0] := G3.out.1
 go_wp2
 refine bodyPost_ret (results_tmp2 rfl _ _ _) rfl ?_
 exact ⟨rfl, G3.out.2⟩
set_option maxHeartbeats 8000000 in
set_option maxRecDepth 100000 in
theorem told1_fail {a a' b b' c c' d d' z z' : Nat} {er : Int} {Q : Nat → Nat → Prop}
  (h0 : er ≠ 0) (CK : Hid (∀ wz, Calls Tryz.prog 14 #[.agg #[.int .u8 1, .complex .f64 a a', .complex .f64 b b', .complex .f64 c c', .complex .f64 d d', .float .f64 0]] wz fun e w' => e = .returned (.int .i64 0) ∧ Bw wz w')) (IP : Hid (∀ wz, Calls Tryz.prog 27 #[.complex .f64 z z'] wz fun e w' => e = .returned (.bool true) ∧ w' = wz)) (MO : Hid (∀ wz, Calls Tryz.prog 62 #[.agg #[.int .u8 1, .complex .f64 a a', .complex .f64 b b', .complex .f64 c c', .complex .f64 d d', .float .f64 0], .complex .f64 z z'] wz fun e w' => e = .returned (.tuple #[.complex .f64 0 0, .int .i64 er]) ∧ Bw wz w'))
  (w : World) : Calls Tryz.prog 25 #[.agg #[.int .u8 1, .complex .f64 a a', .complex .f64 b b', .complex .f64 c c', .complex .f64 d d', .float .f64 0], .complex .f64 z z', .int .i64 0, .func (.func 26) #[] #[]] w fun e w' => e = .returned (.tuple #[.complex .f64 0 0, .int .i64 er]) ∧ Bw w w' := by
 have KK : Hid (∀ wz, Calls Tryz.prog 42 #[] wz fun e w' => e = .returned (.agg #[.nilFunc, .nilFunc, .nilFunc, .nilFunc, .func (.func 62) #[] #[], .func (.func 63) #[] #[], .func (.func 64) #[] #[], .func (.func 65) #[] #[], .func (.func 66) #[] #[], .func (.func 67) #[] #[], .func (.func 68) #[] #[], .func (.func 69) #[] #[], .func (.func 70) #[] #[], .func (.func 71) #[] #[], .func (.func 72) #[] #[], .func (.func 73) #[] #[], .func (.func 74) #[] #[], .func (.func 75) #[] #[], .func (.func 76) #[] #[], .func (.func 77) #[] #[]]) ∧ Bw wz w') := fun wz => kinds18 wz
 have g1 := Ch.Bl.new w #[.int .u8 1, .complex .f64 a a', .complex .f64 b b', .complex .f64 c c', .complex .f64 d d', .float .f64 0] 33
 have z1 : (w.alloc (.cells #[.int .u8 1, .complex .f64 a a', .complex .f64 b b', .complex .f64 c c', .complex .f64 d d', .float .f64 0] 33)).heap.size = w.heap.size + 1 := by simp
 have b1 := bw_alloc w (.cells #[.int .u8 1, .complex .f64 a a', .complex .f64 b b', .complex .f64 c c', .complex .f64 d d', .float .f64 0] 33)
 obtain ⟨W1, hW1⟩ : ∃ v, w.alloc (.cells #[.int .u8 1, .complex .f64 a a', .complex .f64 b b', .complex .f64 c c', .complex .f64 d d', .float .f64 0] 33) = v := ⟨_, rfl⟩
 rw [hW1] at g1 z1 b1
 have GG : Hid (Ch.Bl W1 (w.heap.size) [.int .u8 1, .complex .f64 a a', .complex .f64 b b', .complex .f64 c c', .complex .f64 d d', .float .f64 0] ∧ Bw w W1) := ⟨(show Ch.Bl _ (w.heap.size) _ from g1), b1⟩
 have HW := hide (hW1)
 clear g1 b1 z1 hW1
 go_enter Tryz.func25, Tryz.ntmps25
 go_wp2_with fail
 rw [HW.out]
 obtain ⟨A, hA⟩ : ∃ A, w.heap.size = A := ⟨_, rfl⟩
 rw [hA] at GG ⊢
 have HA := hide hA
 have GGS := True.intro
 refine (CK.out _).mono ?_
 rintro e' w3 ⟨rfl, bb⟩
 have G3 : Hid (Ch.Bl w3 (A) [.int .u8 1, .complex .f64 a a', .complex .f64 b b', .complex .f64 c c', .complex .f64 d d', .float .f64 0] ∧ Bw w w3) := ⟨GG.out.1.bw bb, bw_trans GG.out.2 bb⟩
 clear bb GGS
 have G3S : Ch.Bl w3 (A) [.int .u8 1, .complex .f64 a a', .complex .f64 b b', .complex .f64 c c', .complex .f64 d d', .float .f64 0] := G3.out.1
 go_wp2_with fail
 refine (IP.out _).mono ?_
 rintro e' w4 ⟨rfl, rfl⟩
 go_wp2_with fail
 refine wp_region_K (fun w' => Ch.Bl w' (A) [.int .u8 1, .complex .f64 a a', .complex .f64 b b', .complex .f64 c c', .complex .f64 d d', .float .f64 0]) 13 14 #[false, false, false, false, false, false, false, false, false, false, false, false, false, false] (by kernel_rfl) (by kernel_rfl) (by kernel_rfl) ?_
 have G3d : Hid (Ch.Bl w4.drew (A) [.int .u8 1, .complex .f64 a a', .complex .f64 b b', .complex .f64 c c', .complex .f64 d d', .float .f64 0] ∧ Bw w w4.drew) := ⟨G3.out.1.bw (Bw.refl w4).drew, bw_trans G3.out.2 (Bw.refl w4).drew⟩
 generalize w4.drew = w4d at *
 have G3S : Ch.Bl w4d (A) [.int .u8 1, .complex .f64 a a', .complex .f64 b b', .complex .f64 c c', .complex .f64 d d', .float .f64 0] := G3d.out.1
 refine wpAnyK_take 1 23 (v := ?vm1) rfl (by kernel_rfl) (by kernel_rfl) (by kernel_rfl) (by kernel_rfl) (by kernel_rfl) (fun _ _ _ h => h) rfl (Or.inl ⟨by rfl, ?hm1⟩) (by assumption) ?rm1
 case hm1 => (intro w hSw; have h0 := hSw; have c00 := h0.c 0 _ rfl; have c01 := h0.c 1 _ rfl; have c02 := h0.c 2 _ rfl; have c03 := h0.c 3 _ rfl; have c04 := h0.c 4 _ rfl; have c05 := h0.c 5 _ rfl; go_simp; with_reducible rfl)
 simp only [Act.put, List.setIfInBounds_toArray, List.set_cons_zero, List.set_cons_succ]
 refine wpAnyK_take 2 24 (v := ?vm2) rfl (by kernel_rfl) (by kernel_rfl) (by kernel_rfl) (by kernel_rfl) (by kernel_rfl) (fun _ _ _ h => h) rfl (Or.inl ⟨by rfl, ?hm2⟩) (by assumption) ?rm2
 case hm2 => (intro w hSw; have h0 := hSw; have c00 := h0.c 0 _ rfl; have c01 := h0.c 1 _ rfl; have c02 := h0.c 2 _ rfl; have c03 := h0.c 3 _ rfl; have c04 := h0.c 4 _ rfl; have c05 := h0.c 5 _ rfl; go_simp; with_reducible rfl)
 simp only [Act.put, List.setIfInBounds_toArray, List.set_cons_zero, List.set_cons_succ]
 refine wpAnyK_take 4 26 (v := ?vm4) rfl (by kernel_rfl) (by kernel_rfl) (by kernel_rfl) (by kernel_rfl) (by kernel_rfl) (fun _ _ _ h => h) rfl (Or.inl ⟨by rfl, ?hm4⟩) (by assumption) ?rm4
 case hm4 => (intro w hSw; have h0 := hSw; have c00 := h0.c 0 _ rfl; have c01 := h0.c 1 _ rfl; have c02 := h0.c 2 _ rfl; have c03 := h0.c 3 _ rfl; have c04 := h0.c 4 _ rfl; have c05 := h0.c 5 _ rfl; go_simp; with_reducible rfl)
 simp only [Act.put, List.setIfInBounds_toArray, List.set_cons_zero, List.set_cons_succ]
 refine wpAnyK_take 6 28 (v := ?vm6) rfl (by kernel_rfl) (by kernel_rfl) (by kernel_rfl) (by kernel_rfl) (by kernel_rfl) (fun _ _ _ h => h) rfl (Or.inl ⟨by rfl, ?hm6⟩) (by assumption) ?rm6
 case hm6 => (intro w hSw; have h0 := hSw; have c00 := h0.c 0 _ rfl; have c01 := h0.c 1 _ rfl; have c02 := h0.c 2 _ rfl; have c03 := h0.c 3 _ rfl; have c04 := h0.c 4 _ rfl; have c05 := h0.c 5 _ rfl; go_simp; with_reducible rfl)
 simp only [Act.put, List.setIfInBounds_toArray, List.set_cons_zero, List.set_cons_succ]
 refine wpAnyK_take 7 29 (v := ?vm7) rfl (by kernel_rfl) (by kernel_rfl) (by kernel_rfl) (by kernel_rfl) (by kernel_rfl) (fun _ _ _ h => h) rfl (Or.inl ⟨by rfl, ?hm7⟩) (by assumption) ?rm7
 case hm7 => (intro w hSw; have h0 := hSw; have c00 := h0.c 0 _ rfl; have c01 := h0.c 1 _ rfl; have c02 := h0.c 2 _ rfl; have c03 := h0.c 3 _ rfl; have c04 := h0.c 4 _ rfl; have c05 := h0.c 5 _ rfl; go_simp; with_reducible rfl)
 simp only [Act.put, List.setIfInBounds_toArray, List.set_cons_zero, List.set_cons_succ]
 refine wpAnyK_one 0 (by kernel_rfl) rfl (fun K hK => ?_)
 go_simp
 refine (KK.out _).mono ?_
 rintro e' w4mk1 ⟨rfl, bb⟩
 have G3mk1 : Hid (Ch.Bl w4mk1 (A) [.int .u8 1, .complex .f64 a a', .complex .f64 b b', .complex .f64 c c', .complex .f64 d d', .float .f64 0] ∧ Bw w w4mk1) := ⟨G3d.out.1.bw bb, bw_trans G3d.out.2 bb⟩
 clear bb G3S
 have G3mk1S : Ch.Bl w4mk1 (A) [.int .u8 1, .complex .f64 a a', .complex .f64 b b', .complex .f64 c c', .complex .f64 d d', .float .f64 0] := G3mk1.out.1
 refine hK.out _ _ (fun _ _ => G3mk1S) ?_
 clear hK K
 simp only [List.setIfInBounds_toArray, List.set_cons_zero, List.set_cons_succ]
 refine wpAnyK_take 3 25 (v := ?vm3) rfl (by kernel_rfl) (by kernel_rfl) (by kernel_rfl) (by kernel_rfl) (by kernel_rfl) (fun _ _ _ h => h) rfl (Or.inl ⟨by rfl, ?hm3⟩) (by assumption) ?rm3
 case hm3 => (intro w hSw; have h0 := hSw; have c00 := h0.c 0 _ rfl; have c01 := h0.c 1 _ rfl; have c02 := h0.c 2 _ rfl; have c03 := h0.c 3 _ rfl; have c04 := h0.c 4 _ rfl; have c05 := h0.c 5 _ rfl; go_simp; with_reducible rfl)
 simp only [Act.put, List.setIfInBounds_toArray, List.set_cons_zero, List.set_cons_succ]
 refine wpAnyK_take 5 27 (v := ?vm5) rfl (by kernel_rfl) (by kernel_rfl) (by kernel_rfl) (by kernel_rfl) (by kernel_rfl) (fun _ _ _ h => h) rfl (Or.inl ⟨by rfl, ?hm5⟩) (by assumption) ?rm5
 case hm5 => (intro w hSw; have h0 := hSw; have c00 := h0.c 0 _ rfl; have c01 := h0.c 1 _ rfl; have c02 := h0.c 2 _ rfl; have c03 := h0.c 3 _ rfl; have c04 := h0.c 4 _ rfl; have c05 := h0.c 5 _ rfl; go_simp; with_reducible rfl)
 simp only [Act.put, List.setIfInBounds_toArray, List.set_cons_zero, List.set_cons_succ]
 refine wpAnyK_one 8 (by kernel_rfl) rfl (fun K hK => ?_)
 go_simp
 refine (MO.out _).mono ?_
 rintro e' w4mk2 ⟨rfl, bb⟩
 have G3mk2 : Hid (Ch.Bl w4mk2 (A) [.int .u8 1, .complex .f64 a a', .complex .f64 b b', .complex .f64 c c', .complex .f64 d d', .float .f64 0] ∧ Bw w w4mk2) := ⟨G3mk1.out.1.bw bb, bw_trans G3mk1.out.2 bb⟩
 clear bb G3mk1S
 have G3mk2S : Ch.Bl w4mk2 (A) [.int .u8 1, .complex .f64 a a', .complex .f64 b b', .complex .f64 c c', .complex .f64 d d', .float .f64 0] := G3mk2.out.1
 refine hK.out _ _ (fun _ _ => G3mk2S) ?_
 clear hK K
 simp only [List.setIfInBounds_toArray, List.set_cons_zero, List.set_cons_succ]
 refine wpAnyK_take 9 21 (v := ?vm9) rfl (by kernel_rfl) (by kernel_rfl) (by kernel_rfl) (by kernel_rfl) (by kernel_rfl) (fun _ _ _ h => h) rfl (Or.inl ⟨by rfl, ?hm9⟩) (by assumption) ?rm9
 case hm9 => (intro w hSw; have h0 := hSw; have c00 := h0.c 0 _ rfl; have c01 := h0.c 1 _ rfl; have c02 := h0.c 2 _ rfl; have c03 := h0.c 3 _ rfl; have c04 := h0.c 4 _ rfl; have c05 := h0.c 5 _ rfl; go_simp; with_reducible rfl)
 simp only [Act.put, List.setIfInBounds_toArray, List.set_cons_zero, List.set_cons_succ]
 refine wpAnyK_take 10 31 (v := ?vm10) rfl (by kernel_rfl) (by kernel_rfl) (by kernel_rfl) (by kernel_rfl) (by kernel_rfl) (fun _ _ _ h => h) rfl (Or.inl ⟨by rfl, ?hm10⟩) (by assumption) ?rm10
 case hm10 => (intro w hSw; have h0 := hSw; have c00 := h0.c 0 _ rfl; have c01 := h0.c 1 _ rfl; have c02 := h0.c 2 _ rfl; have c03 := h0.c 3 _ rfl; have c04 := h0.c 4 _ rfl; have c05 := h0.c 5 _ rfl; go_simp; with_reducible rfl)
 simp only [Act.put, List.setIfInBounds_toArray, List.set_cons_zero, List.set_cons_succ]
 refine wpAnyK_take 11 32 (v := ?vm11) rfl (by kernel_rfl) (by kernel_rfl) (by kernel_rfl) (by kernel_rfl) (by kernel_rfl) (fun _ _ _ h => h) rfl (Or.inl ⟨by rfl, ?hm11⟩) (by assumption) ?rm11
 case hm11 => (intro w hSw; have h0 := hSw; have c00 := h0.c 0 _ rfl; have c01 := h0.c 1 _ rfl; have c02 := h0.c 2 _ rfl; have c03 := h0.c 3 _ rfl; have c04 := h0.c 4 _ rfl; have c05 := h0.c 5 _ rfl; go_simp; with_reducible rfl)
 simp only [Act.put, List.setIfInBounds_toArray, List.set_cons_zero, List.set_cons_succ]
 refine wpAnyK_one 12 (by kernel_rfl) rfl (fun K hK => ?_)
 go_simp
 refine hK.out _ _ (fun _ _ => G3mk2S) ?_
 clear hK K
 simp only [List.setIfInBounds_toArray, List.set_cons_zero, List.set_cons_succ]
 refine wpAnyK_one 13 (by kernel_rfl) rfl (fun K hK => ?_)
 go_simp
 refine hK.out _ _ (fun h => absurd rfl h) ?_
 clear hK K
 simp only [List.setIfInBounds_toArray, List.set_cons_zero, List.set_cons_succ]
 refine wpAnyK_done (by kernel_rfl) ?_ _
 go_wp2
 refine bodyPost_ret (results_tmp2 rfl _ _ _) rfl ?_
 exact ⟨rfl, G3mk2.out.2⟩
set_option maxHeartbeats 8000000 in
set_option maxRecDepth 100000 in
theorem told1_at {a a' b b' c c' d d' z z' : Nat} {er : Int} {Q : Nat → Nat → Prop}
  (CK : Hid (∀ wz, Calls Tryz.prog 14 #[.agg #[.int .u8 1, .complex .f64 a a', .complex .f64 b b', .complex .f64 c c', .complex .f64 d d', .float .f64 0]] wz fun e w' => e = .returned (.int .i64 0) ∧ Bw wz w')) (IP : Hid (∀ wz, Calls Tryz.prog 27 #[.complex .f64 z z'] wz fun e w' => e = .returned (.bool true) ∧ w' = wz)) (MO : Hid (∀ wz, Calls Tryz.prog 62 #[.agg #[.int .u8 1, .complex .f64 a a', .complex .f64 b b', .complex .f64 c c', .complex .f64 d d', .float .f64 0], .complex .f64 z z'] wz fun e w' => ∃ x y, e = .returned (.tuple #[.complex .f64 x y, .int .i64 0]) ∧ Q x y ∧ Bw wz w'))
  (FI : Hid (∀ x y wz, Q x y → Calls Tryz.prog 26 #[.complex .f64 x y] wz fun e w' => e = .returned (.bool true) ∧ w' = wz))
  (w : World) : Calls Tryz.prog 25 #[.agg #[.int .u8 1, .complex .f64 a a', .complex .f64 b b', .complex .f64 c c', .complex .f64 d d', .float .f64 0], .complex .f64 z z', .int .i64 0, .func (.func 26) #[] #[]] w fun e w' => ∃ x y, e = .returned (.tuple #[.complex .f64 x y, .int .i64 0]) ∧ Q x y ∧ Bw w w' := by
 have KK : Hid (∀ wz, Calls Tryz.prog 42 #[] wz fun e w' => e = .returned (.agg #[.nilFunc, .nilFunc, .nilFunc, .nilFunc, .func (.func 62) #[] #[], .func (.func 63) #[] #[], .func (.func 64) #[] #[], .func (.func 65) #[] #[], .func (.func 66) #[] #[], .func (.func 67) #[] #[], .func (.func 68) #[] #[], .func (.func 69) #[] #[], .func (.func 70) #[] #[], .func (.func 71) #[] #[], .func (.func 72) #[] #[], .func (.func 73) #[] #[], .func (.func 74) #[] #[], .func (.func 75) #[] #[], .func (.func 76) #[] #[], .func (.func 77) #[] #[]]) ∧ Bw wz w') := fun wz => kinds18 wz
 have g1 := Ch.Bl.new w #[.int .u8 1, .complex .f64 a a', .complex .f64 b b', .complex .f64 c c', .complex .f64 d d', .float .f64 0] 33
 have z1 : (w.alloc (.cells #[.int .u8 1, .complex .f64 a a', .complex .f64 b b', .complex .f64 c c', .complex .f64 d d', .float .f64 0] 33)).heap.size = w.heap.size + 1 := by simp
 have b1 := bw_alloc w (.cells #[.int .u8 1, .complex .f64 a a', .complex .f64 b b', .complex .f64 c c', .complex .f64 d d', .float .f64 0] 33)
 obtain ⟨W1, hW1⟩ : ∃ v, w.alloc (.cells #[.int .u8 1, .complex .f64 a a', .complex .f64 b b', .complex .f64 c c', .complex .f64 d d', .float .f64 0] 33) = v := ⟨_, rfl⟩
 rw [hW1] at g1 z1 b1
 have GG : Hid (Ch.Bl W1 (w.heap.size) [.int .u8 1, .complex .f64 a a', .complex .f64 b b', .complex .f64 c c', .complex .f64 d d', .float .f64 0] ∧ Bw w W1) := ⟨(show Ch.Bl _ (w.heap.size) _ from g1), b1⟩
 have HW := hide (hW1)
 clear g1 b1 z1 hW1
 go_enter Tryz.func25, Tryz.ntmps25
 go_wp2_with fail
 rw [HW.out]
 obtain ⟨A, hA⟩ : ∃ A, w.heap.size = A := ⟨_, rfl⟩
 rw [hA] at GG ⊢
 have HA := hide hA
 have GGS := True.intro
 refine (CK.out _).mono ?_
 rintro e' w3 ⟨rfl, bb⟩
 have G3 : Hid (Ch.Bl w3 (A) [.int .u8 1, .complex .f64 a a', .complex .f64 b b', .complex .f64 c c', .complex .f64 d d', .float .f64 0] ∧ Bw w w3) := ⟨GG.out.1.bw bb, bw_trans GG.out.2 bb⟩
 clear bb GGS
 have G3S : Ch.Bl w3 (A) [.int .u8 1, .complex .f64 a a', .complex .f64 b b', .complex .f64 c c', .complex .f64 d d', .float .f64 0] := G3.out.1
 go_wp2_with fail
 refine (IP.out _).mono ?_
 rintro e' w4 ⟨rfl, rfl⟩
 go_wp2_with fail
 refine wp_region_K (fun w' => Ch.Bl w' (A) [.int .u8 1, .complex .f64 a a', .complex .f64 b b', .complex .f64 c c', .complex .f64 d d', .float .f64 0]) 13 14 #[false, false, false, false, false, false, false, false, false, false, false, false, false, false] (by kernel_rfl) (by kernel_rfl) (by kernel_rfl) ?_
 have G3d : Hid (Ch.Bl w4.drew (A) [.int .u8 1, .complex .f64 a a', .complex .f64 b b', .complex .f64 c c', .complex .f64 d d', .float .f64 0] ∧ Bw w w4.drew) := ⟨G3.out.1.bw (Bw.refl w4).drew, bw_trans G3.out.2 (Bw.refl w4).drew⟩
 generalize w4.drew = w4d at *
 have G3S : Ch.Bl w4d (A) [.int .u8 1, .complex .f64 a a', .complex .f64 b b', .complex .f64 c c', .complex .f64 d d', .float .f64 0] := G3d.out.1
 refine wpAnyK_take 1 23 (v := ?vm1) rfl (by kernel_rfl) (by kernel_rfl) (by kernel_rfl) (by kernel_rfl) (by kernel_rfl) (fun _ _ _ h => h) rfl (Or.inl ⟨by rfl, ?hm1⟩) (by assumption) ?rm1
 case hm1 => (intro w hSw; have h0 := hSw; have c00 := h0.c 0 _ rfl; have c01 := h0.c 1 _ rfl; have c02 := h0.c 2 _ rfl; have c03 := h0.c 3 _ rfl; have c04 := h0.c 4 _ rfl; have c05 := h0.c 5 _ rfl; go_simp; with_reducible rfl)
 simp only [Act.put, List.setIfInBounds_toArray, List.set_cons_zero, List.set_cons_succ]
 refine wpAnyK_take 2 24 (v := ?vm2) rfl (by kernel_rfl) (by kernel_rfl) (by kernel_rfl) (by kernel_rfl) (by kernel_rfl) (fun _ _ _ h => h) rfl (Or.inl ⟨by rfl, ?hm2⟩) (by assumption) ?rm2
 case hm2 => (intro w hSw; have h0 := hSw; have c00 := h0.c 0 _ rfl; have c01 := h0.c 1 _ rfl; have c02 := h0.c 2 _ rfl; have c03 := h0.c 3 _ rfl; have c04 := h0.c 4 _ rfl; have c05 := h0.c 5 _ rfl; go_simp; with_reducible rfl)
 simp only [Act.put, List.setIfInBounds_toArray, List.set_cons_zero, List.set_cons_succ]
 refine wpAnyK_take 4 26 (v := ?vm4) rfl (by kernel_rfl) (by kernel_rfl) (by kernel_rfl) (by kernel_rfl) (by kernel_rfl) (fun _ _ _ h => h) rfl (Or.inl ⟨by rfl, ?hm4⟩) (by assumption) ?rm4
 case hm4 => (intro w hSw; have h0 := hSw; have c00 := h0.c 0 _ rfl; have c01 := h0.c 1 _ rfl; have c02 := h0.c 2 _ rfl; have c03 := h0.c 3 _ rfl; have c04 := h0.c 4 _ rfl; have c05 := h0.c 5 _ rfl; go_simp; with_reducible rfl)
 simp only [Act.put, List.setIfInBounds_toArray, List.set_cons_zero, List.set_cons_succ]
 refine wpAnyK_take 6 28 (v := ?vm6) rfl (by kernel_rfl) (by kernel_rfl) (by kernel_rfl) (by kernel_rfl) (by kernel_rfl) (fun _ _ _ h => h) rfl (Or.inl ⟨by rfl, ?hm6⟩) (by assumption) ?rm6
 case hm6 => (intro w hSw; have h0 := hSw; have c00 := h0.c 0 _ rfl; have c01 := h0.c 1 _ rfl; have c02 := h0.c 2 _ rfl; have c03 := h0.c 3 _ rfl; have c04 := h0.c 4 _ rfl; have c05 := h0.c 5 _ rfl; go_simp; with_reducible rfl)
 simp only [Act.put, List.setIfInBounds_toArray, List.set_cons_zero, List.set_cons_succ]
 refine wpAnyK_take 7 29 (v := ?vm7) rfl (by kernel_rfl) (by kernel_rfl) (by kernel_rfl) (by kernel_rfl) (by kernel_rfl) (fun _ _ _ h => h) rfl (Or.inl ⟨by rfl, ?hm7⟩) (by assumption) ?rm7
 case hm7 => (intro w hSw; have h0 := hSw; have c00 := h0.c 0 _ rfl; have c01 := h0.c 1 _ rfl; have c02 := h0.c 2 _ rfl; have c03 := h0.c 3 _ rfl; have c04 := h0.c 4 _ rfl; have c05 := h0.c 5 _ rfl; go_simp; with_reducible rfl)
 simp only [Act.put, List.setIfInBounds_toArray, List.set_cons_zero, List.set_cons_succ]
 refine wpAnyK_one 0 (by kernel_rfl) rfl (fun K hK => ?_)
 go_simp
 refine (KK.out _).mono ?_
 rintro e' w4mk1 ⟨rfl, bb⟩
 have G3mk1 : Hid (Ch.Bl w4mk1 (A) [.int .u8 1, .complex .f64 a a', .complex .f64 b b', .complex .f64 c c', .complex .f64 d d', .float .f64 0] ∧ Bw w w4mk1) := ⟨G3d.out.1.bw bb, bw_trans G3d.out.2 bb⟩
 clear bb G3S
 have G3mk1S : Ch.Bl w4mk1 (A) [.int .u8 1, .complex .f64 a a', .complex .f64 b b', .complex .f64 c c', .complex .f64 d d', .float .f64 0] := G3mk1.out.1
 refine hK.out _ _ (fun _ _ => G3mk1S) ?_
 clear hK K
 simp only [List.setIfInBounds_toArray, List.set_cons_zero, List.set_cons_succ]
 refine wpAnyK_take 3 25 (v := ?vm3) rfl (by kernel_rfl) (by kernel_rfl) (by kernel_rfl) (by kernel_rfl) (by kernel_rfl) (fun _ _ _ h => h) rfl (Or.inl ⟨by rfl, ?hm3⟩) (by assumption) ?rm3
 case hm3 => (intro w hSw; have h0 := hSw; have c00 := h0.c 0 _ rfl; have c01 := h0.c 1 _ rfl; have c02 := h0.c 2 _ rfl; have c03 := h0.c 3 _ rfl; have c04 := h0.c 4 _ rfl; have c05 := h0.c 5 _ rfl; go_simp; with_reducible rfl)
 simp only [Act.put, List.setIfInBounds_toArray, List.set_cons_zero, List.set_cons_succ]
 refine wpAnyK_take 5 27 (v := ?vm5) rfl (by kernel_rfl) (by kernel_rfl) (by kernel_rfl) (by kernel_rfl) (by kernel_rfl) (fun _ _ _ h => h) rfl (Or.inl ⟨by rfl, ?hm5⟩) (by assumption) ?rm5
 case hm5 => (intro w hSw; have h0 := hSw; have c00 := h0.c 0 _ rfl; have c01 := h0.c 1 _ rfl; have c02 := h0.c 2 _ rfl; have c03 := h0.c 3 _ rfl; have c04 := h0.c 4 _ rfl; have c05 := h0.c 5 _ rfl; go_simp; with_reducible rfl)
 simp only [Act.put, List.setIfInBounds_toArray, List.set_cons_zero, List.set_cons_succ]
 refine wpAnyK_one 8 (by kernel_rfl) rfl (fun K hK => ?_)
 go_simp
 refine (MO.out _).mono ?_
 rintro e' w4mk2 ⟨X, Y, rfl, hq, bb⟩
 have G3mk2 : Hid (Ch.Bl w4mk2 (A) [.int .u8 1, .complex .f64 a a', .complex .f64 b b', .complex .f64 c c', .complex .f64 d d', .float .f64 0] ∧ Bw w w4mk2) := ⟨G3mk1.out.1.bw bb, bw_trans G3mk1.out.2 bb⟩
 clear bb G3mk1S
 have G3mk2S : Ch.Bl w4mk2 (A) [.int .u8 1, .complex .f64 a a', .complex .f64 b b', .complex .f64 c c', .complex .f64 d d', .float .f64 0] := G3mk2.out.1
 refine hK.out _ _ (fun _ _ => G3mk2S) ?_
 clear hK K
 simp only [List.setIfInBounds_toArray, List.set_cons_zero, List.set_cons_succ]
 refine wpAnyK_take 9 21 (v := ?vm9) rfl (by kernel_rfl) (by kernel_rfl) (by kernel_rfl) (by kernel_rfl) (by kernel_rfl) (fun _ _ _ h => h) rfl (Or.inl ⟨by rfl, ?hm9⟩) (by assumption) ?rm9
 case hm9 => (intro w hSw; have h0 := hSw; have c00 := h0.c 0 _ rfl; have c01 := h0.c 1 _ rfl; have c02 := h0.c 2 _ rfl; have c03 := h0.c 3 _ rfl; have c04 := h0.c 4 _ rfl; have c05 := h0.c 5 _ rfl; go_simp; with_reducible rfl)
 simp only [Act.put, List.setIfInBounds_toArray, List.set_cons_zero, List.set_cons_succ]
 refine wpAnyK_take 10 31 (v := ?vm10) rfl (by kernel_rfl) (by kernel_rfl) (by kernel_rfl) (by kernel_rfl) (by kernel_rfl) (fun _ _ _ h => h) rfl (Or.inl ⟨by rfl, ?hm10⟩) (by assumption) ?rm10
 case hm10 => (intro w hSw; have h0 := hSw; have c00 := h0.c 0 _ rfl; have c01 := h0.c 1 _ rfl; have c02 := h0.c 2 _ rfl; have c03 := h0.c 3 _ rfl; have c04 := h0.c 4 _ rfl; have c05 := h0.c 5 _ rfl; go_simp; with_reducible rfl)
 simp only [Act.put, List.setIfInBounds_toArray, List.set_cons_zero, List.set_cons_succ]
 refine wpAnyK_take 11 32 (v := ?vm11) rfl (by kernel_rfl) (by kernel_rfl) (by kernel_rfl) (by kernel_rfl) (by kernel_rfl) (fun _ _ _ h => h) rfl (Or.inl ⟨by rfl, ?hm11⟩) (by assumption) ?rm11
 case hm11 => (intro w hSw; have h0 := hSw; have c00 := h0.c 0 _ rfl; have c01 := h0.c 1 _ rfl; have c02 := h0.c 2 _ rfl; have c03 := h0.c 3 _ rfl; have c04 := h0.c 4 _ rfl; have c05 := h0.c 5 _ rfl; go_simp; with_reducible rfl)
 simp only [Act.put, List.setIfInBounds_toArray, List.set_cons_zero, List.set_cons_succ]
 refine wpAnyK_one 12 (by kernel_rfl) rfl (fun K hK => ?_)
 go_simp
 refine hK.out _ _ (fun _ _ => G3mk2S) ?_
 clear hK K
 simp only [List.setIfInBounds_toArray, List.set_cons_zero, List.set_cons_succ]
 refine wpAnyK_one 13 (by kernel_rfl) rfl (fun K hK => ?_)
 go_simp
 refine hK.out _ _ (fun h => absurd rfl h) ?_
 clear hK K
 simp only [List.setIfInBounds_toArray, List.set_cons_zero, List.set_cons_succ]
 refine wpAnyK_done (by kernel_rfl) ?_ _
 go_wp2_with fail
 refine (FI.out _ _ _ hq).mono ?_
 rintro e' w9 ⟨rfl, rfl⟩
 go_wp2
 refine bodyPost_ret (results_tmp2 rfl _ _ _) rfl ?_
 exact ⟨X, Y, rfl, hq, G3mk2.out.2⟩
set_option maxHeartbeats 8000000 in
set_option maxRecDepth 100000 in
theorem told1_back {a a' b b' c c' d d' z z' : Nat} {er : Int} {Q : Nat → Nat → Prop}
  (CK : Hid (∀ wz, Calls Tryz.prog 14 #[.agg #[.int .u8 1, .complex .f64 a a', .complex .f64 b b', .complex .f64 c c', .complex .f64 d d', .float .f64 0]] wz fun e w' => e = .returned (.int .i64 0) ∧ Bw wz w')) (IP : Hid (∀ wz, Calls Tryz.prog 27 #[.complex .f64 z z'] wz fun e w' => e = .returned (.bool true) ∧ w' = wz)) (MO : Hid (∀ wz, Calls Tryz.prog 64 #[.agg #[.int .u8 1, .complex .f64 a a', .complex .f64 b b', .complex .f64 c c', .complex .f64 d d', .float .f64 0], .complex .f64 z z'] wz fun e w' => ∃ x y, e = .returned (.tuple #[.complex .f64 x y, .int .i64 0]) ∧ Q x y ∧ Bw wz w'))
  (FI : Hid (∀ x y wz, Q x y → Calls Tryz.prog 27 #[.complex .f64 x y] wz fun e w' => e = .returned (.bool true) ∧ w' = wz))
  (w : World) : Calls Tryz.prog 25 #[.agg #[.int .u8 1, .complex .f64 a a', .complex .f64 b b', .complex .f64 c c', .complex .f64 d d', .float .f64 0], .complex .f64 z z', .int .i64 2, .func (.func 27) #[] #[]] w fun e w' => ∃ x y, e = .returned (.tuple #[.complex .f64 x y, .int .i64 0]) ∧ Q x y ∧ Bw w w' := by
 have KK : Hid (∀ wz, Calls Tryz.prog 42 #[] wz fun e w' => e = .returned (.agg #[.nilFunc, .nilFunc, .nilFunc, .nilFunc, .func (.func 62) #[] #[], .func (.func 63) #[] #[], .func (.func 64) #[] #[], .func (.func 65) #[] #[], .func (.func 66) #[] #[], .func (.func 67) #[] #[], .func (.func 68) #[] #[], .func (.func 69) #[] #[], .func (.func 70) #[] #[], .func (.func 71) #[] #[], .func (.func 72) #[] #[], .func (.func 73) #[] #[], .func (.func 74) #[] #[], .func (.func 75) #[] #[], .func (.func 76) #[] #[], .func (.func 77) #[] #[]]) ∧ Bw wz w') := fun wz => kinds18 wz
 have g1 := Ch.Bl.new w #[.int .u8 1, .complex .f64 a a', .complex .f64 b b', .complex .f64 c c', .complex .f64 d d', .float .f64 0] 33
 have z1 : (w.alloc (.cells #[.int .u8 1, .complex .f64 a a', .complex .f64 b b', .complex .f64 c c', .complex .f64 d d', .float .f64 0] 33)).heap.size = w.heap.size + 1 := by simp
 have b1 := bw_alloc w (.cells #[.int .u8 1, .complex .f64 a a', .complex .f64 b b', .complex .f64 c c', .complex .f64 d d', .float .f64 0] 33)
 obtain ⟨W1, hW1⟩ : ∃ v, w.alloc (.cells #[.int .u8 1, .complex .f64 a a', .complex .f64 b b', .complex .f64 c c', .complex .f64 d d', .float .f64 0] 33) = v := ⟨_, rfl⟩
 rw [hW1] at g1 z1 b1
 have GG : Hid (Ch.Bl W1 (w.heap.size) [.int .u8 1, .complex .f64 a a', .complex .f64 b b', .complex .f64 c c', .complex .f64 d d', .float .f64 0] ∧ Bw w W1) := ⟨(show Ch.Bl _ (w.heap.size) _ from g1), b1⟩
 have HW := hide (hW1)
 clear g1 b1 z1 hW1
 go_enter Tryz.func25, Tryz.ntmps25
 go_wp2_with fail
 rw [HW.out]
 obtain ⟨A, hA⟩ : ∃ A, w.heap.size = A := ⟨_, rfl⟩
 rw [hA] at GG ⊢
 have HA := hide hA
 have GGS := True.intro
 refine (CK.out _).mono ?_
 rintro e' w3 ⟨rfl, bb⟩
 have G3 : Hid (Ch.Bl w3 (A) [.int .u8 1, .complex .f64 a a', .complex .f64 b b', .complex .f64 c c', .complex .f64 d d', .float .f64 0] ∧ Bw w w3) := ⟨GG.out.1.bw bb, bw_trans GG.out.2 bb⟩
 clear bb GGS
 have G3S : Ch.Bl w3 (A) [.int .u8 1, .complex .f64 a a', .complex .f64 b b', .complex .f64 c c', .complex .f64 d d', .float .f64 0] := G3.out.1
 go_wp2_with fail
 refine (IP.out _).mono ?_
 rintro e' w4 ⟨rfl, rfl⟩
 go_wp2_with fail
 refine wp_region_K (fun w' => Ch.Bl w' (A) [.int .u8 1, .complex .f64 a a', .complex .f64 b b', .complex .f64 c c', .complex .f64 d d', .float .f64 0]) 13 14 #[false, false, false, false, false, false, false, false, false, false, false, false, false, false] (by kernel_rfl) (by kernel_rfl) (by kernel_rfl) ?_
 have G3d : Hid (Ch.Bl w4.drew (A) [.int .u8 1, .complex .f64 a a', .complex .f64 b b', .complex .f64 c c', .complex .f64 d d', .float .f64 0] ∧ Bw w w4.drew) := ⟨G3.out.1.bw (Bw.refl w4).drew, bw_trans G3.out.2 (Bw.refl w4).drew⟩
 generalize w4.drew = w4d at *
 have G3S : Ch.Bl w4d (A) [.int .u8 1, .complex .f64 a a', .complex .f64 b b', .complex .f64 c c', .complex .f64 d d', .float .f64 0] := G3d.out.1
 refine wpAnyK_take 1 23 (v := ?vm1) rfl (by kernel_rfl) (by kernel_rfl) (by kernel_rfl) (by kernel_rfl) (by kernel_rfl) (fun _ _ _ h => h) rfl (Or.inl ⟨by rfl, ?hm1⟩) (by assumption) ?rm1
 case hm1 => (intro w hSw; have h0 := hSw; have c00 := h0.c 0 _ rfl; have c01 := h0.c 1 _ rfl; have c02 := h0.c 2 _ rfl; have c03 := h0.c 3 _ rfl; have c04 := h0.c 4 _ rfl; have c05 := h0.c 5 _ rfl; go_simp; with_reducible rfl)
 simp only [Act.put, List.setIfInBounds_toArray, List.set_cons_zero, List.set_cons_succ]
 refine wpAnyK_take 2 24 (v := ?vm2) rfl (by kernel_rfl) (by kernel_rfl) (by kernel_rfl) (by kernel_rfl) (by kernel_rfl) (fun _ _ _ h => h) rfl (Or.inl ⟨by rfl, ?hm2⟩) (by assumption) ?rm2
 case hm2 => (intro w hSw; have h0 := hSw; have c00 := h0.c 0 _ rfl; have c01 := h0.c 1 _ rfl; have c02 := h0.c 2 _ rfl; have c03 := h0.c 3 _ rfl; have c04 := h0.c 4 _ rfl; have c05 := h0.c 5 _ rfl; go_simp; with_reducible rfl)
 simp only [Act.put, List.setIfInBounds_toArray, List.set_cons_zero, List.set_cons_succ]
 refine wpAnyK_take 4 26 (v := ?vm4) rfl (by kernel_rfl) (by kernel_rfl) (by kernel_rfl) (by kernel_rfl) (by kernel_rfl) (fun _ _ _ h => h) rfl (Or.inl ⟨by rfl, ?hm4⟩) (by assumption) ?rm4
 case hm4 => (intro w hSw; have h0 := hSw; have c00 := h0.c 0 _ rfl; have c01 := h0.c 1 _ rfl; have c02 := h0.c 2 _ rfl; have c03 := h0.c 3 _ rfl; have c04 := h0.c 4 _ rfl; have c05 := h0.c 5 _ rfl; go_simp; with_reducible rfl)
 simp only [Act.put, List.setIfInBounds_toArray, List.set_cons_zero, List.set_cons_succ]
 refine wpAnyK_take 6 28 (v := ?vm6) rfl (by kernel_rfl) (by kernel_rfl) (by kernel_rfl) (by kernel_rfl) (by kernel_rfl) (fun _ _ _ h => h) rfl (Or.inl ⟨by rfl, ?hm6⟩) (by assumption) ?rm6
 case hm6 => (intro w hSw; have h0 := hSw; have c00 := h0.c 0 _ rfl; have c01 := h0.c 1 _ rfl; have c02 := h0.c 2 _ rfl; have c03 := h0.c 3 _ rfl; have c04 := h0.c 4 _ rfl; have c05 := h0.c 5 _ rfl; go_simp; with_reducible rfl)
 simp only [Act.put, List.setIfInBounds_toArray, List.set_cons_zero, List.set_cons_succ]
 refine wpAnyK_take 7 29 (v := ?vm7) rfl (by kernel_rfl) (by kernel_rfl) (by kernel_rfl) (by kernel_rfl) (by kernel_rfl) (fun _ _ _ h => h) rfl (Or.inl ⟨by rfl, ?hm7⟩) (by assumption) ?rm7
 case hm7 => (intro w hSw; have h0 := hSw; have c00 := h0.c 0 _ rfl; have c01 := h0.c 1 _ rfl; have c02 := h0.c 2 _ rfl; have c03 := h0.c 3 _ rfl; have c04 := h0.c 4 _ rfl; have c05 := h0.c 5 _ rfl; go_simp; with_reducible rfl)
 simp only [Act.put, List.setIfInBounds_toArray, List.set_cons_zero, List.set_cons_succ]
 refine wpAnyK_one 0 (by kernel_rfl) rfl (fun K hK => ?_)
 go_simp
 refine (KK.out _).mono ?_
 rintro e' w4mk1 ⟨rfl, bb⟩
 have G3mk1 : Hid (Ch.Bl w4mk1 (A) [.int .u8 1, .complex .f64 a a', .complex .f64 b b', .complex .f64 c c', .complex .f64 d d', .float .f64 0] ∧ Bw w w4mk1) := ⟨G3d.out.1.bw bb, bw_trans G3d.out.2 bb⟩
 clear bb G3S
 have G3mk1S : Ch.Bl w4mk1 (A) [.int .u8 1, .complex .f64 a a', .complex .f64 b b', .complex .f64 c c', .complex .f64 d d', .float .f64 0] := G3mk1.out.1
 refine hK.out _ _ (fun _ _ => G3mk1S) ?_
 clear hK K
 simp only [List.setIfInBounds_toArray, List.set_cons_zero, List.set_cons_succ]
 refine wpAnyK_take 3 25 (v := ?vm3) rfl (by kernel_rfl) (by kernel_rfl) (by kernel_rfl) (by kernel_rfl) (by kernel_rfl) (fun _ _ _ h => h) rfl (Or.inl ⟨by rfl, ?hm3⟩) (by assumption) ?rm3
 case hm3 => (intro w hSw; have h0 := hSw; have c00 := h0.c 0 _ rfl; have c01 := h0.c 1 _ rfl; have c02 := h0.c 2 _ rfl; have c03 := h0.c 3 _ rfl; have c04 := h0.c 4 _ rfl; have c05 := h0.c 5 _ rfl; go_simp; with_reducible rfl)
 simp only [Act.put, List.setIfInBounds_toArray, List.set_cons_zero, List.set_cons_succ]
 refine wpAnyK_take 5 27 (v := ?vm5) rfl (by kernel_rfl) (by kernel_rfl) (by kernel_rfl) (by kernel_rfl) (by kernel_rfl) (fun _ _ _ h => h) rfl (Or.inl ⟨by rfl, ?hm5⟩) (by assumption) ?rm5
 case hm5 => (intro w hSw; have h0 := hSw; have c00 := h0.c 0 _ rfl; have c01 := h0.c 1 _ rfl; have c02 := h0.c 2 _ rfl; have c03 := h0.c 3 _ rfl; have c04 := h0.c 4 _ rfl; have c05 := h0.c 5 _ rfl; go_simp; with_reducible rfl)
 simp only [Act.put, List.setIfInBounds_toArray, List.set_cons_zero, List.set_cons_succ]
 refine wpAnyK_one 8 (by kernel_rfl) rfl (fun K hK => ?_)
 go_simp
 refine (MO.out _).mono ?_
 rintro e' w4mk2 ⟨X, Y, rfl, hq, bb⟩
 have G3mk2 : Hid (Ch.Bl w4mk2 (A) [.int .u8 1, .complex .f64 a a', .complex .f64 b b', .complex .f64 c c', .complex .f64 d d', .float .f64 0] ∧ Bw w w4mk2) := ⟨G3mk1.out.1.bw bb, bw_trans G3mk1.out.2 bb⟩
 clear bb G3mk1S
 have G3mk2S : Ch.Bl w4mk2 (A) [.int .u8 1, .complex .f64 a a', .complex .f64 b b', .complex .f64 c c', .complex .f64 d d', .float .f64 0] := G3mk2.out.1
 refine hK.out _ _ (fun _ _ => G3mk2S) ?_
 clear hK K
 simp only [List.setIfInBounds_toArray, List.set_cons_zero, List.set_cons_succ]
 refine wpAnyK_take 9 21 (v := ?vm9) rfl (by kernel_rfl) (by kernel_rfl) (by kernel_rfl) (by kernel_rfl) (by kernel_rfl) (fun _ _ _ h => h) rfl (Or.inl ⟨by rfl, ?hm9⟩) (by assumption) ?rm9
 case hm9 => (intro w hSw; have h0 := hSw; have c00 := h0.c 0 _ rfl; have c01 := h0.c 1 _ rfl; have c02 := h0.c 2 _ rfl; have c03 := h0.c 3 _ rfl; have c04 := h0.c 4 _ rfl; have c05 := h0.c 5 _ rfl; go_simp; with_reducible rfl)
 simp only [Act.put, List.setIfInBounds_toArray, List.set_cons_zero, List.set_cons_succ]
 refine wpAnyK_take 10 31 (v := ?vm10) rfl (by kernel_rfl) (by kernel_rfl) (by kernel_rfl) (by kernel_rfl) (by kernel_rfl) (fun _ _ _ h => h) rfl (Or.inl ⟨by rfl, ?hm10⟩) (by assumption) ?rm10
 case hm10 => (intro w hSw; have h0 := hSw; have c00 := h0.c 0 _ rfl; have c01 := h0.c 1 _ rfl; have c02 := h0.c 2 _ rfl; have c03 := h0.c 3 _ rfl; have c04 := h0.c 4 _ rfl; have c05 := h0.c 5 _ rfl; go_simp; with_reducible rfl)
 simp only [Act.put, List.setIfInBounds_toArray, List.set_cons_zero, List.set_cons_succ]
 refine wpAnyK_take 11 32 (v := ?vm11) rfl (by kernel_rfl) (by kernel_rfl) (by kernel_rfl) (by kernel_rfl) (by kernel_rfl) (fun _ _ _ h => h) rfl (Or.inl ⟨by rfl, ?hm11⟩) (by assumption) ?rm11
 case hm11 => (intro w hSw; have h0 := hSw; have c00 := h0.c 0 _ rfl; have c01 := h0.c 1 _ rfl; have c02 := h0.c 2 _ rfl; have c03 := h0.c 3 _ rfl; have c04 := h0.c 4 _ rfl; have c05 := h0.c 5 _ rfl; go_simp; with_reducible rfl)
 simp only [Act.put, List.setIfInBounds_toArray, List.set_cons_zero, List.set_cons_succ]
 refine wpAnyK_one 12 (by kernel_rfl) rfl (fun K hK => ?_)
 go_simp
 refine hK.out _ _ (fun _ _ => G3mk2S) ?_
 clear hK K
 simp only [List.setIfInBounds_toArray, List.set_cons_zero, List.set_cons_succ]
 refine wpAnyK_one 13 (by kernel_rfl) rfl (fun K hK => ?_)
 go_simp
 refine hK.out _ _ (fun h => absurd rfl h) ?_
 clear hK K
 simp only [List.setIfInBounds_toArray, List.set_cons_zero, List.set_cons_succ]
 refine wpAnyK_done (by kernel_rfl) ?_ _
 go_wp2_with fail
 refine (FI.out _ _ _ hq).mono ?_
 rintro e' w9 ⟨rfl, rfl⟩
 go_wp2
 refine bodyPost_ret (results_tmp2 rfl _ _ _) rfl ?_
 exact ⟨X, Y, rfl, hq, G3mk2.out.2⟩
set_option maxHeartbeats 8000000 in
set_option maxRecDepth 100000 in
theorem told2_check {a a' b b' c c' d d' z z' : Nat} {er : Int} {Q : Nat → Nat → Prop}
  (h0 : er ≠ 0) (CK : Hid (∀ wz, Calls Tryz.prog 14 #[.agg #[.int .u8 2, .complex .f64 a a', .complex .f64 b b', .complex .f64 c c', .complex .f64 d d', .float .f64 0]] wz fun e w' => e = .returned (.int .i64 er) ∧ Bw wz w'))
  (w : World) : Calls Tryz.prog 25 #[.agg #[.int .u8 2, .complex .f64 a a', .complex .f64 b b', .complex .f64 c c', .complex .f64 d d', .float .f64 0], .complex .f64 z z', .int .i64 0, .func (.func 26) #[] #[]] w fun e w' => e = .returned (.tuple #[.complex .f64 0 0, .int .i64 er]) ∧ Bw w w' := by
 have g1 := Ch.Bl.new w #[.int .u8 2, .complex .f64 a a', .complex .f64 b b', .complex .f64 c c', .complex .f64 d d', .float .f64 0] 33
 have z1 : (w.alloc (.cells #[.int .u8 2, .complex .f64 a a', .complex .f64 b b', .complex .f64 c c', .complex .f64 d d', .float .f64 0] 33)).heap.size = w.heap.size + 1 := by simp
 have b1 := bw_alloc w (.cells #[.int .u8 2, .complex .f64 a a', .complex .f64 b b', .complex .f64 c c', .complex .f64 d d', .float .f64 0] 33)
 obtain ⟨W1, hW1⟩ : ∃ v, w.alloc (.cells #[.int .u8 2, .complex .f64 a a', .complex .f64 b b', .complex .f64 c c', .complex .f64 d d', .float .f64 0] 33) = v := ⟨_, rfl⟩
 rw [hW1] at g1 z1 b1
 have GG : Hid (Ch.Bl W1 (w.heap.size) [.int .u8 2, .complex .f64 a a', .complex .f64 b b', .complex .f64 c c', .complex .f64 d d', .float .f64 0] ∧ Bw w W1) := ⟨(show Ch.Bl _ (w.heap.size) _ from g1), b1⟩
 have HW := hide (hW1)
 clear g1 b1 z1 hW1
 go_enter Tryz.func25, Tryz.ntmps25
 go_wp2_with fail
 rw [HW.out]
 obtain ⟨A, hA⟩ : ∃ A, w.heap.size = A := ⟨_, rfl⟩
 rw [hA] at GG ⊢
 have HA := hide hA
 have GGS := True.intro
 refine (CK.out _).mono ?_
 rintro e' w3 ⟨rfl, bb⟩
 have G3 : Hid (Ch.Bl w3 (A) [.int .u8 2, .complex .f64 a a', .complex .f64 b b', .complex .f64 c c', .complex .f64 d d', .float .f64 0] ∧ Bw w w3) := ⟨GG.out.1.bw bb, bw_trans GG.out.2 bb⟩
 clear bb GGS
 have G3S : Ch.Bl w3 (A) [.int .u8 2, .complex .f64 a a', .complex .f64 b b', .complex .f64 c c', .complex .f64 d d', .float .f64 0] := G3.out.1
 go_wp2
 refine bodyPost_ret (results_tmp2 rfl _ _ _) rfl ?_
 exact ⟨rfl, G3.out.2⟩
set_option maxHeartbeats 8000000 in
set_option maxRecDepth 100000 in
theorem told2_fail {a a' b b' c c' d d' z z' : Nat} {er : Int} {Q : Nat → Nat → Prop}
  (h0 : er ≠ 0) (CK : Hid (∀ wz, Calls Tryz.prog 14 #[.agg #[.int .u8 2, .complex .f64 a a', .complex .f64 b b', .complex .f64 c c', .complex .f64 d d', .float .f64 0]] wz fun e w' => e = .returned (.int .i64 0) ∧ Bw wz w')) (IP : Hid (∀ wz, Calls Tryz.prog 27 #[.complex .f64 z z'] wz fun e w' => e = .returned (.bool true) ∧ w' = wz)) (MO : Hid (∀ wz, Calls Tryz.prog 66 #[.agg #[.int .u8 2, .complex .f64 a a', .complex .f64 b b', .complex .f64 c c', .complex .f64 d d', .float .f64 0], .complex .f64 z z'] wz fun e w' => e = .returned (.tuple #[.complex .f64 0 0, .int .i64 er]) ∧ Bw wz w'))
  (w : World) : Calls Tryz.prog 25 #[.agg #[.int .u8 2, .complex .f64 a a', .complex .f64 b b', .complex .f64 c c', .complex .f64 d d', .float .f64 0], .complex .f64 z z', .int .i64 0, .func (.func 26) #[] #[]] w fun e w' => e = .returned (.tuple #[.complex .f64 0 0, .int .i64 er]) ∧ Bw w w' := by
 have KK : Hid (∀ wz, Calls Tryz.prog 42 #[] wz fun e w' => e = .returned (.agg #[.nilFunc, .nilFunc, .nilFunc, .nilFunc, .func (.func 62) #[] #[], .func (.func 63) #[] #[], .func (.func 64) #[] #[], .func (.func 65) #[] #[], .func (.func 66) #[] #[], .func (.func 67) #[] #[], .func (.func 68) #[] #[], .func (.func 69) #[] #[], .func (.func 70) #[] #[], .func (.func 71) #[] #[], .func (.func 72) #[] #[], .func (.func 73) #[] #[], .func (.func 74) #[] #[], .func (.func 75) #[] #[], .func (.func 76) #[] #[], .func (.func 77) #[] #[]]) ∧ Bw wz w') := fun wz => kinds18 wz
 have g1 := Ch.Bl.new w #[.int .u8 2, .complex .f64 a a', .complex .f64 b b', .complex .f64 c c', .complex .f64 d d', .float .f64 0] 33
 have z1 : (w.alloc (.cells #[.int .u8 2, .complex .f64 a a', .complex .f64 b b', .complex .f64 c c', .complex .f64 d d', .float .f64 0] 33)).heap.size = w.heap.size + 1 := by simp
 have b1 := bw_alloc w (.cells #[.int .u8 2, .complex .f64 a a', .complex .f64 b b', .complex .f64 c c', .complex .f64 d d', .float .f64 0] 33)
 obtain ⟨W1, hW1⟩ : ∃ v, w.alloc (.cells #[.int .u8 2, .complex .f64 a a', .complex .f64 b b', .complex .f64 c c', .complex .f64 d d', .float .f64 0] 33) = v := ⟨_, rfl⟩
 rw [hW1] at g1 z1 b1
 have GG : Hid (Ch.Bl W1 (w.heap.size) [.int .u8 2, .complex .f64 a a', .complex .f64 b b', .complex .f64 c c', .complex .f64 d d', .float .f64 0] ∧ Bw w W1) := ⟨(show Ch.Bl _ (w.heap.size) _ from g1), b1⟩
 have HW := hide (hW1)
 clear g1 b1 z1 hW1
 go_enter Tryz.func25, Tryz.ntmps25
 go_wp2_with fail
 rw [HW.out]
 obtain ⟨A, hA⟩ : ∃ A, w.heap.size = A := ⟨_, rfl⟩
 rw [hA] at GG ⊢
 have HA := hide hA
 have GGS := True.intro
 refine (CK.out _).mono ?_
 rintro e' w3 ⟨rfl, bb⟩
 have G3 : Hid (Ch.Bl w3 (A) [.int .u8 2, .complex .f64 a a', .complex .f64 b b', .complex .f64 c c', .complex .f64 d d', .float .f64 0] ∧ Bw w w3) := ⟨GG.out.1.bw bb, bw_trans GG.out.2 bb⟩
 clear bb GGS
 have G3S : Ch.Bl w3 (A) [.int .u8 2, .complex .f64 a a', .complex .f64 b b', .complex .f64 c c', .complex .f64 d d', .float .f64 0] := G3.out.1
 go_wp2_with fail
 refine (IP.out _).mono ?_
 rintro e' w4 ⟨rfl, rfl⟩
 go_wp2_with fail
 refine wp_region_K (fun w' => Ch.Bl w' (A) [.int .u8 2, .complex .f64 a a', .complex .f64 b b', .complex .f64 c c', .complex .f64 d d', .float .f64 0]) 13 14 #[false, false, false, false, false, false, false, false, false, false, false, false, false, false] (by kernel_rfl) (by kernel_rfl) (by kernel_rfl) ?_
 have G3d : Hid (Ch.Bl w4.drew (A) [.int .u8 2, .complex .f64 a a', .complex .f64 b b', .complex .f64 c c', .complex .f64 d d', .float .f64 0] ∧ Bw w w4.drew) := ⟨G3.out.1.bw (Bw.refl w4).drew, bw_trans G3.out.2 (Bw.refl w4).drew⟩
 generalize w4.drew = w4d at *
 have G3S : Ch.Bl w4d (A) [.int .u8 2, .complex .f64 a a', .complex .f64 b b', .complex .f64 c c', .complex .f64 d d', .float .f64 0] := G3d.out.1
 refine wpAnyK_take 1 23 (v := ?vm1) rfl (by kernel_rfl) (by kernel_rfl) (by kernel_rfl) (by kernel_rfl) (by kernel_rfl) (fun _ _ _ h => h) rfl (Or.inl ⟨by rfl, ?hm1⟩) (by assumption) ?rm1
 case hm1 => (intro w hSw; have h0 := hSw; have c00 := h0.c 0 _ rfl; have c01 := h0.c 1 _ rfl; have c02 := h0.c 2 _ rfl; have c03 := h0.c 3 _ rfl; have c04 := h0.c 4 _ rfl; have c05 := h0.c 5 _ rfl; go_simp; with_reducible rfl)
 simp only [Act.put, List.setIfInBounds_toArray, List.set_cons_zero, List.set_cons_succ]
 refine wpAnyK_take 2 24 (v := ?vm2) rfl (by kernel_rfl) (by kernel_rfl) (by kernel_rfl) (by kernel_rfl) (by kernel_rfl) (fun _ _ _ h => h) rfl (Or.inl ⟨by rfl, ?hm2⟩) (by assumption) ?rm2
 case hm2 => (intro w hSw; have h0 := hSw; have c00 := h0.c 0 _ rfl; have c01 := h0.c 1 _ rfl; have c02 := h0.c 2 _ rfl; have c03 := h0.c 3 _ rfl; have c04 := h0.c 4 _ rfl; have c05 := h0.c 5 _ rfl; go_simp; with_reducible rfl)
 simp only [Act.put, List.setIfInBounds_toArray, List.set_cons_zero, List.set_cons_succ]
 refine wpAnyK_take 4 26 (v := ?vm4) rfl (by kernel_rfl) (by kernel_rfl) (by kernel_rfl) (by kernel_rfl) (by kernel_rfl) (fun _ _ _ h => h) rfl (Or.inl ⟨by rfl, ?hm4⟩) (by assumption) ?rm4
 case hm4 => (intro w hSw; have h0 := hSw; have c00 := h0.c 0 _ rfl; have c01 := h0.c 1 _ rfl; have c02 := h0.c 2 _ rfl; have c03 := h0.c 3 _ rfl; have c04 := h0.c 4 _ rfl; have c05 := h0.c 5 _ rfl; go_simp; with_reducible rfl)
 simp only [Act.put, List.setIfInBounds_toArray, List.set_cons_zero, List.set_cons_succ]
 refine wpAnyK_take 6 28 (v := ?vm6) rfl (by kernel_rfl) (by kernel_rfl) (by kernel_rfl) (by kernel_rfl) (by kernel_rfl) (fun _ _ _ h => h) rfl (Or.inl ⟨by rfl, ?hm6⟩) (by assumption) ?rm6
 case hm6 => (intro w hSw; have h0 := hSw; have c00 := h0.c 0 _ rfl; have c01 := h0.c 1 _ rfl; have c02 := h0.c 2 _ rfl; have c03 := h0.c 3 _ rfl; have c04 := h0.c 4 _ rfl; have c05 := h0.c 5 _ rfl; go_simp; with_reducible rfl)
 simp only [Act.put, List.setIfInBounds_toArray, List.set_cons_zero, List.set_cons_succ]
 refine wpAnyK_take 7 29 (v := ?vm7) rfl (by kernel_rfl) (by kernel_rfl) (by kernel_rfl) (by kernel_rfl) (by kernel_rfl) (fun _ _ _ h => h) rfl (Or.inl ⟨by rfl, ?hm7⟩) (by assumption) ?rm7
 case hm7 => (intro w hSw; have h0 := hSw; have c00 := h0.c 0 _ rfl; have c01 := h0.c 1 _ rfl; have c02 := h0.c 2 _ rfl; have c03 := h0.c 3 _ rfl; have c04 := h0.c 4 _ rfl; have c05 := h0.c 5 _ rfl; go_simp; with_reducible rfl)
 simp only [Act.put, List.setIfInBounds_toArray, List.set_cons_zero, List.set_cons_succ]
 refine wpAnyK_one 0 (by kernel_rfl) rfl (fun K hK => ?_)
 go_simp
 refine (KK.out _).mono ?_
 rintro e' w4mk1 ⟨rfl, bb⟩
 have G3mk1 : Hid (Ch.Bl w4mk1 (A) [.int .u8 2, .complex .f64 a a', .complex .f64 b b', .complex .f64 c c', .complex .f64 d d', .float .f64 0] ∧ Bw w w4mk1) := ⟨G3d.out.1.bw bb, bw_trans G3d.out.2 bb⟩
 clear bb G3S
 have G3mk1S : Ch.Bl w4mk1 (A) [.int .u8 2, .complex .f64 a a', .complex .f64 b b', .complex .f64 c c', .complex .f64 d d', .float .f64 0] := G3mk1.out.1
 refine hK.out _ _ (fun _ _ => G3mk1S) ?_
 clear hK K
 simp only [List.setIfInBounds_toArray, List.set_cons_zero, List.set_cons_succ]
 refine wpAnyK_take 3 25 (v := ?vm3) rfl (by kernel_rfl) (by kernel_rfl) (by kernel_rfl) (by kernel_rfl) (by kernel_rfl) (fun _ _ _ h => h) rfl (Or.inl ⟨by rfl, ?hm3⟩) (by assumption) ?rm3
 case hm3 => (intro w hSw; have h0 := hSw; have c00 := h0.c 0 _ rfl; have c01 := h0.c 1 _ rfl; have c02 := h0.c 2 _ rfl; have c03 := h0.c 3 _ rfl; have c04 := h0.c 4 _ rfl; have c05 := h0.c 5 _ rfl; go_simp; with_reducible rfl)
 simp only [Act.put, List.setIfInBounds_toArray, List.set_cons_zero, List.set_cons_succ]
 refine wpAnyK_take 5 27 (v := ?vm5) rfl (by kernel_rfl) (by kernel_rfl) (by kernel_rfl) (by kernel_rfl) (by kernel_rfl) (fun _ _ _ h => h) rfl (Or.inl ⟨by rfl, ?hm5⟩) (by assumption) ?rm5
 case hm5 => (intro w hSw; have h0 := hSw; have c00 := h0.c 0 _ rfl; have c01 := h0.c 1 _ rfl; have c02 := h0.c 2 _ rfl; have c03 := h0.c 3 _ rfl; have c04 := h0.c 4 _ rfl; have c05 := h0.c 5 _ rfl; go_simp; with_reducible rfl)
 simp only [Act.put, List.setIfInBounds_toArray, List.set_cons_zero, List.set_cons_succ]
 refine wpAnyK_one 8 (by kernel_rfl) rfl (fun K hK => ?_)
 go_simp
 refine (MO.out _).mono ?_
 rintro e' w4mk2 ⟨rfl, bb⟩
 have G3mk2 : Hid (Ch.Bl w4mk2 (A) [.int .u8 2, .complex .f64 a a', .complex .f64 b b', .complex .f64 c c', .complex .f64 d d', .float .f64 0] ∧ Bw w w4mk2) := ⟨G3mk1.out.1.bw bb, bw_trans G3mk1.out.2 bb⟩
 clear bb G3mk1S
 have G3mk2S : Ch.Bl w4mk2 (A) [.int .u8 2, .complex .f64 a a', .complex .f64 b b', .complex .f64 c c', .complex .f64 d d', .float .f64 0] := G3mk2.out.1
 refine hK.out _ _ (fun _ _ => G3mk2S) ?_
 clear hK K
 simp only [List.setIfInBounds_toArray, List.set_cons_zero, List.set_cons_succ]
 refine wpAnyK_take 9 21 (v := ?vm9) rfl (by kernel_rfl) (by kernel_rfl) (by kernel_rfl) (by kernel_rfl) (by kernel_rfl) (fun _ _ _ h => h) rfl (Or.inl ⟨by rfl, ?hm9⟩) (by assumption) ?rm9
 case hm9 => (intro w hSw; have h0 := hSw; have c00 := h0.c 0 _ rfl; have c01 := h0.c 1 _ rfl; have c02 := h0.c 2 _ rfl; have c03 := h0.c 3 _ rfl; have c04 := h0.c 4 _ rfl; have c05 := h0.c 5 _ rfl; go_simp; with_reducible rfl)
 simp only [Act.put, List.setIfInBounds_toArray, List.set_cons_zero, List.set_cons_succ]
 refine wpAnyK_take 10 31 (v := ?vm10) rfl (by kernel_rfl) (by kernel_rfl) (by kernel_rfl) (by kernel_rfl) (by kernel_rfl) (fun _ _ _ h => h) rfl (Or.inl ⟨by rfl, ?hm10⟩) (by assumption) ?rm10
 case hm10 => (intro w hSw; have h0 := hSw; have c00 := h0.c 0 _ rfl; have c01 := h0.c 1 _ rfl; have c02 := h0.c 2 _ rfl; have c03 := h0.c 3 _ rfl; have c04 := h0.c 4 _ rfl; have c05 := h0.c 5 _ rfl; go_simp; with_reducible rfl)
 simp only [Act.put, List.setIfInBounds_toArray, List.set_cons_zero, List.set_cons_succ]
 refine wpAnyK_take 11 32 (v := ?vm11) rfl (by kernel_rfl) (by kernel_rfl) (by kernel_rfl) (by kernel_rfl) (by kernel_rfl) (fun _ _ _ h => h) rfl (Or.inl ⟨by rfl, ?hm11⟩) (by assumption) ?rm11
 case hm11 => (intro w hSw; have h0 := hSw; have c00 := h0.c 0 _ rfl; have c01 := h0.c 1 _ rfl; have c02 := h0.c 2 _ rfl; have c03 := h0.c 3 _ rfl; have c04 := h0.c 4 _ rfl; have c05 := h0.c 5 _ rfl; go_simp; with_reducible rfl)
 simp only [Act.put, List.setIfInBounds_toArray, List.set_cons_zero, List.set_cons_succ]
 refine wpAnyK_one 12 (by kernel_rfl) rfl (fun K hK => ?_)
 go_simp
 refine hK.out _ _ (fun _ _ => G3mk2S) ?_
 clear hK K
 simp only [List.setIfInBounds_toArray, List.set_cons_zero, List.set_cons_succ]
 refine wpAnyK_one 13 (by kernel_rfl) rfl (fun K hK => ?_)
 go_simp
 refine hK.out _ _ (fun h => absurd rfl h) ?_
 clear hK K
 simp only [List.setIfInBounds_toArray, List.set_cons_zero, List.set_cons_succ]
 refine wpAnyK_done (by kernel_rfl) ?_ _
 go_wp2
 refine bodyPost_ret (results_tmp2 rfl _ _ _) rfl ?_
 exact ⟨rfl, G3mk2.out.2⟩
set_option maxHeartbeats 8000000 in
set_option maxRecDepth 100000 in
theorem told2_at {a a' b b' c c' d d' z z' : Nat} {er : Int} {Q : Nat → Nat → Prop}
  (CK : Hid (∀ wz, Calls Tryz.prog 14 #[.agg #[.int .u8 2, .complex .f64 a a', .complex .f64 b b', .complex .f64 c c', .complex .f64 d d', .float .f64 0]] wz fun e w' => e = .returned (.int .i64 0) ∧ Bw wz w')) (IP : Hid (∀ wz, Calls Tryz.prog 27 #[.complex .f64 z z'] wz fun e w' => e = .returned (.bool true) ∧ w' = wz)) (MO : Hid (∀ wz, Calls Tryz.prog 66 #[.agg #[.int .u8 2, .complex .f64 a a', .complex .f64 b b', .complex .f64 c c', .complex .f64 d d', .float .f64 0], .complex .f64 z z'] wz fun e w' => ∃ x y, e = .returned (.tuple #[.complex .f64 x y, .int .i64 0]) ∧ Q x y ∧ Bw wz w'))
  (FI : Hid (∀ x y wz, Q x y → Calls Tryz.prog 26 #[.complex .f64 x y] wz fun e w' => e = .returned (.bool true) ∧ w' = wz))
  (w : World) : Calls Tryz.prog 25 #[.agg #[.int .u8 2, .complex .f64 a a', .complex .f64 b b', .complex .f64 c c', .complex .f64 d d', .float .f64 0], .complex .f64 z z', .int .i64 0, .func (.func 26) #[] #[]] w fun e w' => ∃ x y, e = .returned (.tuple #[.complex .f64 x y, .int .i64 0]) ∧ Q x y ∧ Bw w w' := by
 have KK : Hid (∀ wz, Calls Tryz.prog 42 #[] wz fun e w' => e = .returned (.agg #[.nilFunc, .nilFunc, .nilFunc, .nilFunc, .func (.func 62) #[] #[], .func (.func 63) #[] #[], .func (.func 64) #[] #[], .func (.func 65) #[] #[], .func (.func 66) #[] #[], .func (.func 67) #[] #[], .func (.func 68) #[] #[], .func (.func 69) #[] #[], .func (.func 70) #[] #[], .func (.func 71) #[] #[], .func (.func 72) #[] #[], .func (.func 73) #[] #[], .func (.func 74) #[] #[], .func (.func 75) #[] #[], .func (.func 76) #[] #[], .func (.func 77) #[] #[]]) ∧ Bw wz w') := fun wz => kinds18 wz
 have g1 := Ch.Bl.new w #[.int .u8 2, .complex .f64 a a', .complex .f64 b b', .complex .f64 c c', .complex .f64 d d', .float .f64 0] 33
 have z1 : (w.alloc (.cells #[.int .u8 2, .complex .f64 a a', .complex .f64 b b', .complex .f64 c c', .complex .f64 d d', .float .f64 0] 33)).heap.size = w.heap.size + 1 := by simp
 have b1 := bw_alloc w (.cells #[.int .u8 2, .complex .f64 a a', .complex .f64 b b', .complex .f64 c c', .complex .f64 d d', .float .f64 0] 33)
 obtain ⟨W1, hW1⟩ : ∃ v, w.alloc (.cells #[.int .u8 2, .complex .f64 a a', .complex .f64 b b', .complex .f64 c c', .complex .f64 d d', .float .f64 0] 33) = v := ⟨_, rfl⟩
 rw [hW1] at g1 z1 b1
 have GG : Hid (Ch.Bl W1 (w.heap.size) [.int .u8 2, .complex .f64 a a', .complex .f64 b b', .complex .f64 c c', .complex .f64 d d', .float .f64 0] ∧ Bw w W1) := ⟨(show Ch.Bl _ (w.heap.size) _ from g1), b1⟩
 have HW := hide (hW1)
 clear g1 b1 z1 hW1
 go_enter Tryz.func25, Tryz.ntmps25
 go_wp2_with fail
 rw [HW.out]
 obtain ⟨A, hA⟩ : ∃ A, w.heap.size = A := ⟨_, rfl⟩
 rw [hA] at GG ⊢
 have HA := hide hA
 have GGS := True.intro
 refine (CK.out _).mono ?_
 rintro e' w3 ⟨rfl, bb⟩
 have G3 : Hid (Ch.Bl w3 (A) [.int .u8 2, .complex .f64 a a', .complex .f64 b b', .complex .f64 c c', .complex .f64 d d', .float .f64 0] ∧ Bw w w3) := ⟨GG.out.1.bw bb, bw_trans GG.out.2 bb⟩
 clear bb GGS
 have G3S : Ch.Bl w3 (A) [.int .u8 2, .complex .f64 a a', .complex .f64 b b', .complex .f64 c c', .complex .f64 d d', .float .f64 0] := G3.out.1
 go_wp2_with fail
 refine (IP.out _).mono ?_
 rintro e' w4 ⟨rfl, rfl⟩
 go_wp2_with fail
 refine wp_region_K (fun w' => Ch.Bl w' (A) [.int .u8 2, .complex .f64 a a', .complex .f64 b b', .complex .f64 c c', .complex .f64 d d', .float .f64 0]) 13 14 #[false, false, false, false, false, false, false, false, false, false, false, false, false, false] (by kernel_rfl) (by kernel_rfl) (by kernel_rfl) ?_
 have G3d : Hid (Ch.Bl w4.drew (A) [.int .u8 2, .complex .f64 a a', .complex .f64 b b', .complex .f64 c c', .complex .f64 d d', .float .f64 0] ∧ Bw w w4.drew) := ⟨G3.out.1.bw (Bw.refl w4).drew, bw_trans G3.out.2 (Bw.refl w4).drew⟩
 generalize w4.drew = w4d at *
 have G3S : Ch.Bl w4d (A) [.int .u8 2, .complex .f64 a a', .complex .f64 b b', .complex .f64 c c', .complex .f64 d d', .float .f64 0] := G3d.out.1
 refine wpAnyK_take 1 23 (v := ?vm1) rfl (by kernel_rfl) (by kernel_rfl) (by kernel_rfl) (by kernel_rfl) (by kernel_rfl) (fun _ _ _ h => h) rfl (Or.inl ⟨by rfl, ?hm1⟩) (by assumption) ?rm1
 case hm1 => (intro w hSw; have h0 := hSw; have c00 := h0.c 0 _ rfl; have c01 := h0.c 1 _ rfl; have c02 := h0.c 2 _ rfl; have c03 := h0.c 3 _ rfl; have c04 := h0.c 4 _ rfl; have c05 := h0.c 5 _ rfl; go_simp; with_reducible rfl)
 simp only [Act.put, List.setIfInBounds_toArray, List.set_cons_zero, List.set_cons_succ]
 refine wpAnyK_take 2 24 (v := ?vm2) rfl (by kernel_rfl) (by kernel_rfl) (by kernel_rfl) (by kernel_rfl) (by kernel_rfl) (fun _ _ _ h => h) rfl (Or.inl ⟨by rfl, ?hm2⟩) (by assumption) ?rm2
 case hm2 => (intro w hSw; have h0 := hSw; have c00 := h0.c 0 _ rfl; have c01 := h0.c 1 _ rfl; have c02 := h0.c 2 _ rfl; have c03 := h0.c 3 _ rfl; have c04 := h0.c 4 _ rfl; have c05 := h0.c 5 _ rfl; go_simp; with_reducible rfl)
 simp only [Act.put, List.setIfInBounds_toArray, List.set_cons_zero, List.set_cons_succ]
 refine wpAnyK_take 4 26 (v := ?vm4) rfl (by kernel_rfl) (by kernel_rfl) (by kernel_rfl) (by kernel_rfl) (by kernel_rfl) (fun _ _ _ h => h) rfl (Or.inl ⟨by rfl, ?hm4⟩) (by assumption) ?rm4
 case hm4 => (intro w hSw; have h0 := hSw; have c00 := h0.c 0 _ rfl; have c01 := h0.c 1 _ rfl; have c02 := h0.c 2 _ rfl; have c03 := h0.c 3 _ rfl; have c04 := h0.c 4 _ rfl; have c05 := h0.c 5 _ rfl; go_simp; with_reducible rfl)
 simp only [Act.put, List.setIfInBounds_toArray, List.set_cons_zero, List.set_cons_succ]
 refine wpAnyK_take 6 28 (v := ?vm6) rfl (by kernel_rfl) (by kernel_rfl) (by kernel_rfl) (by kernel_rfl) (by kernel_rfl) (fun _ _ _ h => h) rfl (Or.inl ⟨by rfl, ?hm6⟩) (by assumption) ?rm6
 case hm6 => (intro w hSw; have h0 := hSw; have c00 := h0.c 0 _ rfl; have c01 := h0.c 1 _ rfl; have c02 := h0.c 2 _ rfl; have c03 := h0.c 3 _ rfl; have c04 := h0.c 4 _ rfl; have c05 := h0.c 5 _ rfl; go_simp; with_reducible rfl)
 simp only [Act.put, List.setIfInBounds_toArray, List.set_cons_zero, List.set_cons_succ]
 refine wpAnyK_take 7 29 (v := ?vm7) rfl (by kernel_rfl) (by kernel_rfl) (by kernel_rfl) (by kernel_rfl) (by kernel_rfl) (fun _ _ _ h => h) rfl (Or.inl ⟨by rfl, ?hm7⟩) (by assumption) ?rm7
 case hm7 => (intro w hSw; have h0 := hSw; have c00 := h0.c 0 _ rfl; have c01 := h0.c 1 _ rfl; have c02 := h0.c 2 _ rfl; have c03 := h0.c 3 _ rfl; have c04 := h0.c 4 _ rfl; have c05 := h0.c 5 _ rfl; go_simp; with_reducible rfl)
 simp only [Act.put, List.setIfInBounds_toArray, List.set_cons_zero, List.set_cons_succ]
 refine wpAnyK_one 0 (by kernel_rfl) rfl (fun K hK => ?_)
 go_simp
 refine (KK.out _).mono ?_
 rintro e' w4mk1 ⟨rfl, bb⟩
 have G3mk1 : Hid (Ch.Bl w4mk1 (A) [.int .u8 2, .complex .f64 a a', .complex .f64 b b', .complex .f64 c c', .complex .f64 d d', .float .f64 0] ∧ Bw w w4mk1) := ⟨G3d.out.1.bw bb, bw_trans G3d.out.2 bb⟩
 clear bb G3S
 have G3mk1S : Ch.Bl w4mk1 (A) [.int .u8 2, .complex .f64 a a', .complex .f64 b b', .complex .f64 c c', .complex .f64 d d', .float .f64 0] := G3mk1.out.1
 refine hK.out _ _ (fun _ _ => G3mk1S) ?_
 clear hK K
 simp only [List.setIfInBounds_toArray, List.set_cons_zero, List.set_cons_succ]
 refine wpAnyK_take 3 25 (v := ?vm3) rfl (by kernel_rfl) (by kernel_rfl) (by kernel_rfl) (by kernel_rfl) (by kernel_rfl) (fun _ _ _ h => h) rfl (Or.inl ⟨by rfl, ?hm3⟩) (by assumption) ?rm3
 case hm3 => (intro w hSw; have h0 := hSw; have c00 := h0.c 0 _ rfl; have c01 := h0.c 1 _ rfl; have c02 := h0.c 2 _ rfl; have c03 := h0.c 3 _ rfl; have c04 := h0.c 4 _ rfl; have c05 := h0.c 5 _ rfl; go_simp; with_reducible rfl)
 simp only [Act.put, List.setIfInBounds_toArray, List.set_cons_zero, List.set_cons_succ]
 refine wpAnyK_take 5 27 (v := ?vm5) rfl (by kernel_rfl) (by kernel_rfl) (by kernel_rfl) (by kernel_rfl) (by kernel_rfl) (fun _ _ _ h => h) rfl (Or.inl ⟨by rfl, ?hm5⟩) (by assumption) ?rm5
 case hm5 => (intro w hSw; have h0 := hSw; have c00 := h0.c 0 _ rfl; have c01 := h0.c 1 _ rfl; have c02 := h0.c 2 _ rfl; have c03 := h0.c 3 _ rfl; have c04 := h0.c 4 _ rfl; have c05 := h0.c 5 _ rfl; go_simp; with_reducible rfl)
 simp only [Act.put, List.setIfInBounds_toArray, List.set_cons_zero, List.set_cons_succ]
 refine wpAnyK_one 8 (by kernel_rfl) rfl (fun K hK => ?_)
 go_simp
 refine (MO.out _).mono ?_
 rintro e' w4mk2 ⟨X, Y, rfl, hq, bb⟩
 have G3mk2 : Hid (Ch.Bl w4mk2 (A) [.int .u8 2, .complex .f64 a a', .complex .f64 b b', .complex .f64 c c', .complex .f64 d d', .float .f64 0] ∧ Bw w w4mk2) := ⟨G3mk1.out.1.bw bb, bw_trans G3mk1.out.2 bb⟩
 clear bb G3mk1S
 have G3mk2S : Ch.Bl w4mk2 (A) [.int .u8 2, .complex .f64 a a', .complex .f64 b b', .complex .f64 c c', .complex .f64 d d', .float .f64 0] := G3mk2.out.1
 refine hK.out _ _ (fun _ _ => G3mk2S) ?_
 clear hK K
 simp only [List.setIfInBounds_toArray, List.set_cons_zero, List.set_cons_succ]
 refine wpAnyK_take 9 21 (v := ?vm9) rfl (by kernel_rfl) (by kernel_rfl) (by kernel_rfl) (by kernel_rfl) (by kernel_rfl) (fun _ _ _ h => h) rfl (Or.inl ⟨by rfl, ?hm9⟩) (by assumption) ?rm9
 case hm9 => (intro w hSw; have h0 := hSw; have c00 := h0.c 0 _ rfl; have c01 := h0.c 1 _ rfl; have c02 := h0.c 2 _ rfl; have c03 := h0.c 3 _ rfl; have c04 := h0.c 4 _ rfl; have c05 := h0.c 5 _ rfl; go_simp; with_reducible rfl)
 simp only [Act.put, List.setIfInBounds_toArray, List.set_cons_zero, List.set_cons_succ]
 refine wpAnyK_take 10 31 (v := ?vm10) rfl (by kernel_rfl) (by kernel_rfl) (by kernel_rfl) (by kernel_rfl) (by kernel_rfl) (fun _ _ _ h => h) rfl (Or.inl ⟨by rfl, ?hm10⟩) (by assumption) ?rm10
 case hm10 => (intro w hSw; have h0 := hSw; have c00 := h0.c 0 _ rfl; have c01 := h0.c 1 _ rfl; have c02 := h0.c 2 _ rfl; have c03 := h0.c 3 _ rfl; have c04 := h0.c 4 _ rfl; have c05 := h0.c 5 _ rfl; go_simp; with_reducible rfl)
 simp only [Act.put, List.setIfInBounds_toArray, List.set_cons_zero, List.set_cons_succ]
 refine wpAnyK_take 11 32 (v := ?vm11) rfl (by kernel_rfl) (by kernel_rfl) (by kernel_rfl) (by kernel_rfl) (by kernel_rfl) (fun _ _ _ h => h) rfl (Or.inl ⟨by rfl, ?hm11⟩) (by assumption) ?rm11
 case hm11 => (intro w hSw; have h0 := hSw; have c00 := h0.c 0 _ rfl; have c01 := h0.c 1 _ rfl; have c02 := h0.c 2 _ rfl; have c03 := h0.c 3 _ rfl; have c04 := h0.c 4 _ rfl; have c05 := h0.c 5 _ rfl; go_simp; with_reducible rfl)
 simp only [Act.put, List.setIfInBounds_toArray, List.set_cons_zero, List.set_cons_succ]
 refine wpAnyK_one 12 (by kernel_rfl) rfl (fun K hK => ?_)
 go_simp
 refine hK.out _ _ (fun _ _ => G3mk2S) ?_
 clear hK K
 simp only [List.setIfInBounds_toArray, List.set_cons_zero, List.set_cons_succ]
 refine wpAnyK_one 13 (by kernel_rfl) rfl (fun K hK => ?_)
 go_simp
 refine hK.out _ _ (fun h => absurd rfl h) ?_
 clear hK K
 simp only [List.setIfInBounds_toArray, List.set_cons_zero, List.set_cons_succ]
 refine wpAnyK_done (by kernel_rfl) ?_ _
 go_wp2_with fail
 refine (FI.out _ _ _ hq).mono ?_
 rintro e' w9 ⟨rfl, rfl⟩
 go_wp2
 refine bodyPost_ret (results_tmp2 rfl _ _ _) rfl ?_
 exact ⟨X, Y, rfl, hq, G3mk2.out.2⟩
set_option maxHeartbeats 8000000 in
set_option maxRecDepth 100000 in
theorem told2_back {a a' b b' c c' d d' z z' : Nat} {er : Int} {Q : Nat → Nat → Prop}
  (CK : Hid (∀ wz, Calls Tryz.prog 14 #[.agg #[.int .u8 2, .complex .f64 a a', .complex .f64 b b', .complex .f64 c c', .complex .f64 d d', .float .f64 0]] wz fun e w' => e = .returned (.int .i64 0) ∧ Bw wz w')) (IP : Hid (∀ wz, Calls Tryz.prog 27 #[.complex .f64 z z'] wz fun e w' => e = .returned (.bool true) ∧ w' = wz)) (MO : Hid (∀ wz, Calls Tryz.prog 68 #[.agg #[.int .u8 2, .complex .f64 a a', .complex .f64 b b', .complex .f64 c c', .complex .f64 d d', .float .f64 0], .complex .f64 z z'] wz fun e w' => ∃ x y, e = .returned (.tuple #[.complex .f64 x y, .int .i64 0]) ∧ Q x y ∧ Bw wz w'))
  (FI : Hid (∀ x y wz, Q x y → Calls Tryz.prog 27 #[.complex .f64 x y] wz fun e w' => e = .returned (.bool true) ∧ w' = wz))
  (w : World) : Calls Tryz.prog 25 #[.agg #[.int .u8 2, .complex .f64 a a', .complex .f64 b b', .complex .f64 c c', .complex .f64 d d', .float .f64 0], .complex .f64 z z', .int .i64 2, .func (.func 27) #[] #[]] w fun e w' => ∃ x y, e = .returned (.tuple #[.complex .f64 x y, .int .i64 0]) ∧ Q x y ∧ Bw w w' := by
 have KK : Hid (∀ wz, Calls Tryz.prog 42 #[] wz fun e w' => e = .returned (.agg #[.nilFunc, .nilFunc, .nilFunc, .nilFunc, .func (.func 62) #[] #[], .func (.func 63) #[] #[], .func (.func 64) #[] #[], .func (.func 65) #[] #[], .func (.func 66) #[] #[], .func (.func 67) #[] #[], .func (.func 68) #[] #[], .func (.func 69) #[] #[], .func (.func 70) #[] #[], .func (.func 71) #[] #[], .func (.func 72) #[] #[], .func (.func 73) #[] #[], .func (.func 74) #[] #[], .func (.func 75) #[] #[], .func (.func 76) #[] #[], .func (.func 77) #[] #[]]) ∧ Bw wz w') := fun wz => kinds18 wz
 have g1 := Ch.Bl.new w #[.int .u8 2, .complex .f64 a a', .complex .f64 b b', .complex .f64 c c', .complex .f64 d d', .float .f64 0] 33
 have z1 : (w.alloc (.cells #[.int .u8 2, .complex .f64 a a', .complex .f64 b b', .complex .f64 c c', .complex .f64 d d', .float .f64 0] 33)).heap.size = w.heap.size + 1 := by simp
 have b1 := bw_alloc w (.cells #[.int .u8 2, .complex .f64 a a', .complex .f64 b b', .complex .f64 c c', .complex .f64 d d', .float .f64 0] 33)
 obtain ⟨W1, hW1⟩ : ∃ v, w.alloc (.cells #[.int .u8 2, .complex .f64 a a', .complex .f64 b b', .complex .f64 c c', .complex .f64 d d', .float .f64 0] 33) = v := ⟨_, rfl⟩
 rw [hW1] at g1 z1 b1
 have GG : Hid (Ch.Bl W1 (w.heap.size) [.int .u8 2, .complex .f64 a a', .complex .f64 b b', .complex .f64 c c', .complex .f64 d d', .float .f64 0] ∧ Bw w W1) := ⟨(show Ch.Bl _ (w.heap.size) _ from g1), b1⟩
 have HW := hide (hW1)
 clear g1 b1 z1 hW1
 go_enter Tryz.func25, Tryz.ntmps25
 go_wp2_with fail
 rw [HW.out]
 obtain ⟨A, hA⟩ : ∃ A, w.heap.size = A := ⟨_, rfl⟩
 rw [hA] at GG ⊢
 have HA := hide hA
 have GGS := True.intro
 refine (CK.out _).mono ?_
 rintro e' w3 ⟨rfl, bb⟩
 have G3 : Hid (Ch.Bl w3 (A) [.int .u8 2, .complex .f64 a a', .complex .f64 b b', .complex .f64 c c', .complex .f64 d d', .float .f64 0] ∧ Bw w w3) := ⟨GG.out.1.bw bb, bw_trans GG.out.2 bb⟩
 clear bb GGS
 have G3S : Ch.Bl w3 (A) [.int .u8 2, .complex .f64 a a', .complex .f64 b b', .complex .f64 c c', .complex .f64 d d', .float .f64 0] := G3.out.1
 go_wp2_with fail
 refine (IP.out _).mono ?_
 rintro e' w4 ⟨rfl, rfl⟩
 go_wp2_with fail
 refine wp_region_K (fun w' => Ch.Bl w' (A) [.int .u8 2, .complex .f64 a a', .complex .f64 b b', .complex .f64 c c', .complex .f64 d d', .float .f64 0]) 13 14 #[false, false, false, false, false, false, false, false, false, false, false, false, false, false] (by kernel_rfl) (by kernel_rfl) (by kernel_rfl) ?_
 have G3d : Hid (Ch.Bl w4.drew (A) [.int .u8 2, .complex .f64 a a', .complex .f64 b b', .complex .f64 c c', .complex .f64 d d', .float .f64 0] ∧ Bw w w4.drew) := ⟨G3.out.1.bw (Bw.refl w4).drew, bw_trans G3.out.2 (Bw.refl w4).drew⟩
 generalize w4.drew = w4d at *
 have G3S : Ch.Bl w4d (A) [.int .u8 2, .complex .f64 a a', .complex .f64 b b', .complex .f64 c c', .complex .f64 d d', .float .f64 0] := G3d.out.1
 refine wpAnyK_take 1 23 (v := ?vm1) rfl (by kernel_rfl) (by kernel_rfl) (by kernel_rfl) (by kernel_rfl) (by kernel_rfl) (fun _ _ _ h => h) rfl (Or.inl ⟨by rfl, ?hm1⟩) (by assumption) ?rm1
 case hm1 => (intro w hSw; have h0 := hSw; have c00 := h0.c 0 _ rfl; have c01 := h0.c 1 _ rfl; have c02 := h0.c 2 _ rfl; have c03 := h0.c 3 _ rfl; have c04 := h0.c 4 _ rfl; have c05 := h0.c 5 _ rfl; go_simp; with_reducible rfl)
 simp only [Act.put, List.setIfInBounds_toArray, List.set_cons_zero, List.set_cons_succ]
 refine wpAnyK_take 2 24 (v := ?vm2) rfl (by kernel_rfl) (by kernel_rfl) (by kernel_rfl) (by kernel_rfl) (by kernel_rfl) (fun _ _ _ h => h) rfl (Or.inl ⟨by rfl, ?hm2⟩) (by assumption) ?rm2
 case hm2 => (intro w hSw; have h0 := hSw; have c00 := h0.c 0 _ rfl; have c01 := h0.c 1 _ rfl; have c02 := h0.c 2 _ rfl; have c03 := h0.c 3 _ rfl; have c04 := h0.c 4 _ rfl; have c05 := h0.c 5 _ rfl; go_simp; with_reducible rfl)
 simp only [Act.put, List.setIfInBounds_toArray, List.set_cons_zero, List.set_cons_succ]
 refine wpAnyK_take 4 26 (v := ?vm4) rfl (by kernel_rfl) (by kernel_rfl) (by kernel_rfl) (by kernel_rfl) (by kernel_rfl) (fun _ _ _ h => h) rfl (Or.inl ⟨by rfl, ?hm4⟩) (by assumption) ?rm4
 case hm4 => (intro w hSw; have h0 := hSw; have c00 := h0.c 0 _ rfl; have c01 := h0.c 1 _ rfl; have c02 := h0.c 2 _ rfl; have c03 := h0.c 3 _ rfl; have c04 := h0.c 4 _ rfl; have c05 := h0.c 5 _ rfl; go_simp; with_reducible rfl)
 simp only [Act.put, List.setIfInBounds_toArray, List.set_cons_zero, List.set_cons_succ]
 refine wpAnyK_take 6 28 (v := ?vm6) rfl (by kernel_rfl) (by kernel_rfl) (by kernel_rfl) (by kernel_rfl) (by kernel_rfl) (fun _ _ _ h => h) rfl (Or.inl ⟨by rfl, ?hm6⟩) (by assumption) ?rm6
 case hm6 => (intro w hSw; have h0 := hSw; have c00 := h0.c 0 _ rfl; have c01 := h0.c 1 _ rfl; have c02 := h0.c 2 _ rfl; have c03 := h0.c 3 _ rfl; have c04 := h0.c 4 _ rfl; have c05 := h0.c 5 _ rfl; go_simp; with_reducible rfl)
 simp only [Act.put, List.setIfInBounds_toArray, List.set_cons_zero, List.set_cons_succ]
 refine wpAnyK_take 7 29 (v := ?vm7) rfl (by kernel_rfl) (by kernel_rfl) (by kernel_rfl) (by kernel_rfl) (by kernel_rfl) (fun _ _ _ h => h) rfl (Or.inl ⟨by rfl, ?hm7⟩) (by assumption) ?rm7
 case hm7 => (intro w hSw; have h0 := hSw; have c00 := h0.c 0 _ rfl; have c01 := h0.c 1 _ rfl; have c02 := h0.c 2 _ rfl; have c03 := h0.c 3 _ rfl; have c04 := h0.c 4 _ rfl; have c05 := h0.c 5 _ rfl; go_simp; with_reducible rfl)
 simp only [Act.put, List.setIfInBounds_toArray, List.set_cons_zero, List.set_cons_succ]
 refine wpAnyK_one 0 (by kernel_rfl) rfl (fun K hK => ?_)
 go_simp
 refine (KK.out _).mono ?_
 rintro e' w4mk1 ⟨rfl, bb⟩
 have G3mk1 : Hid (Ch.Bl w4mk1 (A) [.int .u8 2, .complex .f64 a a', .complex .f64 b b', .complex .f64 c c', .complex .f64 d d', .float .f64 0] ∧ Bw w w4mk1) := ⟨G3d.out.1.bw bb, bw_trans G3d.out.2 bb⟩
 clear bb G3S
 have G3mk1S : Ch.Bl w4mk1 (A) [.int .u8 2, .complex .f64 a a', .complex .f64 b b', .complex .f64 c c', .complex .f64 d d', .float .f64 0] := G3mk1.out.1
 refine hK.out _ _ (fun _ _ => G3mk1S) ?_
 clear hK K
 simp only [List.setIfInBounds_toArray, List.set_cons_zero, List.set_cons_succ]
 refine wpAnyK_take 3 25 (v := ?vm3) rfl (by kernel_rfl) (by kernel_rfl) (by kernel_rfl) (by kernel_rfl) (by kernel_rfl) (fun _ _ _ h => h) rfl (Or.inl ⟨by rfl, ?hm3⟩) (by assumption) ?rm3
 case hm3 => (intro w hSw; have h0 := hSw; have c00 := h0.c 0 _ rfl; have c01 := h0.c 1 _ rfl; have c02 := h0.c 2 _ rfl; have c03 := h0.c 3 _ rfl; have c04 := h0.c 4 _ rfl; have c05 := h0.c 5 _ rfl; go_simp; with_reducible rfl)
 simp only [Act.put, List.setIfInBounds_toArray, List.set_cons_zero, List.set_cons_succ]
 refine wpAnyK_take 5 27 (v := ?vm5) rfl (by kernel_rfl) (by kernel_rfl) (by kernel_rfl) (by kernel_rfl) (by kernel_rfl) (fun _ _ _ h => h) rfl (Or.inl ⟨by rfl, ?hm5⟩) (by assumption) ?rm5
 case hm5 => (intro w hSw; have h0 := hSw; have c00 := h0.c 0 _ rfl; have c01 := h0.c 1 _ rfl; have c02 := h0.c 2 _ rfl; have c03 := h0.c 3 _ rfl; have c04 := h0.c 4 _ rfl; have c05 := h0.c 5 _ rfl; go_simp; with_reducible rfl)
 simp only [Act.put, List.setIfInBounds_toArray, List.set_cons_zero, List.set_cons_succ]
 refine wpAnyK_one 8 (by kernel_rfl) rfl (fun K hK => ?_)
 go_simp
 refine (MO.out _).mono ?_
 rintro e' w4mk2 ⟨X, Y, rfl, hq, bb⟩
 have G3mk2 : Hid (Ch.Bl w4mk2 (A) [.int .u8 2, .complex .f64 a a', .complex .f64 b b', .complex .f64 c c', .complex .f64 d d', .float .f64 0] ∧ Bw w w4mk2) := ⟨G3mk1.out.1.bw bb, bw_trans G3mk1.out.2 bb⟩
 clear bb G3mk1S
 have G3mk2S : Ch.Bl w4mk2 (A) [.int .u8 2, .complex .f64 a a', .complex .f64 b b', .complex .f64 c c', .complex .f64 d d', .float .f64 0] := G3mk2.out.1
 refine hK.out _ _ (fun _ _ => G3mk2S) ?_
 clear hK K
 simp only [List.setIfInBounds_toArray, List.set_cons_zero, List.set_cons_succ]
 refine wpAnyK_take 9 21 (v := ?vm9) rfl (by kernel_rfl) (by kernel_rfl) (by kernel_rfl) (by kernel_rfl) (by kernel_rfl) (fun _ _ _ h => h) rfl (Or.inl ⟨by rfl, ?hm9⟩) (by assumption) ?rm9
 case hm9 => (intro w hSw; have h0 := hSw; have c00 := h0.c 0 _ rfl; have c01 := h0.c 1 _ rfl; have c02 := h0.c 2 _ rfl; have c03 := h0.c 3 _ rfl; have c04 := h0.c 4 _ rfl; have c05 := h0.c 5 _ rfl; go_simp; with_reducible rfl)
 simp only [Act.put, List.setIfInBounds_toArray, List.set_cons_zero, List.set_cons_succ]
 refine wpAnyK_take 10 31 (v := ?vm10) rfl (by kernel_rfl) (by kernel_rfl) (by kernel_rfl) (by kernel_rfl) (by kernel_rfl) (fun _ _ _ h => h) rfl (Or.inl ⟨by rfl, ?hm10⟩) (by assumption) ?rm10
 case hm10 => (intro w hSw; have h0 := hSw; have c00 := h0.c 0 _ rfl; have c01 := h0.c 1 _ rfl; have c02 := h0.c 2 _ rfl; have c03 := h0.c 3 _ rfl; have c04 := h0.c 4 _ rfl; have c05 := h0.c 5 _ rfl; go_simp; with_reducible rfl)
 simp only [Act.put, List.setIfInBounds_toArray, List.set_cons_zero, List.set_cons_succ]
 refine wpAnyK_take 11 32 (v := ?vm11) rfl (by kernel_rfl) (by kernel_rfl) (by kernel_rfl) (by kernel_rfl) (by kernel_rfl) (fun _ _ _ h => h) rfl (Or.inl ⟨by rfl, ?hm11⟩) (by assumption) ?rm11
 case hm11 => (intro w hSw; have h0 := hSw; have c00 := h0.c 0 _ rfl; have c01 := h0.c 1 _ rfl; have c02 := h0.c 2 _ rfl; have c03 := h0.c 3 _ rfl; have c04 := h0.c 4 _ rfl; have c05 := h0.c 5 _ rfl; go_simp; with_reducible rfl)
 simp only [Act.put, List.setIfInBounds_toArray, List.set_cons_zero, List.set_cons_succ]
 refine wpAnyK_one 12 (by kernel_rfl) rfl (fun K hK => ?_)
 go_simp
 refine hK.out _ _ (fun _ _ => G3mk2S) ?_
 clear hK K
 simp only [List.setIfInBounds_toArray, List.set_cons_zero, List.set_cons_succ]
 refine wpAnyK_one 13 (by kernel_rfl) rfl (fun K hK => ?_)
 go_simp
 refine hK.out _ _ (fun h => absurd rfl h) ?_
 clear hK K
 simp only [List.setIfInBounds_toArray, List.set_cons_zero, List.set_cons_succ]
 refine wpAnyK_done (by kernel_rfl) ?_ _
 go_wp2_with fail
 refine (FI.out _ _ _ hq).mono ?_
 rintro e' w9 ⟨rfl, rfl⟩
 go_wp2
 refine bodyPost_ret (results_tmp2 rfl _ _ _) rfl ?_
 exact ⟨X, Y, rfl, hq, G3mk2.out.2⟩
set_option maxHeartbeats 8000000 in
set_option maxRecDepth 100000 in
theorem told2_other {a a' b b' c c' d d' z z' : Nat} {er : Int} {Q : Nat → Nat → Prop}
  (CK : Hid (∀ wz, Calls Tryz.prog 14 #[.agg #[.int .u8 2, .complex .f64 a a', .complex .f64 b b', .complex .f64 c c', .complex .f64 d d', .float .f64 0]] wz fun e w' => e = .returned (.int .i64 0) ∧ Bw wz w')) (IP : Hid (∀ wz, Calls Tryz.prog 27 #[.complex .f64 z z'] wz fun e w' => e = .returned (.bool true) ∧ w' = wz)) (MO : Hid (∀ wz, Calls Tryz.prog 69 #[.agg #[.int .u8 2, .complex .f64 a a', .complex .f64 b b', .complex .f64 c c', .complex .f64 d d', .float .f64 0], .complex .f64 z z'] wz fun e w' => ∃ x y, e = .returned (.tuple #[.complex .f64 x y, .int .i64 0]) ∧ Q x y ∧ Bw wz w'))
  (FI : Hid (∀ x y wz, Q x y → Calls Tryz.prog 27 #[.complex .f64 x y] wz fun e w' => e = .returned (.bool true) ∧ w' = wz))
  (w : World) : Calls Tryz.prog 25 #[.agg #[.int .u8 2, .complex .f64 a a', .complex .f64 b b', .complex .f64 c c', .complex .f64 d d', .float .f64 0], .complex .f64 z z', .int .i64 3, .func (.func 27) #[] #[]] w fun e w' => ∃ x y, e = .returned (.tuple #[.complex .f64 x y, .int .i64 0]) ∧ Q x y ∧ Bw w w' := by
 have KK : Hid (∀ wz, Calls Tryz.prog 42 #[] wz fun e w' => e = .returned (.agg #[.nilFunc, .nilFunc, .nilFunc, .nilFunc, .func (.func 62) #[] #[], .func (.func 63) #[] #[], .func (.func 64) #[] #[], .func (.func 65) #[] #[], .func (.func 66) #[] #[], .func (.func 67) #[] #[], .func (.func 68) #[] #[], .func (.func 69) #[] #[], .func (.func 70) #[] #[], .func (.func 71) #[] #[], .func (.func 72) #[] #[], .func (.func 73) #[] #[], .func (.func 74) #[] #[], .func (.func 75) #[] #[], .func (.func 76) #[] #[], .func (.func 77) #[] #[]]) ∧ Bw wz w') := fun wz => kinds18 wz
 have g1 := Ch.Bl.new w #[.int .u8 2, .complex .f64 a a', .complex .f64 b b', .complex .f64 c c', .complex .f64 d d', .float .f64 0] 33
 have z1 : (w.alloc (.cells #[.int .u8 2, .complex .f64 a a', .complex .f64 b b', .complex .f64 c c', .complex .f64 d d', .float .f64 0] 33)).heap.size = w.heap.size + 1 := by simp
 have b1 := bw_alloc w (.cells #[.int .u8 2, .complex .f64 a a', .complex .f64 b b', .complex .f64 c c', .complex .f64 d d', .float .f64 0] 33)
 obtain ⟨W1, hW1⟩ : ∃ v, w.alloc (.cells #[.int .u8 2, .complex .f64 a a', .complex .f64 b b', .complex .f64 c c', .complex .f64 d d', .float .f64 0] 33) = v := ⟨_, rfl⟩
 rw [hW1] at g1 z1 b1
 have GG : Hid (Ch.Bl W1 (w.heap.size) [.int .u8 2, .complex .f64 a a', .complex .f64 b b', .complex .f64 c c', .complex .f64 d d', .float .f64 0] ∧ Bw w W1) := ⟨(show Ch.Bl _ (w.heap.size) _ from g1), b1⟩
 have HW := hide (hW1)
 clear g1 b1 z1 hW1
 go_enter Tryz.func25, Tryz.ntmps25
 go_wp2_with fail
 rw [HW.out]
 obtain ⟨A, hA⟩ : ∃ A, w.heap.size = A := ⟨_, rfl⟩
 rw [hA] at GG ⊢
 have HA := hide hA
 have GGS := True.intro
 refine (CK.out _).mono ?_
 rintro e' w3 ⟨rfl, bb⟩
 have G3 : Hid (Ch.Bl w3 (A) [.int .u8 2, .complex .f64 a a', .complex .f64 b b', .complex .f64 c c', .complex .f64 d d', .float .f64 0] ∧ Bw w w3) := ⟨GG.out.1.bw bb, bw_trans GG.out.2 bb⟩
 clear bb GGS
 have G3S : Ch.Bl w3 (A) [.int .u8 2, .complex .f64 a a', .complex .f64 b b', .complex .f64 c c', .complex .f64 d d', .float .f64 0] := G3.out.1
 go_wp2_with fail
 refine (IP.out _).mono ?_
 rintro e' w4 ⟨rfl, rfl⟩
 go_wp2_with fail
 refine wp_region_K (fun w' => Ch.Bl w' (A) [.int .u8 2, .complex .f64 a a', .complex .f64 b b', .complex .f64 c c', .complex .f64 d d', .float .f64 0]) 13 14 #[false, false, false, false, false, false, false, false, false, false, false, false, false, false] (by kernel_rfl) (by kernel_rfl) (by kernel_rfl) ?_
 have G3d : Hid (Ch.Bl w4.drew (A) [.int .u8 2, .complex .f64 a a', .complex .f64 b b', .complex .f64 c c', .complex .f64 d d', .float .f64 0] ∧ Bw w w4.drew) := ⟨G3.out.1.bw (Bw.refl w4).drew, bw_trans G3.out.2 (Bw.refl w4).drew⟩
 generalize w4.drew = w4d at *
 have G3S : Ch.Bl w4d (A) [.int .u8 2, .complex .f64 a a', .complex .f64 b b', .complex .f64 c c', .complex .f64 d d', .float .f64 0] := G3d.out.1
 refine wpAnyK_take 1 23 (v := ?vm1) rfl (by kernel_rfl) (by kernel_rfl) (by kernel_rfl) (by kernel_rfl) (by kernel_rfl) (fun _ _ _ h => h) rfl (Or.inl ⟨by rfl, ?hm1⟩) (by assumption) ?rm1
 case hm1 => (intro w hSw; have h0 := hSw; have c00 := h0.c 0 _ rfl; have c01 := h0.c 1 _ rfl; have c02 := h0.c 2 _ rfl; have c03 := h0.c 3 _ rfl; have c04 := h0.c 4 _ rfl; have c05 := h0.c 5 _ rfl; go_simp; with_reducible rfl)
 simp only [Act.put, List.setIfInBounds_toArray, List.set_cons_zero, List.set_cons_succ]
 refine wpAnyK_take 2 24 (v := ?vm2) rfl (by kernel_rfl) (by kernel_rfl) (by kernel_rfl) (by kernel_rfl) (by kernel_rfl) (fun _ _ _ h => h) rfl (Or.inl ⟨by rfl, ?hm2⟩) (by assumption) ?rm2
 case hm2 => (intro w hSw; have h0 := hSw; have c00 := h0.c 0 _ rfl; have c01 := h0.c 1 _ rfl; have c02 := h0.c 2 _ rfl; have c03 := h0.c 3 _ rfl; have c04 := h0.c 4 _ rfl; have c05 := h0.c 5 _ rfl; go_simp; with_reducible rfl)
 simp only [Act.put, List.setIfInBounds_toArray, List.set_cons_zero, List.set_cons_succ]
 refine wpAnyK_take 4 26 (v := ?vm4) rfl (by kernel_rfl) (by kernel_rfl) (by kernel_rfl) (by kernel_rfl) (by kernel_rfl) (fun _ _ _ h => h) rfl (Or.inl ⟨by rfl, ?hm4⟩) (by assumption) ?rm4
 case hm4 => (intro w hSw; have h0 := hSw; have c00 := h0.c 0 _ rfl; have c01 := h0.c 1 _ rfl; have c02 := h0.c 2 _ rfl; have c03 := h0.c 3 _ rfl; have c04 := h0.c 4 _ rfl; have c05 := h0.c 5 _ rfl; go_simp; with_reducible rfl)
 simp only [Act.put, List.setIfInBounds_toArray, List.set_cons_zero, List.set_cons_succ]
 refine wpAnyK_take 6 28 (v := ?vm6) rfl (by kernel_rfl) (by kernel_rfl) (by kernel_rfl) (by kernel_rfl) (by kernel_rfl) (fun _ _ _ h => h) rfl (Or.inl ⟨by rfl, ?hm6⟩) (by assumption) ?rm6
 case hm6 => (intro w hSw; have h0 := hSw; have c00 := h0.c 0 _ rfl; have c01 := h0.c 1 _ rfl; have c02 := h0.c 2 _ rfl; have c03 := h0.c 3 _ rfl; have c04 := h0.c 4 _ rfl; have c05 := h0.c 5 _ rfl; go_simp; with_reducible rfl)
 simp only [Act.put, List.setIfInBounds_toArray, List.set_cons_zero, List.set_cons_succ]
 refine wpAnyK_take 7 29 (v := ?vm7) rfl (by kernel_rfl) (by kernel_rfl) (by kernel_rfl) (by kernel_rfl) (by kernel_rfl) (fun _ _ _ h => h) rfl (Or.inl ⟨by rfl, ?hm7⟩) (by assumption) ?rm7
 case hm7 => (intro w hSw; have h0 := hSw; have c00 := h0.c 0 _ rfl; have c01 := h0.c 1 _ rfl; have c02 := h0.c 2 _ rfl; have c03 := h0.c 3 _ rfl; have c04 := h0.c 4 _ rfl; have c05 := h0.c 5 _ rfl; go_simp; with_reducible rfl)
 simp only [Act.put, List.setIfInBounds_toArray, List.set_cons_zero, List.set_cons_succ]
 refine wpAnyK_one 0 (by kernel_rfl) rfl (fun K hK => ?_)
 go_simp
 refine (KK.out _).mono ?_
 rintro e' w4mk1 ⟨rfl, bb⟩
 have G3mk1 : Hid (Ch.Bl w4mk1 (A) [.int .u8 2, .complex .f64 a a', .complex .f64 b b', .complex .f64 c c', .complex .f64 d d', .float .f64 0] ∧ Bw w w4mk1) := ⟨G3d.out.1.bw bb, bw_trans G3d.out.2 bb⟩
 clear bb G3S
 have G3mk1S : Ch.Bl w4mk1 (A) [.int .u8 2, .complex .f64 a a', .complex .f64 b b', .complex .f64 c c', .complex .f64 d d', .float .f64 0] := G3mk1.out.1
 refine hK.out _ _ (fun _ _ => G3mk1S) ?_
 clear hK K
 simp only [List.setIfInBounds_toArray, List.set_cons_zero, List.set_cons_succ]
 refine wpAnyK_take 3 25 (v := ?vm3) rfl (by kernel_rfl) (by kernel_rfl) (by kernel_rfl) (by kernel_rfl) (by kernel_rfl) (fun _ _ _ h => h) rfl (Or.inl ⟨by rfl, ?hm3⟩) (by assumption) ?rm3
 case hm3 => (intro w hSw; have h0 := hSw; have c00 := h0.c 0 _ rfl; have c01 := h0.c 1 _ rfl; have c02 := h0.c 2 _ rfl; have c03 := h0.c 3 _ rfl; have c04 := h0.c 4 _ rfl; have c05 := h0.c 5 _ rfl; go_simp; with_reducible rfl)
 simp only [Act.put, List.setIfInBounds_toArray, List.set_cons_zero, List.set_cons_succ]
 refine wpAnyK_take 5 27 (v := ?vm5) rfl (by kernel_rfl) (by kernel_rfl) (by kernel_rfl) (by kernel_rfl) (by kernel_rfl) (fun _ _ _ h => h) rfl (Or.inl ⟨by rfl, ?hm5⟩) (by assumption) ?rm5
 case hm5 => (intro w hSw; have h0 := hSw; have c00 := h0.c 0 _ rfl; have c01 := h0.c 1 _ rfl; have c02 := h0.c 2 _ rfl; have c03 := h0.c 3 _ rfl; have c04 := h0.c 4 _ rfl; have c05 := h0.c 5 _ rfl; go_simp; with_reducible rfl)
 simp only [Act.put, List.setIfInBounds_toArray, List.set_cons_zero, List.set_cons_succ]
 refine wpAnyK_one 8 (by kernel_rfl) rfl (fun K hK => ?_)
 go_simp
 refine (MO.out _).mono ?_
 rintro e' w4mk2 ⟨X, Y, rfl, hq, bb⟩
 have G3mk2 : Hid (Ch.Bl w4mk2 (A) [.int .u8 2, .complex .f64 a a', .complex .f64 b b', .complex .f64 c c', .complex .f64 d d', .float .f64 0] ∧ Bw w w4mk2) := ⟨G3mk1.out.1.bw bb, bw_trans G3mk1.out.2 bb⟩
 clear bb G3mk1S
 have G3mk2S : Ch.Bl w4mk2 (A) [.int .u8 2, .complex .f64 a a', .complex .f64 b b', .complex .f64 c c', .complex .f64 d d', .float .f64 0] := G3mk2.out.1
 refine hK.out _ _ (fun _ _ => G3mk2S) ?_
 clear hK K
 simp only [List.setIfInBounds_toArray, List.set_cons_zero, List.set_cons_succ]
 refine wpAnyK_take 9 21 (v := ?vm9) rfl (by kernel_rfl) (by kernel_rfl) (by kernel_rfl) (by kernel_rfl) (by kernel_rfl) (fun _ _ _ h => h) rfl (Or.inl ⟨by rfl, ?hm9⟩) (by assumption) ?rm9
 case hm9 => (intro w hSw; have h0 := hSw; have c00 := h0.c 0 _ rfl; have c01 := h0.c 1 _ rfl; have c02 := h0.c 2 _ rfl; have c03 := h0.c 3 _ rfl; have c04 := h0.c 4 _ rfl; have c05 := h0.c 5 _ rfl; go_simp; with_reducible rfl)
 simp only [Act.put, List.setIfInBounds_toArray, List.set_cons_zero, List.set_cons_succ]
 refine wpAnyK_take 10 31 (v := ?vm10) rfl (by kernel_rfl) (by kernel_rfl) (by kernel_rfl) (by kernel_rfl) (by kernel_rfl) (fun _ _ _ h => h) rfl (Or.inl ⟨by rfl, ?hm10⟩) (by assumption) ?rm10
 case hm10 => (intro w hSw; have h0 := hSw; have c00 := h0.c 0 _ rfl; have c01 := h0.c 1 _ rfl; have c02 := h0.c 2 _ rfl; have c03 := h0.c 3 _ rfl; have c04 := h0.c 4 _ rfl; have c05 := h0.c 5 _ rfl; go_simp; with_reducible rfl)
 simp only [Act.put, List.setIfInBounds_toArray, List.set_cons_zero, List.set_cons_succ]
 refine wpAnyK_take 11 32 (v := ?vm11) rfl (by kernel_rfl) (by kernel_rfl) (by kernel_rfl) (by kernel_rfl) (by kernel_rfl) (fun _ _ _ h => h) rfl (Or.inl ⟨by rfl, ?hm11⟩) (by assumption) ?rm11
 case hm11 => (intro w hSw; have h0 := hSw; have c00 := h0.c 0 _ rfl; have c01 := h0.c 1 _ rfl; have c02 := h0.c 2 _ rfl; have c03 := h0.c 3 _ rfl; have c04 := h0.c 4 _ rfl; have c05 := h0.c 5 _ rfl; go_simp; with_reducible rfl)
 simp only [Act.put, List.setIfInBounds_toArray, List.set_cons_zero, List.set_cons_succ]
 refine wpAnyK_one 12 (by kernel_rfl) rfl (fun K hK => ?_)
 go_simp
 refine hK.out _ _ (fun _ _ => G3mk2S) ?_
 clear hK K
 simp only [List.setIfInBounds_toArray, List.set_cons_zero, List.set_cons_succ]
 refine wpAnyK_one 13 (by kernel_rfl) rfl (fun K hK => ?_)
 go_simp
 refine hK.out _ _ (fun h => absurd rfl h) ?_
 clear hK K
 simp only [List.setIfInBounds_toArray, List.set_cons_zero, List.set_cons_succ]
 refine wpAnyK_done (by kernel_rfl) ?_ _
 go_wp2_with fail
 refine (FI.out _ _ _ hq).mono ?_
 rintro e' w9 ⟨rfl, rfl⟩
 go_wp2
 refine bodyPost_ret (results_tmp2 rfl _ _ _) rfl ?_
 exact ⟨X, Y, rfl, hq, G3mk2.out.2⟩
set_option maxHeartbeats 4000000 in
theorem at_any {k er : Int} {a a' b b' c c' d d' z z' : Nat} {Q : Nat → Nat → Prop}
  (TO : Hid (∀ wz, Calls Tryz.prog 25 #[.agg #[.int .u8 k, .complex .f64 a a', .complex .f64 b b', .complex .f64 c c', .complex .f64 d d', .float .f64 0], .complex .f64 z z', .int .i64 0, .func (.func 26) #[] #[]] wz fun e w' => ∃ x y, e = .returned (.tuple #[.complex .f64 x y, .int .i64 er]) ∧ Q x y ∧ Bw wz w'))
  (w : World) : Calls Tryz.prog 11 #[.agg #[.int .u8 k, .complex .f64 a a', .complex .f64 b b', .complex .f64 c c', .complex .f64 d d', .float .f64 0], .complex .f64 z z'] w fun e w' => ∃ x y, e = .returned (.tuple #[.complex .f64 x y, .int .i64 er]) ∧ Q x y ∧ Bw w w' := by
 have g1 := Ch.Bl.new w #[.int .u8 k, .complex .f64 a a', .complex .f64 b b', .complex .f64 c c', .complex .f64 d d', .float .f64 0] 33
 have z1 : (w.alloc (.cells #[.int .u8 k, .complex .f64 a a', .complex .f64 b b', .complex .f64 c c', .complex .f64 d d', .float .f64 0] 33)).heap.size = w.heap.size + 1 := by simp
 have b1 := bw_alloc w (.cells #[.int .u8 k, .complex .f64 a a', .complex .f64 b b', .complex .f64 c c', .complex .f64 d d', .float .f64 0] 33)
 obtain ⟨W1, hW1⟩ : ∃ v, w.alloc (.cells #[.int .u8 k, .complex .f64 a a', .complex .f64 b b', .complex .f64 c c', .complex .f64 d d', .float .f64 0] 33) = v := ⟨_, rfl⟩
 rw [hW1] at g1 z1 b1
 have GG : Hid (Ch.Bl W1 (w.heap.size) [.int .u8 k, .complex .f64 a a', .complex .f64 b b', .complex .f64 c c', .complex .f64 d d', .float .f64 0] ∧ Bw w W1) := ⟨(show Ch.Bl _ (w.heap.size) _ from g1), b1⟩
 have HW := hide (hW1)
 clear g1 b1 z1 hW1
 go_enter Tryz.func11, Tryz.ntmps11
 go_wp2_with fail
 rw [HW.out]
 obtain ⟨A, hA⟩ : ∃ A, w.heap.size = A := ⟨_, rfl⟩
 rw [hA] at GG ⊢
 have HA := hide hA
 refine (TO.out _).mono ?_
 rintro e' w5 ⟨X, Y, rfl, hq, bb⟩
 have G5 : Hid (Ch.Bl w5 (A) [.int .u8 k, .complex .f64 a a', .complex .f64 b b', .complex .f64 c c', .complex .f64 d d', .float .f64 0] ∧ Bw w w5) := ⟨GG.out.1.bw bb, bw_trans GG.out.2 bb⟩
 go_wp2
 refine bodyPost_ret (results_tmp2 rfl _ _ _) rfl ?_
 exact ⟨X, Y, rfl, hq, G5.out.2⟩
set_option maxHeartbeats 4000000 in
theorem back_any {k er : Int} {a a' b b' c c' d d' z z' : Nat} {Q : Nat → Nat → Prop}
  (TO : Hid (∀ wz, Calls Tryz.prog 25 #[.agg #[.int .u8 k, .complex .f64 a a', .complex .f64 b b', .complex .f64 c c', .complex .f64 d d', .float .f64 0], .complex .f64 z z', .int .i64 2, .func (.func 27) #[] #[]] wz fun e w' => ∃ x y, e = .returned (.tuple #[.complex .f64 x y, .int .i64 er]) ∧ Q x y ∧ Bw wz w'))
  (w : World) : Calls Tryz.prog 12 #[.agg #[.int .u8 k, .complex .f64 a a', .complex .f64 b b', .complex .f64 c c', .complex .f64 d d', .float .f64 0], .complex .f64 z z', .bool false] w fun e w' => ∃ x y, e = .returned (.tuple #[.complex .f64 x y, .int .i64 er]) ∧ Q x y ∧ Bw w w' := by
 have g1 := Ch.Bl.new w #[.int .u8 k, .complex .f64 a a', .complex .f64 b b', .complex .f64 c c', .complex .f64 d d', .float .f64 0] 33
 have z1 : (w.alloc (.cells #[.int .u8 k, .complex .f64 a a', .complex .f64 b b', .complex .f64 c c', .complex .f64 d d', .float .f64 0] 33)).heap.size = w.heap.size + 1 := by simp
 have b1 := bw_alloc w (.cells #[.int .u8 k, .complex .f64 a a', .complex .f64 b b', .complex .f64 c c', .complex .f64 d d', .float .f64 0] 33)
 obtain ⟨W1, hW1⟩ : ∃ v, w.alloc (.cells #[.int .u8 k, .complex .f64 a a', .complex .f64 b b', .complex .f64 c c', .complex .f64 d d', .float .f64 0] 33) = v := ⟨_, rfl⟩
 rw [hW1] at g1 z1 b1
 have GG : Hid (Ch.Bl W1 (w.heap.size) [.int .u8 k, .complex .f64 a a', .complex .f64 b b', .complex .f64 c c', .complex .f64 d d', .float .f64 0] ∧ Bw w W1) := ⟨(show Ch.Bl _ (w.heap.size) _ from g1), b1⟩
 have HW := hide (hW1)
 clear g1 b1 z1 hW1
 go_enter Tryz.func12, Tryz.ntmps12
 go_wp2_with fail
 rw [HW.out]
 obtain ⟨A, hA⟩ : ∃ A, w.heap.size = A := ⟨_, rfl⟩
 rw [hA] at GG ⊢
 have HA := hide hA
 refine (TO.out _).mono ?_
 rintro e' w5 ⟨X, Y, rfl, hq, bb⟩
 have G5 : Hid (Ch.Bl w5 (A) [.int .u8 k, .complex .f64 a a', .complex .f64 b b', .complex .f64 c c', .complex .f64 d d', .float .f64 0] ∧ Bw w w5) := ⟨GG.out.1.bw bb, bw_trans GG.out.2 bb⟩
 go_wp2
 refine bodyPost_ret (results_tmp2 rfl _ _ _) rfl ?_
 exact ⟨X, Y, rfl, hq, G5.out.2⟩
set_option maxHeartbeats 4000000 in
theorem back_other {k er : Int} {a a' b b' c c' d d' z z' : Nat} {Q : Nat → Nat → Prop}
  (TO : Hid (∀ wz, Calls Tryz.prog 25 #[.agg #[.int .u8 k, .complex .f64 a a', .complex .f64 b b', .complex .f64 c c', .complex .f64 d d', .float .f64 0], .complex .f64 z z', .int .i64 3, .func (.func 27) #[] #[]] wz fun e w' => ∃ x y, e = .returned (.tuple #[.complex .f64 x y, .int .i64 er]) ∧ Q x y ∧ Bw wz w'))
  (w : World) : Calls Tryz.prog 12 #[.agg #[.int .u8 k, .complex .f64 a a', .complex .f64 b b', .complex .f64 c c', .complex .f64 d d', .float .f64 0], .complex .f64 z z', .bool true] w fun e w' => ∃ x y, e = .returned (.tuple #[.complex .f64 x y, .int .i64 er]) ∧ Q x y ∧ Bw w w' := by
 have g1 := Ch.Bl.new w #[.int .u8 k, .complex .f64 a a', .complex .f64 b b', .complex .f64 c c', .complex .f64 d d', .float .f64 0] 33
 have z1 : (w.alloc (.cells #[.int .u8 k, .complex .f64 a a', .complex .f64 b b', .complex .f64 c c', .complex .f64 d d', .float .f64 0] 33)).heap.size = w.heap.size + 1 := by simp
 have b1 := bw_alloc w (.cells #[.int .u8 k, .complex .f64 a a', .complex .f64 b b', .complex .f64 c c', .complex .f64 d d', .float .f64 0] 33)
 obtain ⟨W1, hW1⟩ : ∃ v, w.alloc (.cells #[.int .u8 k, .complex .f64 a a', .complex .f64 b b', .complex .f64 c c', .complex .f64 d d', .float .f64 0] 33) = v := ⟨_, rfl⟩
 rw [hW1] at g1 z1 b1
 have GG : Hid (Ch.Bl W1 (w.heap.size) [.int .u8 k, .complex .f64 a a', .complex .f64 b b', .complex .f64 c c', .complex .f64 d d', .float .f64 0] ∧ Bw w W1) := ⟨(show Ch.Bl _ (w.heap.size) _ from g1), b1⟩
 have HW := hide (hW1)
 clear g1 b1 z1 hW1
 go_enter Tryz.func12, Tryz.ntmps12
 go_wp2_with fail
 rw [HW.out]
 obtain ⟨A, hA⟩ : ∃ A, w.heap.size = A := ⟨_, rfl⟩
 rw [hA] at GG ⊢
 have HA := hide hA
 refine (TO.out _).mono ?_
 rintro e' w5 ⟨X, Y, rfl, hq, bb⟩
 have G5 : Hid (Ch.Bl w5 (A) [.int .u8 k, .complex .f64 a a', .complex .f64 b b', .complex .f64 c c', .complex .f64 d d', .float .f64 0] ∧ Bw w w5) := ⟨GG.out.1.bw bb, bw_trans GG.out.2 bb⟩
 go_wp2
 refine bodyPost_ret (results_tmp2 rfl _ _ _) rfl ?_
 exact ⟨X, Y, rfl, hq, G5.out.2⟩
end Go.Proofs.YtfgfofedacehiaaGreat

