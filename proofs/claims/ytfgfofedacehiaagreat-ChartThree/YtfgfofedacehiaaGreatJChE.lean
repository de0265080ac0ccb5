/-
 OWN TEXT: package chart over whole numbers: Turned, Then.
-/
import Derived.Test.YtfgfofedacehiaaGreatJChAToChD
import Derived.Test.YtfgfofedacehiaaGreatJPnEToPyD
namespace Go.Proofs.YtfgfofedacehiaaGreat
open Go.ChangeShapes Go.WideShapes Go.ChangeAt Go.RowKit
set_option linter.unusedVariables false
set_option linter.unusedSimpArgs false
attribute [local go_sem] frombits_call tobits_call run_neg El.run_store_cx El.run_store_fl
theorem idx62_0 (x0 x1 x2 x3 x4 x5 y0 y1 y2 y3 y4 y5 : Value) (w : World) : (Instr.index 62 (.agg #[x0, x1, x2, x3, x4, x5, y0, y1, y2, y3, y4, y5]) (.int .i64 0)).run Tryz.prog w = .ok (.agg #[x0, x1, x2, x3, x4, x5]) w := by kernel_rfl
theorem idx62_1 (x0 x1 x2 x3 x4 x5 y0 y1 y2 y3 y4 y5 : Value) (w : World) : (Instr.index 62 (.agg #[x0, x1, x2, x3, x4, x5, y0, y1, y2, y3, y4, y5]) (.int .i64 1)).run Tryz.prog w = .ok (.agg #[y0, y1, y2, y3, y4, y5]) w := by kernel_rfl
attribute [local go_sem] idx62_0 idx62_1
set_option maxHeartbeats 8000000 in
theorem turned18 {a a' b b' c c' d d' M : Nat} {m : Ch.Mq} (hm : Ch.W8 a a' b b' c c' d d' m) (lm : Ch.Lq m M) (hM : M ≤ 1099511627776) (hs : M * M + M * M ≤ 9007199254740992) (hd : Ch.dt m ≠ (0, 0)) : ∃ p p' q q', wC 1074 p p' (Py.gn m.b) ∧ wC 1074 q q' (Py.gn m.c) ∧ ∀ w, Calls Tryz.prog 17 #[.agg #[.int .u8 1, .complex .f64 a a', .complex .f64 b b', .complex .f64 c c', .complex .f64 d d', .float .f64 0]] w fun e w' => e = .returned (.tuple #[.agg #[.int .u8 1, .complex .f64 d d', .complex .f64 p p', .complex .f64 q q', .complex .f64 a a', .float .f64 0], .int .i64 0]) ∧ Bw w w' := by
 obtain ⟨p, p', h1, c1⟩ := pneg8 hm.2.1
 obtain ⟨q, q', h2, c2⟩ := pneg8 hm.2.2.1
 refine ⟨p, p', q, q', h1, h2, fun w => ?_⟩
 have N1 := hide c1
 have N2 := hide c2
 have CK : Hid (∀ wz, Calls Tryz.prog 14 #[.agg #[.int .u8 1, .complex .f64 a a', .complex .f64 b b', .complex .f64 c c', .complex .f64 d d', .float .f64 0]] wz fun e w' => e = .returned (.int .i64 0) ∧ Bw wz w') := fun wz => by have q := check18 hm lm hM hs wz; rw [if_neg hd] at q; exact q
 have KD : Hid (∀ wz, Calls Tryz.prog 30 #[.agg #[.int .u8 1, .complex .f64 d d', .complex .f64 p p', .complex .f64 q q', .complex .f64 a a', .float .f64 0]] wz fun e w' => e = .returned (.tuple #[.agg #[.int .u8 1, .complex .f64 d d', .complex .f64 p p', .complex .f64 q q', .complex .f64 a a', .float .f64 0], .int .i64 0]) ∧ Bw wz w') := fun wz => checked18 (m := Ch.trn m) ⟨hm.2.2.2, h1, h2, hm.1⟩ lm.trn hM hs (by rw [Ch.dt_trn]; exact hd) wz
 have MB : Hid (∀ wz, Calls Tryz.prog 31 #[.complex .f64 d d', .complex .f64 p p', .complex .f64 q q', .complex .f64 a a'] wz fun e w' => e = .returned (.agg #[.int .u8 1, .complex .f64 d d', .complex .f64 p p', .complex .f64 q q', .complex .f64 a a', .float .f64 0]) ∧ Bw wz w') := fun wz => moebius18 d d' p p' q q' a a' wz
 clear c1 c2 h1 h2 hm lm hM hs hd
 have g1 := Ch.Bl.new w #[.int .u8 1, .complex .f64 a a', .complex .f64 b b', .complex .f64 c c', .complex .f64 d d', .float .f64 0] 33
 have z1 : (w.alloc (.cells #[.int .u8 1, .complex .f64 a a', .complex .f64 b b', .complex .f64 c c', .complex .f64 d d', .float .f64 0] 33)).heap.size = w.heap.size + 1 := by simp
 have b1 := bw_alloc w (.cells #[.int .u8 1, .complex .f64 a a', .complex .f64 b b', .complex .f64 c c', .complex .f64 d d', .float .f64 0] 33)
 obtain ⟨W1, hW1⟩ : ∃ v, w.alloc (.cells #[.int .u8 1, .complex .f64 a a', .complex .f64 b b', .complex .f64 c c', .complex .f64 d d', .float .f64 0] 33) = v := ⟨_, rfl⟩
 rw [hW1] at g1 z1 b1
 have g2 := Ch.Bl.new W1 #[.int .u8 0, .complex .f64 0 0, .complex .f64 0 0, .complex .f64 0 0, .complex .f64 0 0, .float .f64 0] 33
 have z2 : (W1.alloc (.cells #[.int .u8 0, .complex .f64 0 0, .complex .f64 0 0, .complex .f64 0 0, .complex .f64 0 0, .float .f64 0] 33)).heap.size = w.heap.size + 1 + 1 := by simp [z1]
 have b2 := bw_alloc W1 (.cells #[.int .u8 0, .complex .f64 0 0, .complex .f64 0 0, .complex .f64 0 0, .complex .f64 0 0, .float .f64 0] 33)
 obtain ⟨W2, hW2⟩ : ∃ v, W1.alloc (.cells #[.int .u8 0, .complex .f64 0 0, .complex .f64 0 0, .complex .f64 0 0, .complex .f64 0 0, .float .f64 0] 33) = v := ⟨_, rfl⟩
 rw [hW2] at g2 z2 b2
 have GG : Hid (Ch.Bl W2 (w.heap.size) [.int .u8 1, .complex .f64 a a', .complex .f64 b b', .complex .f64 c c', .complex .f64 d d', .float .f64 0] ∧ Ch.Bl W2 (w.heap.size + 1) [.int .u8 0, .complex .f64 0 0, .complex .f64 0 0, .complex .f64 0 0, .complex .f64 0 0, .float .f64 0] ∧ Bw w W2) := ⟨(show Ch.Bl _ (w.heap.size) _ from g1).bw b2, (show Ch.Bl _ (w.heap.size + 1) _ from z1 ▸ g2), (bw_trans b1 b2)⟩
 have HW := hide (And.intro hW1 (hW2))
 clear g1 b1 z1 hW1 g2 b2 z2 hW2
 go_enter Tryz.func17, Tryz.ntmps17
 go_wp2_with fail
 rw [HW.out.1, HW.out.2]
 obtain ⟨A, hA⟩ : ∃ A, w.heap.size = A := ⟨_, rfl⟩
 rw [hA] at GG ⊢
 have HA := hide hA
 have GGS := True.intro
 refine (CK.out _).mono ?_
 rintro e' w3 ⟨rfl, bb⟩
 have G3 : Hid (Ch.Bl w3 (A) [.int .u8 1, .complex .f64 a a', .complex .f64 b b', .complex .f64 c c', .complex .f64 d d', .float .f64 0] ∧ Ch.Bl w3 (A + 1) [.int .u8 0, .complex .f64 0 0, .complex .f64 0 0, .complex .f64 0 0, .complex .f64 0 0, .float .f64 0] ∧ Bw w w3) := ⟨GG.out.1.bw bb, GG.out.2.1.bw bb, bw_trans GG.out.2.2 bb⟩
 clear bb GGS
 have G3S : Ch.Bl w3 (A) [.int .u8 1, .complex .f64 a a', .complex .f64 b b', .complex .f64 c c', .complex .f64 d d', .float .f64 0] := G3.out.1
 have c00 := (G3.out.1).c 0 _ rfl
 have c01 := (G3.out.1).c 1 _ rfl
 have c02 := (G3.out.1).c 2 _ rfl
 have c03 := (G3.out.1).c 3 _ rfl
 have c04 := (G3.out.1).c 4 _ rfl
 have c05 := (G3.out.1).c 5 _ rfl
 go_wp2_with fail
 clear c00 c01 c02 c03 c04 c05
 refine wp_region_K (fun w' => Ch.Bl w' (A) [.int .u8 1, .complex .f64 a a', .complex .f64 b b', .complex .f64 c c', .complex .f64 d d', .float .f64 0]) 15 16 #[false, false, false, false, false, false, false, false, false, false, false, false, false, false, false, false] (by kernel_rfl) (by kernel_rfl) (by kernel_rfl) ?_
 have G3d : Hid (Ch.Bl w3.drew (A) [.int .u8 1, .complex .f64 a a', .complex .f64 b b', .complex .f64 c c', .complex .f64 d d', .float .f64 0] ∧ Ch.Bl w3.drew (A + 1) [.int .u8 0, .complex .f64 0 0, .complex .f64 0 0, .complex .f64 0 0, .complex .f64 0 0, .float .f64 0] ∧ Bw w w3.drew) := ⟨G3.out.1.bw (Bw.refl w3).drew, G3.out.2.1.bw (Bw.refl w3).drew, bw_trans G3.out.2.2 (Bw.refl w3).drew⟩
 generalize w3.drew = w3d at *
 have G3S : Ch.Bl w3d (A) [.int .u8 1, .complex .f64 a a', .complex .f64 b b', .complex .f64 c c', .complex .f64 d d', .float .f64 0] := G3d.out.1
 refine wpAnyK_take 0 15 (v := ?v0) rfl (by kernel_rfl) (by kernel_rfl) (by kernel_rfl) (by kernel_rfl) (by kernel_rfl) (fun _ _ _ h => h) rfl (Or.inl ⟨by rfl, ?h0⟩) (by assumption) ?r0
 case h0 => (intro w hSw; have h0 := hSw; have c00 := h0.c 0 _ rfl; have c01 := h0.c 1 _ rfl; have c02 := h0.c 2 _ rfl; have c03 := h0.c 3 _ rfl; have c04 := h0.c 4 _ rfl; have c05 := h0.c 5 _ rfl; go_simp; with_reducible rfl)
 simp only [Act.put, List.setIfInBounds_toArray, List.set_cons_zero, List.set_cons_succ]
 refine wpAnyK_take 1 16 (v := ?v1) rfl (by kernel_rfl) (by kernel_rfl) (by kernel_rfl) (by kernel_rfl) (by kernel_rfl) (fun _ _ _ h => h) rfl (Or.inl ⟨by rfl, ?h1⟩) (by assumption) ?r1
 case h1 => (intro w hSw; have h0 := hSw; have c00 := h0.c 0 _ rfl; have c01 := h0.c 1 _ rfl; have c02 := h0.c 2 _ rfl; have c03 := h0.c 3 _ rfl; have c04 := h0.c 4 _ rfl; have c05 := h0.c 5 _ rfl; go_simp; with_reducible rfl)
 simp only [Act.put, List.setIfInBounds_toArray, List.set_cons_zero, List.set_cons_succ]
 refine wpAnyK_take 2 17 (v := ?v2) rfl (by kernel_rfl) (by kernel_rfl) (by kernel_rfl) (by kernel_rfl) (by kernel_rfl) (fun _ _ _ h => h) rfl (Or.inl ⟨by rfl, ?h2⟩) (by assumption) ?r2
 case h2 => (intro w hSw; have h0 := hSw; have c00 := h0.c 0 _ rfl; have c01 := h0.c 1 _ rfl; have c02 := h0.c 2 _ rfl; have c03 := h0.c 3 _ rfl; have c04 := h0.c 4 _ rfl; have c05 := h0.c 5 _ rfl; go_simp; with_reducible rfl)
 simp only [Act.put, List.setIfInBounds_toArray, List.set_cons_zero, List.set_cons_succ]
 refine wpAnyK_take 3 18 (v := ?v3) rfl (by kernel_rfl) (by kernel_rfl) (by kernel_rfl) (by kernel_rfl) (by kernel_rfl) (fun _ _ _ h => h) rfl (Or.inl ⟨by rfl, ?h3⟩) (by assumption) ?r3
 case h3 => (intro w hSw; have h0 := hSw; have c00 := h0.c 0 _ rfl; have c01 := h0.c 1 _ rfl; have c02 := h0.c 2 _ rfl; have c03 := h0.c 3 _ rfl; have c04 := h0.c 4 _ rfl; have c05 := h0.c 5 _ rfl; go_simp; with_reducible rfl)
 simp only [Act.put, List.setIfInBounds_toArray, List.set_cons_zero, List.set_cons_succ]
 refine wpAnyK_take 5 20 (v := ?v5) rfl (by kernel_rfl) (by kernel_rfl) (by kernel_rfl) (by kernel_rfl) (by kernel_rfl) (fun _ _ _ h => h) rfl (Or.inl ⟨by rfl, ?h5⟩) (by assumption) ?r5
 case h5 => (intro w hSw; have h0 := hSw; have c00 := h0.c 0 _ rfl; have c01 := h0.c 1 _ rfl; have c02 := h0.c 2 _ rfl; have c03 := h0.c 3 _ rfl; have c04 := h0.c 4 _ rfl; have c05 := h0.c 5 _ rfl; go_simp; with_reducible rfl)
 simp only [Act.put, List.setIfInBounds_toArray, List.set_cons_zero, List.set_cons_succ]
 refine wpAnyK_take 6 21 (v := ?v6) rfl (by kernel_rfl) (by kernel_rfl) (by kernel_rfl) (by kernel_rfl) (by kernel_rfl) (fun _ _ _ h => h) rfl (Or.inl ⟨by rfl, ?h6⟩) (by assumption) ?r6
 case h6 => (intro w hSw; have h0 := hSw; have c00 := h0.c 0 _ rfl; have c01 := h0.c 1 _ rfl; have c02 := h0.c 2 _ rfl; have c03 := h0.c 3 _ rfl; have c04 := h0.c 4 _ rfl; have c05 := h0.c 5 _ rfl; go_simp; with_reducible rfl)
 simp only [Act.put, List.setIfInBounds_toArray, List.set_cons_zero, List.set_cons_succ]
 refine wpAnyK_take 8 23 (v := ?v8) rfl (by kernel_rfl) (by kernel_rfl) (by kernel_rfl) (by kernel_rfl) (by kernel_rfl) (fun _ _ _ h => h) rfl (Or.inl ⟨by rfl, ?h8⟩) (by assumption) ?r8
 case h8 => (intro w hSw; have h0 := hSw; have c00 := h0.c 0 _ rfl; have c01 := h0.c 1 _ rfl; have c02 := h0.c 2 _ rfl; have c03 := h0.c 3 _ rfl; have c04 := h0.c 4 _ rfl; have c05 := h0.c 5 _ rfl; go_simp; with_reducible rfl)
 simp only [Act.put, List.setIfInBounds_toArray, List.set_cons_zero, List.set_cons_succ]
 refine wpAnyK_take 9 24 (v := ?v9) rfl (by kernel_rfl) (by kernel_rfl) (by kernel_rfl) (by kernel_rfl) (by kernel_rfl) (fun _ _ _ h => h) rfl (Or.inl ⟨by rfl, ?h9⟩) (by assumption) ?r9
 case h9 => (intro w hSw; have h0 := hSw; have c00 := h0.c 0 _ rfl; have c01 := h0.c 1 _ rfl; have c02 := h0.c 2 _ rfl; have c03 := h0.c 3 _ rfl; have c04 := h0.c 4 _ rfl; have c05 := h0.c 5 _ rfl; go_simp; with_reducible rfl)
 simp only [Act.put, List.setIfInBounds_toArray, List.set_cons_zero, List.set_cons_succ]
 refine wpAnyK_one 4 (by kernel_rfl) rfl (fun K hK => ?_)
 go_simp
 refine (N1.out _).mono ?_
 rintro e' w' ⟨rfl, rfl⟩
 refine hK.out _ _ (fun _ _ => G3S) ?_
 clear hK K
 simp only [List.setIfInBounds_toArray, List.set_cons_zero, List.set_cons_succ]
 refine wpAnyK_one 7 (by kernel_rfl) rfl (fun K hK => ?_)
 go_simp
 refine (N2.out _).mono ?_
 rintro e' w' ⟨rfl, rfl⟩
 refine hK.out _ _ (fun _ _ => G3S) ?_
 clear hK K
 simp only [List.setIfInBounds_toArray, List.set_cons_zero, List.set_cons_succ]
 refine wpAnyK_one 10 (by kernel_rfl) rfl (fun K hK => ?_)
 go_simp
 refine (MB.out _).mono ?_
 rintro e' w3k1 ⟨rfl, bb⟩
 have G3k1 : Hid (Ch.Bl w3k1 (A) [.int .u8 1, .complex .f64 a a', .complex .f64 b b', .complex .f64 c c', .complex .f64 d d', .float .f64 0] ∧ Ch.Bl w3k1 (A + 1) [.int .u8 0, .complex .f64 0 0, .complex .f64 0 0, .complex .f64 0 0, .complex .f64 0 0, .float .f64 0] ∧ Bw w w3k1) := ⟨G3d.out.1.bw bb, G3d.out.2.1.bw bb, bw_trans G3d.out.2.2 bb⟩
 clear bb G3S
 have G3k1S : Ch.Bl w3k1 (A) [.int .u8 1, .complex .f64 a a', .complex .f64 b b', .complex .f64 c c', .complex .f64 d d', .float .f64 0] := G3k1.out.1
 refine hK.out _ _ (fun _ _ => G3k1S) ?_
 clear hK K
 simp only [List.setIfInBounds_toArray, List.set_cons_zero, List.set_cons_succ]
 refine wpAnyK_one 11 (by kernel_rfl) rfl (fun K hK => ?_)
 go_simp
 refine (KD.out _).mono ?_
 rintro e' w3k2 ⟨rfl, bb⟩
 have G3k2 : Hid (Ch.Bl w3k2 (A) [.int .u8 1, .complex .f64 a a', .complex .f64 b b', .complex .f64 c c', .complex .f64 d d', .float .f64 0] ∧ Ch.Bl w3k2 (A + 1) [.int .u8 0, .complex .f64 0 0, .complex .f64 0 0, .complex .f64 0 0, .complex .f64 0 0, .float .f64 0] ∧ Bw w w3k2) := ⟨G3k1.out.1.bw bb, G3k1.out.2.1.bw bb, bw_trans G3k1.out.2.2 bb⟩
 clear bb G3k1S
 have G3k2S : Ch.Bl w3k2 (A) [.int .u8 1, .complex .f64 a a', .complex .f64 b b', .complex .f64 c c', .complex .f64 d d', .float .f64 0] := G3k2.out.1
 refine hK.out _ _ (fun _ _ => G3k2S) ?_
 clear hK K
 simp only [List.setIfInBounds_toArray, List.set_cons_zero, List.set_cons_succ]
 refine wpAnyK_take 12 27 (v := ?v12) rfl (by kernel_rfl) (by kernel_rfl) (by kernel_rfl) (by kernel_rfl) (by kernel_rfl) (fun _ _ _ h => h) rfl (Or.inl ⟨by rfl, ?h12⟩) (by assumption) ?r12
 case h12 => (intro w hSw; have h0 := hSw; have c00 := h0.c 0 _ rfl; have c01 := h0.c 1 _ rfl; have c02 := h0.c 2 _ rfl; have c03 := h0.c 3 _ rfl; have c04 := h0.c 4 _ rfl; have c05 := h0.c 5 _ rfl; go_simp; with_reducible rfl)
 simp only [Act.put, List.setIfInBounds_toArray, List.set_cons_zero, List.set_cons_succ]
 refine wpAnyK_take 13 28 (v := ?v13) rfl (by kernel_rfl) (by kernel_rfl) (by kernel_rfl) (by kernel_rfl) (by kernel_rfl) (fun _ _ _ h => h) rfl (Or.inl ⟨by rfl, ?h13⟩) (by assumption) ?r13
 case h13 => (intro w hSw; have h0 := hSw; have c00 := h0.c 0 _ rfl; have c01 := h0.c 1 _ rfl; have c02 := h0.c 2 _ rfl; have c03 := h0.c 3 _ rfl; have c04 := h0.c 4 _ rfl; have c05 := h0.c 5 _ rfl; go_simp; with_reducible rfl)
 simp only [Act.put, List.setIfInBounds_toArray, List.set_cons_zero, List.set_cons_succ]
 have GZ : Hid (∀ V, V = Ch.s6 w3k2 (A + 1) (.int .u8 1) (.complex .f64 d d') (.complex .f64 p p') (.complex .f64 q q') (.complex .f64 a a') (.float .f64 0) → Ch.Bl V (A) [.int .u8 1, .complex .f64 a a', .complex .f64 b b', .complex .f64 c c', .complex .f64 d d', .float .f64 0] ∧ Ch.Bl V (A + 1) [.int .u8 1, .complex .f64 d d', .complex .f64 p p', .complex .f64 q q', .complex .f64 a a', .float .f64 0] ∧ Bw w V) := by
  rintro V rfl
  exact ⟨Ch.s6_off G3k2.out.1 (by omega) _ _ _ _ _ _, Ch.s6_at G3k2.out.2.1 _ _ _ _ _ _, Ch.s6_bw G3k2.out.2.2 (by have := HA.out; omega) _ _ _ _ _ _⟩
 have q0 := (G3k2.out.2.1).c 0 _ rfl
 have r0 := (G3k2.out.2.1).fz 0
 have q1 := (G3k2.out.2.1).c 1 _ rfl
 have r1 := (G3k2.out.2.1).fz 1
 have q2 := (G3k2.out.2.1).c 2 _ rfl
 have r2 := (G3k2.out.2.1).fz 2
 have q3 := (G3k2.out.2.1).c 3 _ rfl
 have r3 := (G3k2.out.2.1).fz 3
 have q4 := (G3k2.out.2.1).c 4 _ rfl
 have r4 := (G3k2.out.2.1).fz 4
 have q5 := (G3k2.out.2.1).c 5 _ rfl
 have r5 := (G3k2.out.2.1).fz 5
 refine wpAnyK_one 14 (by kernel_rfl) rfl (fun K hK => ?_)
 go_simp
 obtain ⟨w3k3, hV⟩ : ∃ V, V = Ch.s6 w3k2 (A + 1) (.int .u8 1) (.complex .f64 d d') (.complex .f64 p p') (.complex .f64 q q') (.complex .f64 a a') (.float .f64 0) := ⟨_, rfl⟩
 have G3k3 := hide (GZ.out _ hV)
 unfold Ch.s6 at hV
 rw [← hV]
 clear hV GZ q0 r0 q1 r1 q2 r2 q3 r3 q4 r4 q5 r5
 clear G3k2S
 have G3k3S : Ch.Bl w3k3 (A) [.int .u8 1, .complex .f64 a a', .complex .f64 b b', .complex .f64 c c', .complex .f64 d d', .float .f64 0] := G3k3.out.1
 refine hK.out _ _ (fun _ _ => G3k3S) ?_
 clear hK K
 simp only [List.setIfInBounds_toArray, List.set_cons_zero, List.set_cons_succ]
 refine wpAnyK_one 15 (by kernel_rfl) rfl (fun K hK => ?_)
 go_simp
 refine hK.out _ _ (fun h => absurd rfl h) ?_
 clear hK K
 simp only [List.setIfInBounds_toArray, List.set_cons_zero, List.set_cons_succ]
 refine wpAnyK_done (by kernel_rfl) ?_ _
 go_wp2
 refine bodyPost_ret (Ch.res_map2 rfl _ _ (A + 1) rfl G3k3.out.2.1) rfl ?_
 exact ⟨rfl, G3k3.out.2.2⟩
set_option maxHeartbeats 16000000 in
theorem then18 {a a' b b' c c' d d' e e' f f' g g' h h' M K J : Nat} {m n : Ch.Mq} (hm : Ch.W8 a a' b b' c c' d d' m) (lm : Ch.Lq m M) (hn : Ch.W8 e e' f f' g g' h h' n) (ln : Ch.Lq n K)
  (hM : M ≤ 1099511627776) (hK : K ≤ 1099511627776) (hs : M * M + M * M ≤ 9007199254740992) (ht : K * K + K * K ≤ 9007199254740992) (hJ : K * M + K * M ≤ J) (hJ1 : J ≤ 1099511627776) (hJ2 : J * J + J * J ≤ 9007199254740992)
  (hd : Ch.dt m ≠ (0, 0)) (he : Ch.dt n ≠ (0, 0)) :
  ∃ p p' q q' r r' s s', Ch.W8 p p' q q' r r' s s' (Ch.thn m n) ∧ ∀ w, Calls Tryz.prog 15 #[.agg #[.int .u8 1, .complex .f64 a a', .complex .f64 b b', .complex .f64 c c', .complex .f64 d d', .float .f64 0], .agg #[.int .u8 1, .complex .f64 e e', .complex .f64 f f', .complex .f64 g g', .complex .f64 h h', .float .f64 0]] w fun z w' => z = .returned (.tuple #[.agg #[.int .u8 1, .complex .f64 p p', .complex .f64 q q', .complex .f64 r r', .complex .f64 s s', .float .f64 0], .int .i64 0]) ∧ Bw w w' := by
 obtain ⟨p, p', h1, c1⟩ := twice18 hn.1 hm.1 hn.2.1 hm.2.2.1 ln.1 lm.1 ln.2.1 lm.2.2.1 (by omega)
 obtain ⟨q, q', h2, c2⟩ := twice18 hn.1 hm.2.1 hn.2.1 hm.2.2.2 ln.1 lm.2.1 ln.2.1 lm.2.2.2 (by omega)
 obtain ⟨r, r', h3, c3⟩ := twice18 hn.2.2.1 hm.1 hn.2.2.2 hm.2.2.1 ln.2.2.1 lm.1 ln.2.2.2 lm.2.2.1 (by omega)
 obtain ⟨s, s', h4, c4⟩ := twice18 hn.2.2.1 hm.2.1 hn.2.2.2 hm.2.2.2 ln.2.2.1 lm.2.1 ln.2.2.2 lm.2.2.2 (by omega)
 have ht8 : Ch.W8 p p' q q' r r' s s' (Ch.thn m n) := ⟨h1, h2, h3, h4⟩
 refine ⟨p, p', q, q', r, r', s, s', ht8, fun w => ?_⟩
 have N1 := hide c1
 have N2 := hide c2
 have N3 := hide c3
 have N4 := hide c4
 have CK : Hid (∀ wz, Calls Tryz.prog 14 #[.agg #[.int .u8 1, .complex .f64 a a', .complex .f64 b b', .complex .f64 c c', .complex .f64 d d', .float .f64 0]] wz fun z w' => z = .returned (.int .i64 0) ∧ Bw wz w') := fun wz => by have q := check18 hm lm hM hs wz; rw [if_neg hd] at q; exact q
 have CL : Hid (∀ wz, Calls Tryz.prog 14 #[.agg #[.int .u8 1, .complex .f64 e e', .complex .f64 f f', .complex .f64 g g', .complex .f64 h h', .float .f64 0]] wz fun z w' => z = .returned (.int .i64 0) ∧ Bw wz w') := fun wz => by have q := check18 hn ln hK ht wz; rw [if_neg he] at q; exact q
 have KD : Hid (∀ wz, Calls Tryz.prog 30 #[.agg #[.int .u8 1, .complex .f64 p p', .complex .f64 q q', .complex .f64 r r', .complex .f64 s s', .float .f64 0]] wz fun z w' => z = .returned (.tuple #[.agg #[.int .u8 1, .complex .f64 p p', .complex .f64 q q', .complex .f64 r r', .complex .f64 s s', .float .f64 0], .int .i64 0]) ∧ Bw wz w') := fun wz => checked18 ht8 ((lm.thn ln).mono hJ) hJ1 hJ2 (Ch.dt_thn_ne hd he) wz
 have MB : Hid (∀ wz, Calls Tryz.prog 31 #[.complex .f64 p p', .complex .f64 q q', .complex .f64 r r', .complex .f64 s s'] wz fun z w' => z = .returned (.agg #[.int .u8 1, .complex .f64 p p', .complex .f64 q q', .complex .f64 r r', .complex .f64 s s', .float .f64 0]) ∧ Bw wz w') := fun wz => moebius18 p p' q q' r r' s s' wz
 clear c1 c2 c3 c4 h1 h2 h3 h4 hm lm hn ln hM hK hs ht hJ hJ1 hJ2 hd he ht8
 have g1 := Ch.Bl.new w #[.int .u8 1, .complex .f64 a a', .complex .f64 b b', .complex .f64 c c', .complex .f64 d d', .float .f64 0] 33
 have z1 : (w.alloc (.cells #[.int .u8 1, .complex .f64 a a', .complex .f64 b b', .complex .f64 c c', .complex .f64 d d', .float .f64 0] 33)).heap.size = w.heap.size + 1 := by simp
 have b1 := bw_alloc w (.cells #[.int .u8 1, .complex .f64 a a', .complex .f64 b b', .complex .f64 c c', .complex .f64 d d', .float .f64 0] 33)
 obtain ⟨W1, hW1⟩ : ∃ v, w.alloc (.cells #[.int .u8 1, .complex .f64 a a', .complex .f64 b b', .complex .f64 c c', .complex .f64 d d', .float .f64 0] 33) = v := ⟨_, rfl⟩
 rw [hW1] at g1 z1 b1
 have g2 := Ch.Bl.new W1 #[.int .u8 1, .complex .f64 e e', .complex .f64 f f', .complex .f64 g g', .complex .f64 h h', .float .f64 0] 33
 have z2 : (W1.alloc (.cells #[.int .u8 1, .complex .f64 e e', .complex .f64 f f', .complex .f64 g g', .complex .f64 h h', .float .f64 0] 33)).heap.size = w.heap.size + 1 + 1 := by simp [z1]
 have b2 := bw_alloc W1 (.cells #[.int .u8 1, .complex .f64 e e', .complex .f64 f f', .complex .f64 g g', .complex .f64 h h', .float .f64 0] 33)
 obtain ⟨W2, hW2⟩ : ∃ v, W1.alloc (.cells #[.int .u8 1, .complex .f64 e e', .complex .f64 f f', .complex .f64 g g', .complex .f64 h h', .float .f64 0] 33) = v := ⟨_, rfl⟩
 rw [hW2] at g2 z2 b2
 have g3 := Ch.Bl.new W2 #[.int .u8 0, .complex .f64 0 0, .complex .f64 0 0, .complex .f64 0 0, .complex .f64 0 0, .float .f64 0] 33
 have z3 : (W2.alloc (.cells #[.int .u8 0, .complex .f64 0 0, .complex .f64 0 0, .complex .f64 0 0, .complex .f64 0 0, .float .f64 0] 33)).heap.size = w.heap.size + 1 + 1 + 1 := by simp [z2]
 have b3 := bw_alloc W2 (.cells #[.int .u8 0, .complex .f64 0 0, .complex .f64 0 0, .complex .f64 0 0, .complex .f64 0 0, .float .f64 0] 33)
 obtain ⟨W3, hW3⟩ : ∃ v, W2.alloc (.cells #[.int .u8 0, .complex .f64 0 0, .complex .f64 0 0, .complex .f64 0 0, .complex .f64 0 0, .float .f64 0] 33) = v := ⟨_, rfl⟩
 rw [hW3] at g3 z3 b3
 have GG : Hid (Ch.Bl W3 (w.heap.size) [.int .u8 1, .complex .f64 a a', .complex .f64 b b', .complex .f64 c c', .complex .f64 d d', .float .f64 0] ∧ Ch.Bl W3 (w.heap.size + 1) [.int .u8 1, .complex .f64 e e', .complex .f64 f f', .complex .f64 g g', .complex .f64 h h', .float .f64 0] ∧ Ch.Bl W3 (w.heap.size + 1 + 1) [.int .u8 0, .complex .f64 0 0, .complex .f64 0 0, .complex .f64 0 0, .complex .f64 0 0, .float .f64 0] ∧ Bw w W3) := ⟨(show Ch.Bl _ (w.heap.size) _ from g1).bw (bw_trans b2 b3), (show Ch.Bl _ (w.heap.size + 1) _ from z1 ▸ g2).bw b3, (show Ch.Bl _ (w.heap.size + 1 + 1) _ from z2 ▸ g3), (bw_trans b1 (bw_trans b2 b3))⟩
 have HW := hide (And.intro hW1 (And.intro hW2 (hW3)))
 clear g1 b1 z1 hW1 g2 b2 z2 hW2 g3 b3 z3 hW3
 go_enter Tryz.func15, Tryz.ntmps15
 go_wp2_with fail
 rw [HW.out.1, HW.out.2.1, HW.out.2.2]
 obtain ⟨A, hA⟩ : ∃ A, w.heap.size = A := ⟨_, rfl⟩
 rw [hA] at GG ⊢
 have HA := hide hA
 go_loopw [12] (fun i wr => ∃ k : Nat, k ≤ 2 ∧ i = .int .i64 k ∧ Hid (Ch.Bl wr (A) [.int .u8 1, .complex .f64 a a', .complex .f64 b b', .complex .f64 c c', .complex .f64 d d', .float .f64 0] ∧ Ch.Bl wr (A + 1) [.int .u8 1, .complex .f64 e e', .complex .f64 f f', .complex .f64 g g', .complex .f64 h h', .float .f64 0] ∧ Ch.Bl wr (A + 1 + 1) [.int .u8 0, .complex .f64 0 0, .complex .f64 0 0, .complex .f64 0 0, .complex .f64 0 0, .float .f64 0] ∧ Bw w wr)) (fun i _ => 2 - (intOf i).toNat)
 case atStart => exact ⟨0, by omega, rfl, GG⟩
 case round =>
  obtain ⟨k, hk, rfl, G⟩ := hrel
  have hk' : k = 0 ∨ k = 1 ∨ k = 2 := by omega
  clear HW
  rcases hk' with h0 | h0 | h0
  ·
   obtain rfl : k = 0 := by omega
   have GB := hide (Ch.Bl.new wr #[.int .u8 1, .complex .f64 a a', .complex .f64 b b', .complex .f64 c c', .complex .f64 d d', .float .f64 0] 33)
   have bB := hide (bw_alloc wr (.cells #[.int .u8 1, .complex .f64 a a', .complex .f64 b b', .complex .f64 c c', .complex .f64 d d', .float .f64 0] 33))
   clear hk
   go_wp2_with fail
   refine (CK.out _).mono ?_
   rintro e' w4 ⟨rfl, b4⟩
   have b5 := hide (bw_trans bB.out b4)
   clear b4 GB
   go_wp2
   go_roundw
   case rel => exact ⟨1, by omega, rfl, hide ⟨G.out.1.bw b5.out, G.out.2.1.bw b5.out, G.out.2.2.1.bw b5.out, bw_trans G.out.2.2.2 b5.out⟩⟩
   case measure => simp [intOf]
  ·
   obtain rfl : k = 1 := by omega
   have GB := hide (Ch.Bl.new wr #[.int .u8 1, .complex .f64 e e', .complex .f64 f f', .complex .f64 g g', .complex .f64 h h', .float .f64 0] 33)
   have bB := hide (bw_alloc wr (.cells #[.int .u8 1, .complex .f64 e e', .complex .f64 f f', .complex .f64 g g', .complex .f64 h h', .float .f64 0] 33))
   clear hk
   go_wp2_with fail
   refine (CL.out _).mono ?_
   rintro e' w4 ⟨rfl, b4⟩
   have b5 := hide (bw_trans bB.out b4)
   clear b4 GB
   go_wp2
   go_roundw
   case rel => exact ⟨2, by omega, rfl, hide ⟨G.out.1.bw b5.out, G.out.2.1.bw b5.out, G.out.2.2.1.bw b5.out, bw_trans G.out.2.2.2 b5.out⟩⟩
   case measure => simp [intOf]
  ·
   obtain rfl : k = 2 := by omega
   clear hk h0
   have c00 := (G.out.1).c 0 _ rfl
   have c01 := (G.out.1).c 1 _ rfl
   have c02 := (G.out.1).c 2 _ rfl
   have c03 := (G.out.1).c 3 _ rfl
   have c04 := (G.out.1).c 4 _ rfl
   have c05 := (G.out.1).c 5 _ rfl
   have c10 := (G.out.2.1).c 0 _ rfl
   have c11 := (G.out.2.1).c 1 _ rfl
   have c12 := (G.out.2.1).c 2 _ rfl
   have c13 := (G.out.2.1).c 3 _ rfl
   have c14 := (G.out.2.1).c 4 _ rfl
   have c15 := (G.out.2.1).c 5 _ rfl
   go_wp2_with fail
   clear c00 c01 c02 c03 c04 c05
   clear c10 c11 c12 c13 c14 c15
   refine wp_region_K (fun w' => Ch.Bl w' (A) [.int .u8 1, .complex .f64 a a', .complex .f64 b b', .complex .f64 c c', .complex .f64 d d', .float .f64 0] ∧ Ch.Bl w' (A + 1) [.int .u8 1, .complex .f64 e e', .complex .f64 f f', .complex .f64 g g', .complex .f64 h h', .float .f64 0]) 41 42 #[false, false, false, false, false, false, false, false, false, false, false, false, false, false, false, false, false, false, false, false, false, false, false, false, false, false, false, false, false, false, false, false, false, false, false, false, false, false, false, false, false, false] (by kernel_rfl) (by kernel_rfl) (by kernel_rfl) ?_
   have Gd : Hid (Ch.Bl wr.drew (A) [.int .u8 1, .complex .f64 a a', .complex .f64 b b', .complex .f64 c c', .complex .f64 d d', .float .f64 0] ∧ Ch.Bl wr.drew (A + 1) [.int .u8 1, .complex .f64 e e', .complex .f64 f f', .complex .f64 g g', .complex .f64 h h', .float .f64 0] ∧ Ch.Bl wr.drew (A + 1 + 1) [.int .u8 0, .complex .f64 0 0, .complex .f64 0 0, .complex .f64 0 0, .complex .f64 0 0, .float .f64 0] ∧ Bw w wr.drew) := ⟨G.out.1.bw (Bw.refl wr).drew, G.out.2.1.bw (Bw.refl wr).drew, G.out.2.2.1.bw (Bw.refl wr).drew, bw_trans G.out.2.2.2 (Bw.refl wr).drew⟩
   generalize wr.drew = wrd at *
   have GS : Ch.Bl wrd (A) [.int .u8 1, .complex .f64 a a', .complex .f64 b b', .complex .f64 c c', .complex .f64 d d', .float .f64 0] ∧ Ch.Bl wrd (A + 1) [.int .u8 1, .complex .f64 e e', .complex .f64 f f', .complex .f64 g g', .complex .f64 h h', .float .f64 0] := ⟨Gd.out.1, Gd.out.2.1⟩
   refine wpAnyK_take 0 31 (v := ?v0) rfl (by kernel_rfl) (by kernel_rfl) (by kernel_rfl) (by kernel_rfl) (by kernel_rfl) (fun _ _ _ h => h) rfl (Or.inl ⟨by rfl, ?h0⟩) (by assumption) ?r0
   case h0 => (intro w hSw; obtain ⟨h0, h1⟩ := hSw; have c00 := h0.c 0 _ rfl; have c01 := h0.c 1 _ rfl; have c02 := h0.c 2 _ rfl; have c03 := h0.c 3 _ rfl; have c04 := h0.c 4 _ rfl; have c05 := h0.c 5 _ rfl; have c10 := h1.c 0 _ rfl; have c11 := h1.c 1 _ rfl; have c12 := h1.c 2 _ rfl; have c13 := h1.c 3 _ rfl; have c14 := h1.c 4 _ rfl; have c15 := h1.c 5 _ rfl; go_simp; with_reducible rfl)
   simp only [Act.put, List.setIfInBounds_toArray, List.set_cons_zero, List.set_cons_succ]
   refine wpAnyK_take 1 32 (v := ?v1) rfl (by kernel_rfl) (by kernel_rfl) (by kernel_rfl) (by kernel_rfl) (by kernel_rfl) (fun _ _ _ h => h) rfl (Or.inl ⟨by rfl, ?h1⟩) (by assumption) ?r1
   case h1 => (intro w hSw; obtain ⟨h0, h1⟩ := hSw; have c00 := h0.c 0 _ rfl; have c01 := h0.c 1 _ rfl; have c02 := h0.c 2 _ rfl; have c03 := h0.c 3 _ rfl; have c04 := h0.c 4 _ rfl; have c05 := h0.c 5 _ rfl; have c10 := h1.c 0 _ rfl; have c11 := h1.c 1 _ rfl; have c12 := h1.c 2 _ rfl; have c13 := h1.c 3 _ rfl; have c14 := h1.c 4 _ rfl; have c15 := h1.c 5 _ rfl; go_simp; with_reducible rfl)
   simp only [Act.put, List.setIfInBounds_toArray, List.set_cons_zero, List.set_cons_succ]
   refine wpAnyK_take 2 33 (v := ?v2) rfl (by kernel_rfl) (by kernel_rfl) (by kernel_rfl) (by kernel_rfl) (by kernel_rfl) (fun _ _ _ h => h) rfl (Or.inl ⟨by rfl, ?h2⟩) (by assumption) ?r2
   case h2 => (intro w hSw; obtain ⟨h0, h1⟩ := hSw; have c00 := h0.c 0 _ rfl; have c01 := h0.c 1 _ rfl; have c02 := h0.c 2 _ rfl; have c03 := h0.c 3 _ rfl; have c04 := h0.c 4 _ rfl; have c05 := h0.c 5 _ rfl; have c10 := h1.c 0 _ rfl; have c11 := h1.c 1 _ rfl; have c12 := h1.c 2 _ rfl; have c13 := h1.c 3 _ rfl; have c14 := h1.c 4 _ rfl; have c15 := h1.c 5 _ rfl; go_simp; with_reducible rfl)
   simp only [Act.put, List.setIfInBounds_toArray, List.set_cons_zero, List.set_cons_succ]
   refine wpAnyK_take 3 34 (v := ?v3) rfl (by kernel_rfl) (by kernel_rfl) (by kernel_rfl) (by kernel_rfl) (by kernel_rfl) (fun _ _ _ h => h) rfl (Or.inl ⟨by rfl, ?h3⟩) (by assumption) ?r3
   case h3 => (intro w hSw; obtain ⟨h0, h1⟩ := hSw; have c00 := h0.c 0 _ rfl; have c01 := h0.c 1 _ rfl; have c02 := h0.c 2 _ rfl; have c03 := h0.c 3 _ rfl; have c04 := h0.c 4 _ rfl; have c05 := h0.c 5 _ rfl; have c10 := h1.c 0 _ rfl; have c11 := h1.c 1 _ rfl; have c12 := h1.c 2 _ rfl; have c13 := h1.c 3 _ rfl; have c14 := h1.c 4 _ rfl; have c15 := h1.c 5 _ rfl; go_simp; with_reducible rfl)
   simp only [Act.put, List.setIfInBounds_toArray, List.set_cons_zero, List.set_cons_succ]
   refine wpAnyK_take 4 35 (v := ?v4) rfl (by kernel_rfl) (by kernel_rfl) (by kernel_rfl) (by kernel_rfl) (by kernel_rfl) (fun _ _ _ h => h) rfl (Or.inl ⟨by rfl, ?h4⟩) (by assumption) ?r4
   case h4 => (intro w hSw; obtain ⟨h0, h1⟩ := hSw; have c00 := h0.c 0 _ rfl; have c01 := h0.c 1 _ rfl; have c02 := h0.c 2 _ rfl; have c03 := h0.c 3 _ rfl; have c04 := h0.c 4 _ rfl; have c05 := h0.c 5 _ rfl; have c10 := h1.c 0 _ rfl; have c11 := h1.c 1 _ rfl; have c12 := h1.c 2 _ rfl; have c13 := h1.c 3 _ rfl; have c14 := h1.c 4 _ rfl; have c15 := h1.c 5 _ rfl; go_simp; with_reducible rfl)
   simp only [Act.put, List.setIfInBounds_toArray, List.set_cons_zero, List.set_cons_succ]
   refine wpAnyK_take 5 36 (v := ?v5) rfl (by kernel_rfl) (by kernel_rfl) (by kernel_rfl) (by kernel_rfl) (by kernel_rfl) (fun _ _ _ h => h) rfl (Or.inl ⟨by rfl, ?h5⟩) (by assumption) ?r5
   case h5 => (intro w hSw; obtain ⟨h0, h1⟩ := hSw; have c00 := h0.c 0 _ rfl; have c01 := h0.c 1 _ rfl; have c02 := h0.c 2 _ rfl; have c03 := h0.c 3 _ rfl; have c04 := h0.c 4 _ rfl; have c05 := h0.c 5 _ rfl; have c10 := h1.c 0 _ rfl; have c11 := h1.c 1 _ rfl; have c12 := h1.c 2 _ rfl; have c13 := h1.c 3 _ rfl; have c14 := h1.c 4 _ rfl; have c15 := h1.c 5 _ rfl; go_simp; with_reducible rfl)
   simp only [Act.put, List.setIfInBounds_toArray, List.set_cons_zero, List.set_cons_succ]
   refine wpAnyK_take 6 37 (v := ?v6) rfl (by kernel_rfl) (by kernel_rfl) (by kernel_rfl) (by kernel_rfl) (by kernel_rfl) (fun _ _ _ h => h) rfl (Or.inl ⟨by rfl, ?h6⟩) (by assumption) ?r6
   case h6 => (intro w hSw; obtain ⟨h0, h1⟩ := hSw; have c00 := h0.c 0 _ rfl; have c01 := h0.c 1 _ rfl; have c02 := h0.c 2 _ rfl; have c03 := h0.c 3 _ rfl; have c04 := h0.c 4 _ rfl; have c05 := h0.c 5 _ rfl; have c10 := h1.c 0 _ rfl; have c11 := h1.c 1 _ rfl; have c12 := h1.c 2 _ rfl; have c13 := h1.c 3 _ rfl; have c14 := h1.c 4 _ rfl; have c15 := h1.c 5 _ rfl; go_simp; with_reducible rfl)
   simp only [Act.put, List.setIfInBounds_toArray, List.set_cons_zero, List.set_cons_succ]
   refine wpAnyK_take 7 38 (v := ?v7) rfl (by kernel_rfl) (by kernel_rfl) (by kernel_rfl) (by kernel_rfl) (by kernel_rfl) (fun _ _ _ h => h) rfl (Or.inl ⟨by rfl, ?h7⟩) (by assumption) ?r7
   case h7 => (intro w hSw; obtain ⟨h0, h1⟩ := hSw; have c00 := h0.c 0 _ rfl; have c01 := h0.c 1 _ rfl; have c02 := h0.c 2 _ rfl; have c03 := h0.c 3 _ rfl; have c04 := h0.c 4 _ rfl; have c05 := h0.c 5 _ rfl; have c10 := h1.c 0 _ rfl; have c11 := h1.c 1 _ rfl; have c12 := h1.c 2 _ rfl; have c13 := h1.c 3 _ rfl; have c14 := h1.c 4 _ rfl; have c15 := h1.c 5 _ rfl; go_simp; with_reducible rfl)
   simp only [Act.put, List.setIfInBounds_toArray, List.set_cons_zero, List.set_cons_succ]
   refine wpAnyK_take 9 40 (v := ?v9) rfl (by kernel_rfl) (by kernel_rfl) (by kernel_rfl) (by kernel_rfl) (by kernel_rfl) (fun _ _ _ h => h) rfl (Or.inl ⟨by rfl, ?h9⟩) (by assumption) ?r9
   case h9 => (intro w hSw; obtain ⟨h0, h1⟩ := hSw; have c00 := h0.c 0 _ rfl; have c01 := h0.c 1 _ rfl; have c02 := h0.c 2 _ rfl; have c03 := h0.c 3 _ rfl; have c04 := h0.c 4 _ rfl; have c05 := h0.c 5 _ rfl; have c10 := h1.c 0 _ rfl; have c11 := h1.c 1 _ rfl; have c12 := h1.c 2 _ rfl; have c13 := h1.c 3 _ rfl; have c14 := h1.c 4 _ rfl; have c15 := h1.c 5 _ rfl; go_simp; with_reducible rfl)
   simp only [Act.put, List.setIfInBounds_toArray, List.set_cons_zero, List.set_cons_succ]
   refine wpAnyK_take 10 41 (v := ?v10) rfl (by kernel_rfl) (by kernel_rfl) (by kernel_rfl) (by kernel_rfl) (by kernel_rfl) (fun _ _ _ h => h) rfl (Or.inl ⟨by rfl, ?h10⟩) (by assumption) ?r10
   case h10 => (intro w hSw; obtain ⟨h0, h1⟩ := hSw; have c00 := h0.c 0 _ rfl; have c01 := h0.c 1 _ rfl; have c02 := h0.c 2 _ rfl; have c03 := h0.c 3 _ rfl; have c04 := h0.c 4 _ rfl; have c05 := h0.c 5 _ rfl; have c10 := h1.c 0 _ rfl; have c11 := h1.c 1 _ rfl; have c12 := h1.c 2 _ rfl; have c13 := h1.c 3 _ rfl; have c14 := h1.c 4 _ rfl; have c15 := h1.c 5 _ rfl; go_simp; with_reducible rfl)
   simp only [Act.put, List.setIfInBounds_toArray, List.set_cons_zero, List.set_cons_succ]
   refine wpAnyK_take 11 42 (v := ?v11) rfl (by kernel_rfl) (by kernel_rfl) (by kernel_rfl) (by kernel_rfl) (by kernel_rfl) (fun _ _ _ h => h) rfl (Or.inl ⟨by rfl, ?h11⟩) (by assumption) ?r11
   case h11 => (intro w hSw; obtain ⟨h0, h1⟩ := hSw; have c00 := h0.c 0 _ rfl; have c01 := h0.c 1 _ rfl; have c02 := h0.c 2 _ rfl; have c03 := h0.c 3 _ rfl; have c04 := h0.c 4 _ rfl; have c05 := h0.c 5 _ rfl; have c10 := h1.c 0 _ rfl; have c11 := h1.c 1 _ rfl; have c12 := h1.c 2 _ rfl; have c13 := h1.c 3 _ rfl; have c14 := h1.c 4 _ rfl; have c15 := h1.c 5 _ rfl; go_simp; with_reducible rfl)
   simp only [Act.put, List.setIfInBounds_toArray, List.set_cons_zero, List.set_cons_succ]
   refine wpAnyK_take 12 43 (v := ?v12) rfl (by kernel_rfl) (by kernel_rfl) (by kernel_rfl) (by kernel_rfl) (by kernel_rfl) (fun _ _ _ h => h) rfl (Or.inl ⟨by rfl, ?h12⟩) (by assumption) ?r12
   case h12 => (intro w hSw; obtain ⟨h0, h1⟩ := hSw; have c00 := h0.c 0 _ rfl; have c01 := h0.c 1 _ rfl; have c02 := h0.c 2 _ rfl; have c03 := h0.c 3 _ rfl; have c04 := h0.c 4 _ rfl; have c05 := h0.c 5 _ rfl; have c10 := h1.c 0 _ rfl; have c11 := h1.c 1 _ rfl; have c12 := h1.c 2 _ rfl; have c13 := h1.c 3 _ rfl; have c14 := h1.c 4 _ rfl; have c15 := h1.c 5 _ rfl; go_simp; with_reducible rfl)
   simp only [Act.put, List.setIfInBounds_toArray, List.set_cons_zero, List.set_cons_succ]
   refine wpAnyK_take 13 44 (v := ?v13) rfl (by kernel_rfl) (by kernel_rfl) (by kernel_rfl) (by kernel_rfl) (by kernel_rfl) (fun _ _ _ h => h) rfl (Or.inl ⟨by rfl, ?h13⟩) (by assumption) ?r13
   case h13 => (intro w hSw; obtain ⟨h0, h1⟩ := hSw; have c00 := h0.c 0 _ rfl; have c01 := h0.c 1 _ rfl; have c02 := h0.c 2 _ rfl; have c03 := h0.c 3 _ rfl; have c04 := h0.c 4 _ rfl; have c05 := h0.c 5 _ rfl; have c10 := h1.c 0 _ rfl; have c11 := h1.c 1 _ rfl; have c12 := h1.c 2 _ rfl; have c13 := h1.c 3 _ rfl; have c14 := h1.c 4 _ rfl; have c15 := h1.c 5 _ rfl; go_simp; with_reducible rfl)
   simp only [Act.put, List.setIfInBounds_toArray, List.set_cons_zero, List.set_cons_succ]
   refine wpAnyK_take 14 45 (v := ?v14) rfl (by kernel_rfl) (by kernel_rfl) (by kernel_rfl) (by kernel_rfl) (by kernel_rfl) (fun _ _ _ h => h) rfl (Or.inl ⟨by rfl, ?h14⟩) (by assumption) ?r14
   case h14 => (intro w hSw; obtain ⟨h0, h1⟩ := hSw; have c00 := h0.c 0 _ rfl; have c01 := h0.c 1 _ rfl; have c02 := h0.c 2 _ rfl; have c03 := h0.c 3 _ rfl; have c04 := h0.c 4 _ rfl; have c05 := h0.c 5 _ rfl; have c10 := h1.c 0 _ rfl; have c11 := h1.c 1 _ rfl; have c12 := h1.c 2 _ rfl; have c13 := h1.c 3 _ rfl; have c14 := h1.c 4 _ rfl; have c15 := h1.c 5 _ rfl; go_simp; with_reducible rfl)
   simp only [Act.put, List.setIfInBounds_toArray, List.set_cons_zero, List.set_cons_succ]
   refine wpAnyK_take 15 46 (v := ?v15) rfl (by kernel_rfl) (by kernel_rfl) (by kernel_rfl) (by kernel_rfl) (by kernel_rfl) (fun _ _ _ h => h) rfl (Or.inl ⟨by rfl, ?h15⟩) (by assumption) ?r15
   case h15 => (intro w hSw; obtain ⟨h0, h1⟩ := hSw; have c00 := h0.c 0 _ rfl; have c01 := h0.c 1 _ rfl; have c02 := h0.c 2 _ rfl; have c03 := h0.c 3 _ rfl; have c04 := h0.c 4 _ rfl; have c05 := h0.c 5 _ rfl; have c10 := h1.c 0 _ rfl; have c11 := h1.c 1 _ rfl; have c12 := h1.c 2 _ rfl; have c13 := h1.c 3 _ rfl; have c14 := h1.c 4 _ rfl; have c15 := h1.c 5 _ rfl; go_simp; with_reducible rfl)
   simp only [Act.put, List.setIfInBounds_toArray, List.set_cons_zero, List.set_cons_succ]
   refine wpAnyK_take 16 47 (v := ?v16) rfl (by kernel_rfl) (by kernel_rfl) (by kernel_rfl) (by kernel_rfl) (by kernel_rfl) (fun _ _ _ h => h) rfl (Or.inl ⟨by rfl, ?h16⟩) (by assumption) ?r16
   case h16 => (intro w hSw; obtain ⟨h0, h1⟩ := hSw; have c00 := h0.c 0 _ rfl; have c01 := h0.c 1 _ rfl; have c02 := h0.c 2 _ rfl; have c03 := h0.c 3 _ rfl; have c04 := h0.c 4 _ rfl; have c05 := h0.c 5 _ rfl; have c10 := h1.c 0 _ rfl; have c11 := h1.c 1 _ rfl; have c12 := h1.c 2 _ rfl; have c13 := h1.c 3 _ rfl; have c14 := h1.c 4 _ rfl; have c15 := h1.c 5 _ rfl; go_simp; with_reducible rfl)
   simp only [Act.put, List.setIfInBounds_toArray, List.set_cons_zero, List.set_cons_succ]
   refine wpAnyK_take 18 49 (v := ?v18) rfl (by kernel_rfl) (by kernel_rfl) (by kernel_rfl) (by kernel_rfl) (by kernel_rfl) (fun _ _ _ h => h) rfl (Or.inl ⟨by rfl, ?h18⟩) (by assumption) ?r18
   case h18 => (intro w hSw; obtain ⟨h0, h1⟩ := hSw; have c00 := h0.c 0 _ rfl; have c01 := h0.c 1 _ rfl; have c02 := h0.c 2 _ rfl; have c03 := h0.c 3 _ rfl; have c04 := h0.c 4 _ rfl; have c05 := h0.c 5 _ rfl; have c10 := h1.c 0 _ rfl; have c11 := h1.c 1 _ rfl; have c12 := h1.c 2 _ rfl; have c13 := h1.c 3 _ rfl; have c14 := h1.c 4 _ rfl; have c15 := h1.c 5 _ rfl; go_simp; with_reducible rfl)
   simp only [Act.put, List.setIfInBounds_toArray, List.set_cons_zero, List.set_cons_succ]
   refine wpAnyK_take 19 50 (v := ?v19) rfl (by kernel_rfl) (by kernel_rfl) (by kernel_rfl) (by kernel_rfl) (by kernel_rfl) (fun _ _ _ h => h) rfl (Or.inl ⟨by rfl, ?h19⟩) (by assumption) ?r19
   case h19 => (intro w hSw; obtain ⟨h0, h1⟩ := hSw; have c00 := h0.c 0 _ rfl; have c01 := h0.c 1 _ rfl; have c02 := h0.c 2 _ rfl; have c03 := h0.c 3 _ rfl; have c04 := h0.c 4 _ rfl; have c05 := h0.c 5 _ rfl; have c10 := h1.c 0 _ rfl; have c11 := h1.c 1 _ rfl; have c12 := h1.c 2 _ rfl; have c13 := h1.c 3 _ rfl; have c14 := h1.c 4 _ rfl; have c15 := h1.c 5 _ rfl; go_simp; with_reducible rfl)
   simp only [Act.put, List.setIfInBounds_toArray, List.set_cons_zero, List.set_cons_succ]
   refine wpAnyK_take 20 51 (v := ?v20) rfl (by kernel_rfl) (by kernel_rfl) (by kernel_rfl) (by kernel_rfl) (by kernel_rfl) (fun _ _ _ h => h) rfl (Or.inl ⟨by rfl, ?h20⟩) (by assumption) ?r20
   case h20 => (intro w hSw; obtain ⟨h0, h1⟩ := hSw; have c00 := h0.c 0 _ rfl; have c01 := h0.c 1 _ rfl; have c02 := h0.c 2 _ rfl; have c03 := h0.c 3 _ rfl; have c04 := h0.c 4 _ rfl; have c05 := h0.c 5 _ rfl; have c10 := h1.c 0 _ rfl; have c11 := h1.c 1 _ rfl; have c12 := h1.c 2 _ rfl; have c13 := h1.c 3 _ rfl; have c14 := h1.c 4 _ rfl; have c15 := h1.c 5 _ rfl; go_simp; with_reducible rfl)
   simp only [Act.put, List.setIfInBounds_toArray, List.set_cons_zero, List.set_cons_succ]
   refine wpAnyK_take 21 52 (v := ?v21) rfl (by kernel_rfl) (by kernel_rfl) (by kernel_rfl) (by kernel_rfl) (by kernel_rfl) (fun _ _ _ h => h) rfl (Or.inl ⟨by rfl, ?h21⟩) (by assumption) ?r21
   case h21 => (intro w hSw; obtain ⟨h0, h1⟩ := hSw; have c00 := h0.c 0 _ rfl; have c01 := h0.c 1 _ rfl; have c02 := h0.c 2 _ rfl; have c03 := h0.c 3 _ rfl; have c04 := h0.c 4 _ rfl; have c05 := h0.c 5 _ rfl; have c10 := h1.c 0 _ rfl; have c11 := h1.c 1 _ rfl; have c12 := h1.c 2 _ rfl; have c13 := h1.c 3 _ rfl; have c14 := h1.c 4 _ rfl; have c15 := h1.c 5 _ rfl; go_simp; with_reducible rfl)
   simp only [Act.put, List.setIfInBounds_toArray, List.set_cons_zero, List.set_cons_succ]
   refine wpAnyK_take 22 53 (v := ?v22) rfl (by kernel_rfl) (by kernel_rfl) (by kernel_rfl) (by kernel_rfl) (by kernel_rfl) (fun _ _ _ h => h) rfl (Or.inl ⟨by rfl, ?h22⟩) (by assumption) ?r22
   case h22 => (intro w hSw; obtain ⟨h0, h1⟩ := hSw; have c00 := h0.c 0 _ rfl; have c01 := h0.c 1 _ rfl; have c02 := h0.c 2 _ rfl; have c03 := h0.c 3 _ rfl; have c04 := h0.c 4 _ rfl; have c05 := h0.c 5 _ rfl; have c10 := h1.c 0 _ rfl; have c11 := h1.c 1 _ rfl; have c12 := h1.c 2 _ rfl; have c13 := h1.c 3 _ rfl; have c14 := h1.c 4 _ rfl; have c15 := h1.c 5 _ rfl; go_simp; with_reducible rfl)
   simp only [Act.put, List.setIfInBounds_toArray, List.set_cons_zero, List.set_cons_succ]
   refine wpAnyK_take 23 54 (v := ?v23) rfl (by kernel_rfl) (by kernel_rfl) (by kernel_rfl) (by kernel_rfl) (by kernel_rfl) (fun _ _ _ h => h) rfl (Or.inl ⟨by rfl, ?h23⟩) (by assumption) ?r23
   case h23 => (intro w hSw; obtain ⟨h0, h1⟩ := hSw; have c00 := h0.c 0 _ rfl; have c01 := h0.c 1 _ rfl; have c02 := h0.c 2 _ rfl; have c03 := h0.c 3 _ rfl; have c04 := h0.c 4 _ rfl; have c05 := h0.c 5 _ rfl; have c10 := h1.c 0 _ rfl; have c11 := h1.c 1 _ rfl; have c12 := h1.c 2 _ rfl; have c13 := h1.c 3 _ rfl; have c14 := h1.c 4 _ rfl; have c15 := h1.c 5 _ rfl; go_simp; with_reducible rfl)
   simp only [Act.put, List.setIfInBounds_toArray, List.set_cons_zero, List.set_cons_succ]
   refine wpAnyK_take 24 55 (v := ?v24) rfl (by kernel_rfl) (by kernel_rfl) (by kernel_rfl) (by kernel_rfl) (by kernel_rfl) (fun _ _ _ h => h) rfl (Or.inl ⟨by rfl, ?h24⟩) (by assumption) ?r24
   case h24 => (intro w hSw; obtain ⟨h0, h1⟩ := hSw; have c00 := h0.c 0 _ rfl; have c01 := h0.c 1 _ rfl; have c02 := h0.c 2 _ rfl; have c03 := h0.c 3 _ rfl; have c04 := h0.c 4 _ rfl; have c05 := h0.c 5 _ rfl; have c10 := h1.c 0 _ rfl; have c11 := h1.c 1 _ rfl; have c12 := h1.c 2 _ rfl; have c13 := h1.c 3 _ rfl; have c14 := h1.c 4 _ rfl; have c15 := h1.c 5 _ rfl; go_simp; with_reducible rfl)
   simp only [Act.put, List.setIfInBounds_toArray, List.set_cons_zero, List.set_cons_succ]
   refine wpAnyK_take 25 56 (v := ?v25) rfl (by kernel_rfl) (by kernel_rfl) (by kernel_rfl) (by kernel_rfl) (by kernel_rfl) (fun _ _ _ h => h) rfl (Or.inl ⟨by rfl, ?h25⟩) (by assumption) ?r25
   case h25 => (intro w hSw; obtain ⟨h0, h1⟩ := hSw; have c00 := h0.c 0 _ rfl; have c01 := h0.c 1 _ rfl; have c02 := h0.c 2 _ rfl; have c03 := h0.c 3 _ rfl; have c04 := h0.c 4 _ rfl; have c05 := h0.c 5 _ rfl; have c10 := h1.c 0 _ rfl; have c11 := h1.c 1 _ rfl; have c12 := h1.c 2 _ rfl; have c13 := h1.c 3 _ rfl; have c14 := h1.c 4 _ rfl; have c15 := h1.c 5 _ rfl; go_simp; with_reducible rfl)
   simp only [Act.put, List.setIfInBounds_toArray, List.set_cons_zero, List.set_cons_succ]
   refine wpAnyK_take 27 58 (v := ?v27) rfl (by kernel_rfl) (by kernel_rfl) (by kernel_rfl) (by kernel_rfl) (by kernel_rfl) (fun _ _ _ h => h) rfl (Or.inl ⟨by rfl, ?h27⟩) (by assumption) ?r27
   case h27 => (intro w hSw; obtain ⟨h0, h1⟩ := hSw; have c00 := h0.c 0 _ rfl; have c01 := h0.c 1 _ rfl; have c02 := h0.c 2 _ rfl; have c03 := h0.c 3 _ rfl; have c04 := h0.c 4 _ rfl; have c05 := h0.c 5 _ rfl; have c10 := h1.c 0 _ rfl; have c11 := h1.c 1 _ rfl; have c12 := h1.c 2 _ rfl; have c13 := h1.c 3 _ rfl; have c14 := h1.c 4 _ rfl; have c15 := h1.c 5 _ rfl; go_simp; with_reducible rfl)
   simp only [Act.put, List.setIfInBounds_toArray, List.set_cons_zero, List.set_cons_succ]
   refine wpAnyK_take 28 59 (v := ?v28) rfl (by kernel_rfl) (by kernel_rfl) (by kernel_rfl) (by kernel_rfl) (by kernel_rfl) (fun _ _ _ h => h) rfl (Or.inl ⟨by rfl, ?h28⟩) (by assumption) ?r28
   case h28 => (intro w hSw; obtain ⟨h0, h1⟩ := hSw; have c00 := h0.c 0 _ rfl; have c01 := h0.c 1 _ rfl; have c02 := h0.c 2 _ rfl; have c03 := h0.c 3 _ rfl; have c04 := h0.c 4 _ rfl; have c05 := h0.c 5 _ rfl; have c10 := h1.c 0 _ rfl; have c11 := h1.c 1 _ rfl; have c12 := h1.c 2 _ rfl; have c13 := h1.c 3 _ rfl; have c14 := h1.c 4 _ rfl; have c15 := h1.c 5 _ rfl; go_simp; with_reducible rfl)
   simp only [Act.put, List.setIfInBounds_toArray, List.set_cons_zero, List.set_cons_succ]
   refine wpAnyK_take 29 60 (v := ?v29) rfl (by kernel_rfl) (by kernel_rfl) (by kernel_rfl) (by kernel_rfl) (by kernel_rfl) (fun _ _ _ h => h) rfl (Or.inl ⟨by rfl, ?h29⟩) (by assumption) ?r29
   case h29 => (intro w hSw; obtain ⟨h0, h1⟩ := hSw; have c00 := h0.c 0 _ rfl; have c01 := h0.c 1 _ rfl; have c02 := h0.c 2 _ rfl; have c03 := h0.c 3 _ rfl; have c04 := h0.c 4 _ rfl; have c05 := h0.c 5 _ rfl; have c10 := h1.c 0 _ rfl; have c11 := h1.c 1 _ rfl; have c12 := h1.c 2 _ rfl; have c13 := h1.c 3 _ rfl; have c14 := h1.c 4 _ rfl; have c15 := h1.c 5 _ rfl; go_simp; with_reducible rfl)
   simp only [Act.put, List.setIfInBounds_toArray, List.set_cons_zero, List.set_cons_succ]
   refine wpAnyK_take 30 61 (v := ?v30) rfl (by kernel_rfl) (by kernel_rfl) (by kernel_rfl) (by kernel_rfl) (by kernel_rfl) (fun _ _ _ h => h) rfl (Or.inl ⟨by rfl, ?h30⟩) (by assumption) ?r30
   case h30 => (intro w hSw; obtain ⟨h0, h1⟩ := hSw; have c00 := h0.c 0 _ rfl; have c01 := h0.c 1 _ rfl; have c02 := h0.c 2 _ rfl; have c03 := h0.c 3 _ rfl; have c04 := h0.c 4 _ rfl; have c05 := h0.c 5 _ rfl; have c10 := h1.c 0 _ rfl; have c11 := h1.c 1 _ rfl; have c12 := h1.c 2 _ rfl; have c13 := h1.c 3 _ rfl; have c14 := h1.c 4 _ rfl; have c15 := h1.c 5 _ rfl; go_simp; with_reducible rfl)
   simp only [Act.put, List.setIfInBounds_toArray, List.set_cons_zero, List.set_cons_succ]
   refine wpAnyK_take 31 62 (v := ?v31) rfl (by kernel_rfl) (by kernel_rfl) (by kernel_rfl) (by kernel_rfl) (by kernel_rfl) (fun _ _ _ h => h) rfl (Or.inl ⟨by rfl, ?h31⟩) (by assumption) ?r31
   case h31 => (intro w hSw; obtain ⟨h0, h1⟩ := hSw; have c00 := h0.c 0 _ rfl; have c01 := h0.c 1 _ rfl; have c02 := h0.c 2 _ rfl; have c03 := h0.c 3 _ rfl; have c04 := h0.c 4 _ rfl; have c05 := h0.c 5 _ rfl; have c10 := h1.c 0 _ rfl; have c11 := h1.c 1 _ rfl; have c12 := h1.c 2 _ rfl; have c13 := h1.c 3 _ rfl; have c14 := h1.c 4 _ rfl; have c15 := h1.c 5 _ rfl; go_simp; with_reducible rfl)
   simp only [Act.put, List.setIfInBounds_toArray, List.set_cons_zero, List.set_cons_succ]
   refine wpAnyK_take 32 63 (v := ?v32) rfl (by kernel_rfl) (by kernel_rfl) (by kernel_rfl) (by kernel_rfl) (by kernel_rfl) (fun _ _ _ h => h) rfl (Or.inl ⟨by rfl, ?h32⟩) (by assumption) ?r32
   case h32 => (intro w hSw; obtain ⟨h0, h1⟩ := hSw; have c00 := h0.c 0 _ rfl; have c01 := h0.c 1 _ rfl; have c02 := h0.c 2 _ rfl; have c03 := h0.c 3 _ rfl; have c04 := h0.c 4 _ rfl; have c05 := h0.c 5 _ rfl; have c10 := h1.c 0 _ rfl; have c11 := h1.c 1 _ rfl; have c12 := h1.c 2 _ rfl; have c13 := h1.c 3 _ rfl; have c14 := h1.c 4 _ rfl; have c15 := h1.c 5 _ rfl; go_simp; with_reducible rfl)
   simp only [Act.put, List.setIfInBounds_toArray, List.set_cons_zero, List.set_cons_succ]
   refine wpAnyK_take 33 64 (v := ?v33) rfl (by kernel_rfl) (by kernel_rfl) (by kernel_rfl) (by kernel_rfl) (by kernel_rfl) (fun _ _ _ h => h) rfl (Or.inl ⟨by rfl, ?h33⟩) (by assumption) ?r33
   case h33 => (intro w hSw; obtain ⟨h0, h1⟩ := hSw; have c00 := h0.c 0 _ rfl; have c01 := h0.c 1 _ rfl; have c02 := h0.c 2 _ rfl; have c03 := h0.c 3 _ rfl; have c04 := h0.c 4 _ rfl; have c05 := h0.c 5 _ rfl; have c10 := h1.c 0 _ rfl; have c11 := h1.c 1 _ rfl; have c12 := h1.c 2 _ rfl; have c13 := h1.c 3 _ rfl; have c14 := h1.c 4 _ rfl; have c15 := h1.c 5 _ rfl; go_simp; with_reducible rfl)
   simp only [Act.put, List.setIfInBounds_toArray, List.set_cons_zero, List.set_cons_succ]
   refine wpAnyK_take 34 65 (v := ?v34) rfl (by kernel_rfl) (by kernel_rfl) (by kernel_rfl) (by kernel_rfl) (by kernel_rfl) (fun _ _ _ h => h) rfl (Or.inl ⟨by rfl, ?h34⟩) (by assumption) ?r34
   case h34 => (intro w hSw; obtain ⟨h0, h1⟩ := hSw; have c00 := h0.c 0 _ rfl; have c01 := h0.c 1 _ rfl; have c02 := h0.c 2 _ rfl; have c03 := h0.c 3 _ rfl; have c04 := h0.c 4 _ rfl; have c05 := h0.c 5 _ rfl; have c10 := h1.c 0 _ rfl; have c11 := h1.c 1 _ rfl; have c12 := h1.c 2 _ rfl; have c13 := h1.c 3 _ rfl; have c14 := h1.c 4 _ rfl; have c15 := h1.c 5 _ rfl; go_simp; with_reducible rfl)
   simp only [Act.put, List.setIfInBounds_toArray, List.set_cons_zero, List.set_cons_succ]
   refine wpAnyK_one 8 (by kernel_rfl) rfl (fun K hK => ?_)
   go_simp
   refine (N1.out _).mono ?_
   rintro e' w' ⟨rfl, rfl⟩
   refine hK.out _ _ (fun _ _ => GS) ?_
   clear hK K
   simp only [List.setIfInBounds_toArray, List.set_cons_zero, List.set_cons_succ]
   refine wpAnyK_one 17 (by kernel_rfl) rfl (fun K hK => ?_)
   go_simp
   refine (N2.out _).mono ?_
   rintro e' w' ⟨rfl, rfl⟩
   refine hK.out _ _ (fun _ _ => GS) ?_
   clear hK K
   simp only [List.setIfInBounds_toArray, List.set_cons_zero, List.set_cons_succ]
   refine wpAnyK_one 26 (by kernel_rfl) rfl (fun K hK => ?_)
   go_simp
   refine (N3.out _).mono ?_
   rintro e' w' ⟨rfl, rfl⟩
   refine hK.out _ _ (fun _ _ => GS) ?_
   clear hK K
   simp only [List.setIfInBounds_toArray, List.set_cons_zero, List.set_cons_succ]
   refine wpAnyK_one 35 (by kernel_rfl) rfl (fun K hK => ?_)
   go_simp
   refine (N4.out _).mono ?_
   rintro e' w' ⟨rfl, rfl⟩
   refine hK.out _ _ (fun _ _ => GS) ?_
   clear hK K
   simp only [List.setIfInBounds_toArray, List.set_cons_zero, List.set_cons_succ]
   refine wpAnyK_one 36 (by kernel_rfl) rfl (fun K hK => ?_)
   go_simp
   refine (MB.out _).mono ?_
   rintro e' wrk1 ⟨rfl, bb⟩
   have Gk1 : Hid (Ch.Bl wrk1 (A) [.int .u8 1, .complex .f64 a a', .complex .f64 b b', .complex .f64 c c', .complex .f64 d d', .float .f64 0] ∧ Ch.Bl wrk1 (A + 1) [.int .u8 1, .complex .f64 e e', .complex .f64 f f', .complex .f64 g g', .complex .f64 h h', .float .f64 0] ∧ Ch.Bl wrk1 (A + 1 + 1) [.int .u8 0, .complex .f64 0 0, .complex .f64 0 0, .complex .f64 0 0, .complex .f64 0 0, .float .f64 0] ∧ Bw w wrk1) := ⟨Gd.out.1.bw bb, Gd.out.2.1.bw bb, Gd.out.2.2.1.bw bb, bw_trans Gd.out.2.2.2 bb⟩
   clear bb GS
   have Gk1S : Ch.Bl wrk1 (A) [.int .u8 1, .complex .f64 a a', .complex .f64 b b', .complex .f64 c c', .complex .f64 d d', .float .f64 0] ∧ Ch.Bl wrk1 (A + 1) [.int .u8 1, .complex .f64 e e', .complex .f64 f f', .complex .f64 g g', .complex .f64 h h', .float .f64 0] := ⟨Gk1.out.1, Gk1.out.2.1⟩
   refine hK.out _ _ (fun _ _ => Gk1S) ?_
   clear hK K
   simp only [List.setIfInBounds_toArray, List.set_cons_zero, List.set_cons_succ]
   refine wpAnyK_one 37 (by kernel_rfl) rfl (fun K hK => ?_)
   go_simp
   refine (KD.out _).mono ?_
   rintro e' wrk2 ⟨rfl, bb⟩
   have Gk2 : Hid (Ch.Bl wrk2 (A) [.int .u8 1, .complex .f64 a a', .complex .f64 b b', .complex .f64 c c', .complex .f64 d d', .float .f64 0] ∧ Ch.Bl wrk2 (A + 1) [.int .u8 1, .complex .f64 e e', .complex .f64 f f', .complex .f64 g g', .complex .f64 h h', .float .f64 0] ∧ Ch.Bl wrk2 (A + 1 + 1) [.int .u8 0, .complex .f64 0 0, .complex .f64 0 0, .complex .f64 0 0, .complex .f64 0 0, .float .f64 0] ∧ Bw w wrk2) := ⟨Gk1.out.1.bw bb, Gk1.out.2.1.bw bb, Gk1.out.2.2.1.bw bb, bw_trans Gk1.out.2.2.2 bb⟩
   clear bb Gk1S
   have Gk2S : Ch.Bl wrk2 (A) [.int .u8 1, .complex .f64 a a', .complex .f64 b b', .complex .f64 c c', .complex .f64 d d', .float .f64 0] ∧ Ch.Bl wrk2 (A + 1) [.int .u8 1, .complex .f64 e e', .complex .f64 f f', .complex .f64 g g', .complex .f64 h h', .float .f64 0] := ⟨Gk2.out.1, Gk2.out.2.1⟩
   refine hK.out _ _ (fun _ _ => Gk2S) ?_
   clear hK K
   simp only [List.setIfInBounds_toArray, List.set_cons_zero, List.set_cons_succ]
   refine wpAnyK_take 38 69 (v := ?v38) rfl (by kernel_rfl) (by kernel_rfl) (by kernel_rfl) (by kernel_rfl) (by kernel_rfl) (fun _ _ _ h => h) rfl (Or.inl ⟨by rfl, ?h38⟩) (by assumption) ?r38
   case h38 => (intro w hSw; obtain ⟨h0, h1⟩ := hSw; have c00 := h0.c 0 _ rfl; have c01 := h0.c 1 _ rfl; have c02 := h0.c 2 _ rfl; have c03 := h0.c 3 _ rfl; have c04 := h0.c 4 _ rfl; have c05 := h0.c 5 _ rfl; have c10 := h1.c 0 _ rfl; have c11 := h1.c 1 _ rfl; have c12 := h1.c 2 _ rfl; have c13 := h1.c 3 _ rfl; have c14 := h1.c 4 _ rfl; have c15 := h1.c 5 _ rfl; go_simp; with_reducible rfl)
   simp only [Act.put, List.setIfInBounds_toArray, List.set_cons_zero, List.set_cons_succ]
   refine wpAnyK_take 39 70 (v := ?v39) rfl (by kernel_rfl) (by kernel_rfl) (by kernel_rfl) (by kernel_rfl) (by kernel_rfl) (fun _ _ _ h => h) rfl (Or.inl ⟨by rfl, ?h39⟩) (by assumption) ?r39
   case h39 => (intro w hSw; obtain ⟨h0, h1⟩ := hSw; have c00 := h0.c 0 _ rfl; have c01 := h0.c 1 _ rfl; have c02 := h0.c 2 _ rfl; have c03 := h0.c 3 _ rfl; have c04 := h0.c 4 _ rfl; have c05 := h0.c 5 _ rfl; have c10 := h1.c 0 _ rfl; have c11 := h1.c 1 _ rfl; have c12 := h1.c 2 _ rfl; have c13 := h1.c 3 _ rfl; have c14 := h1.c 4 _ rfl; have c15 := h1.c 5 _ rfl; go_simp; with_reducible rfl)
   simp only [Act.put, List.setIfInBounds_toArray, List.set_cons_zero, List.set_cons_succ]
   have GZ : Hid (∀ V, V = Ch.s6 wrk2 (A + 1 + 1) (.int .u8 1) (.complex .f64 p p') (.complex .f64 q q') (.complex .f64 r r') (.complex .f64 s s') (.float .f64 0) → Ch.Bl V (A) [.int .u8 1, .complex .f64 a a', .complex .f64 b b', .complex .f64 c c', .complex .f64 d d', .float .f64 0] ∧ Ch.Bl V (A + 1) [.int .u8 1, .complex .f64 e e', .complex .f64 f f', .complex .f64 g g', .complex .f64 h h', .float .f64 0] ∧ Ch.Bl V (A + 1 + 1) [.int .u8 1, .complex .f64 p p', .complex .f64 q q', .complex .f64 r r', .complex .f64 s s', .float .f64 0] ∧ Bw w V) := by
    rintro V rfl
    exact ⟨Ch.s6_off Gk2.out.1 (by omega) _ _ _ _ _ _, Ch.s6_off Gk2.out.2.1 (by omega) _ _ _ _ _ _, Ch.s6_at Gk2.out.2.2.1 _ _ _ _ _ _, Ch.s6_bw Gk2.out.2.2.2 (by have := HA.out; omega) _ _ _ _ _ _⟩
   have q0 := (Gk2.out.2.2.1).c 0 _ rfl
   have r0 := (Gk2.out.2.2.1).fz 0
   have q1 := (Gk2.out.2.2.1).c 1 _ rfl
   have r1 := (Gk2.out.2.2.1).fz 1
   have q2 := (Gk2.out.2.2.1).c 2 _ rfl
   have r2 := (Gk2.out.2.2.1).fz 2
   have q3 := (Gk2.out.2.2.1).c 3 _ rfl
   have r3 := (Gk2.out.2.2.1).fz 3
   have q4 := (Gk2.out.2.2.1).c 4 _ rfl
   have r4 := (Gk2.out.2.2.1).fz 4
   have q5 := (Gk2.out.2.2.1).c 5 _ rfl
   have r5 := (Gk2.out.2.2.1).fz 5
   refine wpAnyK_one 40 (by kernel_rfl) rfl (fun K hK => ?_)
   go_simp
   obtain ⟨wrk3, hV⟩ : ∃ V, V = Ch.s6 wrk2 (A + 1 + 1) (.int .u8 1) (.complex .f64 p p') (.complex .f64 q q') (.complex .f64 r r') (.complex .f64 s s') (.float .f64 0) := ⟨_, rfl⟩
   have Gk3 := hide (GZ.out _ hV)
   unfold Ch.s6 at hV
   rw [← hV]
   clear hV GZ q0 r0 q1 r1 q2 r2 q3 r3 q4 r4 q5 r5
   clear Gk2S
   have Gk3S : Ch.Bl wrk3 (A) [.int .u8 1, .complex .f64 a a', .complex .f64 b b', .complex .f64 c c', .complex .f64 d d', .float .f64 0] ∧ Ch.Bl wrk3 (A + 1) [.int .u8 1, .complex .f64 e e', .complex .f64 f f', .complex .f64 g g', .complex .f64 h h', .float .f64 0] := ⟨Gk3.out.1, Gk3.out.2.1⟩
   refine hK.out _ _ (fun _ _ => Gk3S) ?_
   clear hK K
   simp only [List.setIfInBounds_toArray, List.set_cons_zero, List.set_cons_succ]
   refine wpAnyK_one 41 (by kernel_rfl) rfl (fun K hK => ?_)
   go_simp
   refine hK.out _ _ (fun h => absurd rfl h) ?_
   clear hK K
   simp only [List.setIfInBounds_toArray, List.set_cons_zero, List.set_cons_succ]
   refine wpAnyK_done (by kernel_rfl) ?_ _
   go_wp2
   refine bodyPost_ret (Ch.res_map2 rfl _ _ (A + 1 + 1) rfl Gk3.out.2.2.1) rfl ?_
   exact ⟨rfl, Gk3.out.2.2.2⟩
end Go.Proofs.YtfgfofedacehiaaGreat

