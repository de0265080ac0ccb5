/-
 OWN TEXT: package chart over whole numbers: where a place comes to.
-/
import Derived.Test.YtfgfofedacehiaaGreatJChCToChE
import Derived.Test.YtfgfofedacehiaaGreatJPyGToZqL
import Derived.Test.YtfgfofedacehiaaGreatJXxAToXxH
import Derived.Test.YtfgfofedacehiaaGreatJEoAToFnSame
namespace Go.Proofs.YtfgfofedacehiaaGreat
open Go.ChangeShapes Go.WideShapes Go.ChangeAt Go.RowKit
set_option linter.unusedVariables false
set_option linter.unusedSimpArgs false
attribute [local go_sem] Ch.run_store_fn Ch.run_store_nf frombits_call tobits_call run_neg El.run_store_cx El.run_store_fl
set_option maxRecDepth 1000000 in
theorem kinds18 (w : World) : Calls Tryz.prog 42 #[] w fun e w' => e = .returned (.agg #[.nilFunc, .nilFunc, .nilFunc, .nilFunc, .func (.func 62) #[] #[], .func (.func 63) #[] #[], .func (.func 64) #[] #[], .func (.func 65) #[] #[], .func (.func 66) #[] #[], .func (.func 67) #[] #[], .func (.func 68) #[] #[], .func (.func 69) #[] #[], .func (.func 70) #[] #[], .func (.func 71) #[] #[], .func (.func 72) #[] #[], .func (.func 73) #[] #[], .func (.func 74) #[] #[], .func (.func 75) #[] #[], .func (.func 76) #[] #[], .func (.func 77) #[] #[]]) ∧ Bw w w' :=
 xevaluated exF_ok plainX mixedX (by decide) kpF hsF 100000 40 (args := []) (v := .agg #[.nilFunc, .nilFunc, .nilFunc, .nilFunc, .func (.func 62) #[] #[], .func (.func 63) #[] #[], .func (.func 64) #[] #[], .func (.func 65) #[] #[], .func (.func 66) #[] #[], .func (.func 67) #[] #[], .func (.func 68) #[] #[], .func (.func 69) #[] #[], .func (.func 70) #[] #[], .func (.func 71) #[] #[], .func (.func 72) #[] #[], .func (.func 73) #[] #[], .func (.func 74) #[] #[], .func (.func 75) #[] #[], .func (.func 76) #[] #[], .func (.func 77) #[] #[]]) rfl rfl (by decide +kernel) w (fun g l h => by cases h) (fun g l h => by cases h)
theorem idx75 (w : World) : (Instr.index 75 (.agg #[.nilFunc, .nilFunc, .nilFunc, .nilFunc, .func (.func 62) #[] #[], .func (.func 63) #[] #[], .func (.func 64) #[] #[], .func (.func 65) #[] #[], .func (.func 66) #[] #[], .func (.func 67) #[] #[], .func (.func 68) #[] #[], .func (.func 69) #[] #[], .func (.func 70) #[] #[], .func (.func 71) #[] #[], .func (.func 72) #[] #[], .func (.func 73) #[] #[], .func (.func 74) #[] #[], .func (.func 75) #[] #[], .func (.func 76) #[] #[], .func (.func 77) #[] #[]]) (.int .u8 1)).run Tryz.prog w = .ok (.agg #[.func (.func 62) #[] #[], .func (.func 63) #[] #[], .func (.func 64) #[] #[], .func (.func 65) #[] #[]]) w := by kernel_rfl
theorem idx74 (w : World) : (Instr.index 74 (.agg #[.func (.func 62) #[] #[], .func (.func 63) #[] #[], .func (.func 64) #[] #[], .func (.func 65) #[] #[]]) (.int .i64 0)).run Tryz.prog w = .ok (.func (.func 62) #[] #[]) w := by kernel_rfl
attribute [local go_sem] idx75 idx74
set_option maxHeartbeats 4000000 in
theorem below18 {z z' K : Nat} {g : Py.G} {a a' b b' c c' d d' M : Nat} {m : Ch.Mq} (hm : Ch.W8 a a' b b' c c' d d' m) (lm : Ch.Lq m M) (hz : wC 1074 z z' g) (lz : Py.Le g K) (hs : M * K + M ≤ 9007199254740992) : ∃ r s, wC 1074 r s (Ch.lo m g) ∧ ∀ w, Calls Tryz.prog 86 #[.agg #[.int .u8 1, .complex .f64 a a', .complex .f64 b b', .complex .f64 c c', .complex .f64 d d', .float .f64 0], .complex .f64 z z'] w fun e w' => e = .returned (.complex .f64 r s) ∧ Bw w w' := by
 obtain ⟨p, p', h1, c1⟩ := pmul8 rfl hm.2.2.1 hz lm.2.2.1 lz (by omega)
 obtain ⟨r, s, h2, c2⟩ := padd8 rfl h1 hm.2.2.2 (lm.2.2.1.mul lz) lm.2.2.2 hs
 refine ⟨r, s, h2, fun w => ?_⟩
 have C1 := hide c1
 have C2 := hide c2
 clear c1 c2 h1 h2 hm lm hz lz hs
 have g1 := Ch.Bl.new w #[.int .u8 1, .complex .f64 a a', .complex .f64 b b', .complex .f64 c c', .complex .f64 d d', .float .f64 0] 61
 have z1 : (w.alloc (.cells #[.int .u8 1, .complex .f64 a a', .complex .f64 b b', .complex .f64 c c', .complex .f64 d d', .float .f64 0] 61)).heap.size = w.heap.size + 1 := by simp
 have b1 := bw_alloc w (.cells #[.int .u8 1, .complex .f64 a a', .complex .f64 b b', .complex .f64 c c', .complex .f64 d d', .float .f64 0] 61)
 obtain ⟨W1, hW1⟩ : ∃ v, w.alloc (.cells #[.int .u8 1, .complex .f64 a a', .complex .f64 b b', .complex .f64 c c', .complex .f64 d d', .float .f64 0] 61) = v := ⟨_, rfl⟩
 rw [hW1] at g1 z1 b1
 have GG : Hid (Ch.Bl W1 (w.heap.size) [.int .u8 1, .complex .f64 a a', .complex .f64 b b', .complex .f64 c c', .complex .f64 d d', .float .f64 0] ∧ Bw w W1) := ⟨(show Ch.Bl _ (w.heap.size) _ from g1), b1⟩
 have HW := hide (hW1)
 clear g1 b1 z1 hW1
 go_enter Tryz.func86, Tryz.ntmps86
 go_wp2_with fail
 rw [HW.out]
 obtain ⟨A, hA⟩ : ∃ A, w.heap.size = A := ⟨_, rfl⟩
 rw [hA] at GG ⊢
 have HA := hide hA
 refine wp_region_K (fun w' => Ch.Bl w' (A) [.int .u8 1, .complex .f64 a a', .complex .f64 b b', .complex .f64 c c', .complex .f64 d d', .float .f64 0]) 7 8 #[false, false, false, false, false, false, false, false] (by kernel_rfl) (by kernel_rfl) (by kernel_rfl) ?_
 have GGd : Hid (Ch.Bl W1.drew (A) [.int .u8 1, .complex .f64 a a', .complex .f64 b b', .complex .f64 c c', .complex .f64 d d', .float .f64 0] ∧ Bw w W1.drew) := ⟨GG.out.1.bw (Bw.refl W1).drew, bw_trans GG.out.2 (Bw.refl W1).drew⟩
 generalize W1.drew = W1d at *
 have GGS : Ch.Bl W1d (A) [.int .u8 1, .complex .f64 a a', .complex .f64 b b', .complex .f64 c c', .complex .f64 d d', .float .f64 0] := GGd.out.1
 refine wpAnyK_take 0 5 (v := ?v0) rfl (by kernel_rfl) (by kernel_rfl) (by kernel_rfl) (by kernel_rfl) (by kernel_rfl) (fun _ _ _ h => h) rfl (Or.inl ⟨by rfl, ?h0⟩) (by assumption) ?r0
 case h0 => (intro w hSw; have h0 := hSw; have c00 := h0.c 0 _ rfl; have c01 := h0.c 1 _ rfl; have c02 := h0.c 2 _ rfl; have c03 := h0.c 3 _ rfl; have c04 := h0.c 4 _ rfl; have c05 := h0.c 5 _ rfl; go_simp; with_reducible rfl)
 simp only [Act.put, List.setIfInBounds_toArray, List.set_cons_zero, List.set_cons_succ]
 refine wpAnyK_take 1 6 (v := ?v1) rfl (by kernel_rfl) (by kernel_rfl) (by kernel_rfl) (by kernel_rfl) (by kernel_rfl) (fun _ _ _ h => h) rfl (Or.inl ⟨by rfl, ?h1⟩) (by assumption) ?r1
 case h1 => (intro w hSw; have h0 := hSw; have c00 := h0.c 0 _ rfl; have c01 := h0.c 1 _ rfl; have c02 := h0.c 2 _ rfl; have c03 := h0.c 3 _ rfl; have c04 := h0.c 4 _ rfl; have c05 := h0.c 5 _ rfl; go_simp; with_reducible rfl)
 simp only [Act.put, List.setIfInBounds_toArray, List.set_cons_zero, List.set_cons_succ]
 refine wpAnyK_take 2 7 (v := ?v2) rfl (by kernel_rfl) (by kernel_rfl) (by kernel_rfl) (by kernel_rfl) (by kernel_rfl) (fun _ _ _ h => h) rfl (Or.inl ⟨by rfl, ?h2⟩) (by assumption) ?r2
 case h2 => (intro w hSw; have h0 := hSw; have c00 := h0.c 0 _ rfl; have c01 := h0.c 1 _ rfl; have c02 := h0.c 2 _ rfl; have c03 := h0.c 3 _ rfl; have c04 := h0.c 4 _ rfl; have c05 := h0.c 5 _ rfl; go_simp; with_reducible rfl)
 simp only [Act.put, List.setIfInBounds_toArray, List.set_cons_zero, List.set_cons_succ]
 refine wpAnyK_take 4 9 (v := ?v4) rfl (by kernel_rfl) (by kernel_rfl) (by kernel_rfl) (by kernel_rfl) (by kernel_rfl) (fun _ _ _ h => h) rfl (Or.inl ⟨by rfl, ?h4⟩) (by assumption) ?r4
 case h4 => (intro w hSw; have h0 := hSw; have c00 := h0.c 0 _ rfl; have c01 := h0.c 1 _ rfl; have c02 := h0.c 2 _ rfl; have c03 := h0.c 3 _ rfl; have c04 := h0.c 4 _ rfl; have c05 := h0.c 5 _ rfl; go_simp; with_reducible rfl)
 simp only [Act.put, List.setIfInBounds_toArray, List.set_cons_zero, List.set_cons_succ]
 refine wpAnyK_take 5 10 (v := ?v5) rfl (by kernel_rfl) (by kernel_rfl) (by kernel_rfl) (by kernel_rfl) (by kernel_rfl) (fun _ _ _ h => h) rfl (Or.inl ⟨by rfl, ?h5⟩) (by assumption) ?r5
 case h5 => (intro w hSw; have h0 := hSw; have c00 := h0.c 0 _ rfl; have c01 := h0.c 1 _ rfl; have c02 := h0.c 2 _ rfl; have c03 := h0.c 3 _ rfl; have c04 := h0.c 4 _ rfl; have c05 := h0.c 5 _ rfl; go_simp; with_reducible rfl)
 simp only [Act.put, List.setIfInBounds_toArray, List.set_cons_zero, List.set_cons_succ]
 refine wpAnyK_one 3 (by kernel_rfl) rfl (fun K hK => ?_)
 go_simp
 refine (C1.out _).mono ?_
 rintro e' w' ⟨rfl, rfl⟩
 refine hK.out _ _ (fun _ _ => GGS) ?_
 clear hK K
 simp only [List.setIfInBounds_toArray, List.set_cons_zero, List.set_cons_succ]
 refine wpAnyK_one 6 (by kernel_rfl) rfl (fun K hK => ?_)
 go_simp
 refine (C2.out _).mono ?_
 rintro e' w' ⟨rfl, rfl⟩
 refine hK.out _ _ (fun _ _ => GGS) ?_
 clear hK K
 simp only [List.setIfInBounds_toArray, List.set_cons_zero, List.set_cons_succ]
 refine wpAnyK_one 7 (by kernel_rfl) rfl (fun K hK => ?_)
 go_simp
 refine hK.out _ _ (fun h => absurd rfl h) ?_
 clear hK K
 simp only [List.setIfInBounds_toArray, List.set_cons_zero, List.set_cons_succ]
 refine wpAnyK_done (by kernel_rfl) ?_ _
 go_wp2
 go_ret
 exact ⟨rfl, GGd.out.2⟩
set_option maxHeartbeats 4000000 in
theorem moeb18 {a a' b b' c c' d d' z z' : Nat} {t t' p p' u u' : Nat} {Q : Nat → Nat → Prop}
  (BE : Hid (∀ wz, Calls Tryz.prog 86 #[.agg #[.int .u8 1, .complex .f64 a a', .complex .f64 b b', .complex .f64 c c', .complex .f64 d d', .float .f64 0], .complex .f64 z z'] wz fun e w' => e = .returned (.complex .f64 t t') ∧ Bw wz w')) (NO : Hid (∀ wz, Calls Tryz.prog 40 #[.complex .f64 t t'] wz fun e w' => e = .returned (.bool false) ∧ w' = wz))
  (M1 : Hid (∀ wz, Calls Tryz.prog 19 #[.complex .f64 a a', .complex .f64 z z'] wz fun e w' => e = .returned (.complex .f64 p p') ∧ w' = wz)) (AD : Hid (∀ wz, Calls Tryz.prog 58 #[.complex .f64 p p', .complex .f64 b b'] wz fun e w' => e = .returned (.complex .f64 u u') ∧ w' = wz)) (DV : Hid (∀ wz, Calls Tryz.prog 41 #[.complex .f64 u u', .complex .f64 t t'] wz fun e w' => ∃ x y, e = .returned (.complex .f64 x y) ∧ Q x y ∧ Bw wz w'))
  (w : World) : Calls Tryz.prog 62 #[.agg #[.int .u8 1, .complex .f64 a a', .complex .f64 b b', .complex .f64 c c', .complex .f64 d d', .float .f64 0], .complex .f64 z z'] w fun e w' => ∃ x y, e = .returned (.tuple #[.complex .f64 x y, .int .i64 0]) ∧ Q x y ∧ Bw w w' := by
 have g1 := Ch.Bl.new w #[.int .u8 1, .complex .f64 a a', .complex .f64 b b', .complex .f64 c c', .complex .f64 d d', .float .f64 0] 61
 have z1 : (w.alloc (.cells #[.int .u8 1, .complex .f64 a a', .complex .f64 b b', .complex .f64 c c', .complex .f64 d d', .float .f64 0] 61)).heap.size = w.heap.size + 1 := by simp
 have b1 := bw_alloc w (.cells #[.int .u8 1, .complex .f64 a a', .complex .f64 b b', .complex .f64 c c', .complex .f64 d d', .float .f64 0] 61)
 obtain ⟨W1, hW1⟩ : ∃ v, w.alloc (.cells #[.int .u8 1, .complex .f64 a a', .complex .f64 b b', .complex .f64 c c', .complex .f64 d d', .float .f64 0] 61) = v := ⟨_, rfl⟩
 rw [hW1] at g1 z1 b1
 have GG : Hid (Ch.Bl W1 (w.heap.size) [.int .u8 1, .complex .f64 a a', .complex .f64 b b', .complex .f64 c c', .complex .f64 d d', .float .f64 0] ∧ Bw w W1) := ⟨(show Ch.Bl _ (w.heap.size) _ from g1), b1⟩
 have HW := hide (hW1)
 clear g1 b1 z1 hW1
 go_enter Tryz.func62, Tryz.ntmps62
 go_wp2_with fail
 rw [HW.out]
 obtain ⟨A, hA⟩ : ∃ A, w.heap.size = A := ⟨_, rfl⟩
 rw [hA] at GG ⊢
 have HA := hide hA
 have GGS := True.intro
 refine (BE.out _).mono ?_
 rintro e' w3 ⟨rfl, bb⟩
 have G3 : Hid (Ch.Bl w3 (A) [.int .u8 1, .complex .f64 a a', .complex .f64 b b', .complex .f64 c c', .complex .f64 d d', .float .f64 0] ∧ Bw w w3) := ⟨GG.out.1.bw bb, bw_trans GG.out.2 bb⟩
 clear bb GGS
 have G3S : Ch.Bl w3 (A) [.int .u8 1, .complex .f64 a a', .complex .f64 b b', .complex .f64 c c', .complex .f64 d d', .float .f64 0] := G3.out.1
 go_wp2_with fail
 refine (NO.out _).mono ?_
 rintro e' w' ⟨rfl, rfl⟩
 go_wp2_with fail
 refine wp_region_K (fun w' => Ch.Bl w' (A) [.int .u8 1, .complex .f64 a a', .complex .f64 b b', .complex .f64 c c', .complex .f64 d d', .float .f64 0]) 10 11 #[false, false, false, false, false, false, false, false, false, false, false] (by kernel_rfl) (by kernel_rfl) (by kernel_rfl) ?_
 have G3d : Hid (Ch.Bl w'.drew (A) [.int .u8 1, .complex .f64 a a', .complex .f64 b b', .complex .f64 c c', .complex .f64 d d', .float .f64 0] ∧ Bw w w'.drew) := ⟨G3.out.1.bw (Bw.refl w').drew, bw_trans G3.out.2 (Bw.refl w').drew⟩
 generalize w'.drew = wd at *
 have G3S : Ch.Bl wd (A) [.int .u8 1, .complex .f64 a a', .complex .f64 b b', .complex .f64 c c', .complex .f64 d d', .float .f64 0] := G3d.out.1
 refine wpAnyK_take 0 12 (v := ?v0) rfl (by kernel_rfl) (by kernel_rfl) (by kernel_rfl) (by kernel_rfl) (by kernel_rfl) (fun _ _ _ h => h) rfl (Or.inl ⟨by rfl, ?h0⟩) (by assumption) ?r0
 case h0 => (intro w hSw; have h0 := hSw; have c00 := h0.c 0 _ rfl; have c01 := h0.c 1 _ rfl; have c02 := h0.c 2 _ rfl; have c03 := h0.c 3 _ rfl; have c04 := h0.c 4 _ rfl; have c05 := h0.c 5 _ rfl; go_simp; with_reducible rfl)
 simp only [Act.put, List.setIfInBounds_toArray, List.set_cons_zero, List.set_cons_succ]
 refine wpAnyK_take 1 13 (v := ?v1) rfl (by kernel_rfl) (by kernel_rfl) (by kernel_rfl) (by kernel_rfl) (by kernel_rfl) (fun _ _ _ h => h) rfl (Or.inl ⟨by rfl, ?h1⟩) (by assumption) ?r1
 case h1 => (intro w hSw; have h0 := hSw; have c00 := h0.c 0 _ rfl; have c01 := h0.c 1 _ rfl; have c02 := h0.c 2 _ rfl; have c03 := h0.c 3 _ rfl; have c04 := h0.c 4 _ rfl; have c05 := h0.c 5 _ rfl; go_simp; with_reducible rfl)
 simp only [Act.put, List.setIfInBounds_toArray, List.set_cons_zero, List.set_cons_succ]
 refine wpAnyK_take 2 14 (v := ?v2) rfl (by kernel_rfl) (by kernel_rfl) (by kernel_rfl) (by kernel_rfl) (by kernel_rfl) (fun _ _ _ h => h) rfl (Or.inl ⟨by rfl, ?h2⟩) (by assumption) ?r2
 case h2 => (intro w hSw; have h0 := hSw; have c00 := h0.c 0 _ rfl; have c01 := h0.c 1 _ rfl; have c02 := h0.c 2 _ rfl; have c03 := h0.c 3 _ rfl; have c04 := h0.c 4 _ rfl; have c05 := h0.c 5 _ rfl; go_simp; with_reducible rfl)
 simp only [Act.put, List.setIfInBounds_toArray, List.set_cons_zero, List.set_cons_succ]
 refine wpAnyK_take 4 16 (v := ?v4) rfl (by kernel_rfl) (by kernel_rfl) (by kernel_rfl) (by kernel_rfl) (by kernel_rfl) (fun _ _ _ h => h) rfl (Or.inl ⟨by rfl, ?h4⟩) (by assumption) ?r4
 case h4 => (intro w hSw; have h0 := hSw; have c00 := h0.c 0 _ rfl; have c01 := h0.c 1 _ rfl; have c02 := h0.c 2 _ rfl; have c03 := h0.c 3 _ rfl; have c04 := h0.c 4 _ rfl; have c05 := h0.c 5 _ rfl; go_simp; with_reducible rfl)
 simp only [Act.put, List.setIfInBounds_toArray, List.set_cons_zero, List.set_cons_succ]
 refine wpAnyK_take 5 17 (v := ?v5) rfl (by kernel_rfl) (by kernel_rfl) (by kernel_rfl) (by kernel_rfl) (by kernel_rfl) (fun _ _ _ h => h) rfl (Or.inl ⟨by rfl, ?h5⟩) (by assumption) ?r5
 case h5 => (intro w hSw; have h0 := hSw; have c00 := h0.c 0 _ rfl; have c01 := h0.c 1 _ rfl; have c02 := h0.c 2 _ rfl; have c03 := h0.c 3 _ rfl; have c04 := h0.c 4 _ rfl; have c05 := h0.c 5 _ rfl; go_simp; with_reducible rfl)
 simp only [Act.put, List.setIfInBounds_toArray, List.set_cons_zero, List.set_cons_succ]
 refine wpAnyK_take 7 19 (v := ?v7) rfl (by kernel_rfl) (by kernel_rfl) (by kernel_rfl) (by kernel_rfl) (by kernel_rfl) (fun _ _ _ h => h) rfl (Or.inl ⟨by rfl, ?h7⟩) (by assumption) ?r7
 case h7 => (intro w hSw; have h0 := hSw; have c00 := h0.c 0 _ rfl; have c01 := h0.c 1 _ rfl; have c02 := h0.c 2 _ rfl; have c03 := h0.c 3 _ rfl; have c04 := h0.c 4 _ rfl; have c05 := h0.c 5 _ rfl; go_simp; with_reducible rfl)
 simp only [Act.put, List.setIfInBounds_toArray, List.set_cons_zero, List.set_cons_succ]
 refine wpAnyK_one 3 (by kernel_rfl) rfl (fun K hK => ?_)
 go_simp
 refine (M1.out _).mono ?_
 rintro e' w' ⟨rfl, rfl⟩
 refine hK.out _ _ (fun _ _ => G3S) ?_
 clear hK K
 simp only [List.setIfInBounds_toArray, List.set_cons_zero, List.set_cons_succ]
 refine wpAnyK_one 6 (by kernel_rfl) rfl (fun K hK => ?_)
 go_simp
 refine (AD.out _).mono ?_
 rintro e' w' ⟨rfl, rfl⟩
 refine hK.out _ _ (fun _ _ => G3S) ?_
 clear hK K
 simp only [List.setIfInBounds_toArray, List.set_cons_zero, List.set_cons_succ]
 refine wpAnyK_one 8 (by kernel_rfl) rfl (fun K hK => ?_)
 go_simp
 refine (DV.out _).mono ?_
 rintro e' wmk1 ⟨X, Y, rfl, hq, bb⟩
 have G3mk1 : Hid (Ch.Bl wmk1 (A) [.int .u8 1, .complex .f64 a a', .complex .f64 b b', .complex .f64 c c', .complex .f64 d d', .float .f64 0] ∧ Bw w wmk1) := ⟨G3d.out.1.bw bb, bw_trans G3d.out.2 bb⟩
 clear bb G3S
 have G3mk1S : Ch.Bl wmk1 (A) [.int .u8 1, .complex .f64 a a', .complex .f64 b b', .complex .f64 c c', .complex .f64 d d', .float .f64 0] := G3mk1.out.1
 refine hK.out _ _ (fun _ _ => G3mk1S) ?_
 clear hK K
 simp only [List.setIfInBounds_toArray, List.set_cons_zero, List.set_cons_succ]
 refine wpAnyK_one 9 (by kernel_rfl) rfl (fun K hK => ?_)
 go_simp
 refine hK.out _ _ (fun _ _ => G3mk1S) ?_
 clear hK K
 simp only [List.setIfInBounds_toArray, List.set_cons_zero, List.set_cons_succ]
 refine wpAnyK_one 10 (by kernel_rfl) rfl (fun K hK => ?_)
 go_simp
 refine hK.out _ _ (fun h => absurd rfl h) ?_
 clear hK K
 simp only [List.setIfInBounds_toArray, List.set_cons_zero, List.set_cons_succ]
 refine wpAnyK_done (by kernel_rfl) ?_ _
 go_wp2
 refine bodyPost_ret (results_tmp2 rfl _ _ _) rfl ?_
 exact ⟨X, Y, rfl, hq, G3mk1.out.2⟩
end Go.Proofs.YtfgfofedacehiaaGreat

