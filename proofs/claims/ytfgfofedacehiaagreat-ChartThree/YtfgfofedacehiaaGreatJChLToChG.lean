/-
 OWN TEXT: package chart over whole numbers: where a place comes to.
-/
import Derived.Test.YtfgfofedacehiaaGreatJChE
import Derived.Test.YtfgfofedacehiaaGreatJZqL
import Derived.Test.YtfgfofedacehiaaGreatJXxAToXxH
import Derived.Test.YtfgfofedacehiaaGreatJEoA
namespace Go.Proofs.YtfgfofedacehiaaGreat
open Go.ChangeShapes Go.WideShapes Go.ChangeAt Go.RowKit
set_option linter.unusedVariables false
set_option linter.unusedSimpArgs false
attribute [local go_sem] Ch.run_store_fn Ch.run_store_nf frombits_call tobits_call run_neg El.run_store_cx El.run_store_fl
set_option maxRecDepth 1000000 in
theorem kinds18 (w : World) : Calls Tryz.prog 42 #[] w fun e w' => e = .returned (.agg #[.nilFunc, .nilFunc, .nilFunc, .nilFunc, .func (.func 62) #[] #[], .func (.func 63) #[] #[], .func (.func 64) #[] #[], .func (.func 65) #[] #[], .func (.func 66) #[] #[], .func (.func 67) #[] #[], .func (.func 68) #[] #[], .func (.func 69) #[] #[], .func (.func 70) #[] #[], .func (.func 71) #[] #[], .func (.func 72) #[] #[], .func (.func 73) #[] #[], .func (.func 74) #[] #[], .func (.func 75) #[] #[], .func (.func 76) #[] #[], .func (.func 77) #[] #[]]) ∧ Bw w w' :=
 xevaluated exF_ok plainX mixedX (by decide) kpF hsF 100000 40 (args := []) (v := .agg #[.nilFunc, .nilFunc, .nilFunc, .nilFunc, .func (.func 62) #[] #[], .func (.func 63) #[] #[], .func (.func 64) #[] #[], .func (.func 65) #[] #[], .func (.func 66) #[] #[], .func (.func 67) #[] #[], .func (.func 68) #[] #[], .func (.func 69) #[] #[], .func (.func 70) #[] #[], .func (.func 71) #[] #[], .func (.func 72) #[] #[], .func (.func 73) #[] #[], .func (.func 74) #[] #[], .func (.func 75) #[] #[], .func (.func 76) #[] #[], .func (.func 77) #[] #[]]) rfl rfl (by decide +kernel) w (fun g l h => by cases h) (fun g l h => by cases h)
theorem idx75 (w : World) : (Instr.index 75 (.agg #[.nilFunc, .nilFunc, .nilFunc, .nilFunc, .func (.func 62) #[] #[], .func (.func 63) #[] #[], .func (.func 64) #[] #[], .func (.func 65) #[] #[], .func (.func 66) #[] #[], .func (.func 67) #[] #[], .func (.func 68) #[] #[], .func (.func 69) #[] #[], .func (.func 70) #[] #[], .func (.func 71) #[] #[], .func (.func 72) #[] #[], .func (.func 73) #[] #[], .func (.func 74) #[] #[], .func (.func 75) #[] #[], .func (.func 76) #[] #[], .func (.func 77) #[] #[]]) (.int .u8 1)).run Tryz.prog w = .ok (.agg #[.func (.func 62) #[] #[], .func (.func 63) #[] #[], .func (.func 64) #[] #[], .func (.func 65) #[] #[]]) w := by kernel_rfl
theorem idx74 (w : World) : (Instr.index 74 (.agg #[.func (.func 62) #[] #[], .func (.func 63) #[] #[], .func (.func 64) #[] #[], .func (.func 65) #[] #[]]) (.int .i64 0)).run Tryz.prog w = .ok (.func (.func 62) #[] #[]) w := by kernel_rfl
attribute [local go_sem] idx75 idx74
set_option maxHeartbeats 4000000 in
theorem below18 {z z' K : Nat} {g : Py.G} {a a' b b' c c' d d' M : Nat} {m : Ch.Mq} (hm : Ch.W8 a a' b b' c c' d d' m) (lm : Ch.Lq m M) (hz : wC 1074 z z' g) (lz : Py.Le g K) (hs : M * K + M ≤ 9007199254740992) : ∃ r s, wC 1074 r s (Ch.lo m g) ∧ ∀ w, Calls Tryz.prog 86 #[.agg #[.int .u8 1, .complex .f64 a a', .complex .f64 b b', .complex .f64 c c', .complex .f64 d d', .float .f64 0], .complex .f64 z z'] w fun e w' => e = .returned (.complex .f64 r s) ∧ Bw w w' := by
 obtain ⟨p, p', h1, c1⟩ := pmul8 rfl hm.2.2.1 hz lm.2.2.1 lz (by omega)
 obtain ⟨r, s, h2, c2⟩ := padd8 rfl h1 hm.2.2.2 (lm.2.2.1.mul lz) lm.2.2.2 hs
 refine ⟨r, s, h2, fun w => ?_⟩
 have C1 := hide c1
 have C2 := hide c2
 clear c1 c2 h1 h2 hm lm hz lz hs
 have g1 := Ch.Bl.new w #[.int .u8 1, .complex .f64 a a', .complex .f64 b b', .complex .f64 c c', .complex .f64 d d', .float .f64 0] 61
 have z1 : (w.alloc (.cells #[.int .u8 1, .complex .f64 a a', .complex .f64 b b', .complex .f64 c c', .complex .f64 d d', .float .f64 0] 61)).heap.size = w.heap.size + 1 := by simp
 have b1 := bw_alloc w (.cells #[.int .u8 1, .complex .f64 a a', .complex .f64 b b', .complex .f64 c c', .complex .f64 d d', .float .f64 0] 61)
 obtain ⟨W1, hW1⟩ : ∃ v, w.alloc (.cells #[.int .u8 1, .complex .f64 a a', .complex .f64 b b', .complex .f64 c c', .complex .f64 d d', .float .f64 0] 61) = v := ⟨_, rfl⟩
 rw [hW1] at g1 z1 b1
 have GG : Hid (Ch.Bl W1 (w.heap.size) [.int .u8 1, .complex .f64 a a', .complex .f64 b b', .complex .f64 c c', .complex .f64 d d', .float .f64 0] ∧ Bw w W1) := ⟨(show Ch.Bl _ (w.heap.size) _ from g1), b1⟩
 have HW := hide (hW1)
 clear g1 b1 z1 hW1
 go_enter Tryz.func86, Tryz.ntmps86
 go_wp2_with fail
 rw [HW.out]
 obtain ⟨A, hA⟩ : ∃ A, w.heap.size = A := ⟨_, rfl⟩
 rw [hA] at GG ⊢
 have HA := hide hA
 refine wp_region_K (fun w' => Ch.Bl w' (A) [.int .u8 1, .complex .f64 a a', .complex .f64 b b', .complex .f64 c c', .complex .f64 d d', .float .f64 0]) 7 8 #[false, false, false, false, false, false, false, false] (by kernel_rfl) (by kernel_rfl) (by kernel_rfl) ?_
 have GGd : Hid (Ch.Bl W1.drew (A) [.int .u8 1, .complex .f64 a a', .complex .f64 b b', .complex .f64 c c', .complex .f64 d d', .float .f64 0] ∧ Bw w W1.drew) := ⟨GG.out.1.bw (Bw.refl W1).drew, bw_trans GG.out.2 (Bw.refl W1).drew⟩
 generalize W1.drew = W1d at *
 have GGS : Ch.Bl W1d (A) [.int .u8 1, .complex .f64 a a', .complex .f64 b b', .complex .f64 c c', .complex .f64 d d', .float .f64 0] := GGd.out.1
 refine wpAnyK_take 0 5 (v := ?v0) rfl (by kernel_rfl) (by kernel_rfl) (by kernel_rfl) (by kernel_rfl) (by kernel_rfl) (fun _ _ _ h => h) rfl (Or.inl ⟨by rfl, ?h0⟩) (by assumption) ?r0
 case h0 => (intro w hSw; have h0 := hSw; have c00 := h0.c 0 _ rfl; have c01 := h0.c 1 _ rfl; have c02 := h0.c 2 _ rfl; have c03 := h0.c 3 _ rfl; have c04 := h0.c 4 _ rfl; have c05 := h0.c 5 _ rfl; go_simp; with_reducible rfl)
 simp only [Act.put, List.setIfInBounds_toArray, List.set_cons_zero, List.set_cons_succ]
 refine wpAnyK_take 1 6 (v := ?v1) rfl (by kernel_rfl) (by kernel_rfl) (by kernel_rfl) (by kernel_rfl) (by kernel_rfl) (fun _ _ _ h => h) rfl (Or.inl ⟨by rfl, ?h1⟩) (by assumption) ?r1
 case h1 => (intro w hSw; have h0 := hSw; have c00 := h0.c 0 _ rfl; have c01 := h0.c 1 _ rfl; have c02 := h0.c 2 _ rfl; have c03 := h0.c 3 _ rfl; have c04 := h0.c 4 _ rfl; have c05 := h0.c 5 _ rfl; go_simp; with_reducible rfl)
 simp only [Act.put, List.setIfInBounds_toArray, List.set_cons_zero, List.set_cons_succ]
 refine wpAnyK_take 2 7 (v := ?v2) rfl (by kernel_rfl) (by kernel_rfl) (by kernel_rfl) (by kernel_rfl) (by kernel_rfl) (fun _ _ _ h => h) rfl (Or.inl ⟨by rfl, ?h2⟩) (by assumption) ?r2
 case h2 => (intro w hSw; have h0 := hSw; have c00 := h0.c 0 _ rfl; have c01 := h0.c 1 _ rfl; have c02 := h0.c 2 _ rfl; have c03 := h0.c 3 _ rfl; have c04 := h0.c 4 _ rfl; have c05 := h0.c 5 _ rfl; go_simp; with_reducible rfl)
 simp only [Act.put, List.setIfInBounds_toArray, List.set_cons_zero, List.set_cons_succ]
 refine wpAnyK_take 4 9 (v := ?v4) rfl (by kernel_rfl) (by kernel_rfl) (by kernel_rfl) (by kernel_rfl) (by kernel_rfl) (fun _ _ _ h => h) rfl (Or.inl ⟨by rfl, ?h4⟩) (by assumption) ?r4
 case h4 => (intro w hSw; have h0 := hSw; have c00 := h0.c 0 _ rfl; have c01 := h0.c 1 _ rfl; have c02 := h0.c 2 _ rfl; have c03 := h0.c 3 _ rfl; have c04 := h0.c 4 _ rfl; have c05 := h0.c 5 _ rfl; go_simp; with_reducible rfl)
 simp only [Act.put, List.setIfInBounds_toArray, List.set_cons_zero, List.set_cons_succ]
 refine wpAnyK_take 5 10 (v := ?v5) rfl (by kernel_rfl) (by kernel_rfl) (by kernel_rfl) (by kernel_rfl) (by kernel_rfl) (fun _ _ _ h => h) rfl (Or.inl ⟨by rfl, ?h5⟩) (by assumption) ?r5
 case h5 => (intro w hSw; have h0 := hSw; have c00 := h0.c 0 _ rfl; have c01 := h0.c 1 _ rfl; have c02 := h0.c 2 _ rfl; have c03 := h0.c 3 _ rfl; have c04 := h0.c 4 _ rfl; have c05 := h0.c 5 _ rfl; go_simp; with_reducible rfl)
 simp only [Act.put, List.setIfInBounds_toArray, List.set_cons_zero, List.set_cons_succ]
 refine wpAnyK_one 3 (by kernel_rfl) rfl (fun K hK => ?_)
 go_simp
 refine (C1.out _).mono ?_
 rintro e' w' ⟨rfl, rfl⟩
 refine hK.out _ _ (fun _ _ => GGS) ?_
 clear hK K
 simp only [List.setIfInBounds_toArray, List.set_cons_zero, List.set_cons_succ]
 refine wpAnyK_one 6 (by kernel_rfl) rfl (fun K hK => ?_)
 go_simp
 refine (C2.out _).mono ?_
 rintro e' w' ⟨rfl, rfl⟩
 refine hK.out _ _ (fun _ _ => GGS) ?_
 clear hK K
 simp only [List.setIfInBounds_toArray, List.set_cons_zero, List.set_cons_succ]
 refine wpAnyK_one 7 (by kernel_rfl) rfl (fun K hK => ?_)
 go_simp
 refine hK.out _ _ (fun h => absurd rfl h) ?_
 clear hK K
 simp only [List.setIfInBounds_toArray, List.set_cons_zero, List.set_cons_succ]
 refine wpAnyK_done (by kernel_rfl) ?_ _
 go_wp2
 go_ret
 exact ⟨rfl, GGd.out.2⟩
set_option maxHeartbeats 4000000 in
theorem moeb18 {a a' b b' c c' d d' z z' : Nat} {t t' p p' u u' : Nat} {Q : Nat → Nat → Prop}
  (BE : Hid (∀ wz, Calls Tryz.prog 86 #[.agg #[.int .u8 1, .complex .f64 a a', .complex .f64 b b', .complex .f64 c c', .complex .f64 d d', .float .f64 0], .complex .f64 z z'] wz fun e w' => e = .returned (.complex .f64 t t') ∧ Bw wz w')) (NO : Hid (∀ wz, Calls Tryz.prog 40 #[.complex .f64 t t'] wz fun e w' => e = .returned (.bool false) ∧ w' = wz))
  (M1 : Hid (∀ wz, Calls Tryz.prog 19 #[.complex .f64 a a', .complex .f64 z z'] wz fun e w' => e = .returned (.complex .f64 p p') ∧ w' = wz)) (AD : Hid (∀ wz, Calls Tryz.prog 58 #[.complex .f64 p p', .complex .f64 b b'] wz fun e w' => e = .returned (.complex .f64 u u') ∧ w' = wz)) (DV : Hid (∀ wz, Calls Tryz.prog 41 #[.complex .f64 u u', .complex .f64 t t'] wz fun e w' => ∃ x y, e = .returned (.complex .f64 x y) ∧ Q x y ∧ Bw wz w'))
  (w : World) : Calls Tryz.prog 62 #[.agg #[.int .u8 1, .complex .f64 a a', .complex .f64 b b', .complex .f64 c c', .complex .f64 d d', .float .f64 0], .complex .f64 z z'] w fun e w' => ∃ x y, e = .returned (.tuple #[.complex .f64 x y, .int .i64 0]) ∧ Q x y ∧ Bw w w' := by
 have g1 := Ch.Bl.new w #[.int .u8 1, .complex .f64 a a', .complex .f64 b b', .complex .f64 c c', .complex .f64 d d', .float .f64 0] 61
 have z1 : (w.alloc (.cells #[.int .u8 1, .complex .f64 a a', .complex .f64 b b', .complex .f64 c c', .complex .f64 d d', .float .f64 0] 61)).heap.size = w.heap.size + 1 := by simp
 have b1 := bw_alloc w (.cells #[.int .u8 1, .complex .f64 a a', .complex .f64 b b', .complex .f64 c c', .complex .f64 d d', .float .f64 0] 61)
 obtain ⟨W1, hW1⟩ : ∃ v, w.alloc (.cells #[.int .u8 1, .complex .f64 a a', .complex .f64 b b', .complex .f64 c c', .complex .f64 d d', .float .f64 0] 61) = v := ⟨_, rfl⟩
 rw [hW1] at g1 z1 b1
 have GG : Hid (Ch.Bl W1 (w.heap.size) [.int .u8 1, .complex .f64 a a', .complex .f64 b b', .complex .f64 c c', .complex .f64 d d', .float .f64 0] ∧ Bw w W1) := ⟨(show Ch.Bl _ (w.heap.size) _ from g1), b1⟩
 have HW := hide (hW1)
 clear g1 b1 z1 hW1
 go_enter Tryz.func62, Tryz.ntmps62
 go_wp2_with fail
 rw [HW.out]
 obtain ⟨A, hA⟩ : ∃ A, w.heap.size = A := ⟨_, rfl⟩
 rw [hA] at GG ⊢
 have HA := hide hA
 have GGS := True.intro
 refine (BE.out _).mono ?_
 rintro e' w3 ⟨rfl, bb⟩
 have G3 : Hid (Ch.Bl w3 (A) [.int .u8 1, .complex .f64 a a', .complex .f64 b b', .complex .f64 c c', .complex .f64 d d', .float .f64 0] ∧ Bw w w3) := ⟨GG.out.1.bw bb, bw_trans GG.out.2 bb⟩
 clear bb GGS
 have G3S : Ch.Bl w3 (A) [.int .u8 1, .complex .f64 a a', .complex .f64 b b', .complex .f64 c c', .complex .f64 d d', .float .f64 0] := G3.out.1
 go_wp2_with fail
 refine (NO.out _).mono ?_
 rintro e' w' ⟨rfl, rfl⟩
 go_wp2_with fail
 refine wp_region_K (fun w' => Ch.Bl w' (A) [.int .u8 1, .complex .f64 a a', .complex .f64 b b', .complex .f64 c c', .complex .f64 d d', .float .f64 0]) 10 11 #[false, false, false, false, false, false, false, false, false, false, false] (by kernel_rfl) (by kernel_rfl) (by kernel_rfl) ?_
 have G3d : Hid (Ch.Bl w'.drew (A) [.int .u8 1, .complex .f64 a a', .complex .f64 b b', .complex .f64 c c', .complex .f64 d d', .float .f64 0] ∧ Bw w w'.drew) := ⟨G3.out.1.bw (Bw.refl w').drew, bw_trans G3.out.2 (Bw.refl w').drew⟩
 generalize w'.drew = wd at *
 have G3S : Ch.Bl wd (A) [.int .u8 1, .complex .f64 a a', .complex .f64 b b', .complex .f64 c c', .complex .f64 d d', .float .f64 0] := G3d.out.1
 refine wpAnyK_take 0 12 (v := ?v0) rfl (by kernel_rfl) (by kernel_rfl) (by kernel_rfl) (by kernel_rfl) (by kernel_rfl) (fun _ _ _ h => h) rfl (Or.inl ⟨by rfl, ?h0⟩) (by assumption) ?r0
 case h0 => (intro w hSw; have h0 := hSw; have c00 := h0.c 0 _ rfl; have c01 := h0.c 1 _ rfl; have c02 := h0.c 2 _ rfl; have c03 := h0.c 3 _ rfl; have c04 := h0.c 4 _ rfl; have c05 := h0.c 5 _ rfl; go_simp; with_reducible rfl)
 simp only [Act.put, List.setIfInBounds_toArray, List.set_cons_zero, List.set_cons_succ]
 refine wpAnyK_take 1 13 (v := ?v1) rfl (by kernel_rfl) (by kernel_rfl) (by kernel_rfl) (by kernel_rfl) (by kernel_rfl) (fun _ _ _ h => h) rfl (Or.inl ⟨by rfl, ?h1⟩) (by assumption) ?r1
 case h1 => (intro w hSw; have h0 := hSw; have c00 := h0.c 0 _ rfl; have c01 := h0.c 1 _ rfl; have c02 := h0.c 2 _ rfl; have c03 := h0.c 3 _ rfl; have c04 := h0.c 4 _ rfl; have c05 := h0.c 5 _ rfl; go_simp; with_reducible rfl)
 simp only [Act.put, List.setIfInBounds_toArray, List.set_cons_zero, List.set_cons_succ]
 refine wpAnyK_take 2 14 (v := ?v2) rfl (by kernel_rfl) (by kernel_rfl) (by kernel_rfl) (by kernel_rfl) (by kernel_rfl) (fun _ _ _ h => h) rfl (Or.inl ⟨by rfl, ?h2⟩) (by assumption) ?r2
 case h2 => (intro w hSw; have h0 := hSw; have c00 := h0.c 0 _ rfl; have c01 := h0.c 1 _ rfl; have c02 := h0.c 2 _ rfl; have c03 := h0.c 3 _ rfl; have c04 := h0.c 4 _ rfl; have c05 := h0.c 5 _ rfl; go_simp; with_reducible rfl)
 simp only [Act.put, List.setIfInBounds_toArray, List.set_cons_zero, List.set_cons_succ]
 refine wpAnyK_take 4 16 (v := ?v4) rfl (by kernel_rfl) (by kernel_rfl) (by kernel_rfl) (by kernel_rfl) (by kernel_rfl) (fun _ _ _ h => h) rfl (Or.inl ⟨by rfl, ?h4⟩) (by assumption) ?r4
 case h4 => (intro w hSw; have h0 := hSw; have c00 := h0.c 0 _ rfl; have c01 := h0.c 1 _ rfl; have c02 := h0.c 2 _ rfl; have c03 := h0.c 3 _ rfl; have c04 := h0.c 4 _ rfl; have c05 := h0.c 5 _ rfl; go_simp; with_reducible rfl)
 simp only [Act.put, List.setIfInBounds_toArray, List.set_cons_zero, List.set_cons_succ]
 refine wpAnyK_take 5 17 (v := ?v5) rfl (by kernel_rfl) (by kernel_rfl) (by kernel_rfl) (by kernel_rfl) (by kernel_rfl) (fun _ _ _ h => h) rfl (Or.inl ⟨by rfl, ?h5⟩) (by assumption) ?r5
 case h5 => (intro w hSw; have h0 := hSw; have c00 := h0.c 0 _ rfl; have c01 := h0.c 1 _ rfl; have c02 := h0.c 2 _ rfl; have c03 := h0.c 3 _ rfl; have c04 := h0.c 4 _ rfl; have c05 := h0.c 5 _ rfl; go_simp; with_reducible rfl)
 simp only [Act.put, List.setIfInBounds_toArray, List.set_cons_zero, List.set_cons_succ]
 refine wpAnyK_take 7 19 (v := ?v7) rfl (by kernel_rfl) (by kernel_rfl) (by kernel_rfl) (by kernel_rfl) (by kernel_rfl) (fun _ _ _ h => h) rfl (Or.inl ⟨by rfl, ?h7⟩) (by assumption) ?r7
 case h7 => (intro w hSw; have h0 := hSw; have c00 := h0.c 0 _ rfl; have c01 := h0.c 1 _ rfl; have c02 := h0.c 2 _ rfl; have c03 := h0.c 3 _ rfl; have c04 := h0.c 4 _ rfl; have c05 := h0.c 5 _ rfl; go_simp; with_reducible rfl)
 simp only [Act.put, List.setIfInBounds_toArray, List.set_cons_zero, List.set_cons_succ]
 refine wpAnyK_one 3 (by kernel_rfl) rfl (fun K hK => ?_)
 go_simp
 refine (M1.out _).mono ?_
 rintro e' w' ⟨rfl, rfl⟩
 refine hK.out _ _ (fun _ _ => G3S) ?_
 clear hK K
 simp only [List.setIfInBounds_toArray, List.set_cons_zero, List.set_cons_succ]
 refine wpAnyK_one 6 (by kernel_rfl) rfl (fun K hK => ?_)
 go_simp
 refine (AD.out _).mono ?_
 rintro e' w' ⟨rfl, rfl⟩
 refine hK.out _ _ (fun _ _ => G3S) ?_
 clear hK K
 simp only [List.setIfInBounds_toArray, List.set_cons_zero, List.set_cons_succ]
 refine wpAnyK_one 8 (by kernel_rfl) rfl (fun K hK => ?_)
 go_simp
 refine (DV.out _).mono ?_
 rintro e' wmk1 ⟨X, Y, rfl, hq, bb⟩
 have G3mk1 : Hid (Ch.Bl wmk1 (A) [.int .u8 1, .complex .f64 a a', .complex .f64 b b', .complex .f64 c c', .complex .f64 d d', .float .f64 0] ∧ Bw w wmk1) := ⟨G3d.out.1.bw bb, bw_trans G3d.out.2 bb⟩
 clear bb G3S
 have G3mk1S : Ch.Bl wmk1 (A) [.int .u8 1, .complex .f64 a a', .complex .f64 b b', .complex .f64 c c', .complex .f64 d d', .float .f64 0] := G3mk1.out.1
 refine hK.out _ _ (fun _ _ => G3mk1S) ?_
 clear hK K
 simp only [List.setIfInBounds_toArray, List.set_cons_zero, List.set_cons_succ]
 refine wpAnyK_one 9 (by kernel_rfl) rfl (fun K hK => ?_)
 go_simp
 refine hK.out _ _ (fun _ _ => G3mk1S) ?_
 clear hK K
 simp only [List.setIfInBounds_toArray, List.set_cons_zero, List.set_cons_succ]
 refine wpAnyK_one 10 (by kernel_rfl) rfl (fun K hK => ?_)
 go_simp
 refine hK.out _ _ (fun h => absurd rfl h) ?_
 clear hK K
 simp only [List.setIfInBounds_toArray, List.set_cons_zero, List.set_cons_succ]
 refine wpAnyK_done (by kernel_rfl) ?_ _
 go_wp2
 refine bodyPost_ret (results_tmp2 rfl _ _ _) rfl ?_
 exact ⟨X, Y, rfl, hq, G3mk1.out.2⟩
set_option maxHeartbeats 8000000 in
set_option maxRecDepth 100000 in
theorem told18 {a a' b b' c c' d d' z z' : Nat} {Q : Nat → Nat → Prop}
  (CK : Hid (∀ wz, Calls Tryz.prog 14 #[.agg #[.int .u8 1, .complex .f64 a a', .complex .f64 b b', .complex .f64 c c', .complex .f64 d d', .float .f64 0]] wz fun e w' => e = .returned (.int .i64 0) ∧ Bw wz w')) (IP : Hid (∀ wz, Calls Tryz.prog 27 #[.complex .f64 z z'] wz fun e w' => e = .returned (.bool true) ∧ w' = wz)) (MO : Hid (∀ wz, Calls Tryz.prog 62 #[.agg #[.int .u8 1, .complex .f64 a a', .complex .f64 b b', .complex .f64 c c', .complex .f64 d d', .float .f64 0], .complex .f64 z z'] wz fun e w' => ∃ x y, e = .returned (.tuple #[.complex .f64 x y, .int .i64 0]) ∧ Q x y ∧ Bw wz w'))
  (FI : Hid (∀ x y wz, Q x y → Calls Tryz.prog 26 #[.complex .f64 x y] wz fun e w' => e = .returned (.bool true) ∧ w' = wz))
  (w : World) : Calls Tryz.prog 25 #[.agg #[.int .u8 1, .complex .f64 a a', .complex .f64 b b', .complex .f64 c c', .complex .f64 d d', .float .f64 0], .complex .f64 z z', .int .i64 0, .func (.func 26) #[] #[]] w fun e w' => ∃ x y, e = .returned (.tuple #[.complex .f64 x y, .int .i64 0]) ∧ Q x y ∧ Bw w w' := by
 have KK : Hid (∀ wz, Calls Tryz.prog 42 #[] wz fun e w' => e = .returned (.agg #[.nilFunc, .nilFunc, .nilFunc, .nilFunc, .func (.func 62) #[] #[], .func (.func 63) #[] #[], .func (.func 64) #[] #[], .func (.func 65) #[] #[], .func (.func 66) #[] #[], .func (.func 67) #[] #[], .func (.func 68) #[] #[], .func (.func 69) #[] #[], .func (.func 70) #[] #[], .func (.func 71) #[] #[], .func (.func 72) #[] #[], .func (.func 73) #[] #[], .func (.func 74) #[] #[], .func (.func 75) #[] #[], .func (.func 76) #[] #[], .func (.func 77) #[] #[]]) ∧ Bw wz w') := fun wz => kinds18 wz
 have g1 := Ch.Bl.new w #[.int .u8 1, .complex .f64 a a', .complex .f64 b b', .complex .f64 c c', .complex .f64 d d', .float .f64 0] 33
 have z1 : (w.alloc (.cells #[.int .u8 1, .complex .f64 a a', .complex .f64 b b', .complex .f64 c c', .complex .f64 d d', .float .f64 0] 33)).heap.size = w.heap.size + 1 := by simp
 have b1 := bw_alloc w (.cells #[.int .u8 1, .complex .f64 a a', .complex .f64 b b', .complex .f64 c c', .complex .f64 d d', .float .f64 0] 33)
 obtain ⟨W1, hW1⟩ : ∃ v, w.alloc (.cells #[.int .u8 1, .complex .f64 a a', .complex .f64 b b', .complex .f64 c c', .complex .f64 d d', .float .f64 0] 33) = v := ⟨_, rfl⟩
 rw [hW1] at g1 z1 b1
 have GG : Hid (Ch.Bl W1 (w.heap.size) [.int .u8 1, .complex .f64 a a', .complex .f64 b b', .complex .f64 c c', .complex .f64 d d', .float .f64 0] ∧ Bw w W1) := ⟨(show Ch.Bl _ (w.heap.size) _ from g1), b1⟩
 have HW := hide (hW1)
 clear g1 b1 z1 hW1
 go_enter Tryz.func25, Tryz.ntmps25
 go_wp2_with fail
 rw [HW.out]
 obtain ⟨A, hA⟩ : ∃ A, w.heap.size = A := ⟨_, rfl⟩
 rw [hA] at GG ⊢
 have HA := hide hA
 have GGS := True.intro
 have c00 := (GG.out.1).c 0 _ rfl
 have c01 := (GG.out.1).c 1 _ rfl
 have c02 := (GG.out.1).c 2 _ rfl
 have c03 := (GG.out.1).c 3 _ rfl
 have c04 := (GG.out.1).c 4 _ rfl
 have c05 := (GG.out.1).c 5 _ rfl
 clear c00 c01 c02 c03 c04 c05
 refine (CK.out _).mono ?_
 rintro e' w3 ⟨rfl, bb⟩
 have G3 : Hid (Ch.Bl w3 (A) [.int .u8 1, .complex .f64 a a', .complex .f64 b b', .complex .f64 c c', .complex .f64 d d', .float .f64 0] ∧ Bw w w3) := ⟨GG.out.1.bw bb, bw_trans GG.out.2 bb⟩
 clear bb GGS
 have G3S : Ch.Bl w3 (A) [.int .u8 1, .complex .f64 a a', .complex .f64 b b', .complex .f64 c c', .complex .f64 d d', .float .f64 0] := G3.out.1
 go_wp2_with fail
 refine (IP.out _).mono ?_
 rintro e' w4 ⟨rfl, rfl⟩
 go_wp2_with fail
 refine wp_region_K (fun w' => Ch.Bl w' (A) [.int .u8 1, .complex .f64 a a', .complex .f64 b b', .complex .f64 c c', .complex .f64 d d', .float .f64 0]) 13 14 #[false, false, false, false, false, false, false, false, false, false, false, false, false, false] (by kernel_rfl) (by kernel_rfl) (by kernel_rfl) ?_
 have G3d : Hid (Ch.Bl w4.drew (A) [.int .u8 1, .complex .f64 a a', .complex .f64 b b', .complex .f64 c c', .complex .f64 d d', .float .f64 0] ∧ Bw w w4.drew) := ⟨G3.out.1.bw (Bw.refl w4).drew, bw_trans G3.out.2 (Bw.refl w4).drew⟩
 generalize w4.drew = w4d at *
 have G3S : Ch.Bl w4d (A) [.int .u8 1, .complex .f64 a a', .complex .f64 b b', .complex .f64 c c', .complex .f64 d d', .float .f64 0] := G3d.out.1
 refine wpAnyK_take 1 23 (v := ?v1) rfl (by kernel_rfl) (by kernel_rfl) (by kernel_rfl) (by kernel_rfl) (by kernel_rfl) (fun _ _ _ h => h) rfl (Or.inl ⟨by rfl, ?h1⟩) (by assumption) ?r1
 case h1 => (intro w hSw; have h0 := hSw; have c00 := h0.c 0 _ rfl; have c01 := h0.c 1 _ rfl; have c02 := h0.c 2 _ rfl; have c03 := h0.c 3 _ rfl; have c04 := h0.c 4 _ rfl; have c05 := h0.c 5 _ rfl; go_simp; with_reducible rfl)
 simp only [Act.put, List.setIfInBounds_toArray, List.set_cons_zero, List.set_cons_succ]
 refine wpAnyK_take 2 24 (v := ?v2) rfl (by kernel_rfl) (by kernel_rfl) (by kernel_rfl) (by kernel_rfl) (by kernel_rfl) (fun _ _ _ h => h) rfl (Or.inl ⟨by rfl, ?h2⟩) (by assumption) ?r2
 case h2 => (intro w hSw; have h0 := hSw; have c00 := h0.c 0 _ rfl; have c01 := h0.c 1 _ rfl; have c02 := h0.c 2 _ rfl; have c03 := h0.c 3 _ rfl; have c04 := h0.c 4 _ rfl; have c05 := h0.c 5 _ rfl; go_simp; with_reducible rfl)
 simp only [Act.put, List.setIfInBounds_toArray, List.set_cons_zero, List.set_cons_succ]
 refine wpAnyK_take 4 26 (v := ?v4) rfl (by kernel_rfl) (by kernel_rfl) (by kernel_rfl) (by kernel_rfl) (by kernel_rfl) (fun _ _ _ h => h) rfl (Or.inl ⟨by rfl, ?h4⟩) (by assumption) ?r4
 case h4 => (intro w hSw; have h0 := hSw; have c00 := h0.c 0 _ rfl; have c01 := h0.c 1 _ rfl; have c02 := h0.c 2 _ rfl; have c03 := h0.c 3 _ rfl; have c04 := h0.c 4 _ rfl; have c05 := h0.c 5 _ rfl; go_simp; with_reducible rfl)
 simp only [Act.put, List.setIfInBounds_toArray, List.set_cons_zero, List.set_cons_succ]
 refine wpAnyK_take 6 28 (v := ?v6) rfl (by kernel_rfl) (by kernel_rfl) (by kernel_rfl) (by kernel_rfl) (by kernel_rfl) (fun _ _ _ h => h) rfl (Or.inl ⟨by rfl, ?h6⟩) (by assumption) ?r6
 case h6 => (intro w hSw; have h0 := hSw; have c00 := h0.c 0 _ rfl; have c01 := h0.c 1 _ rfl; have c02 := h0.c 2 _ rfl; have c03 := h0.c 3 _ rfl; have c04 := h0.c 4 _ rfl; have c05 := h0.c 5 _ rfl; go_simp; with_reducible rfl)
 simp only [Act.put, List.setIfInBounds_toArray, List.set_cons_zero, List.set_cons_succ]
 refine wpAnyK_take 7 29 (v := ?v7) rfl (by kernel_rfl) (by kernel_rfl) (by kernel_rfl) (by kernel_rfl) (by kernel_rfl) (fun _ _ _ h => h) rfl (Or.inl ⟨by rfl, ?h7⟩) (by assumption) ?r7
 case h7 => (intro w hSw; have h0 := hSw; have c00 := h0.c 0 _ rfl; have c01 := h0.c 1 _ rfl; have c02 := h0.c 2 _ rfl; have c03 := h0.c 3 _ rfl; have c04 := h0.c 4 _ rfl; have c05 := h0.c 5 _ rfl; go_simp; with_reducible rfl)
 simp only [Act.put, List.setIfInBounds_toArray, List.set_cons_zero, List.set_cons_succ]
 refine wpAnyK_one 0 (by kernel_rfl) rfl (fun K hK => ?_)
 go_simp
 refine (KK.out _).mono ?_
 rintro e' w4mk1 ⟨rfl, bb⟩
 have G3mk1 : Hid (Ch.Bl w4mk1 (A) [.int .u8 1, .complex .f64 a a', .complex .f64 b b', .complex .f64 c c', .complex .f64 d d', .float .f64 0] ∧ Bw w w4mk1) := ⟨G3d.out.1.bw bb, bw_trans G3d.out.2 bb⟩
 clear bb G3S
 have G3mk1S : Ch.Bl w4mk1 (A) [.int .u8 1, .complex .f64 a a', .complex .f64 b b', .complex .f64 c c', .complex .f64 d d', .float .f64 0] := G3mk1.out.1
 refine hK.out _ _ (fun _ _ => G3mk1S) ?_
 clear hK K
 simp only [List.setIfInBounds_toArray, List.set_cons_zero, List.set_cons_succ]
 refine wpAnyK_take 3 25 (v := ?v3) rfl (by kernel_rfl) (by kernel_rfl) (by kernel_rfl) (by kernel_rfl) (by kernel_rfl) (fun _ _ _ h => h) rfl (Or.inl ⟨by rfl, ?h3⟩) (by assumption) ?r3
 case h3 => (intro w hSw; have h0 := hSw; have c00 := h0.c 0 _ rfl; have c01 := h0.c 1 _ rfl; have c02 := h0.c 2 _ rfl; have c03 := h0.c 3 _ rfl; have c04 := h0.c 4 _ rfl; have c05 := h0.c 5 _ rfl; go_simp; with_reducible rfl)
 simp only [Act.put, List.setIfInBounds_toArray, List.set_cons_zero, List.set_cons_succ]
 refine wpAnyK_take 5 27 (v := ?v5) rfl (by kernel_rfl) (by kernel_rfl) (by kernel_rfl) (by kernel_rfl) (by kernel_rfl) (fun _ _ _ h => h) rfl (Or.inl ⟨by rfl, ?h5⟩) (by assumption) ?r5
 case h5 => (intro w hSw; have h0 := hSw; have c00 := h0.c 0 _ rfl; have c01 := h0.c 1 _ rfl; have c02 := h0.c 2 _ rfl; have c03 := h0.c 3 _ rfl; have c04 := h0.c 4 _ rfl; have c05 := h0.c 5 _ rfl; go_simp; with_reducible rfl)
 simp only [Act.put, List.setIfInBounds_toArray, List.set_cons_zero, List.set_cons_succ]
 refine wpAnyK_one 8 (by kernel_rfl) rfl (fun K hK => ?_)
 go_simp
 refine (MO.out _).mono ?_
 rintro e' w4mk2 ⟨X, Y, rfl, hq, bb⟩
 have G3mk2 : Hid (Ch.Bl w4mk2 (A) [.int .u8 1, .complex .f64 a a', .complex .f64 b b', .complex .f64 c c', .complex .f64 d d', .float .f64 0] ∧ Bw w w4mk2) := ⟨G3mk1.out.1.bw bb, bw_trans G3mk1.out.2 bb⟩
 clear bb G3mk1S
 have G3mk2S : Ch.Bl w4mk2 (A) [.int .u8 1, .complex .f64 a a', .complex .f64 b b', .complex .f64 c c', .complex .f64 d d', .float .f64 0] := G3mk2.out.1
 refine hK.out _ _ (fun _ _ => G3mk2S) ?_
 clear hK K
 simp only [List.setIfInBounds_toArray, List.set_cons_zero, List.set_cons_succ]
 refine wpAnyK_take 9 21 (v := ?v9) rfl (by kernel_rfl) (by kernel_rfl) (by kernel_rfl) (by kernel_rfl) (by kernel_rfl) (fun _ _ _ h => h) rfl (Or.inl ⟨by rfl, ?h9⟩) (by assumption) ?r9
 case h9 => (intro w hSw; have h0 := hSw; have c00 := h0.c 0 _ rfl; have c01 := h0.c 1 _ rfl; have c02 := h0.c 2 _ rfl; have c03 := h0.c 3 _ rfl; have c04 := h0.c 4 _ rfl; have c05 := h0.c 5 _ rfl; go_simp; with_reducible rfl)
 simp only [Act.put, List.setIfInBounds_toArray, List.set_cons_zero, List.set_cons_succ]
 refine wpAnyK_take 10 31 (v := ?v10) rfl (by kernel_rfl) (by kernel_rfl) (by kernel_rfl) (by kernel_rfl) (by kernel_rfl) (fun _ _ _ h => h) rfl (Or.inl ⟨by rfl, ?h10⟩) (by assumption) ?r10
 case h10 => (intro w hSw; have h0 := hSw; have c00 := h0.c 0 _ rfl; have c01 := h0.c 1 _ rfl; have c02 := h0.c 2 _ rfl; have c03 := h0.c 3 _ rfl; have c04 := h0.c 4 _ rfl; have c05 := h0.c 5 _ rfl; go_simp; with_reducible rfl)
 simp only [Act.put, List.setIfInBounds_toArray, List.set_cons_zero, List.set_cons_succ]
 refine wpAnyK_take 11 32 (v := ?v11) rfl (by kernel_rfl) (by kernel_rfl) (by kernel_rfl) (by kernel_rfl) (by kernel_rfl) (fun _ _ _ h => h) rfl (Or.inl ⟨by rfl, ?h11⟩) (by assumption) ?r11
 case h11 => (intro w hSw; have h0 := hSw; have c00 := h0.c 0 _ rfl; have c01 := h0.c 1 _ rfl; have c02 := h0.c 2 _ rfl; have c03 := h0.c 3 _ rfl; have c04 := h0.c 4 _ rfl; have c05 := h0.c 5 _ rfl; go_simp; with_reducible rfl)
 simp only [Act.put, List.setIfInBounds_toArray, List.set_cons_zero, List.set_cons_succ]
 refine wpAnyK_one 12 (by kernel_rfl) rfl (fun K hK => ?_)
 go_simp
 refine hK.out _ _ (fun _ _ => G3mk2S) ?_
 clear hK K
 simp only [List.setIfInBounds_toArray, List.set_cons_zero, List.set_cons_succ]
 refine wpAnyK_one 13 (by kernel_rfl) rfl (fun K hK => ?_)
 go_simp
 refine hK.out _ _ (fun h => absurd rfl h) ?_
 clear hK K
 simp only [List.setIfInBounds_toArray, List.set_cons_zero, List.set_cons_succ]
 refine wpAnyK_done (by kernel_rfl) ?_ _
 go_wp2_with fail
 refine (FI.out _ _ _ hq).mono ?_
 rintro e' w9 ⟨rfl, rfl⟩
 go_wp2
 refine bodyPost_ret (results_tmp2 rfl _ _ _) rfl ?_
 exact ⟨X, Y, rfl, hq, G3mk2.out.2⟩
set_option maxHeartbeats 4000000 in
theorem at18 {a a' b b' c c' d d' z z' : Nat} {Q : Nat → Nat → Prop}
  (TO : Hid (∀ wz, Calls Tryz.prog 25 #[.agg #[.int .u8 1, .complex .f64 a a', .complex .f64 b b', .complex .f64 c c', .complex .f64 d d', .float .f64 0], .complex .f64 z z', .int .i64 0, .func (.func 26) #[] #[]] wz fun e w' => ∃ x y, e = .returned (.tuple #[.complex .f64 x y, .int .i64 0]) ∧ Q x y ∧ Bw wz w'))
  (w : World) : Calls Tryz.prog 11 #[.agg #[.int .u8 1, .complex .f64 a a', .complex .f64 b b', .complex .f64 c c', .complex .f64 d d', .float .f64 0], .complex .f64 z z'] w fun e w' => ∃ x y, e = .returned (.tuple #[.complex .f64 x y, .int .i64 0]) ∧ Q x y ∧ Bw w w' := by
 have g1 := Ch.Bl.new w #[.int .u8 1, .complex .f64 a a', .complex .f64 b b', .complex .f64 c c', .complex .f64 d d', .float .f64 0] 33
 have z1 : (w.alloc (.cells #[.int .u8 1, .complex .f64 a a', .complex .f64 b b', .complex .f64 c c', .complex .f64 d d', .float .f64 0] 33)).heap.size = w.heap.size + 1 := by simp
 have b1 := bw_alloc w (.cells #[.int .u8 1, .complex .f64 a a', .complex .f64 b b', .complex .f64 c c', .complex .f64 d d', .float .f64 0] 33)
 obtain ⟨W1, hW1⟩ : ∃ v, w.alloc (.cells #[.int .u8 1, .complex .f64 a a', .complex .f64 b b', .complex .f64 c c', .complex .f64 d d', .float .f64 0] 33) = v := ⟨_, rfl⟩
 rw [hW1] at g1 z1 b1
 have GG : Hid (Ch.Bl W1 (w.heap.size) [.int .u8 1, .complex .f64 a a', .complex .f64 b b', .complex .f64 c c', .complex .f64 d d', .float .f64 0] ∧ Bw w W1) := ⟨(show Ch.Bl _ (w.heap.size) _ from g1), b1⟩
 have HW := hide (hW1)
 clear g1 b1 z1 hW1
 go_enter Tryz.func11, Tryz.ntmps11
 go_wp2_with fail
 rw [HW.out]
 obtain ⟨A, hA⟩ : ∃ A, w.heap.size = A := ⟨_, rfl⟩
 rw [hA] at GG ⊢
 have HA := hide hA
 refine (TO.out _).mono ?_
 rintro e' w5 ⟨X, Y, rfl, hq, bb⟩
 have G5 : Hid (Ch.Bl w5 (A) [.int .u8 1, .complex .f64 a a', .complex .f64 b b', .complex .f64 c c', .complex .f64 d d', .float .f64 0] ∧ Bw w w5) := ⟨GG.out.1.bw bb, bw_trans GG.out.2 bb⟩
 go_wp2
 refine bodyPost_ret (results_tmp2 rfl _ _ _) rfl ?_
 exact ⟨X, Y, rfl, hq, G5.out.2⟩
theorem at18_all {z z' K : Nat} {g : Py.G} {a a' b b' c c' d d' M : Nat} {m : Ch.Mq} (hm : Ch.W8 a a' b b' c c' d d' m) (lm : Ch.Lq m M) (hz : wC 1074 z z' g) (lz : Py.Le g K) (hs : M * K + M ≤ 9007199254740992) (hM : M ≤ 1099511627776) (hK : K ≤ 1099511627776) (h2 : M * M + M * M ≤ 9007199254740992)
  (hd : Ch.dt m ≠ (0, 0)) (h0 : Ch.lo m g ≠ (0, 0)) {Q : Nat → Nat → Prop}
  (hQ : ∀ u u' t t' x y : Nat, wC 1074 u u' (Ch.up m g) → wC 1074 t t' (Ch.lo m g) → El.c2 x y = El.zdiv (El.c2 u u') (El.c2 t t') → x < 18446744073709551616 → y < 18446744073709551616 → Q x y)
  (hf : ∀ x y, Q x y → (x < 18446744073709551616 ∧ Fl.rg x < 9218868437227405312) ∧ (y < 18446744073709551616 ∧ Fl.rg y < 9218868437227405312)) (w : World) :
  Calls Tryz.prog 11 #[.agg #[.int .u8 1, .complex .f64 a a', .complex .f64 b b', .complex .f64 c c', .complex .f64 d d', .float .f64 0], .complex .f64 z z'] w fun e w' => ∃ x y, e = .returned (.tuple #[.complex .f64 x y, .int .i64 0]) ∧ Q x y ∧ Bw w w' := by
 obtain ⟨t, t', ht, BE⟩ := below18 hm lm hz lz hs
 obtain ⟨p, p', hp, M1⟩ := pmul8 rfl hm.1 hz lm.1 lz (by omega)
 obtain ⟨u, u', hu, AD⟩ := padd8 rfl hp hm.2.1 (lm.1.mul lz) lm.2.1 hs
 have NO : ∀ wz, Calls Tryz.prog 40 #[.complex .f64 t t'] wz fun e w' => e = .returned (.bool false) ∧ w' = wz := fun wz => by have q := isnought18 ht wz; rw [decide_eq_false h0] at q; exact q
 have DV : ∀ wz, Calls Tryz.prog 41 #[.complex .f64 u u', .complex .f64 t t'] wz fun e w' => ∃ x y, e = .returned (.complex .f64 x y) ∧ Q x y ∧ Bw wz w' := fun wz => (zdiv_any u u' t t' wz ht.1.1 ht.2.1).mono (by
  rintro e' w' ⟨x, y, rfl, hq, hx, hy, bb⟩
  exact ⟨x, y, rfl, hQ u u' t t' x y hu ht hq hx hy, bb⟩)
 have CK : ∀ wz, Calls Tryz.prog 14 #[.agg #[.int .u8 1, .complex .f64 a a', .complex .f64 b b', .complex .f64 c c', .complex .f64 d d', .float .f64 0]] wz fun e w' => e = .returned (.int .i64 0) ∧ Bw wz w' := fun wz => by have q := check18 hm lm hM h2 wz; rw [if_neg hd] at q; exact q
 have FI : ∀ x y wz, Q x y → Calls Tryz.prog 26 #[.complex .f64 x y] wz fun e w' => e = .returned (.bool true) ∧ w' = wz := fun x y wz hq => by
  obtain ⟨f1, f2⟩ := hf x y hq
  have k := pfinite_any x y wz f1.1 f2.1
  have e1 : Fl.finB x = true := by unfold Fl.finB; exact decide_eq_true f1.2
  have e2 : Fl.finB y = true := by unfold Fl.finB; exact decide_eq_true f2.2
  rw [e1, e2] at k
  exact k
 exact at18 (hide (fun wz => told18 (hide CK) (hide (fun wz => isplace18 hz (lz.mono hK) wz)) (hide (fun wz => moeb18 (hide BE) (hide NO) (hide M1) (hide AD) (hide DV) wz)) (hide FI) wz)) w
end Go.Proofs.YtfgfofedacehiaaGreat

/-
 OWN TEXT: the test of life of layer 18, by the evaluator.
-/
namespace Go.Proofs.YtfgfofedacehiaaGreat
set_option maxRecDepth 1000000
theorem awake18_ev (w : World) : Calls Tryz.prog 6 #[] w fun e w' => e = .returned (.bool true) ∧ Bw w w' :=
 xevaluated exF_ok plainX mixedX (by decide) kpF hsF 100000 40 (args := []) (v := .bool true) rfl rfl (by decide +kernel) w (fun g l h => by cases h) (fun g l h => by cases h)
end Go.Proofs.YtfgfofedacehiaaGreat

