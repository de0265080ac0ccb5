/-
 OWN TEXT: package chart over whole numbers: the determinant, what must be so of a Moebius map, Check.
-/
import Derived.Test.YtfgfofedacehiaaGreatJChB
import Derived.Test.YtfgfofedacehiaaGreatJZqCToZqH
import Derived.Test.YtfgfofedacehiaaGreatJRpAToEqA
namespace Go.Proofs.YtfgfofedacehiaaGreat
open Go.ChangeShapes Go.WideShapes Go.ChangeAt Go.RowKit
set_option linter.unusedVariables false
set_option linter.unusedSimpArgs false
attribute [local go_sem] frombits_call tobits_call run_neg El.run_store_cx El.run_store_fl
set_option maxHeartbeats 4000000 in
theorem det18 {a a' b b' c c' d d' M : Nat} {m : Ch.Mq} (hm : Ch.W8 a a' b b' c c' d d' m) (lm : Ch.Lq m M) (hs : M * M + M * M ≤ 9007199254740992) : ∃ r s, wC 1074 r s (Ch.dt m) ∧ ∀ w, Calls Tryz.prog 84 #[.agg #[.int .u8 1, .complex .f64 a a', .complex .f64 b b', .complex .f64 c c', .complex .f64 d d', .float .f64 0]] w fun e w' => e = .returned (.complex .f64 r s) ∧ Bw w w' := by
 obtain ⟨p, p', h1, c1⟩ := pmul8 rfl hm.1 hm.2.2.2 lm.1 lm.2.2.2 (by omega)
 obtain ⟨q, q', h2, c2⟩ := pmul8 rfl hm.2.1 hm.2.2.1 lm.2.1 lm.2.2.1 (by omega)
 obtain ⟨r, s, h3, c3⟩ := psub9 rfl h1 h2 (lm.1.mul lm.2.2.2) (lm.2.1.mul lm.2.2.1) hs
 refine ⟨r, s, h3, fun w => ?_⟩
 have C1 := hide c1
 have C2 := hide c2
 have C3 := hide c3
 clear c1 c2 c3 hm lm hs h1 h2 h3
 have G : Hid (Ch.Bl (w.alloc (.cells #[.int .u8 1, .complex .f64 a a', .complex .f64 b b', .complex .f64 c c', .complex .f64 d d', .float .f64 0] 61)) w.heap.size [.int .u8 1, .complex .f64 a a', .complex .f64 b b', .complex .f64 c c', .complex .f64 d d', .float .f64 0]) := hide (Ch.Bl.new w #[.int .u8 1, .complex .f64 a a', .complex .f64 b b', .complex .f64 c c', .complex .f64 d d', .float .f64 0] 61)
 have GB := hide (bw_alloc w (.cells #[.int .u8 1, .complex .f64 a a', .complex .f64 b b', .complex .f64 c c', .complex .f64 d d', .float .f64 0] 61))
 obtain ⟨W1, hW⟩ : ∃ v, w.alloc (.cells #[.int .u8 1, .complex .f64 a a', .complex .f64 b b', .complex .f64 c c', .complex .f64 d d', .float .f64 0] 61) = v := ⟨_, rfl⟩
 rw [hW] at G GB
 have HW := hide hW
 clear hW
 go_enter Tryz.func84, Tryz.ntmps84
 go_wp2_with fail
 have HW2 := HW.out
 rw [HW2]
 clear HW2 HW
 obtain ⟨A, hA⟩ : ∃ A, w.heap.size = A := ⟨_, rfl⟩
 rw [hA] at G ⊢
 clear hA
 refine wp_region_K (fun w' => Ch.Bl w' A ([.int .u8 1, .complex .f64 a a', .complex .f64 b b', .complex .f64 c c', .complex .f64 d d', .float .f64 0])) 11 12 #[false, false, false, false, false, false, false, false, false, false, false, false] (by kernel_rfl) (by kernel_rfl) (by kernel_rfl) ?_
 have G1 := hide (G.out.bw (Bw.refl W1).drew)
 have GD := hide (GB.out.drew)
 generalize W1.drew = V at *
 have S1 : Ch.Bl V A ([.int .u8 1, .complex .f64 a a', .complex .f64 b b', .complex .f64 c c', .complex .f64 d d', .float .f64 0]) := G1.out
 refine wpAnyK_take 0 3 (v := ?v0) rfl (by kernel_rfl) (by kernel_rfl) (by kernel_rfl) (by kernel_rfl) (by kernel_rfl) (fun _ _ _ h => h) rfl (Or.inl ⟨by rfl, ?h0⟩) (by assumption) ?r0
 case h0 => (intro w hSw; have c0 := hSw.c 0 _ rfl; have c1 := hSw.c 1 _ rfl; have c2 := hSw.c 2 _ rfl; have c3 := hSw.c 3 _ rfl; have c4 := hSw.c 4 _ rfl; have c5 := hSw.c 5 _ rfl; go_simp; with_reducible rfl)
 simp only [Act.put, List.setIfInBounds_toArray, List.set_cons_zero, List.set_cons_succ]
 refine wpAnyK_take 1 4 (v := ?v1) rfl (by kernel_rfl) (by kernel_rfl) (by kernel_rfl) (by kernel_rfl) (by kernel_rfl) (fun _ _ _ h => h) rfl (Or.inl ⟨by rfl, ?h1⟩) (by assumption) ?r1
 case h1 => (intro w hSw; have c0 := hSw.c 0 _ rfl; have c1 := hSw.c 1 _ rfl; have c2 := hSw.c 2 _ rfl; have c3 := hSw.c 3 _ rfl; have c4 := hSw.c 4 _ rfl; have c5 := hSw.c 5 _ rfl; go_simp; with_reducible rfl)
 simp only [Act.put, List.setIfInBounds_toArray, List.set_cons_zero, List.set_cons_succ]
 refine wpAnyK_take 2 5 (v := ?v2) rfl (by kernel_rfl) (by kernel_rfl) (by kernel_rfl) (by kernel_rfl) (by kernel_rfl) (fun _ _ _ h => h) rfl (Or.inl ⟨by rfl, ?h2⟩) (by assumption) ?r2
 case h2 => (intro w hSw; have c0 := hSw.c 0 _ rfl; have c1 := hSw.c 1 _ rfl; have c2 := hSw.c 2 _ rfl; have c3 := hSw.c 3 _ rfl; have c4 := hSw.c 4 _ rfl; have c5 := hSw.c 5 _ rfl; go_simp; with_reducible rfl)
 simp only [Act.put, List.setIfInBounds_toArray, List.set_cons_zero, List.set_cons_succ]
 refine wpAnyK_take 3 6 (v := ?v3) rfl (by kernel_rfl) (by kernel_rfl) (by kernel_rfl) (by kernel_rfl) (by kernel_rfl) (fun _ _ _ h => h) rfl (Or.inl ⟨by rfl, ?h3⟩) (by assumption) ?r3
 case h3 => (intro w hSw; have c0 := hSw.c 0 _ rfl; have c1 := hSw.c 1 _ rfl; have c2 := hSw.c 2 _ rfl; have c3 := hSw.c 3 _ rfl; have c4 := hSw.c 4 _ rfl; have c5 := hSw.c 5 _ rfl; go_simp; with_reducible rfl)
 simp only [Act.put, List.setIfInBounds_toArray, List.set_cons_zero, List.set_cons_succ]
 refine wpAnyK_take 5 8 (v := ?v5) rfl (by kernel_rfl) (by kernel_rfl) (by kernel_rfl) (by kernel_rfl) (by kernel_rfl) (fun _ _ _ h => h) rfl (Or.inl ⟨by rfl, ?h5⟩) (by assumption) ?r5
 case h5 => (intro w hSw; have c0 := hSw.c 0 _ rfl; have c1 := hSw.c 1 _ rfl; have c2 := hSw.c 2 _ rfl; have c3 := hSw.c 3 _ rfl; have c4 := hSw.c 4 _ rfl; have c5 := hSw.c 5 _ rfl; go_simp; with_reducible rfl)
 simp only [Act.put, List.setIfInBounds_toArray, List.set_cons_zero, List.set_cons_succ]
 refine wpAnyK_take 6 9 (v := ?v6) rfl (by kernel_rfl) (by kernel_rfl) (by kernel_rfl) (by kernel_rfl) (by kernel_rfl) (fun _ _ _ h => h) rfl (Or.inl ⟨by rfl, ?h6⟩) (by assumption) ?r6
 case h6 => (intro w hSw; have c0 := hSw.c 0 _ rfl; have c1 := hSw.c 1 _ rfl; have c2 := hSw.c 2 _ rfl; have c3 := hSw.c 3 _ rfl; have c4 := hSw.c 4 _ rfl; have c5 := hSw.c 5 _ rfl; go_simp; with_reducible rfl)
 simp only [Act.put, List.setIfInBounds_toArray, List.set_cons_zero, List.set_cons_succ]
 refine wpAnyK_take 7 10 (v := ?v7) rfl (by kernel_rfl) (by kernel_rfl) (by kernel_rfl) (by kernel_rfl) (by kernel_rfl) (fun _ _ _ h => h) rfl (Or.inl ⟨by rfl, ?h7⟩) (by assumption) ?r7
 case h7 => (intro w hSw; have c0 := hSw.c 0 _ rfl; have c1 := hSw.c 1 _ rfl; have c2 := hSw.c 2 _ rfl; have c3 := hSw.c 3 _ rfl; have c4 := hSw.c 4 _ rfl; have c5 := hSw.c 5 _ rfl; go_simp; with_reducible rfl)
 simp only [Act.put, List.setIfInBounds_toArray, List.set_cons_zero, List.set_cons_succ]
 refine wpAnyK_take 8 11 (v := ?v8) rfl (by kernel_rfl) (by kernel_rfl) (by kernel_rfl) (by kernel_rfl) (by kernel_rfl) (fun _ _ _ h => h) rfl (Or.inl ⟨by rfl, ?h8⟩) (by assumption) ?r8
 case h8 => (intro w hSw; have c0 := hSw.c 0 _ rfl; have c1 := hSw.c 1 _ rfl; have c2 := hSw.c 2 _ rfl; have c3 := hSw.c 3 _ rfl; have c4 := hSw.c 4 _ rfl; have c5 := hSw.c 5 _ rfl; go_simp; with_reducible rfl)
 simp only [Act.put, List.setIfInBounds_toArray, List.set_cons_zero, List.set_cons_succ]
 refine wpAnyK_one 4 (by kernel_rfl) rfl (fun K hK => ?_)
 go_simp
 refine (C1.out _).mono ?_
 rintro e' w' ⟨rfl, rfl⟩
 refine hK.out _ _ (fun _ _ => S1) ?_
 clear hK K
 simp only [List.setIfInBounds_toArray, List.set_cons_zero, List.set_cons_succ]
 refine wpAnyK_one 9 (by kernel_rfl) rfl (fun K hK => ?_)
 go_simp
 refine (C2.out _).mono ?_
 rintro e' w' ⟨rfl, rfl⟩
 refine hK.out _ _ (fun _ _ => S1) ?_
 clear hK K
 simp only [List.setIfInBounds_toArray, List.set_cons_zero, List.set_cons_succ]
 refine wpAnyK_one 10 (by kernel_rfl) rfl (fun K hK => ?_)
 go_simp
 refine (C3.out _).mono ?_
 rintro e' w' ⟨rfl, rfl⟩
 refine hK.out _ _ (fun _ _ => S1) ?_
 clear hK K
 simp only [List.setIfInBounds_toArray, List.set_cons_zero, List.set_cons_succ]
 refine wpAnyK_one 11 (by kernel_rfl) rfl (fun K hK => ?_)
 go_simp
 refine hK.out _ _ (fun h => absurd rfl h) ?_
 clear hK K
 simp only [List.setIfInBounds_toArray, List.set_cons_zero, List.set_cons_succ]
 refine wpAnyK_done (by kernel_rfl) ?_ _
 go_wp2
 go_ret
 exact ⟨rfl, GD.out⟩
theorem may18 {a a' b b' c c' d d' M : Nat} {m : Ch.Mq} (hm : Ch.W8 a a' b b' c c' d d' m) (lm : Ch.Lq m M) (hs : M * M + M * M ≤ 9007199254740992) (w : World) : Calls Tryz.prog 54 #[.agg #[.int .u8 1, .complex .f64 a a', .complex .f64 b b', .complex .f64 c c', .complex .f64 d d', .float .f64 0]] w fun e w' => e = .returned (.bool (decide (Ch.dt m ≠ (0, 0)))) ∧ Bw w w' := by
 obtain ⟨r, s, h, c⟩ := det18 hm lm hs
 have N : Hid (∀ wz, Calls Tryz.prog 40 #[.complex .f64 r s] wz fun e w' => e = .returned (.bool (decide (Ch.dt m = (0, 0)))) ∧ w' = wz) := fun wz => isnought18 h wz
 have C := hide c
 have E : decide (Ch.dt m ≠ (0, 0)) = !decide (Ch.dt m = (0, 0)) := by by_cases z : Ch.dt m = (0, 0) <;> simp [z]
 rw [E]
 generalize decide (Ch.dt m = (0, 0)) = z at *
 clear c h hm lm hs E
 have G : Hid (Ch.Bl (w.alloc (.cells #[.int .u8 1, .complex .f64 a a', .complex .f64 b b', .complex .f64 c c', .complex .f64 d d', .float .f64 0] 61)) w.heap.size [.int .u8 1, .complex .f64 a a', .complex .f64 b b', .complex .f64 c c', .complex .f64 d d', .float .f64 0]) := hide (Ch.Bl.new w #[.int .u8 1, .complex .f64 a a', .complex .f64 b b', .complex .f64 c c', .complex .f64 d d', .float .f64 0] 61)
 have GB := hide (bw_alloc w (.cells #[.int .u8 1, .complex .f64 a a', .complex .f64 b b', .complex .f64 c c', .complex .f64 d d', .float .f64 0] 61))
 obtain ⟨W1, hW⟩ : ∃ v, w.alloc (.cells #[.int .u8 1, .complex .f64 a a', .complex .f64 b b', .complex .f64 c c', .complex .f64 d d', .float .f64 0] 61) = v := ⟨_, rfl⟩
 rw [hW] at G GB
 have HW := hide hW
 clear hW
 go_enter Tryz.func54, Tryz.ntmps54
 have o := Fl.o_eq 0 0
 have oe : Fl.eqF 0 0 = true := by decide
 rw [oe] at o
 clear oe
 go_wp2_with fail
 refine (C.out _).mono ?_
 rintro e' w2 ⟨rfl, b2⟩
 have GC := hide (bw_trans (bw_alloc w (.cells #[.int .u8 1, .complex .f64 a a', .complex .f64 b b', .complex .f64 c c', .complex .f64 d d', .float .f64 0] 61)) b2)
 have c5 := ((Ch.Bl.new w #[.int .u8 1, .complex .f64 a a', .complex .f64 b b', .complex .f64 c c', .complex .f64 d d', .float .f64 0] 61).bw b2).c 5 _ rfl
 clear b2 G GB HW
 go_wp2_with fail
 refine (N.out _).mono ?_
 rintro e' w3 ⟨rfl, rfl⟩
 cases z
 ·
  go_wp2
  go_ret
  exact ⟨rfl, GC.out⟩
 ·
  go_wp2
  go_ret
  exact ⟨rfl, GC.out⟩
end Go.Proofs.YtfgfofedacehiaaGreat

/-
 OWN TEXT: package chart over whole numbers: Check, checked.
-/
namespace Go.Proofs.YtfgfofedacehiaaGreat
open Go.ChangeShapes Go.WideShapes Go.ChangeAt Go.RowKit
set_option linter.unusedVariables false
set_option linter.unusedSimpArgs false
theorem Ch.run_store_fn {P : Program} {w : World} {a : Addr} {m : Mode} (f : Fn) (x y : Array Value) : (store a (.func f x y) m).run P w = stored P w a (.func f x y) m := run_store P w a _ m rfl
theorem Ch.run_store_nf {P : Program} {w : World} {a : Addr} {m : Mode} : (store a .nilFunc m).run P w = stored P w a .nilFunc m := run_store P w a _ m rfl
attribute [local go_sem] Ch.run_store_fn Ch.run_store_nf frombits_call tobits_call run_neg El.run_store_cx El.run_store_fl
theorem musts18 (w : World) : Calls Tryz.prog 29 #[] w fun e w' => e = .returned (.agg #[.nilFunc, .func (.func 54) #[] #[], .func (.func 55) #[] #[], .func (.func 56) #[] #[], .func (.func 57) #[] #[]]) ∧ Bw w w' := by
 go_enter Tryz.func29, Tryz.ntmps29
 go_wp2
 refine bodyPost_ret (results_cell_row rfl _ _ w.heap.size _ _ _ _ rfl (heap_alloc_new _ _) Tryz.underlying59 rfl (by kernel_rfl)) rfl ?_
 exact ⟨rfl, bw_alloc _ _⟩
theorem idx18 (w : World) : (Instr.index 59 (.agg #[.nilFunc, .func (.func 54) #[] #[], .func (.func 55) #[] #[], .func (.func 56) #[] #[], .func (.func 57) #[] #[]]) (.int .u8 1)).run Tryz.prog w = .ok (.func (.func 54) #[] #[]) w := by kernel_rfl
attribute [local go_sem] idx18
set_option maxHeartbeats 4000000 in
theorem check18 {a a' b b' c c' d d' M : Nat} {m : Ch.Mq} (hm : Ch.W8 a a' b b' c c' d d' m) (lm : Ch.Lq m M) (hM : M ≤ 1099511627776) (hs : M * M + M * M ≤ 9007199254740992) (w : World) : Calls Tryz.prog 14 #[.agg #[.int .u8 1, .complex .f64 a a', .complex .f64 b b', .complex .f64 c c', .complex .f64 d d', .float .f64 0]] w fun e w' => e = .returned (.int .i64 (if Ch.dt m = (0, 0) then 180 else 0)) ∧ Bw w w' := by
 have P1 : Hid (∀ wz, Calls Tryz.prog 27 #[.complex .f64 a a'] wz fun e w' => e = .returned (.bool true) ∧ w' = wz) := fun wz => isplace18 hm.1 (lm.1.mono hM) wz
 have P2 : Hid (∀ wz, Calls Tryz.prog 27 #[.complex .f64 b b'] wz fun e w' => e = .returned (.bool true) ∧ w' = wz) := fun wz => isplace18 hm.2.1 (lm.2.1.mono hM) wz
 have P3 : Hid (∀ wz, Calls Tryz.prog 27 #[.complex .f64 c c'] wz fun e w' => e = .returned (.bool true) ∧ w' = wz) := fun wz => isplace18 hm.2.2.1 (lm.2.2.1.mono hM) wz
 have P4 : Hid (∀ wz, Calls Tryz.prog 27 #[.complex .f64 d d'] wz fun e w' => e = .returned (.bool true) ∧ w' = wz) := fun wz => isplace18 hm.2.2.2 (lm.2.2.2.mono hM) wz
 have P5 : Hid (∀ wz, Calls Tryz.prog 27 #[.complex .f64 0 0] wz fun e w' => e = .returned (.bool true) ∧ w' = wz) := fun wz => isplace18 (g := (0, 0)) ⟨w_nought 1074, w_nought 1074⟩ (by unfold Py.Le; decide) wz
 have MU : Hid (∀ wz, Calls Tryz.prog 29 #[] wz fun e w' => e = .returned (.agg #[.nilFunc, .func (.func 54) #[] #[], .func (.func 55) #[] #[], .func (.func 56) #[] #[], .func (.func 57) #[] #[]]) ∧ Bw wz w') := fun wz => musts18 wz
 have MM := hide (may18 hm lm hs)
 have E : (if Ch.dt m = (0, 0) then (180 : Int) else 0) = if decide (Ch.dt m ≠ (0, 0)) = true then 0 else 180 := by by_cases z : Ch.dt m = (0, 0) <;> simp [z]
 rw [E]
 generalize decide (Ch.dt m ≠ (0, 0)) = z at *
 clear hm lm hM hs E
 have G : Hid (Ch.Bl (w.alloc (.cells #[.int .u8 1, .complex .f64 a a', .complex .f64 b b', .complex .f64 c c', .complex .f64 d d', .float .f64 0] 33)) w.heap.size [.int .u8 1, .complex .f64 a a', .complex .f64 b b', .complex .f64 c c', .complex .f64 d d', .float .f64 0]) := hide (Ch.Bl.new w #[.int .u8 1, .complex .f64 a a', .complex .f64 b b', .complex .f64 c c', .complex .f64 d d', .float .f64 0] 33)
 have GB := hide (bw_alloc w (.cells #[.int .u8 1, .complex .f64 a a', .complex .f64 b b', .complex .f64 c c', .complex .f64 d d', .float .f64 0] 33))
 obtain ⟨W1, hW⟩ : ∃ v, w.alloc (.cells #[.int .u8 1, .complex .f64 a a', .complex .f64 b b', .complex .f64 c c', .complex .f64 d d', .float .f64 0] 33) = v := ⟨_, rfl⟩
 rw [hW] at G GB
 have HW := hide hW
 clear hW
 go_enter Tryz.func14, Tryz.ntmps14
 go_wp2_with fail
 refine (P1.out _).mono ?_
 rintro e' w ⟨rfl, rfl⟩
 go_wp2_with fail
 refine (P2.out _).mono ?_
 rintro e' w ⟨rfl, rfl⟩
 go_wp2_with fail
 refine (P3.out _).mono ?_
 rintro e' w ⟨rfl, rfl⟩
 go_wp2_with fail
 refine (P4.out _).mono ?_
 rintro e' w ⟨rfl, rfl⟩
 go_wp2_with fail
 refine (P5.out _).mono ?_
 rintro e' w ⟨rfl, rfl⟩
 go_wp2_with fail
 have HW2 := HW.out
 rw [HW2]
 clear HW2 HW P1 P2 P3 P4 P5
 obtain ⟨A, hA⟩ : ∃ A, w.heap.size = A := ⟨_, rfl⟩
 rw [hA] at G ⊢
 clear hA
 refine wp_region_K (fun w' => Ch.Bl w' A [.int .u8 1, .complex .f64 a a', .complex .f64 b b', .complex .f64 c c', .complex .f64 d d', .float .f64 0]) 6 7 #[false, false, false, false, false, false, false] (by kernel_rfl) (by kernel_rfl) (by kernel_rfl) ?_
 have G1 := hide (G.out.bw (Bw.refl W1).drew)
 have GD := hide (GB.out.drew)
 generalize W1.drew = V at *
 have S1 : Ch.Bl V A [.int .u8 1, .complex .f64 a a', .complex .f64 b b', .complex .f64 c c', .complex .f64 d d', .float .f64 0] := G1.out
 refine wpAnyK_take 1 42 (v := ?v1) rfl (by kernel_rfl) (by kernel_rfl) (by kernel_rfl) (by kernel_rfl) (by kernel_rfl) (fun _ _ _ h => h) rfl (Or.inl ⟨by rfl, ?h1⟩) (by assumption) ?r1
 case h1 => (intro w hSw; have c0 := hSw.c 0 _ rfl; have c1 := hSw.c 1 _ rfl; have c2 := hSw.c 2 _ rfl; have c3 := hSw.c 3 _ rfl; have c4 := hSw.c 4 _ rfl; have c5 := hSw.c 5 _ rfl; go_simp; with_reducible rfl)
 simp only [Act.put, List.setIfInBounds_toArray, List.set_cons_zero, List.set_cons_succ]
 refine wpAnyK_take 2 43 (v := ?v2) rfl (by kernel_rfl) (by kernel_rfl) (by kernel_rfl) (by kernel_rfl) (by kernel_rfl) (fun _ _ _ h => h) rfl (Or.inl ⟨by rfl, ?h2⟩) (by assumption) ?r2
 case h2 => (intro w hSw; have c0 := hSw.c 0 _ rfl; have c1 := hSw.c 1 _ rfl; have c2 := hSw.c 2 _ rfl; have c3 := hSw.c 3 _ rfl; have c4 := hSw.c 4 _ rfl; have c5 := hSw.c 5 _ rfl; go_simp; with_reducible rfl)
 simp only [Act.put, List.setIfInBounds_toArray, List.set_cons_zero, List.set_cons_succ]
 refine wpAnyK_take 4 45 (v := ?v4) rfl (by kernel_rfl) (by kernel_rfl) (by kernel_rfl) (by kernel_rfl) (by kernel_rfl) (fun _ _ _ h => h) rfl (Or.inl ⟨by rfl, ?h4⟩) (by assumption) ?r4
 case h4 => (intro w hSw; have c0 := hSw.c 0 _ rfl; have c1 := hSw.c 1 _ rfl; have c2 := hSw.c 2 _ rfl; have c3 := hSw.c 3 _ rfl; have c4 := hSw.c 4 _ rfl; have c5 := hSw.c 5 _ rfl; go_simp; with_reducible rfl)
 simp only [Act.put, List.setIfInBounds_toArray, List.set_cons_zero, List.set_cons_succ]
 refine wpAnyK_one 0 (by kernel_rfl) rfl (fun K hK => ?_)
 go_simp
 refine (MU.out _).mono ?_
 rintro e' w2 ⟨rfl, b2⟩
 have S2 := S1.bw b2
 refine hK.out _ _ (fun _ _ => S2) ?_
 clear hK K
 simp only [List.setIfInBounds_toArray, List.set_cons_zero, List.set_cons_succ]
 refine wpAnyK_take 3 44 (v := ?v3) rfl (by kernel_rfl) (by kernel_rfl) (by kernel_rfl) (by kernel_rfl) (by kernel_rfl) (fun _ _ _ h => h) rfl (Or.inl ⟨by rfl, ?h3⟩) (by assumption) ?r3
 case h3 => (intro w hSw; have c0 := hSw.c 0 _ rfl; have c1 := hSw.c 1 _ rfl; have c2 := hSw.c 2 _ rfl; have c3 := hSw.c 3 _ rfl; have c4 := hSw.c 4 _ rfl; have c5 := hSw.c 5 _ rfl; go_simp; with_reducible rfl)
 simp only [Act.put, List.setIfInBounds_toArray, List.set_cons_zero, List.set_cons_succ]
 refine wpAnyK_one 5 (by kernel_rfl) rfl (fun K hK => ?_)
 go_simp
 refine (MM.out _).mono ?_
 rintro e' w3 ⟨rfl, b3⟩
 have S3 := S2.bw b3
 refine hK.out _ _ (fun _ _ => S3) ?_
 clear hK K
 simp only [List.setIfInBounds_toArray, List.set_cons_zero, List.set_cons_succ]
 refine wpAnyK_one 6 (by kernel_rfl) rfl (fun K hK => ?_)
 go_simp
 refine hK.out _ _ (fun h => absurd rfl h) ?_
 clear hK K
 simp only [List.setIfInBounds_toArray, List.set_cons_zero, List.set_cons_succ]
 refine wpAnyK_done (by kernel_rfl) ?_ _
 cases z
 ·
  go_wp2
  go_ret
  exact ⟨rfl, bw_trans (bw_trans GD.out b2) b3⟩
 ·
  go_wp2
  go_ret
  exact ⟨rfl, bw_trans (bw_trans GD.out b2) b3⟩
end Go.Proofs.YtfgfofedacehiaaGreat

/-
 OWN TEXT: package chart over whole numbers: Turned, Then.
-/
namespace Go.Proofs.YtfgfofedacehiaaGreat
open Go.ChangeShapes Go.WideShapes Go.ChangeAt Go.RowKit
set_option linter.unusedVariables false
set_option linter.unusedSimpArgs false
attribute [local go_sem] frombits_call tobits_call run_neg El.run_store_cx El.run_store_fl
theorem idx62_0 (x0 x1 x2 x3 x4 x5 y0 y1 y2 y3 y4 y5 : Value) (w : World) : (Instr.index 62 (.agg #[x0, x1, x2, x3, x4, x5, y0, y1, y2, y3, y4, y5]) (.int .i64 0)).run Tryz.prog w = .ok (.agg #[x0, x1, x2, x3, x4, x5]) w := by kernel_rfl
theorem idx62_1 (x0 x1 x2 x3 x4 x5 y0 y1 y2 y3 y4 y5 : Value) (w : World) : (Instr.index 62 (.agg #[x0, x1, x2, x3, x4, x5, y0, y1, y2, y3, y4, y5]) (.int .i64 1)).run Tryz.prog w = .ok (.agg #[y0, y1, y2, y3, y4, y5]) w := by kernel_rfl
attribute [local go_sem] idx62_0 idx62_1
end Go.Proofs.YtfgfofedacehiaaGreat

