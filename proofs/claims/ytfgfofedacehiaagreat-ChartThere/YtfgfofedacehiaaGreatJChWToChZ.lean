/-
 OWN TEXT: package chart: Joukowski's map, over contracts.
-/
import Derived.Test.YtfgfofedacehiaaGreatJChL
import Derived.Test.YtfgfofedacehiaaGreatJChQToChU
import Derived.Test.YtfgfofedacehiaaGreatJChV
namespace Go.Proofs.YtfgfofedacehiaaGreat
open Go.ChangeShapes Go.WideShapes Go.ChangeAt Go.RowKit
set_option linter.unusedVariables false
set_option linter.unusedSimpArgs false
attribute [local go_sem] Ch.run_store_fn Ch.run_store_nf frombits_call tobits_call run_neg El.run_store_cx El.run_store_fl
theorem idx59_2 (w : World) : (Instr.index 59 (.agg #[.nilFunc, .func (.func 54) #[] #[], .func (.func 55) #[] #[], .func (.func 56) #[] #[], .func (.func 57) #[] #[]]) (.int .u8 2)).run Tryz.prog w = .ok (.func (.func 55) #[] #[]) w := by kernel_rfl
attribute [local go_sem] idx59_2
set_option maxHeartbeats 4000000 in
theorem mayj18 {a a' : Nat} {z : Bool} (NA : Hid (∀ wz, Calls Tryz.prog 40 #[.complex .f64 a a'] wz fun e w' => e = .returned (.bool z) ∧ w' = wz)) (w : World) : Calls Tryz.prog 55 #[.agg #[.int .u8 2, .complex .f64 a a', .complex .f64 0 0, .complex .f64 0 0, .complex .f64 0 0, .float .f64 0]] w fun e w' => e = .returned (.bool (!z)) ∧ Bw w w' := by
 have N0 : Hid (∀ wz, Calls Tryz.prog 40 #[.complex .f64 0 0] wz fun e w' => e = .returned (.bool true) ∧ w' = wz) := fun wz => by have q := isnought18 (g := (0, 0)) ⟨w_nought 1074, w_nought 1074⟩ wz; rw [decide_eq_true rfl] at q; exact q
 have GB := hide (bw_alloc w (.cells #[.int .u8 2, .complex .f64 a a', .complex .f64 0 0, .complex .f64 0 0, .complex .f64 0 0, .float .f64 0] 61))
 have o := Fl.o_eq 0 0
 have oe : Fl.eqF 0 0 = true := by decide
 rw [oe] at o
 clear oe
 cases z
 ·
  go_enter Tryz.func55, Tryz.ntmps55
  go_wp2_with fail
  refine (NA.out _).mono ?_
  rintro e' w' ⟨rfl, rfl⟩
  go_wp2_with fail
  refine (N0.out _).mono ?_
  rintro e' w' ⟨rfl, rfl⟩
  go_wp2_with fail
  refine (N0.out _).mono ?_
  rintro e' w' ⟨rfl, rfl⟩
  go_wp2_with fail
  refine (N0.out _).mono ?_
  rintro e' w' ⟨rfl, rfl⟩
  go_wp2
  go_ret
  exact ⟨rfl, GB.out⟩
 ·
  go_enter Tryz.func55, Tryz.ntmps55
  go_wp2_with fail
  refine (NA.out _).mono ?_
  rintro e' w' ⟨rfl, rfl⟩
  go_wp2
  go_ret
  exact ⟨rfl, GB.out⟩
set_option maxHeartbeats 4000000 in
theorem checkj18 {a a' : Nat} {z : Bool} (NA : Hid (∀ wz, Calls Tryz.prog 40 #[.complex .f64 a a'] wz fun e w' => e = .returned (.bool z) ∧ w' = wz)) (P1 : Hid (∀ wz, Calls Tryz.prog 27 #[.complex .f64 a a'] wz fun e w' => e = .returned (.bool true) ∧ w' = wz)) (w : World) : Calls Tryz.prog 14 #[.agg #[.int .u8 2, .complex .f64 a a', .complex .f64 0 0, .complex .f64 0 0, .complex .f64 0 0, .float .f64 0]] w fun e w' => e = .returned (.int .i64 (if z then 180 else 0)) ∧ Bw w w' := by
 have P5 : Hid (∀ wz, Calls Tryz.prog 27 #[.complex .f64 0 0] wz fun e w' => e = .returned (.bool true) ∧ w' = wz) := fun wz => isplace18 (g := (0, 0)) ⟨w_nought 1074, w_nought 1074⟩ (by unfold Py.Le; decide) wz
 have MU : Hid (∀ wz, Calls Tryz.prog 29 #[] wz fun e w' => e = .returned (.agg #[.nilFunc, .func (.func 54) #[] #[], .func (.func 55) #[] #[], .func (.func 56) #[] #[], .func (.func 57) #[] #[]]) ∧ Bw wz w') := fun wz => musts18 wz
 have MM := hide (fun wz => mayj18 NA wz)
 clear NA
 have G : Hid (Ch.Bl (w.alloc (.cells #[.int .u8 2, .complex .f64 a a', .complex .f64 0 0, .complex .f64 0 0, .complex .f64 0 0, .float .f64 0] 33)) w.heap.size [.int .u8 2, .complex .f64 a a', .complex .f64 0 0, .complex .f64 0 0, .complex .f64 0 0, .float .f64 0]) := hide (Ch.Bl.new w #[.int .u8 2, .complex .f64 a a', .complex .f64 0 0, .complex .f64 0 0, .complex .f64 0 0, .float .f64 0] 33)
 have GB := hide (bw_alloc w (.cells #[.int .u8 2, .complex .f64 a a', .complex .f64 0 0, .complex .f64 0 0, .complex .f64 0 0, .float .f64 0] 33))
 obtain ⟨W1, hW⟩ : ∃ v, w.alloc (.cells #[.int .u8 2, .complex .f64 a a', .complex .f64 0 0, .complex .f64 0 0, .complex .f64 0 0, .float .f64 0] 33) = v := ⟨_, rfl⟩
 rw [hW] at G GB
 have HW := hide hW
 clear hW
 go_enter Tryz.func14, Tryz.ntmps14
 go_wp2_with fail
 refine (P1.out _).mono ?_
 rintro e' w ⟨rfl, rfl⟩
 go_wp2_with fail
 refine (P5.out _).mono ?_
 rintro e' w ⟨rfl, rfl⟩
 go_wp2_with fail
 refine (P5.out _).mono ?_
 rintro e' w ⟨rfl, rfl⟩
 go_wp2_with fail
 refine (P5.out _).mono ?_
 rintro e' w ⟨rfl, rfl⟩
 go_wp2_with fail
 refine (P5.out _).mono ?_
 rintro e' w ⟨rfl, rfl⟩
 go_wp2_with fail
 have HW2 := HW.out
 rw [HW2]
 clear HW2 HW P1 P5
 obtain ⟨A, hA⟩ : ∃ A, w.heap.size = A := ⟨_, rfl⟩
 rw [hA] at G ⊢
 clear hA
 refine wp_region_K (fun w' => Ch.Bl w' A [.int .u8 2, .complex .f64 a a', .complex .f64 0 0, .complex .f64 0 0, .complex .f64 0 0, .float .f64 0]) 6 7 #[false, false, false, false, false, false, false] (by kernel_rfl) (by kernel_rfl) (by kernel_rfl) ?_
 have G1 := hide (G.out.bw (Bw.refl W1).drew)
 have GD := hide (GB.out.drew)
 generalize W1.drew = V at *
 have S1 : Ch.Bl V A [.int .u8 2, .complex .f64 a a', .complex .f64 0 0, .complex .f64 0 0, .complex .f64 0 0, .float .f64 0] := G1.out
 refine wpAnyK_take 1 42 (v := ?v1) rfl (by kernel_rfl) (by kernel_rfl) (by kernel_rfl) (by kernel_rfl) (by kernel_rfl) (fun _ _ _ h => h) rfl (Or.inl ⟨by rfl, ?h1⟩) (by assumption) ?r1
 case h1 => (intro w hSw; have c0 := hSw.c 0 _ rfl; have c1 := hSw.c 1 _ rfl; have c2 := hSw.c 2 _ rfl; have c3 := hSw.c 3 _ rfl; have c4 := hSw.c 4 _ rfl; have c5 := hSw.c 5 _ rfl; go_simp; with_reducible rfl)
 simp only [Act.put, List.setIfInBounds_toArray, List.set_cons_zero, List.set_cons_succ]
 refine wpAnyK_take 2 43 (v := ?v2) rfl (by kernel_rfl) (by kernel_rfl) (by kernel_rfl) (by kernel_rfl) (by kernel_rfl) (fun _ _ _ h => h) rfl (Or.inl ⟨by rfl, ?h2⟩) (by assumption) ?r2
 case h2 => (intro w hSw; have c0 := hSw.c 0 _ rfl; have c1 := hSw.c 1 _ rfl; have c2 := hSw.c 2 _ rfl; have c3 := hSw.c 3 _ rfl; have c4 := hSw.c 4 _ rfl; have c5 := hSw.c 5 _ rfl; go_simp; with_reducible rfl)
 simp only [Act.put, List.setIfInBounds_toArray, List.set_cons_zero, List.set_cons_succ]
 refine wpAnyK_take 4 45 (v := ?v4) rfl (by kernel_rfl) (by kernel_rfl) (by kernel_rfl) (by kernel_rfl) (by kernel_rfl) (fun _ _ _ h => h) rfl (Or.inl ⟨by rfl, ?h4⟩) (by assumption) ?r4
 case h4 => (intro w hSw; have c0 := hSw.c 0 _ rfl; have c1 := hSw.c 1 _ rfl; have c2 := hSw.c 2 _ rfl; have c3 := hSw.c 3 _ rfl; have c4 := hSw.c 4 _ rfl; have c5 := hSw.c 5 _ rfl; go_simp; with_reducible rfl)
 simp only [Act.put, List.setIfInBounds_toArray, List.set_cons_zero, List.set_cons_succ]
 refine wpAnyK_one 0 (by kernel_rfl) rfl (fun K hK => ?_)
 go_simp
 refine (MU.out _).mono ?_
 rintro e' w2 ⟨rfl, b2⟩
 have S2 := S1.bw b2
 refine hK.out _ _ (fun _ _ => S2) ?_
 clear hK K
 simp only [List.setIfInBounds_toArray, List.set_cons_zero, List.set_cons_succ]
 refine wpAnyK_take 3 44 (v := ?v3) rfl (by kernel_rfl) (by kernel_rfl) (by kernel_rfl) (by kernel_rfl) (by kernel_rfl) (fun _ _ _ h => h) rfl (Or.inl ⟨by rfl, ?h3⟩) (by assumption) ?r3
 case h3 => (intro w hSw; have c0 := hSw.c 0 _ rfl; have c1 := hSw.c 1 _ rfl; have c2 := hSw.c 2 _ rfl; have c3 := hSw.c 3 _ rfl; have c4 := hSw.c 4 _ rfl; have c5 := hSw.c 5 _ rfl; go_simp; with_reducible rfl)
 simp only [Act.put, List.setIfInBounds_toArray, List.set_cons_zero, List.set_cons_succ]
 refine wpAnyK_one 5 (by kernel_rfl) rfl (fun K hK => ?_)
 go_simp
 refine (MM.out _).mono ?_
 rintro e' w3 ⟨rfl, b3⟩
 have S3 := S2.bw b3
 refine hK.out _ _ (fun _ _ => S3) ?_
 clear hK K
 simp only [List.setIfInBounds_toArray, List.set_cons_zero, List.set_cons_succ]
 refine wpAnyK_one 6 (by kernel_rfl) rfl (fun K hK => ?_)
 go_simp
 refine hK.out _ _ (fun h => absurd rfl h) ?_
 clear hK K
 simp only [List.setIfInBounds_toArray, List.set_cons_zero, List.set_cons_succ]
 refine wpAnyK_done (by kernel_rfl) ?_ _
 cases z
 ·
  go_wp2
  go_ret
  exact ⟨rfl, bw_trans (bw_trans GD.out b2) b3⟩
 ·
  go_wp2
  go_ret
  exact ⟨rfl, bw_trans (bw_trans GD.out b2) b3⟩
set_option maxHeartbeats 4000000 in
theorem square18 {a a' q q' : Nat} (MU : Hid (∀ wz, Calls Tryz.prog 19 #[.complex .f64 a a', .complex .f64 a a'] wz fun e w' => e = .returned (.complex .f64 q q') ∧ Bw wz w')) (w : World) : Calls Tryz.prog 88 #[.agg #[.int .u8 2, .complex .f64 a a', .complex .f64 0 0, .complex .f64 0 0, .complex .f64 0 0, .float .f64 0]] w fun e w' => e = .returned (.complex .f64 q q') ∧ Bw w w' := by
 have g1 := Ch.Bl.new w #[.int .u8 2, .complex .f64 a a', .complex .f64 0 0, .complex .f64 0 0, .complex .f64 0 0, .float .f64 0] 61
 have z1 : (w.alloc (.cells #[.int .u8 2, .complex .f64 a a', .complex .f64 0 0, .complex .f64 0 0, .complex .f64 0 0, .float .f64 0] 61)).heap.size = w.heap.size + 1 := by simp
 have b1 := bw_alloc w (.cells #[.int .u8 2, .complex .f64 a a', .complex .f64 0 0, .complex .f64 0 0, .complex .f64 0 0, .float .f64 0] 61)
 obtain ⟨W1, hW1⟩ : ∃ v, w.alloc (.cells #[.int .u8 2, .complex .f64 a a', .complex .f64 0 0, .complex .f64 0 0, .complex .f64 0 0, .float .f64 0] 61) = v := ⟨_, rfl⟩
 rw [hW1] at g1 z1 b1
 have GG : Hid (Ch.Bl W1 (w.heap.size) [.int .u8 2, .complex .f64 a a', .complex .f64 0 0, .complex .f64 0 0, .complex .f64 0 0, .float .f64 0] ∧ Bw w W1) := ⟨(show Ch.Bl _ (w.heap.size) _ from g1), b1⟩
 have HW := hide (hW1)
 clear g1 b1 z1 hW1
 go_enter Tryz.func88, Tryz.ntmps88
 go_wp2_with fail
 rw [HW.out]
 obtain ⟨A, hA⟩ : ∃ A, w.heap.size = A := ⟨_, rfl⟩
 rw [hA] at GG ⊢
 have HA := hide hA
 have c00 := (GG.out.1).c 0 _ rfl
 have c01 := (GG.out.1).c 1 _ rfl
 have c02 := (GG.out.1).c 2 _ rfl
 have c03 := (GG.out.1).c 3 _ rfl
 have c04 := (GG.out.1).c 4 _ rfl
 have c05 := (GG.out.1).c 5 _ rfl
 go_wp2_with fail
 clear c00 c01 c02 c03 c04 c05
 refine (MU.out _).mono ?_
 rintro e' w2 ⟨rfl, bb⟩
 have G2 : Hid (Ch.Bl w2 (A) [.int .u8 2, .complex .f64 a a', .complex .f64 0 0, .complex .f64 0 0, .complex .f64 0 0, .float .f64 0] ∧ Bw w w2) := ⟨GG.out.1.bw bb, bw_trans GG.out.2 bb⟩
 clear bb GG
 go_wp2
 go_ret
 exact ⟨rfl, G2.out.2⟩
set_option maxHeartbeats 4000000 in
theorem jou18 {a a' z z' q q' k k' v v' : Nat} (NO : Hid (∀ wz, Calls Tryz.prog 40 #[.complex .f64 z z'] wz fun e w' => e = .returned (.bool false) ∧ w' = wz)) (SQ : Hid (∀ wz, Calls Tryz.prog 88 #[.agg #[.int .u8 2, .complex .f64 a a', .complex .f64 0 0, .complex .f64 0 0, .complex .f64 0 0, .float .f64 0]] wz fun e w' => e = .returned (.complex .f64 q q') ∧ Bw wz w')) (DV : Hid (∀ wz, Calls Tryz.prog 41 #[.complex .f64 q q', .complex .f64 z z'] wz fun e w' => e = .returned (.complex .f64 k k') ∧ Bw wz w')) (AD : Hid (∀ wz, Calls Tryz.prog 58 #[.complex .f64 z z', .complex .f64 k k'] wz fun e w' => e = .returned (.complex .f64 v v') ∧ Bw wz w'))
  (w : World) : Calls Tryz.prog 66 #[.agg #[.int .u8 2, .complex .f64 a a', .complex .f64 0 0, .complex .f64 0 0, .complex .f64 0 0, .float .f64 0], .complex .f64 z z'] w fun e w' => e = .returned (.tuple #[.complex .f64 v v', .int .i64 0]) ∧ Bw w w' := by
 have g1 := Ch.Bl.new w #[.int .u8 2, .complex .f64 a a', .complex .f64 0 0, .complex .f64 0 0, .complex .f64 0 0, .float .f64 0] 61
 have z1 : (w.alloc (.cells #[.int .u8 2, .complex .f64 a a', .complex .f64 0 0, .complex .f64 0 0, .complex .f64 0 0, .float .f64 0] 61)).heap.size = w.heap.size + 1 := by simp
 have b1 := bw_alloc w (.cells #[.int .u8 2, .complex .f64 a a', .complex .f64 0 0, .complex .f64 0 0, .complex .f64 0 0, .float .f64 0] 61)
 obtain ⟨W1, hW1⟩ : ∃ v, w.alloc (.cells #[.int .u8 2, .complex .f64 a a', .complex .f64 0 0, .complex .f64 0 0, .complex .f64 0 0, .float .f64 0] 61) = v := ⟨_, rfl⟩
 rw [hW1] at g1 z1 b1
 have GG : Hid (Ch.Bl W1 (w.heap.size) [.int .u8 2, .complex .f64 a a', .complex .f64 0 0, .complex .f64 0 0, .complex .f64 0 0, .float .f64 0] ∧ Bw w W1) := ⟨(show Ch.Bl _ (w.heap.size) _ from g1), b1⟩
 have HW := hide (hW1)
 clear g1 b1 z1 hW1
 go_enter Tryz.func66, Tryz.ntmps66
 go_wp2_with fail
 rw [HW.out]
 obtain ⟨A, hA⟩ : ∃ A, w.heap.size = A := ⟨_, rfl⟩
 rw [hA] at GG ⊢
 have HA := hide hA
 refine (NO.out _).mono ?_
 rintro e' w1 ⟨rfl, hw⟩
 subst hw
 have c00 := (GG.out.1).c 0 _ rfl
 have c01 := (GG.out.1).c 1 _ rfl
 have c02 := (GG.out.1).c 2 _ rfl
 have c03 := (GG.out.1).c 3 _ rfl
 have c04 := (GG.out.1).c 4 _ rfl
 have c05 := (GG.out.1).c 5 _ rfl
 go_wp2_with fail
 clear c00 c01 c02 c03 c04 c05
 refine (SQ.out _).mono ?_
 rintro e' w2 ⟨rfl, bb⟩
 have G2 : Hid (Ch.Bl w2 (A) [.int .u8 2, .complex .f64 a a', .complex .f64 0 0, .complex .f64 0 0, .complex .f64 0 0, .float .f64 0] ∧ Bw w w2) := ⟨GG.out.1.bw bb, bw_trans GG.out.2 bb⟩
 clear bb GG
 go_wp2_with fail
 refine (DV.out _).mono ?_
 rintro e' w3 ⟨rfl, bb⟩
 have G3 : Hid (Ch.Bl w3 (A) [.int .u8 2, .complex .f64 a a', .complex .f64 0 0, .complex .f64 0 0, .complex .f64 0 0, .float .f64 0] ∧ Bw w w3) := ⟨G2.out.1.bw bb, bw_trans G2.out.2 bb⟩
 clear bb G2
 go_wp2_with fail
 refine (AD.out _).mono ?_
 rintro e' w4 ⟨rfl, bb⟩
 have G4 : Hid (Ch.Bl w4 (A) [.int .u8 2, .complex .f64 a a', .complex .f64 0 0, .complex .f64 0 0, .complex .f64 0 0, .float .f64 0] ∧ Bw w w4) := ⟨G3.out.1.bw bb, bw_trans G3.out.2 bb⟩
 clear bb G3
 go_wp2
 refine bodyPost_ret (results_tmp2 rfl _ _ _) rfl ?_
 exact ⟨rfl, G4.out.2⟩
set_option maxHeartbeats 4000000 in
theorem jouf18 {a a' z z' : Nat} (NO : Hid (∀ wz, Calls Tryz.prog 40 #[.complex .f64 z z'] wz fun e w' => e = .returned (.bool true) ∧ w' = wz))
  (w : World) : Calls Tryz.prog 66 #[.agg #[.int .u8 2, .complex .f64 a a', .complex .f64 0 0, .complex .f64 0 0, .complex .f64 0 0, .float .f64 0], .complex .f64 z z'] w fun e w' => e = .returned (.tuple #[.complex .f64 0 0, .int .i64 6]) ∧ Bw w w' := by
 have g1 := Ch.Bl.new w #[.int .u8 2, .complex .f64 a a', .complex .f64 0 0, .complex .f64 0 0, .complex .f64 0 0, .float .f64 0] 61
 have z1 : (w.alloc (.cells #[.int .u8 2, .complex .f64 a a', .complex .f64 0 0, .complex .f64 0 0, .complex .f64 0 0, .float .f64 0] 61)).heap.size = w.heap.size + 1 := by simp
 have b1 := bw_alloc w (.cells #[.int .u8 2, .complex .f64 a a', .complex .f64 0 0, .complex .f64 0 0, .complex .f64 0 0, .float .f64 0] 61)
 obtain ⟨W1, hW1⟩ : ∃ v, w.alloc (.cells #[.int .u8 2, .complex .f64 a a', .complex .f64 0 0, .complex .f64 0 0, .complex .f64 0 0, .float .f64 0] 61) = v := ⟨_, rfl⟩
 rw [hW1] at g1 z1 b1
 have GG : Hid (Ch.Bl W1 (w.heap.size) [.int .u8 2, .complex .f64 a a', .complex .f64 0 0, .complex .f64 0 0, .complex .f64 0 0, .float .f64 0] ∧ Bw w W1) := ⟨(show Ch.Bl _ (w.heap.size) _ from g1), b1⟩
 have HW := hide (hW1)
 clear g1 b1 z1 hW1
 go_enter Tryz.func66, Tryz.ntmps66
 go_wp2_with fail
 rw [HW.out]
 obtain ⟨A, hA⟩ : ∃ A, w.heap.size = A := ⟨_, rfl⟩
 rw [hA] at GG ⊢
 have HA := hide hA
 refine (NO.out _).mono ?_
 rintro e' w1 ⟨rfl, hw⟩
 subst hw
 go_wp2
 refine bodyPost_ret (results_tmp2 rfl _ _ _) rfl ?_
 exact ⟨rfl, GG.out.2⟩
set_option maxHeartbeats 8000000 in
theorem outer18 {a a' v v' f f' x x' y y' : Nat} {Q Q1 Q2 : Nat → Nat → Prop} (SC : Hid (∀ wz, Calls Tryz.prog 92 #[.complex .f64 a a', .float .f64 4611686018427387904] wz fun e w' => e = .returned (.complex .f64 f f') ∧ Bw wz w')) (SU : Hid (∀ wz, Calls Tryz.prog 18 #[.complex .f64 v v', .complex .f64 f f'] wz fun e w' => e = .returned (.complex .f64 x x') ∧ Bw wz w')) (RX : Hid (∀ wz, Calls Tryz.prog 104 #[.complex .f64 x x'] wz fun e w' => ∃ x y, e = .returned (.complex .f64 x y) ∧ Q1 x y ∧ Bw wz w')) (AD : Hid (∀ wz, Calls Tryz.prog 58 #[.complex .f64 v v', .complex .f64 f f'] wz fun e w' => e = .returned (.complex .f64 y y') ∧ Bw wz w')) (RY : Hid (∀ wz, Calls Tryz.prog 104 #[.complex .f64 y y'] wz fun e w' => ∃ x y, e = .returned (.complex .f64 x y) ∧ Q2 x y ∧ Bw wz w'))
  (K : Hid (∀ p p' r r', Q1 p p' → Q2 r r' → ∃ (s s' n n' m1 m2 m3 : Nat) (c : Bool) (y y' b b' : Nat), (∀ wz, Calls Tryz.prog 19 #[.complex .f64 p p', .complex .f64 r r'] wz fun e w' => e = .returned (.complex .f64 s s') ∧ Bw wz w') ∧ (∀ t w, (binOp .mul t (.float .f64 v) (.float .f64 s)).run Tryz.prog w = .ok (.float .f64 m1) w) ∧ (∀ t w, (binOp .mul t (.float .f64 v') (.float .f64 s')).run Tryz.prog w = .ok (.float .f64 m2) w) ∧ (∀ t w, (binOp .add t (.float .f64 m1) (.float .f64 m2)).run Tryz.prog w = .ok (.float .f64 m3) w) ∧ (FloatKind.f64.format.order m3 0 == some .lt) = c ∧ (∀ wz, Calls Tryz.prog 33 #[.complex .f64 s s'] wz fun e w' => e = .returned (.complex .f64 n n') ∧ Bw wz w') ∧ (c = true → (∀ wz, Calls Tryz.prog 58 #[.complex .f64 v v', .complex .f64 n n'] wz fun e w' => e = .returned (.complex .f64 y y') ∧ Bw wz w')) ∧ (c = false → (∀ wz, Calls Tryz.prog 58 #[.complex .f64 v v', .complex .f64 s s'] wz fun e w' => e = .returned (.complex .f64 y y') ∧ Bw wz w')) ∧ (∀ wz, Calls Tryz.prog 92 #[.complex .f64 y y', .float .f64 4602678819172646912] wz fun e w' => e = .returned (.complex .f64 b b') ∧ Bw wz w') ∧ Q b b'))
  (w : World) : Calls Tryz.prog 89 #[.agg #[.int .u8 2, .complex .f64 a a', .complex .f64 0 0, .complex .f64 0 0, .complex .f64 0 0, .float .f64 0], .complex .f64 v v'] w fun e w' => ∃ x y, e = .returned (.complex .f64 x y) ∧ Q x y ∧ Bw w w' := by
 have g1 := Ch.Bl.new w #[.int .u8 2, .complex .f64 a a', .complex .f64 0 0, .complex .f64 0 0, .complex .f64 0 0, .float .f64 0] 61
 have z1 : (w.alloc (.cells #[.int .u8 2, .complex .f64 a a', .complex .f64 0 0, .complex .f64 0 0, .complex .f64 0 0, .float .f64 0] 61)).heap.size = w.heap.size + 1 := by simp
 have b1 := bw_alloc w (.cells #[.int .u8 2, .complex .f64 a a', .complex .f64 0 0, .complex .f64 0 0, .complex .f64 0 0, .float .f64 0] 61)
 obtain ⟨W1, hW1⟩ : ∃ v, w.alloc (.cells #[.int .u8 2, .complex .f64 a a', .complex .f64 0 0, .complex .f64 0 0, .complex .f64 0 0, .float .f64 0] 61) = v := ⟨_, rfl⟩
 rw [hW1] at g1 z1 b1
 have GG : Hid (Ch.Bl W1 (w.heap.size) [.int .u8 2, .complex .f64 a a', .complex .f64 0 0, .complex .f64 0 0, .complex .f64 0 0, .float .f64 0] ∧ Bw w W1) := ⟨(show Ch.Bl _ (w.heap.size) _ from g1), b1⟩
 have HW := hide (hW1)
 clear g1 b1 z1 hW1
 go_enter Tryz.func89, Tryz.ntmps89
 go_wp2_with fail
 rw [HW.out]
 obtain ⟨A, hA⟩ : ∃ A, w.heap.size = A := ⟨_, rfl⟩
 rw [hA] at GG ⊢
 have HA := hide hA
 have c00 := (GG.out.1).c 0 _ rfl
 have c01 := (GG.out.1).c 1 _ rfl
 have c02 := (GG.out.1).c 2 _ rfl
 have c03 := (GG.out.1).c 3 _ rfl
 have c04 := (GG.out.1).c 4 _ rfl
 have c05 := (GG.out.1).c 5 _ rfl
 go_wp2_with fail
 clear c00 c01 c02 c03 c04 c05
 refine (SC.out _).mono ?_
 rintro e' w2 ⟨rfl, bb⟩
 have G2 : Hid (Ch.Bl w2 (A) [.int .u8 2, .complex .f64 a a', .complex .f64 0 0, .complex .f64 0 0, .complex .f64 0 0, .float .f64 0] ∧ Bw w w2) := ⟨GG.out.1.bw bb, bw_trans GG.out.2 bb⟩
 clear bb GG
 clear SC
 go_wp2_with fail
 refine (SU.out _).mono ?_
 rintro e' w3 ⟨rfl, bb⟩
 have G3 : Hid (Ch.Bl w3 (A) [.int .u8 2, .complex .f64 a a', .complex .f64 0 0, .complex .f64 0 0, .complex .f64 0 0, .float .f64 0] ∧ Bw w w3) := ⟨G2.out.1.bw bb, bw_trans G2.out.2 bb⟩
 clear bb G2
 clear SU
 go_wp2_with fail
 refine (RX.out _).mono ?_
 rintro e' w4 ⟨p, p', rfl, hp, bb⟩
 have G4 : Hid (Ch.Bl w4 (A) [.int .u8 2, .complex .f64 a a', .complex .f64 0 0, .complex .f64 0 0, .complex .f64 0 0, .float .f64 0] ∧ Bw w w4) := ⟨G3.out.1.bw bb, bw_trans G3.out.2 bb⟩
 clear bb G3
 clear RX
 go_wp2_with fail
 refine (AD.out _).mono ?_
 rintro e' w5 ⟨rfl, bb⟩
 have G5 : Hid (Ch.Bl w5 (A) [.int .u8 2, .complex .f64 a a', .complex .f64 0 0, .complex .f64 0 0, .complex .f64 0 0, .float .f64 0] ∧ Bw w w5) := ⟨G4.out.1.bw bb, bw_trans G4.out.2 bb⟩
 clear bb G4
 clear AD
 go_wp2_with fail
 refine (RY.out _).mono ?_
 rintro e' w6 ⟨r, r', rfl, hr, bb⟩
 have G6 : Hid (Ch.Bl w6 (A) [.int .u8 2, .complex .f64 a a', .complex .f64 0 0, .complex .f64 0 0, .complex .f64 0 0, .float .f64 0] ∧ Bw w w6) := ⟨G5.out.1.bw bb, bw_trans G5.out.2 bb⟩
 clear bb G5
 clear RY
 obtain ⟨s, s', n, n', m1, m2, m3, c, y, y', b, b', k1, k2, k3, k4, k5, k6, k7, k8, k9, hq⟩ := K.out p p' r r' hp hr
 have K1 := hide k1
 have K6 := hide k6
 have K7 := hide k7
 have K8 := hide k8
 have K9 := hide k9
 have HQ := hide hq
 clear K hp hr k1 k6 k7 k8 k9 hq
 go_wp2_with fail
 refine (K1.out _).mono ?_
 rintro e' w7 ⟨rfl, bb⟩
 have G7 : Hid (Ch.Bl w7 (A) [.int .u8 2, .complex .f64 a a', .complex .f64 0 0, .complex .f64 0 0, .complex .f64 0 0, .float .f64 0] ∧ Bw w w7) := ⟨G6.out.1.bw bb, bw_trans G6.out.2 bb⟩
 clear bb G6
 clear K1
 cases c
 ·
  have A8 := hide (K8.out rfl)
  clear K7 K8 K6
  go_wp2_with fail
  refine (A8.out _).mono ?_
  rintro e' w8 ⟨rfl, bb⟩
  have G8 : Hid (Ch.Bl w8 (A) [.int .u8 2, .complex .f64 a a', .complex .f64 0 0, .complex .f64 0 0, .complex .f64 0 0, .float .f64 0] ∧ Bw w w8) := ⟨G7.out.1.bw bb, bw_trans G7.out.2 bb⟩
  clear bb G7
  go_wp2_with fail
  refine (K9.out _).mono ?_
  rintro e' w9 ⟨rfl, bb⟩
  have G9 : Hid (Ch.Bl w9 (A) [.int .u8 2, .complex .f64 a a', .complex .f64 0 0, .complex .f64 0 0, .complex .f64 0 0, .float .f64 0] ∧ Bw w w9) := ⟨G8.out.1.bw bb, bw_trans G8.out.2 bb⟩
  clear bb G8
  go_wp2
  go_ret
  exact ⟨b, b', rfl, HQ.out, G9.out.2⟩
 ·
  have A8 := hide (K7.out rfl)
  clear K7 K8
  go_wp2_with fail
  refine (K6.out _).mono ?_
  rintro e' wn ⟨rfl, bb⟩
  have Gn : Hid (Ch.Bl wn (A) [.int .u8 2, .complex .f64 a a', .complex .f64 0 0, .complex .f64 0 0, .complex .f64 0 0, .float .f64 0] ∧ Bw w wn) := ⟨G7.out.1.bw bb, bw_trans G7.out.2 bb⟩
  clear bb G7
  go_wp2_with fail
  refine (A8.out _).mono ?_
  rintro e' w8 ⟨rfl, bb⟩
  have G8 : Hid (Ch.Bl w8 (A) [.int .u8 2, .complex .f64 a a', .complex .f64 0 0, .complex .f64 0 0, .complex .f64 0 0, .float .f64 0] ∧ Bw w w8) := ⟨Gn.out.1.bw bb, bw_trans Gn.out.2 bb⟩
  clear bb Gn
  go_wp2_with fail
  refine (K9.out _).mono ?_
  rintro e' w9 ⟨rfl, bb⟩
  have G9 : Hid (Ch.Bl w9 (A) [.int .u8 2, .complex .f64 a a', .complex .f64 0 0, .complex .f64 0 0, .complex .f64 0 0, .float .f64 0] ∧ Bw w w9) := ⟨G8.out.1.bw bb, bw_trans G8.out.2 bb⟩
  clear bb G8
  go_wp2
  go_ret
  exact ⟨b, b', rfl, HQ.out, G9.out.2⟩
set_option maxHeartbeats 4000000 in
theorem jback18 {a a' v v' : Nat} {Q : Nat → Nat → Prop} (OU : Hid (∀ wz, Calls Tryz.prog 89 #[.agg #[.int .u8 2, .complex .f64 a a', .complex .f64 0 0, .complex .f64 0 0, .complex .f64 0 0, .float .f64 0], .complex .f64 v v'] wz fun e w' => ∃ x y, e = .returned (.complex .f64 x y) ∧ Q x y ∧ Bw wz w')) (w : World) : Calls Tryz.prog 68 #[.agg #[.int .u8 2, .complex .f64 a a', .complex .f64 0 0, .complex .f64 0 0, .complex .f64 0 0, .float .f64 0], .complex .f64 v v'] w fun e w' => ∃ x y, e = .returned (.tuple #[.complex .f64 x y, .int .i64 0]) ∧ Q x y ∧ Bw w w' := by
 have g1 := Ch.Bl.new w #[.int .u8 2, .complex .f64 a a', .complex .f64 0 0, .complex .f64 0 0, .complex .f64 0 0, .float .f64 0] 61
 have z1 : (w.alloc (.cells #[.int .u8 2, .complex .f64 a a', .complex .f64 0 0, .complex .f64 0 0, .complex .f64 0 0, .float .f64 0] 61)).heap.size = w.heap.size + 1 := by simp
 have b1 := bw_alloc w (.cells #[.int .u8 2, .complex .f64 a a', .complex .f64 0 0, .complex .f64 0 0, .complex .f64 0 0, .float .f64 0] 61)
 obtain ⟨W1, hW1⟩ : ∃ v, w.alloc (.cells #[.int .u8 2, .complex .f64 a a', .complex .f64 0 0, .complex .f64 0 0, .complex .f64 0 0, .float .f64 0] 61) = v := ⟨_, rfl⟩
 rw [hW1] at g1 z1 b1
 have GG : Hid (Ch.Bl W1 (w.heap.size) [.int .u8 2, .complex .f64 a a', .complex .f64 0 0, .complex .f64 0 0, .complex .f64 0 0, .float .f64 0] ∧ Bw w W1) := ⟨(show Ch.Bl _ (w.heap.size) _ from g1), b1⟩
 have HW := hide (hW1)
 clear g1 b1 z1 hW1
 go_enter Tryz.func68, Tryz.ntmps68
 go_wp2_with fail
 rw [HW.out]
 obtain ⟨A, hA⟩ : ∃ A, w.heap.size = A := ⟨_, rfl⟩
 rw [hA] at GG ⊢
 have HA := hide hA
 refine (OU.out _).mono ?_
 rintro e' w2 ⟨X, Y, rfl, hq, bb⟩
 have G2 : Hid (Ch.Bl w2 (A) [.int .u8 2, .complex .f64 a a', .complex .f64 0 0, .complex .f64 0 0, .complex .f64 0 0, .float .f64 0] ∧ Bw w w2) := ⟨GG.out.1.bw bb, bw_trans GG.out.2 bb⟩
 clear bb GG
 go_wp2
 refine bodyPost_ret (results_tmp2 rfl _ _ _) rfl ?_
 exact ⟨X, Y, rfl, hq, G2.out.2⟩
set_option maxHeartbeats 8000000 in
theorem jother18 {a a' q q' v v' : Nat} {Q Q2 : Nat → Nat → Prop} (SQ : Hid (∀ wz, Calls Tryz.prog 88 #[.agg #[.int .u8 2, .complex .f64 a a', .complex .f64 0 0, .complex .f64 0 0, .complex .f64 0 0, .float .f64 0]] wz fun e w' => e = .returned (.complex .f64 q q') ∧ Bw wz w')) (OU : Hid (∀ wz, Calls Tryz.prog 89 #[.agg #[.int .u8 2, .complex .f64 a a', .complex .f64 0 0, .complex .f64 0 0, .complex .f64 0 0, .float .f64 0], .complex .f64 v v'] wz fun e w' => ∃ x y, e = .returned (.complex .f64 x y) ∧ Q x y ∧ Bw wz w')) (DV : Hid (∀ x y wz, Q x y → Calls Tryz.prog 41 #[.complex .f64 q q', .complex .f64 x y] wz fun e w' => ∃ u v, e = .returned (.complex .f64 u v) ∧ Q2 u v ∧ Bw wz w')) (w : World) : Calls Tryz.prog 69 #[.agg #[.int .u8 2, .complex .f64 a a', .complex .f64 0 0, .complex .f64 0 0, .complex .f64 0 0, .float .f64 0], .complex .f64 v v'] w fun e w' => ∃ x y, e = .returned (.tuple #[.complex .f64 x y, .int .i64 0]) ∧ Q2 x y ∧ Bw w w' := by
 have g1 := Ch.Bl.new w #[.int .u8 2, .complex .f64 a a', .complex .f64 0 0, .complex .f64 0 0, .complex .f64 0 0, .float .f64 0] 61
 have z1 : (w.alloc (.cells #[.int .u8 2, .complex .f64 a a', .complex .f64 0 0, .complex .f64 0 0, .complex .f64 0 0, .float .f64 0] 61)).heap.size = w.heap.size + 1 := by simp
 have b1 := bw_alloc w (.cells #[.int .u8 2, .complex .f64 a a', .complex .f64 0 0, .complex .f64 0 0, .complex .f64 0 0, .float .f64 0] 61)
 obtain ⟨W1, hW1⟩ : ∃ v, w.alloc (.cells #[.int .u8 2, .complex .f64 a a', .complex .f64 0 0, .complex .f64 0 0, .complex .f64 0 0, .float .f64 0] 61) = v := ⟨_, rfl⟩
 rw [hW1] at g1 z1 b1
 have GG : Hid (Ch.Bl W1 (w.heap.size) [.int .u8 2, .complex .f64 a a', .complex .f64 0 0, .complex .f64 0 0, .complex .f64 0 0, .float .f64 0] ∧ Bw w W1) := ⟨(show Ch.Bl _ (w.heap.size) _ from g1), b1⟩
 have HW := hide (hW1)
 clear g1 b1 z1 hW1
 go_enter Tryz.func69, Tryz.ntmps69
 go_wp2_with fail
 rw [HW.out]
 obtain ⟨A, hA⟩ : ∃ A, w.heap.size = A := ⟨_, rfl⟩
 rw [hA] at GG ⊢
 have HA := hide hA
 refine wp_region_K (fun w' => Ch.Bl w' (A) [.int .u8 2, .complex .f64 a a', .complex .f64 0 0, .complex .f64 0 0, .complex .f64 0 0, .float .f64 0]) 7 8 #[false, false, false, false, false, false, false, false] (by kernel_rfl) (by kernel_rfl) (by kernel_rfl) ?_
 have GGd : Hid (Ch.Bl W1.drew (A) [.int .u8 2, .complex .f64 a a', .complex .f64 0 0, .complex .f64 0 0, .complex .f64 0 0, .float .f64 0] ∧ Bw w W1.drew) := ⟨GG.out.1.bw (Bw.refl W1).drew, bw_trans GG.out.2 (Bw.refl W1).drew⟩
 generalize W1.drew = W1d at *
 have GGS : Ch.Bl W1d (A) [.int .u8 2, .complex .f64 a a', .complex .f64 0 0, .complex .f64 0 0, .complex .f64 0 0, .float .f64 0] := GGd.out.1
 refine wpAnyK_take 0 6 (v := ?vm0) rfl (by kernel_rfl) (by kernel_rfl) (by kernel_rfl) (by kernel_rfl) (by kernel_rfl) (fun _ _ _ h => h) rfl (Or.inl ⟨by rfl, ?hm0⟩) (by assumption) ?rm0
 case hm0 => (intro w hSw; have h0 := hSw; have c00 := h0.c 0 _ rfl; have c01 := h0.c 1 _ rfl; have c02 := h0.c 2 _ rfl; have c03 := h0.c 3 _ rfl; have c04 := h0.c 4 _ rfl; have c05 := h0.c 5 _ rfl; go_simp; with_reducible rfl)
 simp only [Act.put, List.setIfInBounds_toArray, List.set_cons_zero, List.set_cons_succ]
 refine wpAnyK_take 2 8 (v := ?vm2) rfl (by kernel_rfl) (by kernel_rfl) (by kernel_rfl) (by kernel_rfl) (by kernel_rfl) (fun _ _ _ h => h) rfl (Or.inl ⟨by rfl, ?hm2⟩) (by assumption) ?rm2
 case hm2 => (intro w hSw; have h0 := hSw; have c00 := h0.c 0 _ rfl; have c01 := h0.c 1 _ rfl; have c02 := h0.c 2 _ rfl; have c03 := h0.c 3 _ rfl; have c04 := h0.c 4 _ rfl; have c05 := h0.c 5 _ rfl; go_simp; with_reducible rfl)
 simp only [Act.put, List.setIfInBounds_toArray, List.set_cons_zero, List.set_cons_succ]
 refine wpAnyK_take 3 9 (v := ?vm3) rfl (by kernel_rfl) (by kernel_rfl) (by kernel_rfl) (by kernel_rfl) (by kernel_rfl) (fun _ _ _ h => h) rfl (Or.inl ⟨by rfl, ?hm3⟩) (by assumption) ?rm3
 case hm3 => (intro w hSw; have h0 := hSw; have c00 := h0.c 0 _ rfl; have c01 := h0.c 1 _ rfl; have c02 := h0.c 2 _ rfl; have c03 := h0.c 3 _ rfl; have c04 := h0.c 4 _ rfl; have c05 := h0.c 5 _ rfl; go_simp; with_reducible rfl)
 simp only [Act.put, List.setIfInBounds_toArray, List.set_cons_zero, List.set_cons_succ]
 refine wpAnyK_one 1 (by kernel_rfl) rfl (fun K hK => ?_)
 go_simp
 refine (SQ.out _).mono ?_
 rintro e' W1mk1 ⟨rfl, bb⟩
 have GGmk1 : Hid (Ch.Bl W1mk1 (A) [.int .u8 2, .complex .f64 a a', .complex .f64 0 0, .complex .f64 0 0, .complex .f64 0 0, .float .f64 0] ∧ Bw w W1mk1) := ⟨GGd.out.1.bw bb, bw_trans GGd.out.2 bb⟩
 clear bb GGS
 have GGmk1S : Ch.Bl W1mk1 (A) [.int .u8 2, .complex .f64 a a', .complex .f64 0 0, .complex .f64 0 0, .complex .f64 0 0, .float .f64 0] := GGmk1.out.1
 refine hK.out _ _ (fun _ _ => GGmk1S) ?_
 clear hK K
 simp only [List.setIfInBounds_toArray, List.set_cons_zero, List.set_cons_succ]
 refine wpAnyK_one 4 (by kernel_rfl) rfl (fun K hK => ?_)
 go_simp
 refine (OU.out _).mono ?_
 rintro e' W1mk2 ⟨X, Y, rfl, hq, bb⟩
 have GGmk2 : Hid (Ch.Bl W1mk2 (A) [.int .u8 2, .complex .f64 a a', .complex .f64 0 0, .complex .f64 0 0, .complex .f64 0 0, .float .f64 0] ∧ Bw w W1mk2) := ⟨GGmk1.out.1.bw bb, bw_trans GGmk1.out.2 bb⟩
 clear bb GGmk1S
 have GGmk2S : Ch.Bl W1mk2 (A) [.int .u8 2, .complex .f64 a a', .complex .f64 0 0, .complex .f64 0 0, .complex .f64 0 0, .float .f64 0] := GGmk2.out.1
 refine hK.out _ _ (fun _ _ => GGmk2S) ?_
 clear hK K
 simp only [List.setIfInBounds_toArray, List.set_cons_zero, List.set_cons_succ]
 refine wpAnyK_one 5 (by kernel_rfl) rfl (fun K hK => ?_)
 go_simp
 refine (DV.out X Y _ hq).mono ?_
 rintro e' W1mk3 ⟨U, V, rfl, hv, bb⟩
 have GGmk3 : Hid (Ch.Bl W1mk3 (A) [.int .u8 2, .complex .f64 a a', .complex .f64 0 0, .complex .f64 0 0, .complex .f64 0 0, .float .f64 0] ∧ Bw w W1mk3) := ⟨GGmk2.out.1.bw bb, bw_trans GGmk2.out.2 bb⟩
 clear bb GGmk2S
 have GGmk3S : Ch.Bl W1mk3 (A) [.int .u8 2, .complex .f64 a a', .complex .f64 0 0, .complex .f64 0 0, .complex .f64 0 0, .float .f64 0] := GGmk3.out.1
 refine hK.out _ _ (fun _ _ => GGmk3S) ?_
 clear hK K
 simp only [List.setIfInBounds_toArray, List.set_cons_zero, List.set_cons_succ]
 refine wpAnyK_one 6 (by kernel_rfl) rfl (fun K hK => ?_)
 go_simp
 refine hK.out _ _ (fun _ _ => GGmk3S) ?_
 clear hK K
 simp only [List.setIfInBounds_toArray, List.set_cons_zero, List.set_cons_succ]
 refine wpAnyK_one 7 (by kernel_rfl) rfl (fun K hK => ?_)
 go_simp
 refine hK.out _ _ (fun h => absurd rfl h) ?_
 clear hK K
 simp only [List.setIfInBounds_toArray, List.set_cons_zero, List.set_cons_succ]
 refine wpAnyK_done (by kernel_rfl) ?_ _
 go_wp2
 refine bodyPost_ret (results_tmp2 rfl _ _ _) rfl ?_
 exact ⟨U, V, rfl, hv, GGmk3.out.2⟩
set_option maxHeartbeats 4000000 in
theorem moebf18 {a a' b b' c c' d d' z z' t t' : Nat}
  (BE : Hid (∀ wz, Calls Tryz.prog 86 #[.agg #[.int .u8 1, .complex .f64 a a', .complex .f64 b b', .complex .f64 c c', .complex .f64 d d', .float .f64 0], .complex .f64 z z'] wz fun e w' => e = .returned (.complex .f64 t t') ∧ Bw wz w')) (NO : Hid (∀ wz, Calls Tryz.prog 40 #[.complex .f64 t t'] wz fun e w' => e = .returned (.bool true) ∧ w' = wz))
  (w : World) : Calls Tryz.prog 62 #[.agg #[.int .u8 1, .complex .f64 a a', .complex .f64 b b', .complex .f64 c c', .complex .f64 d d', .float .f64 0], .complex .f64 z z'] w fun e w' => e = .returned (.tuple #[.complex .f64 0 0, .int .i64 6]) ∧ Bw w w' := by
 have g1 := Ch.Bl.new w #[.int .u8 1, .complex .f64 a a', .complex .f64 b b', .complex .f64 c c', .complex .f64 d d', .float .f64 0] 61
 have z1 : (w.alloc (.cells #[.int .u8 1, .complex .f64 a a', .complex .f64 b b', .complex .f64 c c', .complex .f64 d d', .float .f64 0] 61)).heap.size = w.heap.size + 1 := by simp
 have b1 := bw_alloc w (.cells #[.int .u8 1, .complex .f64 a a', .complex .f64 b b', .complex .f64 c c', .complex .f64 d d', .float .f64 0] 61)
 obtain ⟨W1, hW1⟩ : ∃ v, w.alloc (.cells #[.int .u8 1, .complex .f64 a a', .complex .f64 b b', .complex .f64 c c', .complex .f64 d d', .float .f64 0] 61) = v := ⟨_, rfl⟩
 rw [hW1] at g1 z1 b1
 have GG : Hid (Ch.Bl W1 (w.heap.size) [.int .u8 1, .complex .f64 a a', .complex .f64 b b', .complex .f64 c c', .complex .f64 d d', .float .f64 0] ∧ Bw w W1) := ⟨(show Ch.Bl _ (w.heap.size) _ from g1), b1⟩
 have HW := hide (hW1)
 clear g1 b1 z1 hW1
 go_enter Tryz.func62, Tryz.ntmps62
 go_wp2_with fail
 rw [HW.out]
 obtain ⟨A, hA⟩ : ∃ A, w.heap.size = A := ⟨_, rfl⟩
 rw [hA] at GG ⊢
 have HA := hide hA
 have GGS := True.intro
 refine (BE.out _).mono ?_
 rintro e' w3 ⟨rfl, bb⟩
 have G3 : Hid (Ch.Bl w3 (A) [.int .u8 1, .complex .f64 a a', .complex .f64 b b', .complex .f64 c c', .complex .f64 d d', .float .f64 0] ∧ Bw w w3) := ⟨GG.out.1.bw bb, bw_trans GG.out.2 bb⟩
 clear bb GGS
 have G3S : Ch.Bl w3 (A) [.int .u8 1, .complex .f64 a a', .complex .f64 b b', .complex .f64 c c', .complex .f64 d d', .float .f64 0] := G3.out.1
 go_wp2_with fail
 refine (NO.out _).mono ?_
 rintro e' w' ⟨rfl, hw⟩
 subst hw
 go_wp2
 refine bodyPost_ret (results_tmp2 rfl _ _ _) rfl ?_
 exact ⟨rfl, G3.out.2⟩
end Go.Proofs.YtfgfofedacehiaaGreat

/-
 OWN TEXT: whole numbers as complex numbers over Lean's Rat; a Moebius map's and Joukowski's map's calls, all in one (no law yet).
-/
namespace Go.Proofs.YtfgfofedacehiaaGreat
open Go.ChangeShapes Go.WideShapes Go.ChangeAt Go.RowKit
set_option linter.unusedVariables false
set_option exponentiation.threshold 3000
namespace Ch
open Sv (FZ cv Fi Ab ab)
/-- a whole number among the complex ones -/
def cI (g : Py.G) : Cx Rat := ⟨(g.1 : Rat), (g.2 : Rat)⟩
theorem cI_ga (g h : Py.G) : cI (Py.ga g h) = cI g + cI h := by
 apply Cx.ext'
 · show (((g.1 + h.1 : Int)) : Rat) = (g.1 : Rat) + (h.1 : Rat); rw [Rat.intCast_add]
 · show (((g.2 + h.2 : Int)) : Rat) = (g.2 : Rat) + (h.2 : Rat); rw [Rat.intCast_add]
theorem cI_gs (g h : Py.G) : cI (Py.gs g h) = cI g - cI h := by
 apply Cx.ext'
 · show (((g.1 - h.1 : Int)) : Rat) = (g.1 : Rat) - (h.1 : Rat); rw [Rat.intCast_sub]
 · show (((g.2 - h.2 : Int)) : Rat) = (g.2 : Rat) - (h.2 : Rat); rw [Rat.intCast_sub]
theorem cI_gm (g h : Py.G) : cI (Py.gm g h) = cI g * cI h := by
 apply Cx.ext'
 · show (((g.1 * h.1 - g.2 * h.2 : Int)) : Rat) = (g.1 : Rat) * (h.1 : Rat) - (g.2 : Rat) * (h.2 : Rat); rw [Rat.intCast_sub, Rat.intCast_mul, Rat.intCast_mul]
 · show (((g.1 * h.2 + g.2 * h.1 : Int)) : Rat) = (g.1 : Rat) * (h.2 : Rat) + (g.2 : Rat) * (h.1 : Rat); rw [Rat.intCast_add, Rat.intCast_mul, Rat.intCast_mul]
theorem cI_N {g : Py.G} (h : g ≠ (0, 0)) : 1 ≤ Cx.N (cI g) := by
 have big : ∀ n : Int, n ≠ 0 → (1 : Rat) ≤ (n : Rat) * n := fun n hn => by
  have h := Sv.ab_int n hn
  rw [← Sv.ab_sq]
  have := Rat.mul_le_mul_of_nonneg_right h (Sv.ab_nn (n : Rat))
  grind
 have e : Cx.N (cI g) = (g.1 : Rat) * g.1 + (g.2 : Rat) * g.2 := rfl
 rw [e]
 have s1 := Sv.sq_nn (g.1 : Rat)
 have s2 := Sv.sq_nn (g.2 : Rat)
 by_cases z1 : g.1 = 0
 ·
  have z2 : g.2 ≠ 0 := fun z2 => h (Prod.ext z1 z2)
  have := big _ z2
  grind
 ·
  have := big _ z1
  grind
theorem cI_Lb {g : Py.G} {M : Nat} (h : Py.Le g M) : Lb.Lb (cI g) (M : Rat) := by
 refine ⟨Rat.natCast_nonneg, ?_⟩
 have e : Cx.N (cI g) = ((g.1 * g.1 + g.2 * g.2 : Int) : Rat) := by
  show (g.1 : Rat) * g.1 + (g.2 : Rat) * g.2 = _
  rw [Rat.intCast_add, Rat.intCast_mul, Rat.intCast_mul]
 rw [e]
 unfold Py.Le at h
 have k : g.1 * g.1 + g.2 * g.2 ≤ ((M * M : Nat) : Int) := by
  first
   | exact h
   | (simp only [Int.natCast_mul]; exact h)
   | omega
 have := Rat.intCast_le_intCast.2 k
 rw [Rat.intCast_natCast, Rat.natCast_mul] at this
 exact this
theorem cv_w {x y : Nat} {g : Py.G} (h : wC 1074 x y g) : FZ (x, y) ∧ cv (x, y) = cI g :=
 ⟨⟨Sv.fi_whole h.1, Sv.fi_whole h.2⟩, Cx.ext' (Sv.rv_whole h.1) (Sv.rv_whole h.2)⟩
theorem n20 : Sv.rv 4517110426252607488 = 1 / 1048576 := by
 have a := Rt.rr_two
 have e : 2097152 * Fl.vl 4517110426252607488 = Fl.vl 4611686018427387904 := by decide +kernel
 rw [Sv.rv_pos (by decide) (by decide)]
 unfold Rt.rr at a ⊢
 rw [← e, Rat.natCast_mul] at a
 have c : ((2097152 : Nat) : Rat) = 2097152 := rfl
 rw [c] at a
 grind
theorem n14 : Sv.rv 4544132024016830464 = 1 / 16384 := by
 have a := Rt.rr_two
 have e : 32768 * Fl.vl 4544132024016830464 = Fl.vl 4611686018427387904 := by decide +kernel
 rw [Sv.rv_pos (by decide) (by decide)]
 unfold Rt.rr at a ⊢
 rw [← e, Rat.natCast_mul] at a
 have c : ((32768 : Nat) : Rat) = 32768 := rfl
 rw [c] at a
 grind
end Ch
open Sv (FZ cv Fi)
/-- a closed answer, from one with letters -/
theorem close2 {P : Program} {f : FuncId} {args : Array Value} {w : World} {er : Int} {u v : Nat} (h : Calls P f args w fun e w' => ∃ x y, e = .returned (.tuple #[.complex .f64 x y, .int .i64 er]) ∧ (x = u ∧ y = v) ∧ Bw w w') : Calls P f args w fun e w' => e = .returned (.tuple #[.complex .f64 u v, .int .i64 er]) ∧ Bw w w' :=
 h.mono (by rintro e w' ⟨x, y, rfl, ⟨rfl, rfl⟩, bb⟩; exact ⟨rfl, bb⟩)
theorem open2 {P : Program} {f : FuncId} {args : Array Value} {w : World} {er : Int} {u v : Nat} (h : Calls P f args w fun e w' => e = .returned (.tuple #[.complex .f64 u v, .int .i64 er]) ∧ Bw w w') : Calls P f args w fun e w' => ∃ x y, e = .returned (.tuple #[.complex .f64 x y, .int .i64 er]) ∧ (x = u ∧ y = v) ∧ Bw w w' :=
 h.mono (by rintro e w' ⟨rfl, bb⟩; exact ⟨u, v, rfl, ⟨rfl, rfl⟩, bb⟩)
theorem open1 {P : Program} {f : FuncId} {args : Array Value} {w : World} {u v : Nat} (h : Calls P f args w fun e w' => e = .returned (.complex .f64 u v) ∧ Bw w w') : Calls P f args w fun e w' => ∃ x y, e = .returned (.complex .f64 x y) ∧ (x = u ∧ y = v) ∧ Bw w w' :=
 h.mono (by rintro e w' ⟨rfl, bb⟩; exact ⟨u, v, rfl, ⟨rfl, rfl⟩, bb⟩)
theorem frame {P : Program} {f : FuncId} {args : Array Value} {w : World} {r : Value} (h : Calls P f args w fun e w' => e = .returned r ∧ w' = w) : Calls P f args w fun e w' => e = .returned r ∧ Bw w w' :=
 h.mono (by rintro e w' ⟨rfl, rfl⟩; exact ⟨rfl, Bw.refl _⟩)
theorem moeb_all {a a' b b' c c' d d' z z' : Nat} {m : Ch.Mq} {g : Py.G} (hm : Ch.W8 a a' b b' c c' d d' m) (lm : Ch.Lq m 12) (hz : wC 1074 z z' g) (lz : Py.Le g 12) :
  (∃ er : Int, ¬ er = 0 ∧ ∀ wz, Calls Tryz.prog 11 #[.agg #[.int .u8 1, .complex .f64 a a', .complex .f64 b b', .complex .f64 c c', .complex .f64 d d', .float .f64 0], .complex .f64 z z'] wz fun e w' => e = .returned (.tuple #[.complex .f64 0 0, .int .i64 er]) ∧ Bw wz w') ∨
  (∃ x x' y y' : Nat, (∀ wz, Calls Tryz.prog 11 #[.agg #[.int .u8 1, .complex .f64 a a', .complex .f64 b b', .complex .f64 c c', .complex .f64 d d', .float .f64 0], .complex .f64 z z'] wz fun e w' => e = .returned (.tuple #[.complex .f64 x x', .int .i64 0]) ∧ Bw wz w') ∧
   (∀ wz, Calls Tryz.prog 12 #[.agg #[.int .u8 1, .complex .f64 a a', .complex .f64 b b', .complex .f64 c c', .complex .f64 d d', .float .f64 0], .complex .f64 x x', .bool false] wz fun e w' => e = .returned (.tuple #[.complex .f64 y y', .int .i64 0]) ∧ Bw wz w') ∧
   (∀ wz, Calls Tryz.prog 13 #[.complex .f64 y y', .complex .f64 z z', .float .f64 4517110426252607488] wz fun e w' => e = .returned (.bool true) ∧ Bw wz w')) := by
 have CK := fun wz => check18 hm lm (by decide) (by decide) wz
 by_cases hd : Ch.dt m = (0, 0)
 ·
  left
  refine ⟨180, by decide, fun wz => close2 (at_any (hide (fun wz => open2 (told1_check (Q := fun _ _ => True) (er := 180) (by decide) (hide (fun wz => ?_)) wz))) wz)⟩
  have q := CK wz
  rw [if_pos hd] at q
  exact q
 have CK0 : ∀ wz, Calls Tryz.prog 14 #[.agg #[.int .u8 1, .complex .f64 a a', .complex .f64 b b', .complex .f64 c c', .complex .f64 d d', .float .f64 0]] wz fun e w' => e = .returned (.int .i64 0) ∧ Bw wz w' := fun wz => by have q := CK wz; rw [if_neg hd] at q; exact q
 have IP : ∀ wz, Calls Tryz.prog 27 #[.complex .f64 z z'] wz fun e w' => e = .returned (.bool true) ∧ w' = wz := fun wz => isplace18 hz (lz.mono (by decide)) wz
 obtain ⟨t, t', ht, BE⟩ := below18 hm lm hz lz (by decide)
 have NO := fun wz => isnought18 ht wz
 by_cases h0 : Ch.lo m g = (0, 0)
 ·
  left
  refine ⟨6, by decide, fun wz => close2 (at_any (hide (fun wz => open2 (told1_fail (Q := fun _ _ => True) (er := 6) (by decide) (hide CK0) (hide IP) (hide (fun wz => moebf18 (hide BE) (hide (fun wz => ?_)) wz)) wz))) wz)⟩
  have q := NO wz
  rw [decide_eq_true h0] at q
  exact q
 right
 have NO0 : ∀ wz, Calls Tryz.prog 40 #[.complex .f64 t t'] wz fun e w' => e = .returned (.bool false) ∧ w' = wz := fun wz => by have q := NO wz; rw [decide_eq_false h0] at q; exact q
 obtain ⟨p, p', hp, M1⟩ := pmul8 rfl hm.1 hz lm.1 lz (by decide)
 obtain ⟨u, u', hu, AD⟩ := padd8 rfl hp hm.2.1 (lm.1.mul lz) lm.2.1 (by decide)
 obtain ⟨fa, ea⟩ := Ch.cv_w hm.1
 obtain ⟨fb, eb⟩ := Ch.cv_w hm.2.1
 obtain ⟨fc, ec⟩ := Ch.cv_w hm.2.2.1
 obtain ⟨fd, ed⟩ := Ch.cv_w hm.2.2.2
 obtain ⟨fz, ez⟩ := Ch.cv_w hz
 obtain ⟨fu, eu⟩ := Ch.cv_w hu
 obtain ⟨ft, et⟩ := Ch.cv_w ht
 have c12 : ((12 : Nat) : Rat) = 12 := rfl
 have la := Ch.cI_Lb lm.1
 have lb := Ch.cI_Lb lm.2.1
 have lc := Ch.cI_Lb lm.2.2.1
 have ld := Ch.cI_Lb lm.2.2.2
 have lz' := Ch.cI_Lb lz
 rw [c12] at la lb lc ld lz'
 rw [← ea] at la
 rw [← eb] at lb
 rw [← ec] at lc
 rw [← ed] at ld
 rw [← ez] at lz'
 have nT := Ch.cI_N h0
 rw [← et] at nT
 have nD := Ch.cI_N hd
 have eD : Ch.cI (Ch.dt m) = cv (a, a') * cv (d, d') - cv (b, b') * cv (c, c') := by
  unfold Ch.dt
  rw [Ch.cI_gs, Ch.cI_gm, Ch.cI_gm, ea, eb, ec, ed]
 rw [eD] at nD
 have hU : cv (u, u') = cv (a, a') * cv (z, z') + cv (b, b') := by rw [eu, Ch.cI_ga, Ch.cI_gm, ea, eb, ez]
 have hT : cv (t, t') = cv (c, c') * cv (z, z') + cv (d, d') := by
  rw [et]
  unfold Ch.lo
  rw [Ch.cI_ga, Ch.cI_gm, ec, ed, ez]
 obtain ⟨fw, lW, fq, fg, low, fP, fM, fr, near⟩ := Sv.moeb_back fa fb fc fd fu ft la lb lc ld lz' hU hT nT nD
 have DV := fun wz => pdivF fu ft fw wz
 have M2 := fun wz => pmulF fc fw fq wz
 have S2 := fun wz => psubF fa fq fg wz
 have NG := fun wz => isnoughtF fg low wz
 have M3 := fun wz => pmulF fd fw fP wz
 have S3 := fun wz => psubF fP fb fM wz
 have D3 := fun wz => pdivF fM fg fr wz
 have lr : Lb.Lb (cv (El.zdiv (Sv.zs (El.zmul (d, d') (El.zdiv (u, u') (t, t'))) (b, b')) (Sv.zs (a, a') (El.zmul (c, c') (El.zdiv (u, u') (t, t')))))) 13 := ((near.add lz').cong (by grind)).mono (by grind)
 have FW := fun wz => finiteF fw wz
 have PW := fun wz => isplaceF fw lW (by grind) wz
 have PR := fun wz => isplaceF fr lr (by grind) wz
 have NR := fun wz => nearF (m := 4517110426252607488) (d := 1 / 4194304) fr fz near (by grind) (by grind) (by decide) (by decide) (by decide) (by rw [Ch.n20]; grind) wz
 clear near lr lW low nT nD hU hT eD fM fP fg fq
 generalize El.zdiv (Sv.zs (El.zmul (d, d') (El.zdiv (u, u') (t, t'))) (b, b')) (Sv.zs (a, a') (El.zmul (c, c') (El.zdiv (u, u') (t, t')))) = r at *
 generalize Sv.zs (El.zmul (d, d') (El.zdiv (u, u') (t, t'))) (b, b') = n at *
 generalize Sv.zs (a, a') (El.zmul (c, c') (El.zdiv (u, u') (t, t'))) = gg at *
 generalize El.zmul (d, d') (El.zdiv (u, u') (t, t')) = qq at *
 generalize El.zmul (c, c') (El.zdiv (u, u') (t, t')) = pp at *
 generalize El.zdiv (u, u') (t, t') = w at *
 refine ⟨w.1, w.2, r.1, r.2, fun wz => close2 (at_any (hide (fun wz => told1_at (er := 0) (Q := fun x y => x = w.1 ∧ y = w.2) (hide CK0) (hide IP) (hide (fun wz => moeb18 (hide BE) (hide NO0) (hide M1) (hide AD) (hide (fun wz => open1 (DV wz))) wz)) (hide (fun x y wz hq => by obtain ⟨rfl, rfl⟩ := hq; exact FW wz)) wz)) wz),
  fun wz => close2 (back_any (hide (fun wz => told1_back (er := 0) (Q := fun x y => x = r.1 ∧ y = r.2) (hide CK0) (hide PW) (hide (fun wz => open2 (mback18 (hide M2) (hide S2) (hide NG) (hide M3) (hide S3) (hide D3) wz))) (hide (fun x y wz hq => by obtain ⟨rfl, rfl⟩ := hq; exact PR wz)) wz)) wz), NR⟩
end Go.Proofs.YtfgfofedacehiaaGreat

/-
 OWN TEXT: Joukowski's map's calls, all in one (no law yet).
-/
namespace Go.Proofs.YtfgfofedacehiaaGreat
open Go.ChangeShapes Go.WideShapes Go.ChangeAt Go.RowKit
set_option linter.unusedVariables false
set_option exponentiation.threshold 3000
open Sv (FZ cv Fi)
namespace Ch
/-- the root goes the same way as the place -/
def sgn (v s : El.Z) : El.Z := if Fl.ltF (Sv.op .add (Sv.op .mul v.1 s.1) (Sv.op .mul v.2 s.2)) 0 = true then Sv.zn s else s
/-- b is what 'outer' may tell of v -/
def Ou (a v b : El.Z) : Prop := ∃ P R : El.Z, rooR (Sv.zs v (El.zscale a 4611686018427387904)).1 (Sv.zs v (El.zscale a 4611686018427387904)).2 P.1 P.2 ∧ rooR (Sv.za v (El.zscale a 4611686018427387904)).1 (Sv.za v (El.zscale a 4611686018427387904)).2 R.1 R.2 ∧ b = El.zscale (Sv.za v (sgn v (El.zmul P R))) 4602678819172646912
theorem sgn_or (v s : El.Z) : sgn v s = s ∨ sgn v s = Sv.zn s := by unfold sgn; split; exact Or.inr rfl; exact Or.inl rfl
theorem sim_fin {x y : Nat} (h : simR x y) (f : Fi x) : x = y := by
 rcases h with e | ⟨e, _⟩
 · exact e
 ·
  have := f.nan0
  rw [e] at this
  cases this
theorem roo_one {x y : Nat} {P P2 : El.Z} (f : FZ P) (h : rooR x y P.1 P.2) (k : rooR x y P2.1 P2.2) : P = P2 := by
 obtain ⟨s1, s2⟩ := h.sim k
 exact Prod.ext (sim_fin s1 f.1) (sim_fin s2 f.2)
end Ch
theorem run_fin {o : BinOp} (ho : isOp o) {a b W : Nat} (fa : Fi a) (fb : Fi b) (e : floatBits o .f64 a b = some W) (f : Fi (Sv.op o a b)) (t : TypeId) (w : World) : (binOp o t (.float .f64 a) (.float .f64 b)).run Tryz.prog w = .ok (.float .f64 (Sv.op o a b)) w := by
 obtain ⟨h, k⟩ := run_some e
 rw [Sv.opR_fin ho fa.nan0 fb.nan0 h f] at k
 exact k t w
theorem nearO {a b : El.Z} {m : Nat} {d : Rat} {o : Bool} (fa : FZ a) (fb : FZ b) (h : o = true → Lb.Lb (cv a - cv b) d) (d0 : 1 ≤ 1099511627776 * d) (d1 : d ≤ 1) (hm : Fl.sg m = false) (hr : Fl.rg m = m) (hn : m < 9218868437227405312) (hd : 4 * d ≤ Sv.rv m) (w : World) : Calls Tryz.prog 13 #[.complex .f64 a.1 a.2, .complex .f64 b.1 b.2, .float .f64 m] w fun e w' => ∃ r : Bool, e = .returned (.bool r) ∧ (o = true → r = true) ∧ Bw w w' :=
 (near_any6 _ _ _ _ m w fa.1.1 fa.2.1 fb.1.1 fb.2.1).mono (by
  rintro e w' ⟨r, rfl, hn2, bb⟩
  exact ⟨r, rfl, fun ho => Sv.near_gen fa fb (h ho) d0 d1 hm hr hn hd hn2, bb⟩)
set_option maxHeartbeats 8000000 in
theorem jou_calls {a a' z z' : Nat} {ga gz : Py.G} (ha : wC 1074 a a' ga) (hz : wC 1074 z z' gz) (la : Py.Le ga 12) (lz : Py.Le gz 12) :
  ((decide (ga = (0, 0)) || decide (gz = (0, 0))) = true ∧ ∃ er : Int, ¬ er = 0 ∧ ∀ wz, Calls Tryz.prog 11 #[.agg #[.int .u8 2, .complex .f64 a a', .complex .f64 0 0, .complex .f64 0 0, .complex .f64 0 0, .float .f64 0], .complex .f64 z z'] wz fun e w' => e = .returned (.tuple #[.complex .f64 0 0, .int .i64 er]) ∧ Bw wz w') ∨
  (∃ (v v' : Nat) (Qb Qc : Nat → Nat → Prop), (∀ wz, Calls Tryz.prog 11 #[.agg #[.int .u8 2, .complex .f64 a a', .complex .f64 0 0, .complex .f64 0 0, .complex .f64 0 0, .float .f64 0], .complex .f64 z z'] wz fun e w' => e = .returned (.tuple #[.complex .f64 v v', .int .i64 0]) ∧ Bw wz w') ∧
   (∀ wz, Calls Tryz.prog 12 #[.agg #[.int .u8 2, .complex .f64 a a', .complex .f64 0 0, .complex .f64 0 0, .complex .f64 0 0, .float .f64 0], .complex .f64 v v', .bool false] wz fun e w' => ∃ x y, e = .returned (.tuple #[.complex .f64 x y, .int .i64 0]) ∧ Qb x y ∧ Bw wz w') ∧
   (∀ wz, Calls Tryz.prog 12 #[.agg #[.int .u8 2, .complex .f64 a a', .complex .f64 0 0, .complex .f64 0 0, .complex .f64 0 0, .float .f64 0], .complex .f64 v v', .bool true] wz fun e w' => ∃ x y, e = .returned (.tuple #[.complex .f64 x y, .int .i64 0]) ∧ Qc x y ∧ Bw wz w') ∧
   (∀ b b' c c', Qb b b' → Qc c c' → ∃ o t : Bool, (o || t) = true ∧ (∀ wz, Calls Tryz.prog 13 #[.complex .f64 b b', .complex .f64 z z', .float .f64 4544132024016830464] wz fun e w' => ∃ r : Bool, e = .returned (.bool r) ∧ (o = true → r = true) ∧ Bw wz w') ∧
    (∀ wz, Calls Tryz.prog 13 #[.complex .f64 c c', .complex .f64 z z', .float .f64 4544132024016830464] wz fun e w' => ∃ r : Bool, e = .returned (.bool r) ∧ (t = true → r = true) ∧ Bw wz w'))) := by
 have NA := fun wz => isnought18 ha wz
 have NZ := fun wz => isnought18 hz wz
 have PA : ∀ wz, Calls Tryz.prog 27 #[.complex .f64 a a'] wz fun e w' => e = .returned (.bool true) ∧ w' = wz := fun wz => isplace18 ha (la.mono (by decide)) wz
 have PZ : ∀ wz, Calls Tryz.prog 27 #[.complex .f64 z z'] wz fun e w' => e = .returned (.bool true) ∧ w' = wz := fun wz => isplace18 hz (lz.mono (by decide)) wz
 have CK := fun wz => checkj18 (hide NA) (hide PA) wz
 by_cases a0 : ga = (0, 0)
 ·
  left
  refine ⟨by rw [decide_eq_true a0]; rfl, 180, by decide, fun wz => close2 (at_any (hide (fun wz => open2 (told2_check (Q := fun _ _ => True) (er := 180) (by decide) (hide (fun wz => ?_)) wz))) wz)⟩
  have q := CK wz
  rw [decide_eq_true a0] at q
  exact q
 have CKJ : ∀ wz, Calls Tryz.prog 14 #[.agg #[.int .u8 2, .complex .f64 a a', .complex .f64 0 0, .complex .f64 0 0, .complex .f64 0 0, .float .f64 0]] wz fun e w' => e = .returned (.int .i64 0) ∧ Bw wz w' := fun wz => by
  have q := CK wz
  rw [decide_eq_false a0] at q
  exact q
 by_cases z0 : gz = (0, 0)
 ·
  left
  refine ⟨by rw [decide_eq_true z0, Bool.or_true], 6, by decide, fun wz => close2 (at_any (hide (fun wz => open2 (told2_fail (Q := fun _ _ => True) (er := 6) (by decide) (hide CKJ) (hide PZ) (hide (fun wz => jouf18 (hide (fun wz => ?_)) wz)) wz))) wz)⟩
  have q := NZ wz
  rw [decide_eq_true z0] at q
  exact q
 right
 have NO : ∀ wz, Calls Tryz.prog 40 #[.complex .f64 z z'] wz fun e w' => e = .returned (.bool false) ∧ w' = wz := fun wz => by have q := NZ wz; rw [decide_eq_false z0] at q; exact q
 obtain ⟨q, q', hq, MU⟩ := pmul8 rfl ha ha la la (by decide)
 obtain ⟨fa, ea⟩ := Ch.cv_w ha
 obtain ⟨fz, ez⟩ := Ch.cv_w hz
 obtain ⟨fq, eq⟩ := Ch.cv_w hq
 have c12 : ((12 : Nat) : Rat) = 12 := rfl
 have la' := Ch.cI_Lb la
 have lz' := Ch.cI_Lb lz
 rw [c12] at la' lz'
 have na := Ch.cI_N a0
 have nz := Ch.cI_N z0
 have hza : cv (z, z') * cv (z, z') = cv (a, a') * cv (a, a') ∨ 1 ≤ Cx.N (cv (z, z') * cv (z, z') - cv (a, a') * cv (a, a')) := by
  rw [ea, ez, ← Ch.cI_gm, ← Ch.cI_gm]
  by_cases k : Py.gm gz gz = Py.gm ga ga
  · left; rw [k]
  ·
   right
   rw [← Ch.cI_gs]
   exact Ch.cI_N (Ch.gs_ne k)
 rw [← ea] at la' na
 rw [← ez] at lz' nz
 obtain ⟨fk, fv, lV, ff, ALL⟩ := Sv.jou_all fa fz fq la' lz' (by rw [eq, Ch.cI_gm, ea]) na nz hza
 have SQ : ∀ wz, _ := fun wz => square18 (hide (fun wz => frame (MU wz))) wz
 have DV := fun wz => pdivF fq fz fk wz
 have AD := fun wz => paddF fz fk fv wz
 obtain ⟨fx, fy, PR⟩ := ALL _ _ rfl rfl
 clear ALL
 generalize hv : Sv.za (z, z') (El.zdiv (q, q') (z, z')) = v at *
 generalize El.zdiv (q, q') (z, z') = k at *
 have SC := fun wz => pscaleF fa Sv.two_fi.1 ff wz
 have SU := fun wz => psubF fv ff fx wz
 have AF := fun wz => paddF fv ff fy wz
 have OB : ∀ b, Ch.Ou (a, a') v b → FZ b ∧ Lb.Lb (cv b) 357 ∧ FZ (El.zdiv (q, q') b) ∧ Lb.Lb (cv (El.zdiv (q, q') b)) 4350 ∧ (Lb.Lb (cv b - cv (z, z')) (1 / 65536) ∨ Lb.Lb (cv (El.zdiv (q, q') b) - cv (z, z')) (1 / 65536)) := by
  rintro b ⟨P, R, hP, hR, rfl⟩
  obtain ⟨fP, fR, fS, lS, SS⟩ := PR P R hP hR
  obtain ⟨_, _, BB⟩ := SS _ (Ch.sgn_or v _)
  obtain ⟨b1, b2, b3, b4, b5⟩ := BB _ rfl
  exact ⟨b1, b2.mono (by grind), b3, b4, b5⟩
 have ONE : ∀ b b2, Ch.Ou (a, a') v b → Ch.Ou (a, a') v b2 → b = b2 := by
  rintro b b2 ⟨P, R, hP, hR, rfl⟩ ⟨P2, R2, hP2, hR2, rfl⟩
  obtain ⟨fP, fR, _⟩ := PR P R hP hR
  rw [Ch.roo_one fP hP hP2, Ch.roo_one fR hR hR2]
 have OU : ∀ wz, Calls Tryz.prog 89 #[.agg #[.int .u8 2, .complex .f64 a a', .complex .f64 0 0, .complex .f64 0 0, .complex .f64 0 0, .float .f64 0], .complex .f64 v.1 v.2] wz fun e w' => ∃ x y, e = .returned (.complex .f64 x y) ∧ Ch.Ou (a, a') v (x, y) ∧ Bw wz w' := by
  intro wz
  refine outer18 (Q := fun x y => Ch.Ou (a, a') v (x, y)) (Q1 := fun p p' => rooR (Sv.zs v (El.zscale (a, a') 4611686018427387904)).1 (Sv.zs v (El.zscale (a, a') 4611686018427387904)).2 p p') (Q2 := fun p p' => rooR (Sv.za v (El.zscale (a, a') 4611686018427387904)).1 (Sv.za v (El.zscale (a, a') 4611686018427387904)).2 p p')
   (hide SC) (hide SU) (hide (fun wz => (root_any6 _ _ wz fx.1.1 fx.2.1))) (hide AF) (hide (fun wz => (root_any6 _ _ wz fy.1.1 fy.2.1))) (hide ?_) wz
  intro p p' r r' hp hr
  obtain ⟨fP, fR, fS, lS, SS⟩ := PR (p, p') (r, r') hp hr
  obtain ⟨fs, fY, BB⟩ := SS _ (Ch.sgn_or v (El.zmul (p, p') (r, r')))
  obtain ⟨fb, _⟩ := BB _ rfl
  have OUT : Ch.Ou (a, a') v (El.zscale (Sv.za v (Ch.sgn v (El.zmul (p, p') (r, r')))) 4602678819172646912) := ⟨(p, p'), (r, r'), hp, hr, rfl⟩
  have m1 := Sv.mul_fi fv.1 fS.1 (lV.re.mul lS.re) (by grind)
  have m2 := Sv.mul_fi fv.2 fS.2 (lV.im.mul lS.im) (by grind)
  have b1 := Sv.mul_err fv.1 fS.1 m1 (lV.re.mul lS.re)
  have b2 := Sv.mul_err fv.2 fS.2 m2 (lV.im.mul lS.im)
  have es := Sv.en_small
  have ep := Sv.en_pos
  have s3 := ((b1.add (lV.re.mul lS.re)).add (b2.add (lV.im.mul lS.im))).cong (y := Sv.rv (Sv.op .mul v.1 (El.zmul (p, p') (r, r')).1) + Sv.rv (Sv.op .mul v.2 (El.zmul (p, p') (r, r')).2)) (by show _ + Sv.rv v.1 * Sv.rv _ + (_ + Sv.rv v.2 * Sv.rv _) = _; grind)
  have m3 := Sv.add_fi m1 m2 s3 (by grind)
  have R1 := fun t w => run_fin isMul fv.1 fS.1 (Fl.mul_fin fv.1.2 fS.1.2) m1 t w
  have R2 := fun t w => run_fin isMul fv.2 fS.2 (Fl.mul_fin fv.2.2 fS.2.2) m2 t w
  have R3 := fun t w => run_fin isAdd m1 m2 (Fl.add_fin m1.2 m2.2) m3 t w
  have ME := fun wz => pmulF fP fR fS wz
  have NE := fun wz => pnegF fS wz
  have AY : ∀ wz, _ := fun wz => paddF fv fs fY wz
  have CB := fun wz => pscaleF fY Sv.half_fi.1 fb wz
  refine ⟨_, _, _, _, _, _, _, Fl.ltF (Sv.op .add (Sv.op .mul v.1 (El.zmul (p, p') (r, r')).1) (Sv.op .mul v.2 (El.zmul (p, p') (r, r')).2)) 0, _, _, _, _, ME, R1, R2, R3, Fl.o_lt _ _, NE, fun hc wz => ?_, fun hc wz => ?_, CB, OUT⟩
  ·
   have k := AY wz
   have e : Ch.sgn v (El.zmul (p, p') (r, r')) = Sv.zn (El.zmul (p, p') (r, r')) := by unfold Ch.sgn; rw [if_pos hc]
   rw [e] at k ⊢
   exact k
  ·
   have k := AY wz
   have e : Ch.sgn v (El.zmul (p, p') (r, r')) = El.zmul (p, p') (r, r') := by unfold Ch.sgn; rw [if_neg (by rw [hc]; decide)]
   rw [e] at k ⊢
   exact k
 have PV := fun wz => isplaceF fv lV (by grind) wz
 have FV := fun wz => finiteF fv wz
 refine ⟨v.1, v.2, fun x y => Ch.Ou (a, a') v (x, y), fun x y => ∃ b, Ch.Ou (a, a') v b ∧ (x, y) = El.zdiv (q, q') b, fun wz => close2 (at_any (hide (fun wz => told2_at (er := 0) (Q := fun x y => x = v.1 ∧ y = v.2) (hide CKJ) (hide PZ) (hide (fun wz => open2 (jou18 (hide NO) (hide SQ) (hide DV) (hide AD) wz))) (hide (fun x y wz hq => by obtain ⟨rfl, rfl⟩ := hq; exact FV wz)) wz)) wz), fun wz => ?_, fun wz => ?_, ?_⟩
 ·
  exact back_any (er := 0) (hide (fun wz => told2_back (er := 0) (hide CKJ) (hide PV) (hide (fun wz => jback18 (hide OU) wz)) (hide (fun x y wz hb => by
   obtain ⟨f1, l1, _⟩ := OB _ hb
   exact isplaceF (a := (x, y)) f1 l1 (by grind) wz)) wz)) wz
 ·
  refine back_other (er := 0) (hide (fun wz => told2_other (er := 0) (hide CKJ) (hide PV) (hide (fun wz => jother18 (hide SQ) (hide OU) (hide (fun x y wz hb => ?_)) wz)) (hide (fun x y wz hb => ?_)) wz)) wz
  ·
   obtain ⟨f1, _, f3, _⟩ := OB _ hb
   exact (pdivF (b := (x, y)) fq f1 f3 wz).mono (by
    rintro e w' ⟨rfl, bb⟩
    exact ⟨_, _, rfl, ⟨(x, y), hb, rfl⟩, bb⟩)
  ·
   obtain ⟨b, hb, e⟩ := hb
   obtain ⟨_, _, f3, l3, _⟩ := OB _ hb
   rw [← e] at f3 l3
   exact isplaceF (a := (x, y)) f3 l3 (by grind) wz
 ·
  rintro b b' c c' hb ⟨b2, hb2, e⟩
  obtain rfl := ONE _ _ hb2 hb
  obtain ⟨f1, _, f3, _, NN⟩ := OB _ hb
  rw [← e] at f3 NN
  rcases NN with h | h
  · exact ⟨true, false, rfl, fun wz => nearO (a := (b, b')) (b := (z, z')) f1 fz (fun _ => h) (by grind) (by grind) (by decide) (by decide) (by decide) (by rw [Ch.n14]; grind) wz, fun wz => nearO (a := (c, c')) (b := (z, z')) (d := 1 / 65536) f3 fz (fun k => by cases k) (by grind) (by grind) (by decide) (by decide) (by decide) (by rw [Ch.n14]; grind) wz⟩
  · exact ⟨false, true, rfl, fun wz => nearO (a := (b, b')) (b := (z, z')) (d := 1 / 65536) f1 fz (fun k => by cases k) (by grind) (by grind) (by decide) (by decide) (by decide) (by rw [Ch.n14]; grind) wz, fun wz => nearO (a := (c, c')) (b := (z, z')) f3 fz (fun _ => h) (by grind) (by grind) (by decide) (by decide) (by decide) (by rw [Ch.n14]; grind) wz⟩
end Go.Proofs.YtfgfofedacehiaaGreat

