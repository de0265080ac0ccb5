/-
 OWN TEXT: package chart over whole numbers: three places.
-/
import Derived.Test.YtfgfofedacehiaaGreatJChE
import Derived.Test.YtfgfofedacehiaaGreatJElHToElI
namespace Go.Proofs.YtfgfofedacehiaaGreat
open Go.ChangeShapes Go.WideShapes Go.ChangeAt Go.RowKit
set_option linter.unusedVariables false
set_option linter.unusedSimpArgs false
attribute [local go_sem] frombits_call tobits_call run_neg El.run_store_cx El.run_store_fl
theorem idx50_0 (x0 x1 x2 : Value) (w : World) : (Instr.index 50 (.agg #[x0, x1, x2]) (.int .i64 0)).run Tryz.prog w = .ok x0 w := by kernel_rfl
theorem idx50_1 (x0 x1 x2 : Value) (w : World) : (Instr.index 50 (.agg #[x0, x1, x2]) (.int .i64 1)).run Tryz.prog w = .ok x1 w := by kernel_rfl
theorem idx50_2 (x0 x1 x2 : Value) (w : World) : (Instr.index 50 (.agg #[x0, x1, x2]) (.int .i64 2)).run Tryz.prog w = .ok x2 w := by kernel_rfl
attribute [local go_sem] idx50_0 idx50_1 idx50_2
set_option maxHeartbeats 4000000 in
theorem are18 {a a' b b' c c' : Nat} {g h k : Py.G} (ha : wC 1074 a a' g) (hb : wC 1074 b b' h) (hc : wC 1074 c c' k) (la : Py.Le g 1099511627776) (lb : Py.Le h 1099511627776) (lc : Py.Le k 1099511627776) (w : World) : Calls Tryz.prog 35 #[.agg #[.complex .f64 a a', .complex .f64 b b', .complex .f64 c c']] w fun e w' => e = .returned (.bool true) ∧ Bw w w' := by
 have I0 : Hid (∀ wz, Calls Tryz.prog 27 #[.complex .f64 a a'] wz fun e w' => e = .returned (.bool true) ∧ w' = wz) := fun wz => isplace18 ha la wz
 have I1 : Hid (∀ wz, Calls Tryz.prog 27 #[.complex .f64 b b'] wz fun e w' => e = .returned (.bool true) ∧ w' = wz) := fun wz => isplace18 hb lb wz
 have I2 : Hid (∀ wz, Calls Tryz.prog 27 #[.complex .f64 c c'] wz fun e w' => e = .returned (.bool true) ∧ w' = wz) := fun wz => isplace18 hc lc wz
 clear ha hb hc la lb lc
 have g1 := Ch.Bl.new w #[.complex .f64 a a', .complex .f64 b b', .complex .f64 c c'] 50
 have z1 : (w.alloc (.cells #[.complex .f64 a a', .complex .f64 b b', .complex .f64 c c'] 50)).heap.size = w.heap.size + 1 := by simp
 have b1 := bw_alloc w (.cells #[.complex .f64 a a', .complex .f64 b b', .complex .f64 c c'] 50)
 obtain ⟨W1, hW1⟩ : ∃ v, w.alloc (.cells #[.complex .f64 a a', .complex .f64 b b', .complex .f64 c c'] 50) = v := ⟨_, rfl⟩
 rw [hW1] at g1 z1 b1
 have GG : Hid (Ch.Bl W1 (w.heap.size) [.complex .f64 a a', .complex .f64 b b', .complex .f64 c c'] ∧ Bw w W1) := ⟨(show Ch.Bl _ (w.heap.size) _ from g1), b1⟩
 have HW := hide (hW1)
 clear g1 b1 z1 hW1
 go_enter Tryz.func35, Tryz.ntmps35
 go_wp2_with fail
 rw [HW.out]
 obtain ⟨A, hA⟩ : ∃ A, w.heap.size = A := ⟨_, rfl⟩
 rw [hA] at GG ⊢
 have HA := hide hA
 go_loopw [6] (fun i wr => ∃ k : Nat, k ≤ 3 ∧ i = .int .i64 k ∧ Bw w wr) (fun i _ => 3 - (intOf i).toNat)
 case atStart => exact ⟨0, by omega, rfl, GG.out.2⟩
 case round =>
  obtain ⟨k, hk, rfl, G⟩ := hrel
  have hk' : k = 0 ∨ k = 1 ∨ k = 2 ∨ k = 3 := by omega
  clear HW GG
  rcases hk' with h0 | h0 | h0 | h0
  ·
   obtain rfl : k = 0 := by omega
   clear hk h0
   go_wp2_with fail
   refine (I0.out _).mono ?_
   rintro e' w4 ⟨rfl, rfl⟩
   go_wp2
   go_roundw
   case rel => exact ⟨1, by omega, rfl, G⟩
   case measure => simp [intOf]
  ·
   obtain rfl : k = 1 := by omega
   clear hk h0
   go_wp2_with fail
   refine (I1.out _).mono ?_
   rintro e' w4 ⟨rfl, rfl⟩
   go_wp2
   go_roundw
   case rel => exact ⟨2, by omega, rfl, G⟩
   case measure => simp [intOf]
  ·
   obtain rfl : k = 2 := by omega
   clear hk h0
   go_wp2_with fail
   refine (I2.out _).mono ?_
   rintro e' w4 ⟨rfl, rfl⟩
   go_wp2
   go_roundw
   case rel => exact ⟨3, by omega, rfl, G⟩
   case measure => simp [intOf]
  ·
   obtain rfl : k = 3 := by omega
   clear hk h0
   go_wp2
   go_ret
   exact ⟨rfl, G⟩
set_option maxHeartbeats 4000000 in
theorem two18 {a a' b b' c c' : Nat} {g h k : Py.G} (ha : wC 1074 a a' g) (hb : wC 1074 b b' h) (hc : wC 1074 c c' k) (w : World) : Calls Tryz.prog 36 #[.agg #[.complex .f64 a a', .complex .f64 b b', .complex .f64 c c']] w fun e w' => e = .returned (.bool (decide (g = h) || decide (h = k) || decide (g = k))) ∧ Bw w w' := by
 have L0 : Hid (∀ wz, Calls Tryz.prog 20 #[.complex .f64 a a', .complex .f64 b b'] wz fun e w' => e = .returned (.bool (decide (g = h))) ∧ w' = wz) := fun wz => plike8 ha hb wz
 have L1 : Hid (∀ wz, Calls Tryz.prog 20 #[.complex .f64 b b', .complex .f64 c c'] wz fun e w' => e = .returned (.bool (decide (h = k))) ∧ w' = wz) := fun wz => plike8 hb hc wz
 have L2 : Hid (∀ wz, Calls Tryz.prog 20 #[.complex .f64 a a', .complex .f64 c c'] wz fun e w' => e = .returned (.bool (decide (g = k))) ∧ w' = wz) := fun wz => plike8 ha hc wz
 generalize decide (g = h) = p0 at *
 generalize decide (h = k) = p1 at *
 generalize decide (g = k) = p2 at *
 clear ha hb hc
 have g1 := Ch.Bl.new w #[.complex .f64 a a', .complex .f64 b b', .complex .f64 c c'] 50
 have z1 : (w.alloc (.cells #[.complex .f64 a a', .complex .f64 b b', .complex .f64 c c'] 50)).heap.size = w.heap.size + 1 := by simp
 have b1 := bw_alloc w (.cells #[.complex .f64 a a', .complex .f64 b b', .complex .f64 c c'] 50)
 obtain ⟨W1, hW1⟩ : ∃ v, w.alloc (.cells #[.complex .f64 a a', .complex .f64 b b', .complex .f64 c c'] 50) = v := ⟨_, rfl⟩
 rw [hW1] at g1 z1 b1
 have GG : Hid (Ch.Bl W1 (w.heap.size) [.complex .f64 a a', .complex .f64 b b', .complex .f64 c c'] ∧ Bw w W1) := ⟨(show Ch.Bl _ (w.heap.size) _ from g1), b1⟩
 have HW := hide (hW1)
 clear g1 b1 z1 hW1
 go_enter Tryz.func36, Tryz.ntmps36
 go_wp2_with fail
 rw [HW.out]
 obtain ⟨A, hA⟩ : ∃ A, w.heap.size = A := ⟨_, rfl⟩
 rw [hA] at GG ⊢
 have HA := hide hA
 refine wp_region_K (fun w' => Ch.Bl w' (A) [.complex .f64 a a', .complex .f64 b b', .complex .f64 c c']) 8 9 #[false, false, false, false, false, false, false, false, false] (by kernel_rfl) (by kernel_rfl) (by kernel_rfl) ?_
 have GGd : Hid (Ch.Bl W1.drew (A) [.complex .f64 a a', .complex .f64 b b', .complex .f64 c c'] ∧ Bw w W1.drew) := ⟨GG.out.1.bw (Bw.refl W1).drew, bw_trans GG.out.2 (Bw.refl W1).drew⟩
 generalize W1.drew = W1d at *
 have GGS : Ch.Bl W1d (A) [.complex .f64 a a', .complex .f64 b b', .complex .f64 c c'] := GGd.out.1
 refine wpAnyK_take 0 6 (v := ?v0) rfl (by kernel_rfl) (by kernel_rfl) (by kernel_rfl) (by kernel_rfl) (by kernel_rfl) (fun _ _ _ h => h) rfl (Or.inl ⟨by rfl, ?h0⟩) (by assumption) ?r0
 case h0 => (intro w hSw; have h0 := hSw; have c00 := h0.c 0 _ rfl; have c01 := h0.c 1 _ rfl; have c02 := h0.c 2 _ rfl; go_simp; with_reducible rfl)
 simp only [Act.put, List.setIfInBounds_toArray, List.set_cons_zero, List.set_cons_succ]
 refine wpAnyK_take 1 7 (v := ?v1) rfl (by kernel_rfl) (by kernel_rfl) (by kernel_rfl) (by kernel_rfl) (by kernel_rfl) (fun _ _ _ h => h) rfl (Or.inl ⟨by rfl, ?h1⟩) (by assumption) ?r1
 case h1 => (intro w hSw; have h0 := hSw; have c00 := h0.c 0 _ rfl; have c01 := h0.c 1 _ rfl; have c02 := h0.c 2 _ rfl; go_simp; with_reducible rfl)
 simp only [Act.put, List.setIfInBounds_toArray, List.set_cons_zero, List.set_cons_succ]
 refine wpAnyK_take 2 8 (v := ?v2) rfl (by kernel_rfl) (by kernel_rfl) (by kernel_rfl) (by kernel_rfl) (by kernel_rfl) (fun _ _ _ h => h) rfl (Or.inl ⟨by rfl, ?h2⟩) (by assumption) ?r2
 case h2 => (intro w hSw; have h0 := hSw; have c00 := h0.c 0 _ rfl; have c01 := h0.c 1 _ rfl; have c02 := h0.c 2 _ rfl; go_simp; with_reducible rfl)
 simp only [Act.put, List.setIfInBounds_toArray, List.set_cons_zero, List.set_cons_succ]
 refine wpAnyK_take 3 9 (v := ?v3) rfl (by kernel_rfl) (by kernel_rfl) (by kernel_rfl) (by kernel_rfl) (by kernel_rfl) (fun _ _ _ h => h) rfl (Or.inl ⟨by rfl, ?h3⟩) (by assumption) ?r3
 case h3 => (intro w hSw; have h0 := hSw; have c00 := h0.c 0 _ rfl; have c01 := h0.c 1 _ rfl; have c02 := h0.c 2 _ rfl; go_simp; with_reducible rfl)
 simp only [Act.put, List.setIfInBounds_toArray, List.set_cons_zero, List.set_cons_succ]
 refine wpAnyK_take 4 10 (v := ?v4) rfl (by kernel_rfl) (by kernel_rfl) (by kernel_rfl) (by kernel_rfl) (by kernel_rfl) (fun _ _ _ h => h) rfl (Or.inl ⟨by rfl, ?h4⟩) (by assumption) ?r4
 case h4 => (intro w hSw; have h0 := hSw; have c00 := h0.c 0 _ rfl; have c01 := h0.c 1 _ rfl; have c02 := h0.c 2 _ rfl; go_simp; with_reducible rfl)
 simp only [Act.put, List.setIfInBounds_toArray, List.set_cons_zero, List.set_cons_succ]
 refine wpAnyK_take 5 11 (v := ?v5) rfl (by kernel_rfl) (by kernel_rfl) (by kernel_rfl) (by kernel_rfl) (by kernel_rfl) (fun _ _ _ h => h) rfl (Or.inl ⟨by rfl, ?h5⟩) (by assumption) ?r5
 case h5 => (intro w hSw; have h0 := hSw; have c00 := h0.c 0 _ rfl; have c01 := h0.c 1 _ rfl; have c02 := h0.c 2 _ rfl; go_simp; with_reducible rfl)
 simp only [Act.put, List.setIfInBounds_toArray, List.set_cons_zero, List.set_cons_succ]
 refine wpAnyK_one 6 (by kernel_rfl) rfl (fun K hK => ?_)
 go_simp
 refine hK.out _ _ (fun _ _ => GGS) ?_
 clear hK K
 simp only [List.setIfInBounds_toArray, List.set_cons_zero, List.set_cons_succ]
 refine wpAnyK_one 7 (by kernel_rfl) rfl (fun K hK => ?_)
 go_simp
 refine hK.out _ _ (fun _ _ => GGS) ?_
 clear hK K
 simp only [List.setIfInBounds_toArray, List.set_cons_zero, List.set_cons_succ]
 refine wpAnyK_one 8 (by kernel_rfl) rfl (fun K hK => ?_)
 go_simp
 refine hK.out _ _ (fun h => absurd rfl h) ?_
 clear hK K
 simp only [List.setIfInBounds_toArray, List.set_cons_zero, List.set_cons_succ]
 refine wpAnyK_done (by kernel_rfl) ?_ _
 have GE := hide GGd.out.2
 go_wp2_with fail
 refine (L0.out _).mono ?_
 rintro e' w4 ⟨rfl, rfl⟩
 cases p0
 case true =>
  go_wp2
  go_ret
  exact ⟨rfl, GE.out⟩
 go_wp2_with fail
 refine (L1.out _).mono ?_
 rintro e' w4 ⟨rfl, rfl⟩
 cases p1
 case true =>
  go_wp2
  go_ret
  exact ⟨rfl, GE.out⟩
 go_wp2_with fail
 refine (L2.out _).mono ?_
 rintro e' w4 ⟨rfl, rfl⟩
 go_wp2
 go_ret
 exact ⟨rfl, GE.out⟩
set_option maxHeartbeats 8000000 in
theorem ofp18 {a a' b b' c c' : Nat} {g h k : Py.G} (ha : wC 1074 a a' g) (hb : wC 1074 b b' h) (hc : wC 1074 c c' k) {M : Nat} (la : Py.Le g M) (lb : Py.Le h M) (lc : Py.Le k M) (hM : M * (M + M) ≤ 9007199254740992) (h2 : M + M ≤ 9007199254740992) : ∃ p p' q q' r r' s s', Ch.W8 p p' q q' r r' s s' (Ch.ofp g h k) ∧ ∀ w, Calls Tryz.prog 37 #[.agg #[.complex .f64 a a', .complex .f64 b b', .complex .f64 c c']] w fun e w' => e = .returned (.agg #[.int .u8 1, .complex .f64 p p', .complex .f64 q q', .complex .f64 r r', .complex .f64 s s', .float .f64 0]) ∧ Bw w w' := by
 obtain ⟨p, p', h1, c1⟩ := psub9 rfl hb hc lb lc h2
 obtain ⟨r, r', h3, c3⟩ := psub9 rfl hb ha lb la h2
 obtain ⟨t, t', h4, c4⟩ := pmul8 rfl ha h1 la (lb.sub lc) hM
 obtain ⟨q, q', h5, c5⟩ := pneg8 h4
 obtain ⟨u, u', h6, c6⟩ := pmul8 rfl hc h3 lc (lb.sub la) hM
 obtain ⟨s, s', h7, c7⟩ := pneg8 h6
 refine ⟨p, p', q, q', r, r', s, s', ⟨h1, h5, h3, h7⟩, fun w => ?_⟩
 have MB : Hid (∀ wz, Calls Tryz.prog 31 #[.complex .f64 p p', .complex .f64 q q', .complex .f64 r r', .complex .f64 s s'] wz fun z w' => z = .returned (.agg #[.int .u8 1, .complex .f64 p p', .complex .f64 q q', .complex .f64 r r', .complex .f64 s s', .float .f64 0]) ∧ Bw wz w') := fun wz => moebius18 p p' q q' r r' s s' wz
 have C1 := hide c1
 have C3 := hide c3
 have C4 := hide c4
 have C5 := hide c5
 have C6 := hide c6
 have C7 := hide c7
 clear c1 c3 c4 c5 c6 c7 h1 h3 h4 h5 h6 h7 ha hb hc la lb lc hM h2
 have g1 := Ch.Bl.new w #[.complex .f64 a a', .complex .f64 b b', .complex .f64 c c'] 50
 have z1 : (w.alloc (.cells #[.complex .f64 a a', .complex .f64 b b', .complex .f64 c c'] 50)).heap.size = w.heap.size + 1 := by simp
 have b1 := bw_alloc w (.cells #[.complex .f64 a a', .complex .f64 b b', .complex .f64 c c'] 50)
 obtain ⟨W1, hW1⟩ : ∃ v, w.alloc (.cells #[.complex .f64 a a', .complex .f64 b b', .complex .f64 c c'] 50) = v := ⟨_, rfl⟩
 rw [hW1] at g1 z1 b1
 have g2 := Ch.Bl.new W1 #[.int .u8 0, .complex .f64 0 0, .complex .f64 0 0, .complex .f64 0 0, .complex .f64 0 0, .float .f64 0] 33
 have z2 : (W1.alloc (.cells #[.int .u8 0, .complex .f64 0 0, .complex .f64 0 0, .complex .f64 0 0, .complex .f64 0 0, .float .f64 0] 33)).heap.size = w.heap.size + 1 + 1 := by simp [z1]
 have b2 := bw_alloc W1 (.cells #[.int .u8 0, .complex .f64 0 0, .complex .f64 0 0, .complex .f64 0 0, .complex .f64 0 0, .float .f64 0] 33)
 obtain ⟨W2, hW2⟩ : ∃ v, W1.alloc (.cells #[.int .u8 0, .complex .f64 0 0, .complex .f64 0 0, .complex .f64 0 0, .complex .f64 0 0, .float .f64 0] 33) = v := ⟨_, rfl⟩
 rw [hW2] at g2 z2 b2
 have GG : Hid (Ch.Bl W2 (w.heap.size) [.complex .f64 a a', .complex .f64 b b', .complex .f64 c c'] ∧ Ch.Bl W2 (w.heap.size + 1) [.int .u8 0, .complex .f64 0 0, .complex .f64 0 0, .complex .f64 0 0, .complex .f64 0 0, .float .f64 0] ∧ Bw w W2) := ⟨(show Ch.Bl _ (w.heap.size) _ from g1).bw b2, (show Ch.Bl _ (w.heap.size + 1) _ from z1 ▸ g2), (bw_trans b1 b2)⟩
 have HW := hide (And.intro hW1 (hW2))
 clear g1 b1 z1 hW1 g2 b2 z2 hW2
 go_enter Tryz.func37, Tryz.ntmps37
 go_wp2_with fail
 rw [HW.out.1, HW.out.2]
 obtain ⟨A, hA⟩ : ∃ A, w.heap.size = A := ⟨_, rfl⟩
 rw [hA] at GG ⊢
 have HA := hide hA
 refine wp_region_K (fun w' => Ch.Bl w' (A) [.complex .f64 a a', .complex .f64 b b', .complex .f64 c c']) 8 9 #[false, false, false, false, false, false, false, false, false] (by kernel_rfl) (by kernel_rfl) (by kernel_rfl) ?_
 have GGd : Hid (Ch.Bl W2.drew (A) [.complex .f64 a a', .complex .f64 b b', .complex .f64 c c'] ∧ Ch.Bl W2.drew (A + 1) [.int .u8 0, .complex .f64 0 0, .complex .f64 0 0, .complex .f64 0 0, .complex .f64 0 0, .float .f64 0] ∧ Bw w W2.drew) := ⟨GG.out.1.bw (Bw.refl W2).drew, GG.out.2.1.bw (Bw.refl W2).drew, bw_trans GG.out.2.2 (Bw.refl W2).drew⟩
 generalize W2.drew = W2d at *
 have GGS : Ch.Bl W2d (A) [.complex .f64 a a', .complex .f64 b b', .complex .f64 c c'] := GGd.out.1
 refine wpAnyK_take 0 8 (v := ?v0) rfl (by kernel_rfl) (by kernel_rfl) (by kernel_rfl) (by kernel_rfl) (by kernel_rfl) (fun _ _ _ h => h) rfl (Or.inl ⟨by rfl, ?h0⟩) (by assumption) ?r0
 case h0 => (intro w hSw; have h0 := hSw; have c00 := h0.c 0 _ rfl; have c01 := h0.c 1 _ rfl; have c02 := h0.c 2 _ rfl; go_simp; with_reducible rfl)
 simp only [Act.put, List.setIfInBounds_toArray, List.set_cons_zero, List.set_cons_succ]
 refine wpAnyK_take 1 9 (v := ?v1) rfl (by kernel_rfl) (by kernel_rfl) (by kernel_rfl) (by kernel_rfl) (by kernel_rfl) (fun _ _ _ h => h) rfl (Or.inl ⟨by rfl, ?h1⟩) (by assumption) ?r1
 case h1 => (intro w hSw; have h0 := hSw; have c00 := h0.c 0 _ rfl; have c01 := h0.c 1 _ rfl; have c02 := h0.c 2 _ rfl; go_simp; with_reducible rfl)
 simp only [Act.put, List.setIfInBounds_toArray, List.set_cons_zero, List.set_cons_succ]
 refine wpAnyK_take 2 10 (v := ?v2) rfl (by kernel_rfl) (by kernel_rfl) (by kernel_rfl) (by kernel_rfl) (by kernel_rfl) (fun _ _ _ h => h) rfl (Or.inl ⟨by rfl, ?h2⟩) (by assumption) ?r2
 case h2 => (intro w hSw; have h0 := hSw; have c00 := h0.c 0 _ rfl; have c01 := h0.c 1 _ rfl; have c02 := h0.c 2 _ rfl; go_simp; with_reducible rfl)
 simp only [Act.put, List.setIfInBounds_toArray, List.set_cons_zero, List.set_cons_succ]
 refine wpAnyK_take 3 11 (v := ?v3) rfl (by kernel_rfl) (by kernel_rfl) (by kernel_rfl) (by kernel_rfl) (by kernel_rfl) (fun _ _ _ h => h) rfl (Or.inl ⟨by rfl, ?h3⟩) (by assumption) ?r3
 case h3 => (intro w hSw; have h0 := hSw; have c00 := h0.c 0 _ rfl; have c01 := h0.c 1 _ rfl; have c02 := h0.c 2 _ rfl; go_simp; with_reducible rfl)
 simp only [Act.put, List.setIfInBounds_toArray, List.set_cons_zero, List.set_cons_succ]
 refine wpAnyK_take 4 12 (v := ?v4) rfl (by kernel_rfl) (by kernel_rfl) (by kernel_rfl) (by kernel_rfl) (by kernel_rfl) (fun _ _ _ h => h) rfl (Or.inl ⟨by rfl, ?h4⟩) (by assumption) ?r4
 case h4 => (intro w hSw; have h0 := hSw; have c00 := h0.c 0 _ rfl; have c01 := h0.c 1 _ rfl; have c02 := h0.c 2 _ rfl; go_simp; with_reducible rfl)
 simp only [Act.put, List.setIfInBounds_toArray, List.set_cons_zero, List.set_cons_succ]
 refine wpAnyK_take 5 13 (v := ?v5) rfl (by kernel_rfl) (by kernel_rfl) (by kernel_rfl) (by kernel_rfl) (by kernel_rfl) (fun _ _ _ h => h) rfl (Or.inl ⟨by rfl, ?h5⟩) (by assumption) ?r5
 case h5 => (intro w hSw; have h0 := hSw; have c00 := h0.c 0 _ rfl; have c01 := h0.c 1 _ rfl; have c02 := h0.c 2 _ rfl; go_simp; with_reducible rfl)
 simp only [Act.put, List.setIfInBounds_toArray, List.set_cons_zero, List.set_cons_succ]
 refine wpAnyK_one 6 (by kernel_rfl) rfl (fun K hK => ?_)
 go_simp
 refine hK.out _ _ (fun _ _ => GGS) ?_
 clear hK K
 simp only [List.setIfInBounds_toArray, List.set_cons_zero, List.set_cons_succ]
 refine wpAnyK_one 7 (by kernel_rfl) rfl (fun K hK => ?_)
 go_simp
 refine hK.out _ _ (fun _ _ => GGS) ?_
 clear hK K
 simp only [List.setIfInBounds_toArray, List.set_cons_zero, List.set_cons_succ]
 refine wpAnyK_one 8 (by kernel_rfl) rfl (fun K hK => ?_)
 go_simp
 refine hK.out _ _ (fun h => absurd rfl h) ?_
 clear hK K
 simp only [List.setIfInBounds_toArray, List.set_cons_zero, List.set_cons_succ]
 refine wpAnyK_done (by kernel_rfl) ?_ _
 go_wp2_with fail
 refine (C1.out _).mono ?_
 rintro e' w' ⟨rfl, rfl⟩
 go_wp2_with fail
 refine (C3.out _).mono ?_
 rintro e' w' ⟨rfl, rfl⟩
 go_wp2_with fail
 refine (C4.out _).mono ?_
 rintro e' w' ⟨rfl, rfl⟩
 go_wp2_with fail
 refine (C5.out _).mono ?_
 rintro e' w' ⟨rfl, rfl⟩
 go_wp2_with fail
 refine (C6.out _).mono ?_
 rintro e' w' ⟨rfl, rfl⟩
 go_wp2_with fail
 refine (C7.out _).mono ?_
 rintro e' w' ⟨rfl, rfl⟩
 go_wp2_with fail
 refine (MB.out _).mono ?_
 rintro e' w5 ⟨rfl, bb⟩
 have G5 : Hid (Ch.Bl w5 (A) [.complex .f64 a a', .complex .f64 b b', .complex .f64 c c'] ∧ Ch.Bl w5 (A + 1) [.int .u8 0, .complex .f64 0 0, .complex .f64 0 0, .complex .f64 0 0, .complex .f64 0 0, .float .f64 0] ∧ Bw w w5) := ⟨GGd.out.1.bw bb, GGd.out.2.1.bw bb, bw_trans GGd.out.2.2 bb⟩
 clear bb
 have GZ : Hid (∀ V, V = Ch.s6 w5 (A + 1) (.int .u8 1) (.complex .f64 p p') (.complex .f64 q q') (.complex .f64 r r') (.complex .f64 s s') (.float .f64 0) → Ch.Bl V (A) [.complex .f64 a a', .complex .f64 b b', .complex .f64 c c'] ∧ Ch.Bl V (A + 1) [.int .u8 1, .complex .f64 p p', .complex .f64 q q', .complex .f64 r r', .complex .f64 s s', .float .f64 0] ∧ Bw w V) := by
  rintro V rfl
  exact ⟨Ch.s6_off G5.out.1 (by omega) _ _ _ _ _ _, Ch.s6_at G5.out.2.1 _ _ _ _ _ _, Ch.s6_bw G5.out.2.2 (by have := HA.out; omega) _ _ _ _ _ _⟩
 have q0 := (G5.out.2.1).c 0 _ rfl
 have r0 := (G5.out.2.1).fz 0
 have q1 := (G5.out.2.1).c 1 _ rfl
 have r1 := (G5.out.2.1).fz 1
 have q2 := (G5.out.2.1).c 2 _ rfl
 have r2 := (G5.out.2.1).fz 2
 have q3 := (G5.out.2.1).c 3 _ rfl
 have r3 := (G5.out.2.1).fz 3
 have q4 := (G5.out.2.1).c 4 _ rfl
 have r4 := (G5.out.2.1).fz 4
 have q5 := (G5.out.2.1).c 5 _ rfl
 have r5 := (G5.out.2.1).fz 5
 go_wp2
 obtain ⟨W6, hV⟩ : ∃ V, V = Ch.s6 w5 (A + 1) (.int .u8 1) (.complex .f64 p p') (.complex .f64 q q') (.complex .f64 r r') (.complex .f64 s s') (.float .f64 0) := ⟨_, rfl⟩
 have G6 := hide (GZ.out _ hV)
 unfold Ch.s6 at hV
 rw [← hV]
 clear hV GZ q0 r0 q1 r1 q2 r2 q3 r3 q4 r4 q5 r5
 refine bodyPost_ret (Ch.res_map rfl _ _ (A + 1) rfl G6.out.2.1) rfl ?_
 exact ⟨rfl, G6.out.2.2⟩
end Go.Proofs.YtfgfofedacehiaaGreat

/-
 OWN TEXT: the laws' own small functions of layer 18.
-/
namespace Go.Proofs.YtfgfofedacehiaaGreat
open Go.ChangeShapes Go.WideShapes Go.ChangeAt Go.RowKit
set_option linter.unusedVariables false
set_option linter.unusedSimpArgs false
attribute [local go_sem] frombits_call tobits_call run_neg El.run_store_cx El.run_store_fl
set_option maxHeartbeats 1000000 in
theorem gof18 (x y : Int) (w : World) : Calls Tryz.prog 9 #[.agg #[.int .i16 x, .int .i16 y]] w fun e w' => e = .returned (.complex .f64 (floatOfInt .f64 x) (floatOfInt .f64 y)) ∧ Bw w w' := by
 have g : Bw w (w.alloc (.cells #[.int .i16 x, .int .i16 y] 24)) := Below.alloc (Bw.refl w) (Nat.le_refl _) _
 have c0 : (w.alloc (.cells #[.int .i16 x, .int .i16 y] 24)).cell? ⟨w.heap.size, 0, none⟩ = some (.int .i16 x) := by simp
 have c1 : (w.alloc (.cells #[.int .i16 x, .int .i16 y] 24)).cell? ⟨w.heap.size, 1, none⟩ = some (.int .i16 y) := by simp
 go_enter Tryz.func9, Tryz.ntmps9
 go_wp2
 go_ret
 exact ⟨rfl, g⟩
/-- both parts are at most 8, if p -/
def Ch.Sm (p : Bool) (x y : Int) : Prop := p = true → (x.natAbs ≤ 8 ∧ y.natAbs ≤ 8)
set_option maxHeartbeats 1000000 in
theorem gup18 (x y : Int) (w : World) : Calls Tryz.prog 8 #[.agg #[.int .i16 x, .int .i16 y], .int .i16 8] w fun e w' => ∃ p, e = .returned (.bool p) ∧ Ch.Sm p x y ∧ Bw w w' := by
 have g : Bw w (w.alloc (.cells #[.int .i16 x, .int .i16 y] 24)) := Below.alloc (Bw.refl w) (Nat.le_refl _) _
 have c0 : (w.alloc (.cells #[.int .i16 x, .int .i16 y] 24)).cell? ⟨w.heap.size, 0, none⟩ = some (.int .i16 x) := by simp
 have c1 : (w.alloc (.cells #[.int .i16 x, .int .i16 y] 24)).cell? ⟨w.heap.size, 1, none⟩ = some (.int .i16 y) := by simp
 go_enter Tryz.func8, Tryz.ntmps8
 go_wp2
 all_goals go_ret
 all_goals first
  | exact Or.inl ⟨rfl, (fun h => by cases h), g⟩
  | exact ⟨false, rfl, (fun h => by cases h), g⟩
  | refine ⟨decide (y ≤ 8), rfl, (fun h => ?_), g⟩
 all_goals (have k := of_decide_eq_true h; omega)
end Go.Proofs.YtfgfofedacehiaaGreat

/-
 OWN TEXT: package chart over whole numbers: Three, over contracts of what it calls.
-/
namespace Go.Proofs.YtfgfofedacehiaaGreat
open Go.ChangeShapes Go.WideShapes Go.ChangeAt Go.RowKit
set_option linter.unusedVariables false
set_option linter.unusedSimpArgs false
attribute [local go_sem] frombits_call tobits_call run_neg El.run_store_cx El.run_store_fl
set_option maxHeartbeats 16000000 in
theorem three18a {a a' b b' c c' d d' e e' f f' : Nat} {p q : Bool} (hpq : (p || q) = true) (w : World)
  (R1 : Hid (∀ wz, Calls Tryz.prog 35 #[.agg #[.complex .f64 a a', .complex .f64 b b', .complex .f64 c c']] wz fun e w' => e = .returned (.bool true) ∧ Bw wz w'))
  (R2 : Hid (∀ wz, Calls Tryz.prog 35 #[.agg #[.complex .f64 d d', .complex .f64 e e', .complex .f64 f f']] wz fun e w' => e = .returned (.bool true) ∧ Bw wz w'))
  (T1 : Hid (∀ wz, Calls Tryz.prog 36 #[.agg #[.complex .f64 a a', .complex .f64 b b', .complex .f64 c c']] wz fun e w' => e = .returned (.bool p) ∧ Bw wz w'))
  (T2 : Hid (∀ wz, Calls Tryz.prog 36 #[.agg #[.complex .f64 d d', .complex .f64 e e', .complex .f64 f f']] wz fun e w' => e = .returned (.bool q) ∧ Bw wz w'))
  : Calls Tryz.prog 21 #[.agg #[.complex .f64 a a', .complex .f64 b b', .complex .f64 c c'], .agg #[.complex .f64 d d', .complex .f64 e e', .complex .f64 f f']] w fun e w' => e = .returned (.tuple #[.agg #[.int .u8 0, .complex .f64 0 0, .complex .f64 0 0, .complex .f64 0 0, .complex .f64 0 0, .float .f64 0], .int .i64 180]) ∧ Bw w w' := by
 have g1 := Ch.Bl.new w #[.complex .f64 a a', .complex .f64 b b', .complex .f64 c c'] 50
 have z1 : (w.alloc (.cells #[.complex .f64 a a', .complex .f64 b b', .complex .f64 c c'] 50)).heap.size = w.heap.size + 1 := by simp
 have b1 := bw_alloc w (.cells #[.complex .f64 a a', .complex .f64 b b', .complex .f64 c c'] 50)
 obtain ⟨W1, hW1⟩ : ∃ v, w.alloc (.cells #[.complex .f64 a a', .complex .f64 b b', .complex .f64 c c'] 50) = v := ⟨_, rfl⟩
 rw [hW1] at g1 z1 b1
 have g2 := Ch.Bl.new W1 #[.complex .f64 d d', .complex .f64 e e', .complex .f64 f f'] 50
 have z2 : (W1.alloc (.cells #[.complex .f64 d d', .complex .f64 e e', .complex .f64 f f'] 50)).heap.size = w.heap.size + 1 + 1 := by simp [z1]
 have b2 := bw_alloc W1 (.cells #[.complex .f64 d d', .complex .f64 e e', .complex .f64 f f'] 50)
 obtain ⟨W2, hW2⟩ : ∃ v, W1.alloc (.cells #[.complex .f64 d d', .complex .f64 e e', .complex .f64 f f'] 50) = v := ⟨_, rfl⟩
 rw [hW2] at g2 z2 b2
 have g3 := Ch.Bl.new W2 #[.int .u8 0, .complex .f64 0 0, .complex .f64 0 0, .complex .f64 0 0, .complex .f64 0 0, .float .f64 0] 33
 have z3 : (W2.alloc (.cells #[.int .u8 0, .complex .f64 0 0, .complex .f64 0 0, .complex .f64 0 0, .complex .f64 0 0, .float .f64 0] 33)).heap.size = w.heap.size + 1 + 1 + 1 := by simp [z2]
 have b3 := bw_alloc W2 (.cells #[.int .u8 0, .complex .f64 0 0, .complex .f64 0 0, .complex .f64 0 0, .complex .f64 0 0, .float .f64 0] 33)
 obtain ⟨W3, hW3⟩ : ∃ v, W2.alloc (.cells #[.int .u8 0, .complex .f64 0 0, .complex .f64 0 0, .complex .f64 0 0, .complex .f64 0 0, .float .f64 0] 33) = v := ⟨_, rfl⟩
 rw [hW3] at g3 z3 b3
 have GG : Hid (Ch.Bl W3 (w.heap.size) [.complex .f64 a a', .complex .f64 b b', .complex .f64 c c'] ∧ Ch.Bl W3 (w.heap.size + 1) [.complex .f64 d d', .complex .f64 e e', .complex .f64 f f'] ∧ Ch.Bl W3 (w.heap.size + 1 + 1) [.int .u8 0, .complex .f64 0 0, .complex .f64 0 0, .complex .f64 0 0, .complex .f64 0 0, .float .f64 0] ∧ Bw w W3) := ⟨(show Ch.Bl _ (w.heap.size) _ from g1).bw (bw_trans b2 b3), (show Ch.Bl _ (w.heap.size + 1) _ from z1 ▸ g2).bw b3, (show Ch.Bl _ (w.heap.size + 1 + 1) _ from z2 ▸ g3), (bw_trans b1 (bw_trans b2 b3))⟩
 have HW := hide (And.intro hW1 (And.intro hW2 (hW3)))
 clear g1 b1 z1 hW1 g2 b2 z2 hW2 g3 b3 z3 hW3
 go_enter Tryz.func21, Tryz.ntmps21
 go_wp2_with fail
 rw [HW.out.1, HW.out.2.1, HW.out.2.2]
 obtain ⟨A, hA⟩ : ∃ A, w.heap.size = A := ⟨_, rfl⟩
 rw [hA] at GG ⊢
 have HA := hide hA
 obtain ⟨A1, hA1⟩ : ∃ v, A + 1 = v := ⟨_, rfl⟩
 obtain ⟨A2, hA2⟩ : ∃ v, A1 + 1 = v := ⟨_, rfl⟩
 rw [hA1, hA2] at GG ⊢
 have LT : Hid (w.heap.size ≤ A ∧ A < A1 ∧ A1 < A2) := by have q := HA.out; exact ⟨by omega, by omega, by omega⟩
 clear hA1 hA2 HA HW
 have cA0 := (GG.out.1).c 0 _ rfl
 have cA1 := (GG.out.1).c 1 _ rfl
 have cA2 := (GG.out.1).c 2 _ rfl
 go_wp2_with fail
 clear cA0 cA1 cA2
 refine (R1.out _).mono ?_
 rintro e' v1 ⟨rfl, bb⟩
 have H1 : Hid (Ch.Bl v1 A [.complex .f64 a a', .complex .f64 b b', .complex .f64 c c'] ∧ Ch.Bl v1 A1 [.complex .f64 d d', .complex .f64 e e', .complex .f64 f f'] ∧ Ch.Bl v1 A2 [.int .u8 0, .complex .f64 0 0, .complex .f64 0 0, .complex .f64 0 0, .complex .f64 0 0, .float .f64 0] ∧ Bw w v1) := ⟨GG.out.1.bw bb, GG.out.2.1.bw bb, GG.out.2.2.1.bw bb, bw_trans GG.out.2.2.2 bb⟩
 clear bb GG
 clear R1
 have cA10 := (H1.out.2.1).c 0 _ rfl
 have cA11 := (H1.out.2.1).c 1 _ rfl
 have cA12 := (H1.out.2.1).c 2 _ rfl
 go_wp2_with fail
 clear cA10 cA11 cA12
 refine (R2.out _).mono ?_
 rintro e' v2 ⟨rfl, bb⟩
 have H2 : Hid (Ch.Bl v2 A [.complex .f64 a a', .complex .f64 b b', .complex .f64 c c'] ∧ Ch.Bl v2 A1 [.complex .f64 d d', .complex .f64 e e', .complex .f64 f f'] ∧ Ch.Bl v2 A2 [.int .u8 0, .complex .f64 0 0, .complex .f64 0 0, .complex .f64 0 0, .complex .f64 0 0, .float .f64 0] ∧ Bw w v2) := ⟨H1.out.1.bw bb, H1.out.2.1.bw bb, H1.out.2.2.1.bw bb, bw_trans H1.out.2.2.2 bb⟩
 clear bb H1
 clear R2
 have cA0 := (H2.out.1).c 0 _ rfl
 have cA1 := (H2.out.1).c 1 _ rfl
 have cA2 := (H2.out.1).c 2 _ rfl
 go_wp2_with fail
 clear cA0 cA1 cA2
 refine (T1.out _).mono ?_
 rintro e' v3 ⟨rfl, bb⟩
 have H3 : Hid (Ch.Bl v3 A [.complex .f64 a a', .complex .f64 b b', .complex .f64 c c'] ∧ Ch.Bl v3 A1 [.complex .f64 d d', .complex .f64 e e', .complex .f64 f f'] ∧ Ch.Bl v3 A2 [.int .u8 0, .complex .f64 0 0, .complex .f64 0 0, .complex .f64 0 0, .complex .f64 0 0, .float .f64 0] ∧ Bw w v3) := ⟨H2.out.1.bw bb, H2.out.2.1.bw bb, H2.out.2.2.1.bw bb, bw_trans H2.out.2.2.2 bb⟩
 clear bb H2
 clear T1
 cases p
 case true =>
  have GZ : Hid (∀ V, V = Ch.s6 v3 A2 (.int .u8 0) (.complex .f64 0 0) (.complex .f64 0 0) (.complex .f64 0 0) (.complex .f64 0 0) (.float .f64 0) → Ch.Bl V A [.complex .f64 a a', .complex .f64 b b', .complex .f64 c c'] ∧ Ch.Bl V A1 [.complex .f64 d d', .complex .f64 e e', .complex .f64 f f'] ∧ Ch.Bl V A2 [.int .u8 0, .complex .f64 0 0, .complex .f64 0 0, .complex .f64 0 0, .complex .f64 0 0, .float .f64 0] ∧ Bw w V) := by
   rintro V rfl
   exact ⟨Ch.s6_off H3.out.1 (by have q := LT.out; omega) _ _ _ _ _ _, Ch.s6_off H3.out.2.1 (by have q := LT.out; omega) _ _ _ _ _ _, Ch.s6_at H3.out.2.2.1 _ _ _ _ _ _, Ch.s6_bw H3.out.2.2.2 (by have q := LT.out; omega) _ _ _ _ _ _⟩
  have q0 := (H3.out.2.2.1).c 0 _ rfl
  have r0 := (H3.out.2.2.1).fz 0
  have q1 := (H3.out.2.2.1).c 1 _ rfl
  have r1 := (H3.out.2.2.1).fz 1
  have q2 := (H3.out.2.2.1).c 2 _ rfl
  have r2 := (H3.out.2.2.1).fz 2
  have q3 := (H3.out.2.2.1).c 3 _ rfl
  have r3 := (H3.out.2.2.1).fz 3
  have q4 := (H3.out.2.2.1).c 4 _ rfl
  have r4 := (H3.out.2.2.1).fz 4
  have q5 := (H3.out.2.2.1).c 5 _ rfl
  have r5 := (H3.out.2.2.1).fz 5
  go_wp2
  obtain ⟨v4, hV⟩ : ∃ V, V = Ch.s6 v3 A2 (.int .u8 0) (.complex .f64 0 0) (.complex .f64 0 0) (.complex .f64 0 0) (.complex .f64 0 0) (.float .f64 0) := ⟨_, rfl⟩
  have H4 := hide (GZ.out _ hV)
  unfold Ch.s6 at hV
  rw [← hV]
  clear hV GZ q0 r0 q1 r1 q2 r2 q3 r3 q4 r4 q5 r5 H3 
  refine bodyPost_ret (Ch.res_map2 rfl _ _ A2 rfl H4.out.2.2.1) rfl ?_
  exact ⟨rfl, H4.out.2.2.2⟩
 obtain rfl : q = true := by simpa using hpq
 have cA10 := (H3.out.2.1).c 0 _ rfl
 have cA11 := (H3.out.2.1).c 1 _ rfl
 have cA12 := (H3.out.2.1).c 2 _ rfl
 go_wp2_with fail
 clear cA10 cA11 cA12
 refine (T2.out _).mono ?_
 rintro e' v4 ⟨rfl, bb⟩
 have H4 : Hid (Ch.Bl v4 A [.complex .f64 a a', .complex .f64 b b', .complex .f64 c c'] ∧ Ch.Bl v4 A1 [.complex .f64 d d', .complex .f64 e e', .complex .f64 f f'] ∧ Ch.Bl v4 A2 [.int .u8 0, .complex .f64 0 0, .complex .f64 0 0, .complex .f64 0 0, .complex .f64 0 0, .float .f64 0] ∧ Bw w v4) := ⟨H3.out.1.bw bb, H3.out.2.1.bw bb, H3.out.2.2.1.bw bb, bw_trans H3.out.2.2.2 bb⟩
 clear bb H3
 clear T2
 have GZ : Hid (∀ V, V = Ch.s6 v4 A2 (.int .u8 0) (.complex .f64 0 0) (.complex .f64 0 0) (.complex .f64 0 0) (.complex .f64 0 0) (.float .f64 0) → Ch.Bl V A [.complex .f64 a a', .complex .f64 b b', .complex .f64 c c'] ∧ Ch.Bl V A1 [.complex .f64 d d', .complex .f64 e e', .complex .f64 f f'] ∧ Ch.Bl V A2 [.int .u8 0, .complex .f64 0 0, .complex .f64 0 0, .complex .f64 0 0, .complex .f64 0 0, .float .f64 0] ∧ Bw w V) := by
  rintro V rfl
  exact ⟨Ch.s6_off H4.out.1 (by have q := LT.out; omega) _ _ _ _ _ _, Ch.s6_off H4.out.2.1 (by have q := LT.out; omega) _ _ _ _ _ _, Ch.s6_at H4.out.2.2.1 _ _ _ _ _ _, Ch.s6_bw H4.out.2.2.2 (by have q := LT.out; omega) _ _ _ _ _ _⟩
 have q0 := (H4.out.2.2.1).c 0 _ rfl
 have r0 := (H4.out.2.2.1).fz 0
 have q1 := (H4.out.2.2.1).c 1 _ rfl
 have r1 := (H4.out.2.2.1).fz 1
 have q2 := (H4.out.2.2.1).c 2 _ rfl
 have r2 := (H4.out.2.2.1).fz 2
 have q3 := (H4.out.2.2.1).c 3 _ rfl
 have r3 := (H4.out.2.2.1).fz 3
 have q4 := (H4.out.2.2.1).c 4 _ rfl
 have r4 := (H4.out.2.2.1).fz 4
 have q5 := (H4.out.2.2.1).c 5 _ rfl
 have r5 := (H4.out.2.2.1).fz 5
 go_wp2
 obtain ⟨v5, hV⟩ : ∃ V, V = Ch.s6 v4 A2 (.int .u8 0) (.complex .f64 0 0) (.complex .f64 0 0) (.complex .f64 0 0) (.complex .f64 0 0) (.float .f64 0) := ⟨_, rfl⟩
 have H5 := hide (GZ.out _ hV)
 unfold Ch.s6 at hV
 rw [← hV]
 clear hV GZ q0 r0 q1 r1 q2 r2 q3 r3 q4 r4 q5 r5 H4 
 refine bodyPost_ret (Ch.res_map2 rfl _ _ A2 rfl H5.out.2.2.1) rfl ?_
 exact ⟨rfl, H5.out.2.2.2⟩
set_option maxHeartbeats 32000000 in
set_option maxRecDepth 100000 in
theorem three18b {a a' b b' c c' d d' e e' f f' l1 l1' l2 l2' l3 l3' l4 l4' m1 m1' m2 m2' m3 m3' m4 m4' n1 n1' n2 n2' n3 n3' n4 n4' o1 o1' o2 o2' o3 o3' o4 o4' : Nat} (w : World)
  (R1 : Hid (∀ wz, Calls Tryz.prog 35 #[.agg #[.complex .f64 a a', .complex .f64 b b', .complex .f64 c c']] wz fun e w' => e = .returned (.bool true) ∧ Bw wz w'))
  (R2 : Hid (∀ wz, Calls Tryz.prog 35 #[.agg #[.complex .f64 d d', .complex .f64 e e', .complex .f64 f f']] wz fun e w' => e = .returned (.bool true) ∧ Bw wz w'))
  (T1 : Hid (∀ wz, Calls Tryz.prog 36 #[.agg #[.complex .f64 a a', .complex .f64 b b', .complex .f64 c c']] wz fun e w' => e = .returned (.bool false) ∧ Bw wz w'))
  (T2 : Hid (∀ wz, Calls Tryz.prog 36 #[.agg #[.complex .f64 d d', .complex .f64 e e', .complex .f64 f f']] wz fun e w' => e = .returned (.bool false) ∧ Bw wz w'))
  (O1 : Hid (∀ wz, Calls Tryz.prog 37 #[.agg #[.complex .f64 a a', .complex .f64 b b', .complex .f64 c c']] wz fun e w' => e = .returned (.agg #[.int .u8 1, .complex .f64 l1 l1', .complex .f64 l2 l2', .complex .f64 l3 l3', .complex .f64 l4 l4', .float .f64 0]) ∧ Bw wz w'))
  (K1 : Hid (∀ wz, Calls Tryz.prog 30 #[.agg #[.int .u8 1, .complex .f64 l1 l1', .complex .f64 l2 l2', .complex .f64 l3 l3', .complex .f64 l4 l4', .float .f64 0]] wz fun e w' => e = .returned (.tuple #[.agg #[.int .u8 1, .complex .f64 l1 l1', .complex .f64 l2 l2', .complex .f64 l3 l3', .complex .f64 l4 l4', .float .f64 0], .int .i64 0]) ∧ Bw wz w'))
  (O2 : Hid (∀ wz, Calls Tryz.prog 37 #[.agg #[.complex .f64 d d', .complex .f64 e e', .complex .f64 f f']] wz fun e w' => e = .returned (.agg #[.int .u8 1, .complex .f64 m1 m1', .complex .f64 m2 m2', .complex .f64 m3 m3', .complex .f64 m4 m4', .float .f64 0]) ∧ Bw wz w'))
  (K2 : Hid (∀ wz, Calls Tryz.prog 30 #[.agg #[.int .u8 1, .complex .f64 m1 m1', .complex .f64 m2 m2', .complex .f64 m3 m3', .complex .f64 m4 m4', .float .f64 0]] wz fun e w' => e = .returned (.tuple #[.agg #[.int .u8 1, .complex .f64 m1 m1', .complex .f64 m2 m2', .complex .f64 m3 m3', .complex .f64 m4 m4', .float .f64 0], .int .i64 0]) ∧ Bw wz w'))
  (TU : Hid (∀ wz, Calls Tryz.prog 17 #[.agg #[.int .u8 1, .complex .f64 m1 m1', .complex .f64 m2 m2', .complex .f64 m3 m3', .complex .f64 m4 m4', .float .f64 0]] wz fun e w' => e = .returned (.tuple #[.agg #[.int .u8 1, .complex .f64 n1 n1', .complex .f64 n2 n2', .complex .f64 n3 n3', .complex .f64 n4 n4', .float .f64 0], .int .i64 0]) ∧ Bw wz w'))
  (TH : Hid (∀ wz, Calls Tryz.prog 15 #[.agg #[.int .u8 1, .complex .f64 l1 l1', .complex .f64 l2 l2', .complex .f64 l3 l3', .complex .f64 l4 l4', .float .f64 0], .agg #[.int .u8 1, .complex .f64 n1 n1', .complex .f64 n2 n2', .complex .f64 n3 n3', .complex .f64 n4 n4', .float .f64 0]] wz fun e w' => e = .returned (.tuple #[.agg #[.int .u8 1, .complex .f64 o1 o1', .complex .f64 o2 o2', .complex .f64 o3 o3', .complex .f64 o4 o4', .float .f64 0], .int .i64 0]) ∧ Bw wz w'))
  : Calls Tryz.prog 21 #[.agg #[.complex .f64 a a', .complex .f64 b b', .complex .f64 c c'], .agg #[.complex .f64 d d', .complex .f64 e e', .complex .f64 f f']] w fun e w' => e = .returned (.tuple #[.agg #[.int .u8 1, .complex .f64 o1 o1', .complex .f64 o2 o2', .complex .f64 o3 o3', .complex .f64 o4 o4', .float .f64 0], .int .i64 0]) ∧ Bw w w' := by
 have g1 := Ch.Bl.new w #[.complex .f64 a a', .complex .f64 b b', .complex .f64 c c'] 50
 have z1 : (w.alloc (.cells #[.complex .f64 a a', .complex .f64 b b', .complex .f64 c c'] 50)).heap.size = w.heap.size + 1 := by simp
 have b1 := bw_alloc w (.cells #[.complex .f64 a a', .complex .f64 b b', .complex .f64 c c'] 50)
 obtain ⟨W1, hW1⟩ : ∃ v, w.alloc (.cells #[.complex .f64 a a', .complex .f64 b b', .complex .f64 c c'] 50) = v := ⟨_, rfl⟩
 rw [hW1] at g1 z1 b1
 have g2 := Ch.Bl.new W1 #[.complex .f64 d d', .complex .f64 e e', .complex .f64 f f'] 50
 have z2 : (W1.alloc (.cells #[.complex .f64 d d', .complex .f64 e e', .complex .f64 f f'] 50)).heap.size = w.heap.size + 1 + 1 := by simp [z1]
 have b2 := bw_alloc W1 (.cells #[.complex .f64 d d', .complex .f64 e e', .complex .f64 f f'] 50)
 obtain ⟨W2, hW2⟩ : ∃ v, W1.alloc (.cells #[.complex .f64 d d', .complex .f64 e e', .complex .f64 f f'] 50) = v := ⟨_, rfl⟩
 rw [hW2] at g2 z2 b2
 have g3 := Ch.Bl.new W2 #[.int .u8 0, .complex .f64 0 0, .complex .f64 0 0, .complex .f64 0 0, .complex .f64 0 0, .float .f64 0] 33
 have z3 : (W2.alloc (.cells #[.int .u8 0, .complex .f64 0 0, .complex .f64 0 0, .complex .f64 0 0, .complex .f64 0 0, .float .f64 0] 33)).heap.size = w.heap.size + 1 + 1 + 1 := by simp [z2]
 have b3 := bw_alloc W2 (.cells #[.int .u8 0, .complex .f64 0 0, .complex .f64 0 0, .complex .f64 0 0, .complex .f64 0 0, .float .f64 0] 33)
 obtain ⟨W3, hW3⟩ : ∃ v, W2.alloc (.cells #[.int .u8 0, .complex .f64 0 0, .complex .f64 0 0, .complex .f64 0 0, .complex .f64 0 0, .float .f64 0] 33) = v := ⟨_, rfl⟩
 rw [hW3] at g3 z3 b3
 have GG : Hid (Ch.Bl W3 (w.heap.size) [.complex .f64 a a', .complex .f64 b b', .complex .f64 c c'] ∧ Ch.Bl W3 (w.heap.size + 1) [.complex .f64 d d', .complex .f64 e e', .complex .f64 f f'] ∧ Ch.Bl W3 (w.heap.size + 1 + 1) [.int .u8 0, .complex .f64 0 0, .complex .f64 0 0, .complex .f64 0 0, .complex .f64 0 0, .float .f64 0] ∧ Bw w W3) := ⟨(show Ch.Bl _ (w.heap.size) _ from g1).bw (bw_trans b2 b3), (show Ch.Bl _ (w.heap.size + 1) _ from z1 ▸ g2).bw b3, (show Ch.Bl _ (w.heap.size + 1 + 1) _ from z2 ▸ g3), (bw_trans b1 (bw_trans b2 b3))⟩
 have HW := hide (And.intro hW1 (And.intro hW2 (hW3)))
 clear g1 b1 z1 hW1 g2 b2 z2 hW2 g3 b3 z3 hW3
 go_enter Tryz.func21, Tryz.ntmps21
 go_wp2_with fail
 rw [HW.out.1, HW.out.2.1, HW.out.2.2]
 obtain ⟨A, hA⟩ : ∃ A, w.heap.size = A := ⟨_, rfl⟩
 rw [hA] at GG ⊢
 have HA := hide hA
 obtain ⟨A1, hA1⟩ : ∃ v, A + 1 = v := ⟨_, rfl⟩
 obtain ⟨A2, hA2⟩ : ∃ v, A1 + 1 = v := ⟨_, rfl⟩
 rw [hA1, hA2] at GG ⊢
 have LT : Hid (w.heap.size ≤ A ∧ A < A1 ∧ A1 < A2) := by have q := HA.out; exact ⟨by omega, by omega, by omega⟩
 clear hA1 hA2 HA HW
 have cA0 := (GG.out.1).c 0 _ rfl
 have cA1 := (GG.out.1).c 1 _ rfl
 have cA2 := (GG.out.1).c 2 _ rfl
 go_wp2_with fail
 clear cA0 cA1 cA2
 refine (R1.out _).mono ?_
 rintro e' v1 ⟨rfl, bb⟩
 have H1 : Hid (Ch.Bl v1 A [.complex .f64 a a', .complex .f64 b b', .complex .f64 c c'] ∧ Ch.Bl v1 A1 [.complex .f64 d d', .complex .f64 e e', .complex .f64 f f'] ∧ Ch.Bl v1 A2 [.int .u8 0, .complex .f64 0 0, .complex .f64 0 0, .complex .f64 0 0, .complex .f64 0 0, .float .f64 0] ∧ Bw w v1) := ⟨GG.out.1.bw bb, GG.out.2.1.bw bb, GG.out.2.2.1.bw bb, bw_trans GG.out.2.2.2 bb⟩
 clear bb GG
 clear R1
 have cA10 := (H1.out.2.1).c 0 _ rfl
 have cA11 := (H1.out.2.1).c 1 _ rfl
 have cA12 := (H1.out.2.1).c 2 _ rfl
 go_wp2_with fail
 clear cA10 cA11 cA12
 refine (R2.out _).mono ?_
 rintro e' v2 ⟨rfl, bb⟩
 have H2 : Hid (Ch.Bl v2 A [.complex .f64 a a', .complex .f64 b b', .complex .f64 c c'] ∧ Ch.Bl v2 A1 [.complex .f64 d d', .complex .f64 e e', .complex .f64 f f'] ∧ Ch.Bl v2 A2 [.int .u8 0, .complex .f64 0 0, .complex .f64 0 0, .complex .f64 0 0, .complex .f64 0 0, .float .f64 0] ∧ Bw w v2) := ⟨H1.out.1.bw bb, H1.out.2.1.bw bb, H1.out.2.2.1.bw bb, bw_trans H1.out.2.2.2 bb⟩
 clear bb H1
 clear R2
 have cA0 := (H2.out.1).c 0 _ rfl
 have cA1 := (H2.out.1).c 1 _ rfl
 have cA2 := (H2.out.1).c 2 _ rfl
 go_wp2_with fail
 clear cA0 cA1 cA2
 refine (T1.out _).mono ?_
 rintro e' v3 ⟨rfl, bb⟩
 have H3 : Hid (Ch.Bl v3 A [.complex .f64 a a', .complex .f64 b b', .complex .f64 c c'] ∧ Ch.Bl v3 A1 [.complex .f64 d d', .complex .f64 e e', .complex .f64 f f'] ∧ Ch.Bl v3 A2 [.int .u8 0, .complex .f64 0 0, .complex .f64 0 0, .complex .f64 0 0, .complex .f64 0 0, .float .f64 0] ∧ Bw w v3) := ⟨H2.out.1.bw bb, H2.out.2.1.bw bb, H2.out.2.2.1.bw bb, bw_trans H2.out.2.2.2 bb⟩
 clear bb H2
 clear T1
 have cA10 := (H3.out.2.1).c 0 _ rfl
 have cA11 := (H3.out.2.1).c 1 _ rfl
 have cA12 := (H3.out.2.1).c 2 _ rfl
 go_wp2_with fail
 clear cA10 cA11 cA12
 refine (T2.out _).mono ?_
 rintro e' v4 ⟨rfl, bb⟩
 have H4 : Hid (Ch.Bl v4 A [.complex .f64 a a', .complex .f64 b b', .complex .f64 c c'] ∧ Ch.Bl v4 A1 [.complex .f64 d d', .complex .f64 e e', .complex .f64 f f'] ∧ Ch.Bl v4 A2 [.int .u8 0, .complex .f64 0 0, .complex .f64 0 0, .complex .f64 0 0, .complex .f64 0 0, .float .f64 0] ∧ Bw w v4) := ⟨H3.out.1.bw bb, H3.out.2.1.bw bb, H3.out.2.2.1.bw bb, bw_trans H3.out.2.2.2 bb⟩
 clear bb H3
 clear T2
 have cA0 := (H4.out.1).c 0 _ rfl
 have cA1 := (H4.out.1).c 1 _ rfl
 have cA2 := (H4.out.1).c 2 _ rfl
 go_wp2_with fail
 clear cA0 cA1 cA2
 refine (O1.out _).mono ?_
 rintro e' v5 ⟨rfl, bb⟩
 have H5 : Hid (Ch.Bl v5 A [.complex .f64 a a', .complex .f64 b b', .complex .f64 c c'] ∧ Ch.Bl v5 A1 [.complex .f64 d d', .complex .f64 e e', .complex .f64 f f'] ∧ Ch.Bl v5 A2 [.int .u8 0, .complex .f64 0 0, .complex .f64 0 0, .complex .f64 0 0, .complex .f64 0 0, .float .f64 0] ∧ Bw w v5) := ⟨H4.out.1.bw bb, H4.out.2.1.bw bb, H4.out.2.2.1.bw bb, bw_trans H4.out.2.2.2 bb⟩
 clear bb H4
 clear O1
 go_wp2_with fail
 refine (K1.out _).mono ?_
 rintro e' v6 ⟨rfl, bb⟩
 have H6 : Hid (Ch.Bl v6 A [.complex .f64 a a', .complex .f64 b b', .complex .f64 c c'] ∧ Ch.Bl v6 A1 [.complex .f64 d d', .complex .f64 e e', .complex .f64 f f'] ∧ Ch.Bl v6 A2 [.int .u8 0, .complex .f64 0 0, .complex .f64 0 0, .complex .f64 0 0, .complex .f64 0 0, .float .f64 0] ∧ Bw w v6) := ⟨H5.out.1.bw bb, H5.out.2.1.bw bb, H5.out.2.2.1.bw bb, bw_trans H5.out.2.2.2 bb⟩
 clear bb H5
 clear K1
 have nA10 := ((H6.out.2.1).bw (bw_alloc v6 (.cells #[.int .u8 1, .complex .f64 l1 l1', .complex .f64 l2 l2', .complex .f64 l3 l3', .complex .f64 l4 l4', .float .f64 0] 33))).c 0 _ rfl
 have nA11 := ((H6.out.2.1).bw (bw_alloc v6 (.cells #[.int .u8 1, .complex .f64 l1 l1', .complex .f64 l2 l2', .complex .f64 l3 l3', .complex .f64 l4 l4', .float .f64 0] 33))).c 1 _ rfl
 have nA12 := ((H6.out.2.1).bw (bw_alloc v6 (.cells #[.int .u8 1, .complex .f64 l1 l1', .complex .f64 l2 l2', .complex .f64 l3 l3', .complex .f64 l4 l4', .float .f64 0] 33))).c 2 _ rfl
 have ka := Ch.Bl.new v6 #[.int .u8 1, .complex .f64 l1 l1', .complex .f64 l2 l2', .complex .f64 l3 l3', .complex .f64 l4 l4', .float .f64 0] 33
 have kb := bw_alloc v6 (.cells #[.int .u8 1, .complex .f64 l1 l1', .complex .f64 l2 l2', .complex .f64 l3 l3', .complex .f64 l4 l4', .float .f64 0] 33)
 obtain ⟨v7, hW⟩ : ∃ v, v6.alloc (.cells #[.int .u8 1, .complex .f64 l1 l1', .complex .f64 l2 l2', .complex .f64 l3 l3', .complex .f64 l4 l4', .float .f64 0] 33) = v := ⟨_, rfl⟩
 rw [hW] at ka kb
 obtain ⟨A3, hB⟩ : ∃ v, v6.heap.size = v := ⟨_, rfl⟩
 rw [hB] at ka
 have LT2 : Hid (w.heap.size ≤ A ∧ A < A1 ∧ A1 < A2 ∧ A2 < A3) := by have q := LT.out; have r := H6.out.2.2.1.lt; rw [hB] at r; exact ⟨by omega, by omega, by omega, by omega⟩
 clear LT
 have LT := LT2
 clear LT2
 have H7 : Hid (Ch.Bl v7 A [.complex .f64 a a', .complex .f64 b b', .complex .f64 c c'] ∧ Ch.Bl v7 A1 [.complex .f64 d d', .complex .f64 e e', .complex .f64 f f'] ∧ Ch.Bl v7 A2 [.int .u8 0, .complex .f64 0 0, .complex .f64 0 0, .complex .f64 0 0, .complex .f64 0 0, .float .f64 0] ∧ Ch.Bl v7 A3 [.int .u8 1, .complex .f64 l1 l1', .complex .f64 l2 l2', .complex .f64 l3 l3', .complex .f64 l4 l4', .float .f64 0] ∧ Bw w v7) := ⟨H6.out.1.bw kb, H6.out.2.1.bw kb, H6.out.2.2.1.bw kb, ka, bw_trans H6.out.2.2.2 kb⟩
 have HW := hide hW
 have HB := hide hB
 clear ka kb hW hB H6
 go_wp2_with fail
 rw [HW.out, HB.out]
 clear HW HB nA10 nA11 nA12
 refine (O2.out _).mono ?_
 rintro e' v8 ⟨rfl, bb⟩
 have H8 : Hid (Ch.Bl v8 A [.complex .f64 a a', .complex .f64 b b', .complex .f64 c c'] ∧ Ch.Bl v8 A1 [.complex .f64 d d', .complex .f64 e e', .complex .f64 f f'] ∧ Ch.Bl v8 A2 [.int .u8 0, .complex .f64 0 0, .complex .f64 0 0, .complex .f64 0 0, .complex .f64 0 0, .float .f64 0] ∧ Ch.Bl v8 A3 [.int .u8 1, .complex .f64 l1 l1', .complex .f64 l2 l2', .complex .f64 l3 l3', .complex .f64 l4 l4', .float .f64 0] ∧ Bw w v8) := ⟨H7.out.1.bw bb, H7.out.2.1.bw bb, H7.out.2.2.1.bw bb, H7.out.2.2.2.1.bw bb, bw_trans H7.out.2.2.2.2 bb⟩
 clear bb H7
 clear O2
 go_wp2_with fail
 refine (K2.out _).mono ?_
 rintro e' v9 ⟨rfl, bb⟩
 have H9 : Hid (Ch.Bl v9 A [.complex .f64 a a', .complex .f64 b b', .complex .f64 c c'] ∧ Ch.Bl v9 A1 [.complex .f64 d d', .complex .f64 e e', .complex .f64 f f'] ∧ Ch.Bl v9 A2 [.int .u8 0, .complex .f64 0 0, .complex .f64 0 0, .complex .f64 0 0, .complex .f64 0 0, .float .f64 0] ∧ Ch.Bl v9 A3 [.int .u8 1, .complex .f64 l1 l1', .complex .f64 l2 l2', .complex .f64 l3 l3', .complex .f64 l4 l4', .float .f64 0] ∧ Bw w v9) := ⟨H8.out.1.bw bb, H8.out.2.1.bw bb, H8.out.2.2.1.bw bb, H8.out.2.2.2.1.bw bb, bw_trans H8.out.2.2.2.2 bb⟩
 clear bb H8
 clear K2
 have ka := Ch.Bl.new v9 #[.int .u8 1, .complex .f64 m1 m1', .complex .f64 m2 m2', .complex .f64 m3 m3', .complex .f64 m4 m4', .float .f64 0] 33
 have kb := bw_alloc v9 (.cells #[.int .u8 1, .complex .f64 m1 m1', .complex .f64 m2 m2', .complex .f64 m3 m3', .complex .f64 m4 m4', .float .f64 0] 33)
 obtain ⟨v10, hW⟩ : ∃ v, v9.alloc (.cells #[.int .u8 1, .complex .f64 m1 m1', .complex .f64 m2 m2', .complex .f64 m3 m3', .complex .f64 m4 m4', .float .f64 0] 33) = v := ⟨_, rfl⟩
 rw [hW] at ka kb
 obtain ⟨A4, hB⟩ : ∃ v, v9.heap.size = v := ⟨_, rfl⟩
 rw [hB] at ka
 have LT2 : Hid (w.heap.size ≤ A ∧ A < A1 ∧ A1 < A2 ∧ A2 < A3 ∧ A3 < A4) := by have q := LT.out; have r := H9.out.2.2.2.1.lt; rw [hB] at r; exact ⟨by omega, by omega, by omega, by omega, by omega⟩
 clear LT
 have LT := LT2
 clear LT2
 have H10 : Hid (Ch.Bl v10 A [.complex .f64 a a', .complex .f64 b b', .complex .f64 c c'] ∧ Ch.Bl v10 A1 [.complex .f64 d d', .complex .f64 e e', .complex .f64 f f'] ∧ Ch.Bl v10 A2 [.int .u8 0, .complex .f64 0 0, .complex .f64 0 0, .complex .f64 0 0, .complex .f64 0 0, .float .f64 0] ∧ Ch.Bl v10 A3 [.int .u8 1, .complex .f64 l1 l1', .complex .f64 l2 l2', .complex .f64 l3 l3', .complex .f64 l4 l4', .float .f64 0] ∧ Ch.Bl v10 A4 [.int .u8 1, .complex .f64 m1 m1', .complex .f64 m2 m2', .complex .f64 m3 m3', .complex .f64 m4 m4', .float .f64 0] ∧ Bw w v10) := ⟨H9.out.1.bw kb, H9.out.2.1.bw kb, H9.out.2.2.1.bw kb, H9.out.2.2.2.1.bw kb, ka, bw_trans H9.out.2.2.2.2 kb⟩
 have HW := hide hW
 have HB := hide hB
 clear ka kb hW hB H9
 go_wp2_with fail
 rw [HW.out, HB.out]
 clear HW HB 
 refine (TU.out _).mono ?_
 rintro e' v11 ⟨rfl, bb⟩
 have H11 : Hid (Ch.Bl v11 A [.complex .f64 a a', .complex .f64 b b', .complex .f64 c c'] ∧ Ch.Bl v11 A1 [.complex .f64 d d', .complex .f64 e e', .complex .f64 f f'] ∧ Ch.Bl v11 A2 [.int .u8 0, .complex .f64 0 0, .complex .f64 0 0, .complex .f64 0 0, .complex .f64 0 0, .float .f64 0] ∧ Ch.Bl v11 A3 [.int .u8 1, .complex .f64 l1 l1', .complex .f64 l2 l2', .complex .f64 l3 l3', .complex .f64 l4 l4', .float .f64 0] ∧ Ch.Bl v11 A4 [.int .u8 1, .complex .f64 m1 m1', .complex .f64 m2 m2', .complex .f64 m3 m3', .complex .f64 m4 m4', .float .f64 0] ∧ Bw w v11) := ⟨H10.out.1.bw bb, H10.out.2.1.bw bb, H10.out.2.2.1.bw bb, H10.out.2.2.2.1.bw bb, H10.out.2.2.2.2.1.bw bb, bw_trans H10.out.2.2.2.2.2 bb⟩
 clear bb H10
 clear TU
 have GZ : Hid (∀ V, V = Ch.s6 v11 A4 (.int .u8 1) (.complex .f64 n1 n1') (.complex .f64 n2 n2') (.complex .f64 n3 n3') (.complex .f64 n4 n4') (.float .f64 0) → Ch.Bl V A [.complex .f64 a a', .complex .f64 b b', .complex .f64 c c'] ∧ Ch.Bl V A1 [.complex .f64 d d', .complex .f64 e e', .complex .f64 f f'] ∧ Ch.Bl V A2 [.int .u8 0, .complex .f64 0 0, .complex .f64 0 0, .complex .f64 0 0, .complex .f64 0 0, .float .f64 0] ∧ Ch.Bl V A3 [.int .u8 1, .complex .f64 l1 l1', .complex .f64 l2 l2', .complex .f64 l3 l3', .complex .f64 l4 l4', .float .f64 0] ∧ Ch.Bl V A4 [.int .u8 1, .complex .f64 n1 n1', .complex .f64 n2 n2', .complex .f64 n3 n3', .complex .f64 n4 n4', .float .f64 0] ∧ Bw w V) := by
  rintro V rfl
  exact ⟨Ch.s6_off H11.out.1 (by have q := LT.out; omega) _ _ _ _ _ _, Ch.s6_off H11.out.2.1 (by have q := LT.out; omega) _ _ _ _ _ _, Ch.s6_off H11.out.2.2.1 (by have q := LT.out; omega) _ _ _ _ _ _, Ch.s6_off H11.out.2.2.2.1 (by have q := LT.out; omega) _ _ _ _ _ _, Ch.s6_at H11.out.2.2.2.2.1 _ _ _ _ _ _, Ch.s6_bw H11.out.2.2.2.2.2 (by have q := LT.out; omega) _ _ _ _ _ _⟩
 have q0 := (H11.out.2.2.2.2.1).c 0 _ rfl
 have r0 := (H11.out.2.2.2.2.1).fz 0
 have q1 := (H11.out.2.2.2.2.1).c 1 _ rfl
 have r1 := (H11.out.2.2.2.2.1).fz 1
 have q2 := (H11.out.2.2.2.2.1).c 2 _ rfl
 have r2 := (H11.out.2.2.2.2.1).fz 2
 have q3 := (H11.out.2.2.2.2.1).c 3 _ rfl
 have r3 := (H11.out.2.2.2.2.1).fz 3
 have q4 := (H11.out.2.2.2.2.1).c 4 _ rfl
 have r4 := (H11.out.2.2.2.2.1).fz 4
 have q5 := (H11.out.2.2.2.2.1).c 5 _ rfl
 have r5 := (H11.out.2.2.2.2.1).fz 5
 have zz := GZ.out _ rfl
 unfold Ch.s6 at zz
 have nA30 := (zz.2.2.2.1).c 0 _ rfl
 have nA31 := (zz.2.2.2.1).c 1 _ rfl
 have nA32 := (zz.2.2.2.1).c 2 _ rfl
 have nA33 := (zz.2.2.2.1).c 3 _ rfl
 have nA34 := (zz.2.2.2.1).c 4 _ rfl
 have nA35 := (zz.2.2.2.1).c 5 _ rfl
 have nA40 := (zz.2.2.2.2.1).c 0 _ rfl
 have nA41 := (zz.2.2.2.2.1).c 1 _ rfl
 have nA42 := (zz.2.2.2.2.1).c 2 _ rfl
 have nA43 := (zz.2.2.2.2.1).c 3 _ rfl
 have nA44 := (zz.2.2.2.2.1).c 4 _ rfl
 have nA45 := (zz.2.2.2.2.1).c 5 _ rfl
 clear zz
 go_wp2_with fail
 obtain ⟨v12, hV⟩ : ∃ V, V = Ch.s6 v11 A4 (.int .u8 1) (.complex .f64 n1 n1') (.complex .f64 n2 n2') (.complex .f64 n3 n3') (.complex .f64 n4 n4') (.float .f64 0) := ⟨_, rfl⟩
 have H12 := hide (GZ.out _ hV)
 unfold Ch.s6 at hV
 rw [← hV]
 clear hV GZ q0 r0 q1 r1 q2 r2 q3 r3 q4 r4 q5 r5 H11 nA30 nA31 nA32 nA33 nA34 nA35 nA40 nA41 nA42 nA43 nA44 nA45
 refine (TH.out _).mono ?_
 rintro e' v13 ⟨rfl, bb⟩
 have H13 : Hid (Ch.Bl v13 A [.complex .f64 a a', .complex .f64 b b', .complex .f64 c c'] ∧ Ch.Bl v13 A1 [.complex .f64 d d', .complex .f64 e e', .complex .f64 f f'] ∧ Ch.Bl v13 A2 [.int .u8 0, .complex .f64 0 0, .complex .f64 0 0, .complex .f64 0 0, .complex .f64 0 0, .float .f64 0] ∧ Ch.Bl v13 A3 [.int .u8 1, .complex .f64 l1 l1', .complex .f64 l2 l2', .complex .f64 l3 l3', .complex .f64 l4 l4', .float .f64 0] ∧ Ch.Bl v13 A4 [.int .u8 1, .complex .f64 n1 n1', .complex .f64 n2 n2', .complex .f64 n3 n3', .complex .f64 n4 n4', .float .f64 0] ∧ Bw w v13) := ⟨H12.out.1.bw bb, H12.out.2.1.bw bb, H12.out.2.2.1.bw bb, H12.out.2.2.2.1.bw bb, H12.out.2.2.2.2.1.bw bb, bw_trans H12.out.2.2.2.2.2 bb⟩
 clear bb H12
 clear TH
 have GZ : Hid (∀ V, V = Ch.s6 v13 A2 (.int .u8 1) (.complex .f64 o1 o1') (.complex .f64 o2 o2') (.complex .f64 o3 o3') (.complex .f64 o4 o4') (.float .f64 0) → Ch.Bl V A [.complex .f64 a a', .complex .f64 b b', .complex .f64 c c'] ∧ Ch.Bl V A1 [.complex .f64 d d', .complex .f64 e e', .complex .f64 f f'] ∧ Ch.Bl V A2 [.int .u8 1, .complex .f64 o1 o1', .complex .f64 o2 o2', .complex .f64 o3 o3', .complex .f64 o4 o4', .float .f64 0] ∧ Ch.Bl V A3 [.int .u8 1, .complex .f64 l1 l1', .complex .f64 l2 l2', .complex .f64 l3 l3', .complex .f64 l4 l4', .float .f64 0] ∧ Ch.Bl V A4 [.int .u8 1, .complex .f64 n1 n1', .complex .f64 n2 n2', .complex .f64 n3 n3', .complex .f64 n4 n4', .float .f64 0] ∧ Bw w V) := by
  rintro V rfl
  exact ⟨Ch.s6_off H13.out.1 (by have q := LT.out; omega) _ _ _ _ _ _, Ch.s6_off H13.out.2.1 (by have q := LT.out; omega) _ _ _ _ _ _, Ch.s6_at H13.out.2.2.1 _ _ _ _ _ _, Ch.s6_off H13.out.2.2.2.1 (by have q := LT.out; omega) _ _ _ _ _ _, Ch.s6_off H13.out.2.2.2.2.1 (by have q := LT.out; omega) _ _ _ _ _ _, Ch.s6_bw H13.out.2.2.2.2.2 (by have q := LT.out; omega) _ _ _ _ _ _⟩
 have q0 := (H13.out.2.2.1).c 0 _ rfl
 have r0 := (H13.out.2.2.1).fz 0
 have q1 := (H13.out.2.2.1).c 1 _ rfl
 have r1 := (H13.out.2.2.1).fz 1
 have q2 := (H13.out.2.2.1).c 2 _ rfl
 have r2 := (H13.out.2.2.1).fz 2
 have q3 := (H13.out.2.2.1).c 3 _ rfl
 have r3 := (H13.out.2.2.1).fz 3
 have q4 := (H13.out.2.2.1).c 4 _ rfl
 have r4 := (H13.out.2.2.1).fz 4
 have q5 := (H13.out.2.2.1).c 5 _ rfl
 have r5 := (H13.out.2.2.1).fz 5
 go_wp2
 obtain ⟨v14, hV⟩ : ∃ V, V = Ch.s6 v13 A2 (.int .u8 1) (.complex .f64 o1 o1') (.complex .f64 o2 o2') (.complex .f64 o3 o3') (.complex .f64 o4 o4') (.float .f64 0) := ⟨_, rfl⟩
 have H14 := hide (GZ.out _ hV)
 unfold Ch.s6 at hV
 rw [← hV]
 clear hV GZ q0 r0 q1 r1 q2 r2 q3 r3 q4 r4 q5 r5 H13 
 refine bodyPost_ret (Ch.res_map2 rfl _ _ A2 rfl H14.out.2.2.1) rfl ?_
 exact ⟨rfl, H14.out.2.2.2.2.2⟩
end Go.Proofs.YtfgfofedacehiaaGreat

