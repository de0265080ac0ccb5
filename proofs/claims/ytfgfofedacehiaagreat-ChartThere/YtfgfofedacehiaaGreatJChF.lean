/-
 OWN TEXT: the laws' own small functions of layer 18.
-/
import Derived.Test.YtfgfofedacehiaaGreatJChCToChE
import Derived.Test.YtfgfofedacehiaaGreatJElH
namespace Go.Proofs.YtfgfofedacehiaaGreat
open Go.ChangeShapes Go.WideShapes Go.ChangeAt Go.RowKit
set_option linter.unusedVariables false
set_option linter.unusedSimpArgs false
attribute [local go_sem] frombits_call tobits_call run_neg El.run_store_cx El.run_store_fl
set_option maxHeartbeats 1000000 in
theorem gof18 (x y : Int) (w : World) : Calls Tryz.prog 9 #[.agg #[.int .i16 x, .int .i16 y]] w fun e w' => e = .returned (.complex .f64 (floatOfInt .f64 x) (floatOfInt .f64 y)) ∧ Bw w w' := by
 have g : Bw w (w.alloc (.cells #[.int .i16 x, .int .i16 y] 24)) := Below.alloc (Bw.refl w) (Nat.le_refl _) _
 have c0 : (w.alloc (.cells #[.int .i16 x, .int .i16 y] 24)).cell? ⟨w.heap.size, 0, none⟩ = some (.int .i16 x) := by simp
 have c1 : (w.alloc (.cells #[.int .i16 x, .int .i16 y] 24)).cell? ⟨w.heap.size, 1, none⟩ = some (.int .i16 y) := by simp
 go_enter Tryz.func9, Tryz.ntmps9
 go_wp2
 go_ret
 exact ⟨rfl, g⟩
/-- both parts are at most 8, if p -/
def Ch.Sm (p : Bool) (x y : Int) : Prop := p = true → (x.natAbs ≤ 8 ∧ y.natAbs ≤ 8)
set_option maxHeartbeats 1000000 in
theorem gup18 (x y : Int) (w : World) : Calls Tryz.prog 8 #[.agg #[.int .i16 x, .int .i16 y], .int .i16 8] w fun e w' => ∃ p, e = .returned (.bool p) ∧ Ch.Sm p x y ∧ Bw w w' := by
 have g : Bw w (w.alloc (.cells #[.int .i16 x, .int .i16 y] 24)) := Below.alloc (Bw.refl w) (Nat.le_refl _) _
 have c0 : (w.alloc (.cells #[.int .i16 x, .int .i16 y] 24)).cell? ⟨w.heap.size, 0, none⟩ = some (.int .i16 x) := by simp
 have c1 : (w.alloc (.cells #[.int .i16 x, .int .i16 y] 24)).cell? ⟨w.heap.size, 1, none⟩ = some (.int .i16 y) := by simp
 go_enter Tryz.func8, Tryz.ntmps8
 go_wp2
 all_goals go_ret
 all_goals first
  | exact Or.inl ⟨rfl, (fun h => by cases h), g⟩
  | exact ⟨false, rfl, (fun h => by cases h), g⟩
  | refine ⟨decide (y ≤ 8), rfl, (fun h => ?_), g⟩
 all_goals (have k := of_decide_eq_true h; omega)
set_option maxHeartbeats 8000000 in
theorem fof18 {x0 y0 x1 y1 x2 y2 x3 y3 : Int} {a a' b b' c c' d d' : Nat}
  (O0 : Hid (∀ wz, Calls Tryz.prog 9 #[.agg #[.int .i16 x0, .int .i16 y0]] wz fun e w' => e = .returned (.complex .f64 a a') ∧ Bw wz w'))
  (O1 : Hid (∀ wz, Calls Tryz.prog 9 #[.agg #[.int .i16 x1, .int .i16 y1]] wz fun e w' => e = .returned (.complex .f64 b b') ∧ Bw wz w'))
  (O2 : Hid (∀ wz, Calls Tryz.prog 9 #[.agg #[.int .i16 x2, .int .i16 y2]] wz fun e w' => e = .returned (.complex .f64 c c') ∧ Bw wz w'))
  (O3 : Hid (∀ wz, Calls Tryz.prog 9 #[.agg #[.int .i16 x3, .int .i16 y3]] wz fun e w' => e = .returned (.complex .f64 d d') ∧ Bw wz w'))
  (w : World) : Calls Tryz.prog 10 #[.agg #[.int .i16 x0, .int .i16 y0, .int .i16 x1, .int .i16 y1, .int .i16 x2, .int .i16 y2, .int .i16 x3, .int .i16 y3]] w fun e w' => e = .returned (.agg #[.int .u8 1, .complex .f64 a a', .complex .f64 b b', .complex .f64 c c', .complex .f64 d d', .float .f64 0]) ∧ Bw w w' := by
 have g1 := Ch.Bl.new w #[.int .i16 x0, .int .i16 y0, .int .i16 x1, .int .i16 y1, .int .i16 x2, .int .i16 y2, .int .i16 x3, .int .i16 y3] 26
 have z1 : (w.alloc (.cells #[.int .i16 x0, .int .i16 y0, .int .i16 x1, .int .i16 y1, .int .i16 x2, .int .i16 y2, .int .i16 x3, .int .i16 y3] 26)).heap.size = w.heap.size + 1 := by simp
 have b1 := bw_alloc w (.cells #[.int .i16 x0, .int .i16 y0, .int .i16 x1, .int .i16 y1, .int .i16 x2, .int .i16 y2, .int .i16 x3, .int .i16 y3] 26)
 obtain ⟨W1, hW1⟩ : ∃ v, w.alloc (.cells #[.int .i16 x0, .int .i16 y0, .int .i16 x1, .int .i16 y1, .int .i16 x2, .int .i16 y2, .int .i16 x3, .int .i16 y3] 26) = v := ⟨_, rfl⟩
 rw [hW1] at g1 z1 b1
 have g2 := Ch.Bl.new W1 #[.int .u8 0, .complex .f64 0 0, .complex .f64 0 0, .complex .f64 0 0, .complex .f64 0 0, .float .f64 0] 33
 have z2 : (W1.alloc (.cells #[.int .u8 0, .complex .f64 0 0, .complex .f64 0 0, .complex .f64 0 0, .complex .f64 0 0, .float .f64 0] 33)).heap.size = w.heap.size + 1 + 1 := by simp [z1]
 have b2 := bw_alloc W1 (.cells #[.int .u8 0, .complex .f64 0 0, .complex .f64 0 0, .complex .f64 0 0, .complex .f64 0 0, .float .f64 0] 33)
 obtain ⟨W2, hW2⟩ : ∃ v, W1.alloc (.cells #[.int .u8 0, .complex .f64 0 0, .complex .f64 0 0, .complex .f64 0 0, .complex .f64 0 0, .float .f64 0] 33) = v := ⟨_, rfl⟩
 rw [hW2] at g2 z2 b2
 have GG : Hid (Ch.Bl W2 (w.heap.size) [.int .i16 x0, .int .i16 y0, .int .i16 x1, .int .i16 y1, .int .i16 x2, .int .i16 y2, .int .i16 x3, .int .i16 y3] ∧ Ch.Bl W2 (w.heap.size + 1) [.int .u8 0, .complex .f64 0 0, .complex .f64 0 0, .complex .f64 0 0, .complex .f64 0 0, .float .f64 0] ∧ Bw w W2) := ⟨(show Ch.Bl _ (w.heap.size) _ from g1).bw b2, (show Ch.Bl _ (w.heap.size + 1) _ from z1 ▸ g2), (bw_trans b1 b2)⟩
 have HW := hide (And.intro hW1 (hW2))
 clear g1 b1 z1 hW1 g2 b2 z2 hW2
 go_enter Tryz.func10, Tryz.ntmps10
 go_wp2_with fail
 rw [HW.out.1, HW.out.2]
 obtain ⟨A, hA⟩ : ∃ A, w.heap.size = A := ⟨_, rfl⟩
 rw [hA] at GG ⊢
 have HA := hide hA
 refine wp_region_K (fun w' => Ch.Bl w' (A) [.int .i16 x0, .int .i16 y0, .int .i16 x1, .int .i16 y1, .int .i16 x2, .int .i16 y2, .int .i16 x3, .int .i16 y3]) 13 14 #[false, false, false, false, false, false, false, false, false, false, false, false, false, false] (by kernel_rfl) (by kernel_rfl) (by kernel_rfl) ?_
 have GGd : Hid (Ch.Bl W2.drew (A) [.int .i16 x0, .int .i16 y0, .int .i16 x1, .int .i16 y1, .int .i16 x2, .int .i16 y2, .int .i16 x3, .int .i16 y3] ∧ Ch.Bl W2.drew (A + 1) [.int .u8 0, .complex .f64 0 0, .complex .f64 0 0, .complex .f64 0 0, .complex .f64 0 0, .float .f64 0] ∧ Bw w W2.drew) := ⟨GG.out.1.bw (Bw.refl W2).drew, GG.out.2.1.bw (Bw.refl W2).drew, bw_trans GG.out.2.2 (Bw.refl W2).drew⟩
 generalize W2.drew = W2d at *
 have GGS : Ch.Bl W2d (A) [.int .i16 x0, .int .i16 y0, .int .i16 x1, .int .i16 y1, .int .i16 x2, .int .i16 y2, .int .i16 x3, .int .i16 y3] := GGd.out.1
 refine wpAnyK_take 0 3 (v := ?v0) rfl (by kernel_rfl) (by kernel_rfl) (by kernel_rfl) (by kernel_rfl) (by kernel_rfl) (fun _ _ _ h => h) rfl (Or.inl ⟨by rfl, ?h0⟩) (by assumption) ?r0
 case h0 => (intro w hSw; have h0 := hSw; have c00 := h0.c 0 _ rfl; have c01 := h0.c 1 _ rfl; have c02 := h0.c 2 _ rfl; have c03 := h0.c 3 _ rfl; have c04 := h0.c 4 _ rfl; have c05 := h0.c 5 _ rfl; have c06 := h0.c 6 _ rfl; have c07 := h0.c 7 _ rfl; go_simp; with_reducible rfl)
 simp only [Act.put, List.setIfInBounds_toArray, List.set_cons_zero, List.set_cons_succ]
 refine wpAnyK_take 1 4 (v := ?v1) rfl (by kernel_rfl) (by kernel_rfl) (by kernel_rfl) (by kernel_rfl) (by kernel_rfl) (fun _ _ _ h => h) rfl (Or.inl ⟨by rfl, ?h1⟩) (by assumption) ?r1
 case h1 => (intro w hSw; have h0 := hSw; have c00 := h0.c 0 _ rfl; have c01 := h0.c 1 _ rfl; have c02 := h0.c 2 _ rfl; have c03 := h0.c 3 _ rfl; have c04 := h0.c 4 _ rfl; have c05 := h0.c 5 _ rfl; have c06 := h0.c 6 _ rfl; have c07 := h0.c 7 _ rfl; go_simp; with_reducible rfl)
 simp only [Act.put, List.setIfInBounds_toArray, List.set_cons_zero, List.set_cons_succ]
 refine wpAnyK_take 3 6 (v := ?v3) rfl (by kernel_rfl) (by kernel_rfl) (by kernel_rfl) (by kernel_rfl) (by kernel_rfl) (fun _ _ _ h => h) rfl (Or.inl ⟨by rfl, ?h3⟩) (by assumption) ?r3
 case h3 => (intro w hSw; have h0 := hSw; have c00 := h0.c 0 _ rfl; have c01 := h0.c 1 _ rfl; have c02 := h0.c 2 _ rfl; have c03 := h0.c 3 _ rfl; have c04 := h0.c 4 _ rfl; have c05 := h0.c 5 _ rfl; have c06 := h0.c 6 _ rfl; have c07 := h0.c 7 _ rfl; go_simp; with_reducible rfl)
 simp only [Act.put, List.setIfInBounds_toArray, List.set_cons_zero, List.set_cons_succ]
 refine wpAnyK_take 4 7 (v := ?v4) rfl (by kernel_rfl) (by kernel_rfl) (by kernel_rfl) (by kernel_rfl) (by kernel_rfl) (fun _ _ _ h => h) rfl (Or.inl ⟨by rfl, ?h4⟩) (by assumption) ?r4
 case h4 => (intro w hSw; have h0 := hSw; have c00 := h0.c 0 _ rfl; have c01 := h0.c 1 _ rfl; have c02 := h0.c 2 _ rfl; have c03 := h0.c 3 _ rfl; have c04 := h0.c 4 _ rfl; have c05 := h0.c 5 _ rfl; have c06 := h0.c 6 _ rfl; have c07 := h0.c 7 _ rfl; go_simp; with_reducible rfl)
 simp only [Act.put, List.setIfInBounds_toArray, List.set_cons_zero, List.set_cons_succ]
 refine wpAnyK_take 6 9 (v := ?v6) rfl (by kernel_rfl) (by kernel_rfl) (by kernel_rfl) (by kernel_rfl) (by kernel_rfl) (fun _ _ _ h => h) rfl (Or.inl ⟨by rfl, ?h6⟩) (by assumption) ?r6
 case h6 => (intro w hSw; have h0 := hSw; have c00 := h0.c 0 _ rfl; have c01 := h0.c 1 _ rfl; have c02 := h0.c 2 _ rfl; have c03 := h0.c 3 _ rfl; have c04 := h0.c 4 _ rfl; have c05 := h0.c 5 _ rfl; have c06 := h0.c 6 _ rfl; have c07 := h0.c 7 _ rfl; go_simp; with_reducible rfl)
 simp only [Act.put, List.setIfInBounds_toArray, List.set_cons_zero, List.set_cons_succ]
 refine wpAnyK_take 7 10 (v := ?v7) rfl (by kernel_rfl) (by kernel_rfl) (by kernel_rfl) (by kernel_rfl) (by kernel_rfl) (fun _ _ _ h => h) rfl (Or.inl ⟨by rfl, ?h7⟩) (by assumption) ?r7
 case h7 => (intro w hSw; have h0 := hSw; have c00 := h0.c 0 _ rfl; have c01 := h0.c 1 _ rfl; have c02 := h0.c 2 _ rfl; have c03 := h0.c 3 _ rfl; have c04 := h0.c 4 _ rfl; have c05 := h0.c 5 _ rfl; have c06 := h0.c 6 _ rfl; have c07 := h0.c 7 _ rfl; go_simp; with_reducible rfl)
 simp only [Act.put, List.setIfInBounds_toArray, List.set_cons_zero, List.set_cons_succ]
 refine wpAnyK_take 9 12 (v := ?v9) rfl (by kernel_rfl) (by kernel_rfl) (by kernel_rfl) (by kernel_rfl) (by kernel_rfl) (fun _ _ _ h => h) rfl (Or.inl ⟨by rfl, ?h9⟩) (by assumption) ?r9
 case h9 => (intro w hSw; have h0 := hSw; have c00 := h0.c 0 _ rfl; have c01 := h0.c 1 _ rfl; have c02 := h0.c 2 _ rfl; have c03 := h0.c 3 _ rfl; have c04 := h0.c 4 _ rfl; have c05 := h0.c 5 _ rfl; have c06 := h0.c 6 _ rfl; have c07 := h0.c 7 _ rfl; go_simp; with_reducible rfl)
 simp only [Act.put, List.setIfInBounds_toArray, List.set_cons_zero, List.set_cons_succ]
 refine wpAnyK_take 10 13 (v := ?v10) rfl (by kernel_rfl) (by kernel_rfl) (by kernel_rfl) (by kernel_rfl) (by kernel_rfl) (fun _ _ _ h => h) rfl (Or.inl ⟨by rfl, ?h10⟩) (by assumption) ?r10
 case h10 => (intro w hSw; have h0 := hSw; have c00 := h0.c 0 _ rfl; have c01 := h0.c 1 _ rfl; have c02 := h0.c 2 _ rfl; have c03 := h0.c 3 _ rfl; have c04 := h0.c 4 _ rfl; have c05 := h0.c 5 _ rfl; have c06 := h0.c 6 _ rfl; have c07 := h0.c 7 _ rfl; go_simp; with_reducible rfl)
 simp only [Act.put, List.setIfInBounds_toArray, List.set_cons_zero, List.set_cons_succ]
 refine wpAnyK_one 2 (by kernel_rfl) rfl (fun K hK => ?_)
 go_simp
 refine (O0.out _).mono ?_
 rintro e' W2k1 ⟨rfl, bb⟩
 have GGk1 : Hid (Ch.Bl W2k1 (A) [.int .i16 x0, .int .i16 y0, .int .i16 x1, .int .i16 y1, .int .i16 x2, .int .i16 y2, .int .i16 x3, .int .i16 y3] ∧ Ch.Bl W2k1 (A + 1) [.int .u8 0, .complex .f64 0 0, .complex .f64 0 0, .complex .f64 0 0, .complex .f64 0 0, .float .f64 0] ∧ Bw w W2k1) := ⟨GGd.out.1.bw bb, GGd.out.2.1.bw bb, bw_trans GGd.out.2.2 bb⟩
 clear bb GGS
 have GGk1S : Ch.Bl W2k1 (A) [.int .i16 x0, .int .i16 y0, .int .i16 x1, .int .i16 y1, .int .i16 x2, .int .i16 y2, .int .i16 x3, .int .i16 y3] := GGk1.out.1
 refine hK.out _ _ (fun _ _ => GGk1S) ?_
 clear hK K
 simp only [List.setIfInBounds_toArray, List.set_cons_zero, List.set_cons_succ]
 refine wpAnyK_one 5 (by kernel_rfl) rfl (fun K hK => ?_)
 go_simp
 refine (O1.out _).mono ?_
 rintro e' W2k2 ⟨rfl, bb⟩
 have GGk2 : Hid (Ch.Bl W2k2 (A) [.int .i16 x0, .int .i16 y0, .int .i16 x1, .int .i16 y1, .int .i16 x2, .int .i16 y2, .int .i16 x3, .int .i16 y3] ∧ Ch.Bl W2k2 (A + 1) [.int .u8 0, .complex .f64 0 0, .complex .f64 0 0, .complex .f64 0 0, .complex .f64 0 0, .float .f64 0] ∧ Bw w W2k2) := ⟨GGk1.out.1.bw bb, GGk1.out.2.1.bw bb, bw_trans GGk1.out.2.2 bb⟩
 clear bb GGk1S
 have GGk2S : Ch.Bl W2k2 (A) [.int .i16 x0, .int .i16 y0, .int .i16 x1, .int .i16 y1, .int .i16 x2, .int .i16 y2, .int .i16 x3, .int .i16 y3] := GGk2.out.1
 refine hK.out _ _ (fun _ _ => GGk2S) ?_
 clear hK K
 simp only [List.setIfInBounds_toArray, List.set_cons_zero, List.set_cons_succ]
 refine wpAnyK_one 8 (by kernel_rfl) rfl (fun K hK => ?_)
 go_simp
 refine (O2.out _).mono ?_
 rintro e' W2k3 ⟨rfl, bb⟩
 have GGk3 : Hid (Ch.Bl W2k3 (A) [.int .i16 x0, .int .i16 y0, .int .i16 x1, .int .i16 y1, .int .i16 x2, .int .i16 y2, .int .i16 x3, .int .i16 y3] ∧ Ch.Bl W2k3 (A + 1) [.int .u8 0, .complex .f64 0 0, .complex .f64 0 0, .complex .f64 0 0, .complex .f64 0 0, .float .f64 0] ∧ Bw w W2k3) := ⟨GGk2.out.1.bw bb, GGk2.out.2.1.bw bb, bw_trans GGk2.out.2.2 bb⟩
 clear bb GGk2S
 have GGk3S : Ch.Bl W2k3 (A) [.int .i16 x0, .int .i16 y0, .int .i16 x1, .int .i16 y1, .int .i16 x2, .int .i16 y2, .int .i16 x3, .int .i16 y3] := GGk3.out.1
 refine hK.out _ _ (fun _ _ => GGk3S) ?_
 clear hK K
 simp only [List.setIfInBounds_toArray, List.set_cons_zero, List.set_cons_succ]
 refine wpAnyK_one 11 (by kernel_rfl) rfl (fun K hK => ?_)
 go_simp
 refine (O3.out _).mono ?_
 rintro e' W2k4 ⟨rfl, bb⟩
 have GGk4 : Hid (Ch.Bl W2k4 (A) [.int .i16 x0, .int .i16 y0, .int .i16 x1, .int .i16 y1, .int .i16 x2, .int .i16 y2, .int .i16 x3, .int .i16 y3] ∧ Ch.Bl W2k4 (A + 1) [.int .u8 0, .complex .f64 0 0, .complex .f64 0 0, .complex .f64 0 0, .complex .f64 0 0, .float .f64 0] ∧ Bw w W2k4) := ⟨GGk3.out.1.bw bb, GGk3.out.2.1.bw bb, bw_trans GGk3.out.2.2 bb⟩
 clear bb GGk3S
 have GGk4S : Ch.Bl W2k4 (A) [.int .i16 x0, .int .i16 y0, .int .i16 x1, .int .i16 y1, .int .i16 x2, .int .i16 y2, .int .i16 x3, .int .i16 y3] := GGk4.out.1
 refine hK.out _ _ (fun _ _ => GGk4S) ?_
 clear hK K
 simp only [List.setIfInBounds_toArray, List.set_cons_zero, List.set_cons_succ]
 refine wpAnyK_take 12 15 (v := ?v12) rfl (by kernel_rfl) (by kernel_rfl) (by kernel_rfl) (by kernel_rfl) (by kernel_rfl) (fun _ _ _ h => h) rfl (Or.inl ⟨by rfl, ?h12⟩) (by assumption) ?r12
 case h12 => (intro w hSw; have h0 := hSw; have c00 := h0.c 0 _ rfl; have c01 := h0.c 1 _ rfl; have c02 := h0.c 2 _ rfl; have c03 := h0.c 3 _ rfl; have c04 := h0.c 4 _ rfl; have c05 := h0.c 5 _ rfl; have c06 := h0.c 6 _ rfl; have c07 := h0.c 7 _ rfl; go_simp; with_reducible rfl)
 simp only [Act.put, List.setIfInBounds_toArray, List.set_cons_zero, List.set_cons_succ]
 have GZ : Hid (∀ V, V = Ch.s6 W2k4 (A + 1) (.int .u8 1) (.complex .f64 a a') (.complex .f64 b b') (.complex .f64 c c') (.complex .f64 d d') (.float .f64 0) → Ch.Bl V (A) [.int .i16 x0, .int .i16 y0, .int .i16 x1, .int .i16 y1, .int .i16 x2, .int .i16 y2, .int .i16 x3, .int .i16 y3] ∧ Ch.Bl V (A + 1) [.int .u8 1, .complex .f64 a a', .complex .f64 b b', .complex .f64 c c', .complex .f64 d d', .float .f64 0] ∧ Bw w V) := by
  rintro V rfl
  exact ⟨Ch.s6_off GGk4.out.1 (by omega) _ _ _ _ _ _, Ch.s6_at GGk4.out.2.1 _ _ _ _ _ _, Ch.s6_bw GGk4.out.2.2 (by have := HA.out; omega) _ _ _ _ _ _⟩
 have q0 := (GGk4.out.2.1).c 0 _ rfl
 have r0 := (GGk4.out.2.1).fz 0
 have q1 := (GGk4.out.2.1).c 1 _ rfl
 have r1 := (GGk4.out.2.1).fz 1
 have q2 := (GGk4.out.2.1).c 2 _ rfl
 have r2 := (GGk4.out.2.1).fz 2
 have q3 := (GGk4.out.2.1).c 3 _ rfl
 have r3 := (GGk4.out.2.1).fz 3
 have q4 := (GGk4.out.2.1).c 4 _ rfl
 have r4 := (GGk4.out.2.1).fz 4
 have q5 := (GGk4.out.2.1).c 5 _ rfl
 have r5 := (GGk4.out.2.1).fz 5
 refine wpAnyK_one 13 (by kernel_rfl) rfl (fun K hK => ?_)
 go_simp
 obtain ⟨W2k5, hV⟩ : ∃ V, V = Ch.s6 W2k4 (A + 1) (.int .u8 1) (.complex .f64 a a') (.complex .f64 b b') (.complex .f64 c c') (.complex .f64 d d') (.float .f64 0) := ⟨_, rfl⟩
 have GGk5 := hide (GZ.out _ hV)
 unfold Ch.s6 at hV
 rw [← hV]
 clear hV GZ q0 r0 q1 r1 q2 r2 q3 r3 q4 r4 q5 r5
 clear GGk4S
 have GGk5S : Ch.Bl W2k5 (A) [.int .i16 x0, .int .i16 y0, .int .i16 x1, .int .i16 y1, .int .i16 x2, .int .i16 y2, .int .i16 x3, .int .i16 y3] := GGk5.out.1
 refine hK.out _ _ (fun h => absurd rfl h) ?_
 clear hK K
 simp only [List.setIfInBounds_toArray, List.set_cons_zero, List.set_cons_succ]
 refine wpAnyK_done (by kernel_rfl) ?_ _
 go_wp2
 refine bodyPost_ret (Ch.res_map rfl _ _ (A + 1) rfl GGk5.out.2.1) rfl ?_
 exact ⟨rfl, GGk5.out.2.2⟩
/-- all eight are at most 8, if p -/
def Ch.Sn (p : Bool) (x0 y0 x1 y1 x2 y2 x3 y3 : Int) : Prop := p = true → (x0.natAbs ≤ 8 ∧ y0.natAbs ≤ 8) ∧ (x1.natAbs ≤ 8 ∧ y1.natAbs ≤ 8) ∧ (x2.natAbs ≤ 8 ∧ y2.natAbs ≤ 8) ∧ (x3.natAbs ≤ 8 ∧ y3.natAbs ≤ 8)
set_option maxHeartbeats 8000000 in
theorem fsmall18 (x0 y0 x1 y1 x2 y2 x3 y3 : Int) (w : World) : Calls Tryz.prog 7 #[.agg #[.int .i16 x0, .int .i16 y0, .int .i16 x1, .int .i16 y1, .int .i16 x2, .int .i16 y2, .int .i16 x3, .int .i16 y3]] w fun e w' => ∃ p, e = .returned (.bool p) ∧ Ch.Sn p x0 y0 x1 y1 x2 y2 x3 y3 ∧ Bw w w' := by
 have g1 := Ch.Bl.new w #[.int .i16 x0, .int .i16 y0, .int .i16 x1, .int .i16 y1, .int .i16 x2, .int .i16 y2, .int .i16 x3, .int .i16 y3] 26
 have z1 : (w.alloc (.cells #[.int .i16 x0, .int .i16 y0, .int .i16 x1, .int .i16 y1, .int .i16 x2, .int .i16 y2, .int .i16 x3, .int .i16 y3] 26)).heap.size = w.heap.size + 1 := by simp
 have b1 := bw_alloc w (.cells #[.int .i16 x0, .int .i16 y0, .int .i16 x1, .int .i16 y1, .int .i16 x2, .int .i16 y2, .int .i16 x3, .int .i16 y3] 26)
 obtain ⟨W1, hW1⟩ : ∃ v, w.alloc (.cells #[.int .i16 x0, .int .i16 y0, .int .i16 x1, .int .i16 y1, .int .i16 x2, .int .i16 y2, .int .i16 x3, .int .i16 y3] 26) = v := ⟨_, rfl⟩
 rw [hW1] at g1 z1 b1
 have GG : Hid (Ch.Bl W1 (w.heap.size) [.int .i16 x0, .int .i16 y0, .int .i16 x1, .int .i16 y1, .int .i16 x2, .int .i16 y2, .int .i16 x3, .int .i16 y3] ∧ Bw w W1) := ⟨(show Ch.Bl _ (w.heap.size) _ from g1), b1⟩
 have HW := hide (hW1)
 clear g1 b1 z1 hW1
 go_enter Tryz.func7, Tryz.ntmps7
 go_wp2_with fail
 rw [HW.out]
 obtain ⟨A, hA⟩ : ∃ A, w.heap.size = A := ⟨_, rfl⟩
 rw [hA] at GG ⊢
 have HA := hide hA
 refine (gup18 x0 y0 _).mono ?_
 rintro e' w3 ⟨p0, rfl, s0, bb⟩
 have S0 := hide s0
 clear s0
 have G3 : Hid (Ch.Bl w3 (A) [.int .i16 x0, .int .i16 y0, .int .i16 x1, .int .i16 y1, .int .i16 x2, .int .i16 y2, .int .i16 x3, .int .i16 y3] ∧ Bw w w3) := ⟨GG.out.1.bw bb, bw_trans GG.out.2 bb⟩
 clear bb GG
 have c00 := (G3.out.1).c 0 _ rfl
 have c01 := (G3.out.1).c 1 _ rfl
 have c02 := (G3.out.1).c 2 _ rfl
 have c03 := (G3.out.1).c 3 _ rfl
 have c04 := (G3.out.1).c 4 _ rfl
 have c05 := (G3.out.1).c 5 _ rfl
 have c06 := (G3.out.1).c 6 _ rfl
 have c07 := (G3.out.1).c 7 _ rfl
 cases p0
 ·
  go_wp2
  go_ret
  exact ⟨_, rfl, (fun h => by cases h), G3.out.2⟩
 go_wp2_with fail
 clear c00 c01 c02 c03 c04 c05 c06 c07
 refine (gup18 x1 y1 _).mono ?_
 rintro e' w4 ⟨p1, rfl, s1, bb⟩
 have S1 := hide s1
 clear s1
 have G4 : Hid (Ch.Bl w4 (A) [.int .i16 x0, .int .i16 y0, .int .i16 x1, .int .i16 y1, .int .i16 x2, .int .i16 y2, .int .i16 x3, .int .i16 y3] ∧ Bw w w4) := ⟨G3.out.1.bw bb, bw_trans G3.out.2 bb⟩
 clear bb G3
 have c00 := (G4.out.1).c 0 _ rfl
 have c01 := (G4.out.1).c 1 _ rfl
 have c02 := (G4.out.1).c 2 _ rfl
 have c03 := (G4.out.1).c 3 _ rfl
 have c04 := (G4.out.1).c 4 _ rfl
 have c05 := (G4.out.1).c 5 _ rfl
 have c06 := (G4.out.1).c 6 _ rfl
 have c07 := (G4.out.1).c 7 _ rfl
 cases p1
 ·
  go_wp2
  go_ret
  exact ⟨_, rfl, (fun h => by cases h), G4.out.2⟩
 go_wp2_with fail
 clear c00 c01 c02 c03 c04 c05 c06 c07
 refine (gup18 x2 y2 _).mono ?_
 rintro e' w5 ⟨p2, rfl, s2, bb⟩
 have S2 := hide s2
 clear s2
 have G5 : Hid (Ch.Bl w5 (A) [.int .i16 x0, .int .i16 y0, .int .i16 x1, .int .i16 y1, .int .i16 x2, .int .i16 y2, .int .i16 x3, .int .i16 y3] ∧ Bw w w5) := ⟨G4.out.1.bw bb, bw_trans G4.out.2 bb⟩
 clear bb G4
 have c00 := (G5.out.1).c 0 _ rfl
 have c01 := (G5.out.1).c 1 _ rfl
 have c02 := (G5.out.1).c 2 _ rfl
 have c03 := (G5.out.1).c 3 _ rfl
 have c04 := (G5.out.1).c 4 _ rfl
 have c05 := (G5.out.1).c 5 _ rfl
 have c06 := (G5.out.1).c 6 _ rfl
 have c07 := (G5.out.1).c 7 _ rfl
 cases p2
 ·
  go_wp2
  go_ret
  exact ⟨_, rfl, (fun h => by cases h), G5.out.2⟩
 go_wp2_with fail
 clear c00 c01 c02 c03 c04 c05 c06 c07
 refine (gup18 x3 y3 _).mono ?_
 rintro e' w6 ⟨p3, rfl, s3, bb⟩
 have S3 := hide s3
 clear s3
 have G6 : Hid (Ch.Bl w6 (A) [.int .i16 x0, .int .i16 y0, .int .i16 x1, .int .i16 y1, .int .i16 x2, .int .i16 y2, .int .i16 x3, .int .i16 y3] ∧ Bw w w6) := ⟨G5.out.1.bw bb, bw_trans G5.out.2 bb⟩
 clear bb G5
 go_wp2
 go_ret
 exact ⟨p3, rfl, (fun h => ⟨S0.out rfl, S1.out rfl, S2.out rfl, S3.out h⟩), G6.out.2⟩
end Go.Proofs.YtfgfofedacehiaaGreat

