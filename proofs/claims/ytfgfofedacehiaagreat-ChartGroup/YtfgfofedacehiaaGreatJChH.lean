/-
 OWN TEXT: the law ChartGroup, over contracts of what it calls.
-/
import Derived.Test.YtfgfofedacehiaaGreatJChF
import Derived.Test.YtfgfofedacehiaaGreatJChG
import Derived.Test.YtfgfofedacehiaaGreatJElBToElI
namespace Go.Proofs.YtfgfofedacehiaaGreat
open Go.ChangeShapes Go.WideShapes Go.ChangeAt Go.RowKit
set_option linter.unusedVariables false
set_option linter.unusedSimpArgs false
attribute [local go_sem] frombits_call tobits_call run_neg El.run_store_cx El.run_store_fl
set_option maxHeartbeats 64000000 in
set_option maxRecDepth 100000 in
theorem group18 {X00 Y00 X01 Y01 X02 Y02 X03 Y03 X10 Y10 X11 Y11 X12 Y12 X13 Y13 X20 Y20 X21 Y21 X22 Y22 X23 Y23 : Int} {l1 l1' l2 l2' l3 l3' l4 l4' m1 m1' m2 m2' m3 m3' m4 m4' n1 n1' n2 n2' n3 n3' n4 n4' : Nat} (w : World)
  (F0 : Hid (∀ wz, Calls Tryz.prog 10 #[.agg #[.int .i16 X00, .int .i16 Y00, .int .i16 X01, .int .i16 Y01, .int .i16 X02, .int .i16 Y02, .int .i16 X03, .int .i16 Y03]] wz fun e w' => e = .returned (.agg #[.int .u8 1, .complex .f64 l1 l1', .complex .f64 l2 l2', .complex .f64 l3 l3', .complex .f64 l4 l4', .float .f64 0]) ∧ Bw wz w'))
  (F1 : Hid (∀ wz, Calls Tryz.prog 10 #[.agg #[.int .i16 X10, .int .i16 Y10, .int .i16 X11, .int .i16 Y11, .int .i16 X12, .int .i16 Y12, .int .i16 X13, .int .i16 Y13]] wz fun e w' => e = .returned (.agg #[.int .u8 1, .complex .f64 m1 m1', .complex .f64 m2 m2', .complex .f64 m3 m3', .complex .f64 m4 m4', .float .f64 0]) ∧ Bw wz w'))
  (F2 : Hid (∀ wz, Calls Tryz.prog 10 #[.agg #[.int .i16 X20, .int .i16 Y20, .int .i16 X21, .int .i16 Y21, .int .i16 X22, .int .i16 Y22, .int .i16 X23, .int .i16 Y23]] wz fun e w' => e = .returned (.agg #[.int .u8 1, .complex .f64 n1 n1', .complex .f64 n2 n2', .complex .f64 n3 n3', .complex .f64 n4 n4', .float .f64 0]) ∧ Bw wz w'))
  (HK : Hid (Ch.Sn true X00 Y00 X01 Y01 X02 Y02 X03 Y03 → Ch.Sn true X10 Y10 X11 Y11 X12 Y12 X13 Y13 → Ch.Sn true X20 Y20 X21 Y21 X22 Y22 X23 Y23 → ∃ e1 e2 e3 : Int, (∀ wz, Calls Tryz.prog 14 #[.agg #[.int .u8 1, .complex .f64 l1 l1', .complex .f64 l2 l2', .complex .f64 l3 l3', .complex .f64 l4 l4', .float .f64 0]] wz fun e w' => e = .returned (.int .i64 e1) ∧ Bw wz w') ∧ (∀ wz, Calls Tryz.prog 14 #[.agg #[.int .u8 1, .complex .f64 m1 m1', .complex .f64 m2 m2', .complex .f64 m3 m3', .complex .f64 m4 m4', .float .f64 0]] wz fun e w' => e = .returned (.int .i64 e2) ∧ Bw wz w') ∧ (∀ wz, Calls Tryz.prog 14 #[.agg #[.int .u8 1, .complex .f64 n1 n1', .complex .f64 n2 n2', .complex .f64 n3 n3', .complex .f64 n4 n4', .float .f64 0]] wz fun e w' => e = .returned (.int .i64 e3) ∧ Bw wz w') ∧ (e1 = 0 → e2 = 0 → e3 = 0 → ∃ p1 p1' p2 p2' p3 p3' p4 p4' q1 q1' q2 q2' q3 q3' q4 q4' r1 r1' r2 r2' r3 r3' r4 r4' s1 s1' s2 s2' s3 s3' s4 s4' b1 b1' b2 b2' b3 b3' b4 b4' o1 o1' o2 o2' o3 o3' o4 o4' t t' u u' z z' : Nat, (∀ wz, Calls Tryz.prog 15 #[.agg #[.int .u8 1, .complex .f64 l1 l1', .complex .f64 l2 l2', .complex .f64 l3 l3', .complex .f64 l4 l4', .float .f64 0], .agg #[.int .u8 1, .complex .f64 m1 m1', .complex .f64 m2 m2', .complex .f64 m3 m3', .complex .f64 m4 m4', .float .f64 0]] wz fun e w' => e = .returned (.tuple #[.agg #[.int .u8 1, .complex .f64 p1 p1', .complex .f64 p2 p2', .complex .f64 p3 p3', .complex .f64 p4 p4', .float .f64 0], .int .i64 0]) ∧ Bw wz w') ∧ (∀ wz, Calls Tryz.prog 15 #[.agg #[.int .u8 1, .complex .f64 m1 m1', .complex .f64 m2 m2', .complex .f64 m3 m3', .complex .f64 m4 m4', .float .f64 0], .agg #[.int .u8 1, .complex .f64 n1 n1', .complex .f64 n2 n2', .complex .f64 n3 n3', .complex .f64 n4 n4', .float .f64 0]] wz fun e w' => e = .returned (.tuple #[.agg #[.int .u8 1, .complex .f64 q1 q1', .complex .f64 q2 q2', .complex .f64 q3 q3', .complex .f64 q4 q4', .float .f64 0], .int .i64 0]) ∧ Bw wz w') ∧ (∀ wz, Calls Tryz.prog 15 #[.agg #[.int .u8 1, .complex .f64 p1 p1', .complex .f64 p2 p2', .complex .f64 p3 p3', .complex .f64 p4 p4', .float .f64 0], .agg #[.int .u8 1, .complex .f64 n1 n1', .complex .f64 n2 n2', .complex .f64 n3 n3', .complex .f64 n4 n4', .float .f64 0]] wz fun e w' => e = .returned (.tuple #[.agg #[.int .u8 1, .complex .f64 r1 r1', .complex .f64 r2 r2', .complex .f64 r3 r3', .complex .f64 r4 r4', .float .f64 0], .int .i64 0]) ∧ Bw wz w') ∧ (∀ wz, Calls Tryz.prog 15 #[.agg #[.int .u8 1, .complex .f64 l1 l1', .complex .f64 l2 l2', .complex .f64 l3 l3', .complex .f64 l4 l4', .float .f64 0], .agg #[.int .u8 1, .complex .f64 q1 q1', .complex .f64 q2 q2', .complex .f64 q3 q3', .complex .f64 q4 q4', .float .f64 0]] wz fun e w' => e = .returned (.tuple #[.agg #[.int .u8 1, .complex .f64 s1 s1', .complex .f64 s2 s2', .complex .f64 s3 s3', .complex .f64 s4 s4', .float .f64 0], .int .i64 0]) ∧ Bw wz w') ∧ (∀ wz, Calls Tryz.prog 16 #[.agg #[.int .u8 1, .complex .f64 r1 r1', .complex .f64 r2 r2', .complex .f64 r3 r3', .complex .f64 r4 r4', .float .f64 0], .agg #[.int .u8 1, .complex .f64 s1 s1', .complex .f64 s2 s2', .complex .f64 s3 s3', .complex .f64 s4 s4', .float .f64 0]] wz fun e w' => e = .returned (.bool true) ∧ Bw wz w') ∧ (∀ wz, Calls Tryz.prog 17 #[.agg #[.int .u8 1, .complex .f64 l1 l1', .complex .f64 l2 l2', .complex .f64 l3 l3', .complex .f64 l4 l4', .float .f64 0]] wz fun e w' => e = .returned (.tuple #[.agg #[.int .u8 1, .complex .f64 b1 b1', .complex .f64 b2 b2', .complex .f64 b3 b3', .complex .f64 b4 b4', .float .f64 0], .int .i64 0]) ∧ Bw wz w') ∧ (∀ wz, Calls Tryz.prog 15 #[.agg #[.int .u8 1, .complex .f64 l1 l1', .complex .f64 l2 l2', .complex .f64 l3 l3', .complex .f64 l4 l4', .float .f64 0], .agg #[.int .u8 1, .complex .f64 b1 b1', .complex .f64 b2 b2', .complex .f64 b3 b3', .complex .f64 b4 b4', .float .f64 0]] wz fun e w' => e = .returned (.tuple #[.agg #[.int .u8 1, .complex .f64 o1 o1', .complex .f64 o2 o2', .complex .f64 o3 o3', .complex .f64 o4 o4', .float .f64 0], .int .i64 0]) ∧ Bw wz w') ∧ (∀ wz, Calls Tryz.prog 19 #[.complex .f64 l1 l1', .complex .f64 l4 l4'] wz fun e w' => e = .returned (.complex .f64 t t') ∧ w' = wz) ∧ (∀ wz, Calls Tryz.prog 19 #[.complex .f64 l2 l2', .complex .f64 l3 l3'] wz fun e w' => e = .returned (.complex .f64 u u') ∧ w' = wz) ∧ (∀ wz, Calls Tryz.prog 18 #[.complex .f64 t t', .complex .f64 u u'] wz fun e w' => e = .returned (.complex .f64 z z') ∧ w' = wz) ∧ (∀ wz, Calls Tryz.prog 20 #[.complex .f64 o1 o1', .complex .f64 z z'] wz fun e w' => e = .returned (.bool true) ∧ w' = wz) ∧ (∀ wz, Calls Tryz.prog 20 #[.complex .f64 o4 o4', .complex .f64 z z'] wz fun e w' => e = .returned (.bool true) ∧ w' = wz) ∧ (∀ t w, (binOp .eql t (.complex .f64 o2 o2') (.complex .f64 0 0)).run Tryz.prog w = .ok (.bool true) w) ∧ (∀ t w, (binOp .eql t (.complex .f64 o3 o3') (.complex .f64 0 0)).run Tryz.prog w = .ok (.bool true) w)))) :
  Calls Tryz.prog 4 #[.agg #[.int .i16 X00, .int .i16 Y00, .int .i16 X01, .int .i16 Y01, .int .i16 X02, .int .i16 Y02, .int .i16 X03, .int .i16 Y03], .agg #[.int .i16 X10, .int .i16 Y10, .int .i16 X11, .int .i16 Y11, .int .i16 X12, .int .i16 Y12, .int .i16 X13, .int .i16 Y13], .agg #[.int .i16 X20, .int .i16 Y20, .int .i16 X21, .int .i16 Y21, .int .i16 X22, .int .i16 Y22, .int .i16 X23, .int .i16 Y23]] w fun e w' => e = .returned (.bool true) ∧ Bw w w' := by
 have g1 := Ch.Bl.new w #[.int .i16 X00, .int .i16 Y00, .int .i16 X01, .int .i16 Y01, .int .i16 X02, .int .i16 Y02, .int .i16 X03, .int .i16 Y03] 26
 have z1 : (w.alloc (.cells #[.int .i16 X00, .int .i16 Y00, .int .i16 X01, .int .i16 Y01, .int .i16 X02, .int .i16 Y02, .int .i16 X03, .int .i16 Y03] 26)).heap.size = w.heap.size + 1 := by simp
 have b1 := bw_alloc w (.cells #[.int .i16 X00, .int .i16 Y00, .int .i16 X01, .int .i16 Y01, .int .i16 X02, .int .i16 Y02, .int .i16 X03, .int .i16 Y03] 26)
 obtain ⟨W1, hW1⟩ : ∃ v, w.alloc (.cells #[.int .i16 X00, .int .i16 Y00, .int .i16 X01, .int .i16 Y01, .int .i16 X02, .int .i16 Y02, .int .i16 X03, .int .i16 Y03] 26) = v := ⟨_, rfl⟩
 rw [hW1] at g1 z1 b1
 have g2 := Ch.Bl.new W1 #[.int .i16 X10, .int .i16 Y10, .int .i16 X11, .int .i16 Y11, .int .i16 X12, .int .i16 Y12, .int .i16 X13, .int .i16 Y13] 26
 have z2 : (W1.alloc (.cells #[.int .i16 X10, .int .i16 Y10, .int .i16 X11, .int .i16 Y11, .int .i16 X12, .int .i16 Y12, .int .i16 X13, .int .i16 Y13] 26)).heap.size = w.heap.size + 1 + 1 := by simp [z1]
 have b2 := bw_alloc W1 (.cells #[.int .i16 X10, .int .i16 Y10, .int .i16 X11, .int .i16 Y11, .int .i16 X12, .int .i16 Y12, .int .i16 X13, .int .i16 Y13] 26)
 obtain ⟨W2, hW2⟩ : ∃ v, W1.alloc (.cells #[.int .i16 X10, .int .i16 Y10, .int .i16 X11, .int .i16 Y11, .int .i16 X12, .int .i16 Y12, .int .i16 X13, .int .i16 Y13] 26) = v := ⟨_, rfl⟩
 rw [hW2] at g2 z2 b2
 have g3 := Ch.Bl.new W2 #[.int .i16 X20, .int .i16 Y20, .int .i16 X21, .int .i16 Y21, .int .i16 X22, .int .i16 Y22, .int .i16 X23, .int .i16 Y23] 26
 have z3 : (W2.alloc (.cells #[.int .i16 X20, .int .i16 Y20, .int .i16 X21, .int .i16 Y21, .int .i16 X22, .int .i16 Y22, .int .i16 X23, .int .i16 Y23] 26)).heap.size = w.heap.size + 1 + 1 + 1 := by simp [z2]
 have b3 := bw_alloc W2 (.cells #[.int .i16 X20, .int .i16 Y20, .int .i16 X21, .int .i16 Y21, .int .i16 X22, .int .i16 Y22, .int .i16 X23, .int .i16 Y23] 26)
 obtain ⟨W3, hW3⟩ : ∃ v, W2.alloc (.cells #[.int .i16 X20, .int .i16 Y20, .int .i16 X21, .int .i16 Y21, .int .i16 X22, .int .i16 Y22, .int .i16 X23, .int .i16 Y23] 26) = v := ⟨_, rfl⟩
 rw [hW3] at g3 z3 b3
 have GG : Hid (Ch.Bl W3 (w.heap.size) [.int .i16 X00, .int .i16 Y00, .int .i16 X01, .int .i16 Y01, .int .i16 X02, .int .i16 Y02, .int .i16 X03, .int .i16 Y03] ∧ Ch.Bl W3 (w.heap.size + 1) [.int .i16 X10, .int .i16 Y10, .int .i16 X11, .int .i16 Y11, .int .i16 X12, .int .i16 Y12, .int .i16 X13, .int .i16 Y13] ∧ Ch.Bl W3 (w.heap.size + 1 + 1) [.int .i16 X20, .int .i16 Y20, .int .i16 X21, .int .i16 Y21, .int .i16 X22, .int .i16 Y22, .int .i16 X23, .int .i16 Y23] ∧ Bw w W3) := ⟨(show Ch.Bl _ (w.heap.size) _ from g1).bw (bw_trans b2 b3), (show Ch.Bl _ (w.heap.size + 1) _ from z1 ▸ g2).bw b3, (show Ch.Bl _ (w.heap.size + 1 + 1) _ from z2 ▸ g3), (bw_trans b1 (bw_trans b2 b3))⟩
 have HW := hide (And.intro hW1 (And.intro hW2 (hW3)))
 clear g1 b1 z1 hW1 g2 b2 z2 hW2 g3 b3 z3 hW3
 go_enter Tryz.func4, Tryz.ntmps4
 go_wp2_with fail
 rw [HW.out.1, HW.out.2.1, HW.out.2.2]
 obtain ⟨A, hA⟩ : ∃ A, w.heap.size = A := ⟨_, rfl⟩
 rw [hA] at GG ⊢
 have HA := hide hA
 obtain ⟨A1, hA1⟩ : ∃ v, A + 1 = v := ⟨_, rfl⟩
 obtain ⟨A2, hA2⟩ : ∃ v, A1 + 1 = v := ⟨_, rfl⟩
 rw [hA1, hA2] at GG ⊢
 clear hA1 hA2 HA HW
 refine (awake18_ev _).mono ?_
 rintro e' v1 ⟨rfl, bb⟩
 have H1 : Hid (Ch.Bl v1 A [.int .i16 X00, .int .i16 Y00, .int .i16 X01, .int .i16 Y01, .int .i16 X02, .int .i16 Y02, .int .i16 X03, .int .i16 Y03] ∧ Ch.Bl v1 A1 [.int .i16 X10, .int .i16 Y10, .int .i16 X11, .int .i16 Y11, .int .i16 X12, .int .i16 Y12, .int .i16 X13, .int .i16 Y13] ∧ Ch.Bl v1 A2 [.int .i16 X20, .int .i16 Y20, .int .i16 X21, .int .i16 Y21, .int .i16 X22, .int .i16 Y22, .int .i16 X23, .int .i16 Y23] ∧ Bw w v1) := ⟨GG.out.1.bw bb, GG.out.2.1.bw bb, GG.out.2.2.1.bw bb, bw_trans GG.out.2.2.2 bb⟩
 clear bb GG
 have cA0 := (H1.out.1).c 0 _ rfl
 have cA1 := (H1.out.1).c 1 _ rfl
 have cA2 := (H1.out.1).c 2 _ rfl
 have cA3 := (H1.out.1).c 3 _ rfl
 have cA4 := (H1.out.1).c 4 _ rfl
 have cA5 := (H1.out.1).c 5 _ rfl
 have cA6 := (H1.out.1).c 6 _ rfl
 have cA7 := (H1.out.1).c 7 _ rfl
 go_wp2_with fail
 clear cA0 cA1 cA2 cA3 cA4 cA5 cA6 cA7
 refine (F0.out _).mono ?_
 rintro e' v2 ⟨rfl, bb⟩
 have H2 : Hid (Ch.Bl v2 A [.int .i16 X00, .int .i16 Y00, .int .i16 X01, .int .i16 Y01, .int .i16 X02, .int .i16 Y02, .int .i16 X03, .int .i16 Y03] ∧ Ch.Bl v2 A1 [.int .i16 X10, .int .i16 Y10, .int .i16 X11, .int .i16 Y11, .int .i16 X12, .int .i16 Y12, .int .i16 X13, .int .i16 Y13] ∧ Ch.Bl v2 A2 [.int .i16 X20, .int .i16 Y20, .int .i16 X21, .int .i16 Y21, .int .i16 X22, .int .i16 Y22, .int .i16 X23, .int .i16 Y23] ∧ Bw w v2) := ⟨H1.out.1.bw bb, H1.out.2.1.bw bb, H1.out.2.2.1.bw bb, bw_trans H1.out.2.2.2 bb⟩
 clear bb H1
 clear F0
 have nA10 := ((H2.out.2.1).bw (bw_alloc v2 (.cells #[.int .u8 1, .complex .f64 l1 l1', .complex .f64 l2 l2', .complex .f64 l3 l3', .complex .f64 l4 l4', .float .f64 0] 33))).c 0 _ rfl
 have nA11 := ((H2.out.2.1).bw (bw_alloc v2 (.cells #[.int .u8 1, .complex .f64 l1 l1', .complex .f64 l2 l2', .complex .f64 l3 l3', .complex .f64 l4 l4', .float .f64 0] 33))).c 1 _ rfl
 have nA12 := ((H2.out.2.1).bw (bw_alloc v2 (.cells #[.int .u8 1, .complex .f64 l1 l1', .complex .f64 l2 l2', .complex .f64 l3 l3', .complex .f64 l4 l4', .float .f64 0] 33))).c 2 _ rfl
 have nA13 := ((H2.out.2.1).bw (bw_alloc v2 (.cells #[.int .u8 1, .complex .f64 l1 l1', .complex .f64 l2 l2', .complex .f64 l3 l3', .complex .f64 l4 l4', .float .f64 0] 33))).c 3 _ rfl
 have nA14 := ((H2.out.2.1).bw (bw_alloc v2 (.cells #[.int .u8 1, .complex .f64 l1 l1', .complex .f64 l2 l2', .complex .f64 l3 l3', .complex .f64 l4 l4', .float .f64 0] 33))).c 4 _ rfl
 have nA15 := ((H2.out.2.1).bw (bw_alloc v2 (.cells #[.int .u8 1, .complex .f64 l1 l1', .complex .f64 l2 l2', .complex .f64 l3 l3', .complex .f64 l4 l4', .float .f64 0] 33))).c 5 _ rfl
 have nA16 := ((H2.out.2.1).bw (bw_alloc v2 (.cells #[.int .u8 1, .complex .f64 l1 l1', .complex .f64 l2 l2', .complex .f64 l3 l3', .complex .f64 l4 l4', .float .f64 0] 33))).c 6 _ rfl
 have nA17 := ((H2.out.2.1).bw (bw_alloc v2 (.cells #[.int .u8 1, .complex .f64 l1 l1', .complex .f64 l2 l2', .complex .f64 l3 l3', .complex .f64 l4 l4', .float .f64 0] 33))).c 7 _ rfl
 have ka := Ch.Bl.new v2 #[.int .u8 1, .complex .f64 l1 l1', .complex .f64 l2 l2', .complex .f64 l3 l3', .complex .f64 l4 l4', .float .f64 0] 33
 have kb := bw_alloc v2 (.cells #[.int .u8 1, .complex .f64 l1 l1', .complex .f64 l2 l2', .complex .f64 l3 l3', .complex .f64 l4 l4', .float .f64 0] 33)
 obtain ⟨v3, hW⟩ : ∃ v, v2.alloc (.cells #[.int .u8 1, .complex .f64 l1 l1', .complex .f64 l2 l2', .complex .f64 l3 l3', .complex .f64 l4 l4', .float .f64 0] 33) = v := ⟨_, rfl⟩
 rw [hW] at ka kb
 obtain ⟨Bl, hB⟩ : ∃ v, v2.heap.size = v := ⟨_, rfl⟩
 rw [hB] at ka
 have H3 : Hid (Ch.Bl v3 A [.int .i16 X00, .int .i16 Y00, .int .i16 X01, .int .i16 Y01, .int .i16 X02, .int .i16 Y02, .int .i16 X03, .int .i16 Y03] ∧ Ch.Bl v3 A1 [.int .i16 X10, .int .i16 Y10, .int .i16 X11, .int .i16 Y11, .int .i16 X12, .int .i16 Y12, .int .i16 X13, .int .i16 Y13] ∧ Ch.Bl v3 A2 [.int .i16 X20, .int .i16 Y20, .int .i16 X21, .int .i16 Y21, .int .i16 X22, .int .i16 Y22, .int .i16 X23, .int .i16 Y23] ∧ Ch.Bl v3 Bl [.int .u8 1, .complex .f64 l1 l1', .complex .f64 l2 l2', .complex .f64 l3 l3', .complex .f64 l4 l4', .float .f64 0] ∧ Bw w v3) := ⟨H2.out.1.bw kb, H2.out.2.1.bw kb, H2.out.2.2.1.bw kb, ka, bw_trans H2.out.2.2.2 kb⟩
 have HW := hide hW
 have HB := hide hB
 clear ka kb hW hB H2
 go_wp2_with fail
 rw [HW.out, HB.out]
 clear HW HB nA10 nA11 nA12 nA13 nA14 nA15 nA16 nA17
 refine (F1.out _).mono ?_
 rintro e' v4 ⟨rfl, bb⟩
 have H4 : Hid (Ch.Bl v4 A [.int .i16 X00, .int .i16 Y00, .int .i16 X01, .int .i16 Y01, .int .i16 X02, .int .i16 Y02, .int .i16 X03, .int .i16 Y03] ∧ Ch.Bl v4 A1 [.int .i16 X10, .int .i16 Y10, .int .i16 X11, .int .i16 Y11, .int .i16 X12, .int .i16 Y12, .int .i16 X13, .int .i16 Y13] ∧ Ch.Bl v4 A2 [.int .i16 X20, .int .i16 Y20, .int .i16 X21, .int .i16 Y21, .int .i16 X22, .int .i16 Y22, .int .i16 X23, .int .i16 Y23] ∧ Ch.Bl v4 Bl [.int .u8 1, .complex .f64 l1 l1', .complex .f64 l2 l2', .complex .f64 l3 l3', .complex .f64 l4 l4', .float .f64 0] ∧ Bw w v4) := ⟨H3.out.1.bw bb, H3.out.2.1.bw bb, H3.out.2.2.1.bw bb, H3.out.2.2.2.1.bw bb, bw_trans H3.out.2.2.2.2 bb⟩
 clear bb H3
 clear F1
 have nA20 := ((H4.out.2.2.1).bw (bw_alloc v4 (.cells #[.int .u8 1, .complex .f64 m1 m1', .complex .f64 m2 m2', .complex .f64 m3 m3', .complex .f64 m4 m4', .float .f64 0] 33))).c 0 _ rfl
 have nA21 := ((H4.out.2.2.1).bw (bw_alloc v4 (.cells #[.int .u8 1, .complex .f64 m1 m1', .complex .f64 m2 m2', .complex .f64 m3 m3', .complex .f64 m4 m4', .float .f64 0] 33))).c 1 _ rfl
 have nA22 := ((H4.out.2.2.1).bw (bw_alloc v4 (.cells #[.int .u8 1, .complex .f64 m1 m1', .complex .f64 m2 m2', .complex .f64 m3 m3', .complex .f64 m4 m4', .float .f64 0] 33))).c 2 _ rfl
 have nA23 := ((H4.out.2.2.1).bw (bw_alloc v4 (.cells #[.int .u8 1, .complex .f64 m1 m1', .complex .f64 m2 m2', .complex .f64 m3 m3', .complex .f64 m4 m4', .float .f64 0] 33))).c 3 _ rfl
 have nA24 := ((H4.out.2.2.1).bw (bw_alloc v4 (.cells #[.int .u8 1, .complex .f64 m1 m1', .complex .f64 m2 m2', .complex .f64 m3 m3', .complex .f64 m4 m4', .float .f64 0] 33))).c 4 _ rfl
 have nA25 := ((H4.out.2.2.1).bw (bw_alloc v4 (.cells #[.int .u8 1, .complex .f64 m1 m1', .complex .f64 m2 m2', .complex .f64 m3 m3', .complex .f64 m4 m4', .float .f64 0] 33))).c 5 _ rfl
 have nA26 := ((H4.out.2.2.1).bw (bw_alloc v4 (.cells #[.int .u8 1, .complex .f64 m1 m1', .complex .f64 m2 m2', .complex .f64 m3 m3', .complex .f64 m4 m4', .float .f64 0] 33))).c 6 _ rfl
 have nA27 := ((H4.out.2.2.1).bw (bw_alloc v4 (.cells #[.int .u8 1, .complex .f64 m1 m1', .complex .f64 m2 m2', .complex .f64 m3 m3', .complex .f64 m4 m4', .float .f64 0] 33))).c 7 _ rfl
 have ka := Ch.Bl.new v4 #[.int .u8 1, .complex .f64 m1 m1', .complex .f64 m2 m2', .complex .f64 m3 m3', .complex .f64 m4 m4', .float .f64 0] 33
 have kb := bw_alloc v4 (.cells #[.int .u8 1, .complex .f64 m1 m1', .complex .f64 m2 m2', .complex .f64 m3 m3', .complex .f64 m4 m4', .float .f64 0] 33)
 obtain ⟨v5, hW⟩ : ∃ v, v4.alloc (.cells #[.int .u8 1, .complex .f64 m1 m1', .complex .f64 m2 m2', .complex .f64 m3 m3', .complex .f64 m4 m4', .float .f64 0] 33) = v := ⟨_, rfl⟩
 rw [hW] at ka kb
 obtain ⟨Bm, hB⟩ : ∃ v, v4.heap.size = v := ⟨_, rfl⟩
 rw [hB] at ka
 have H5 : Hid (Ch.Bl v5 A [.int .i16 X00, .int .i16 Y00, .int .i16 X01, .int .i16 Y01, .int .i16 X02, .int .i16 Y02, .int .i16 X03, .int .i16 Y03] ∧ Ch.Bl v5 A1 [.int .i16 X10, .int .i16 Y10, .int .i16 X11, .int .i16 Y11, .int .i16 X12, .int .i16 Y12, .int .i16 X13, .int .i16 Y13] ∧ Ch.Bl v5 A2 [.int .i16 X20, .int .i16 Y20, .int .i16 X21, .int .i16 Y21, .int .i16 X22, .int .i16 Y22, .int .i16 X23, .int .i16 Y23] ∧ Ch.Bl v5 Bl [.int .u8 1, .complex .f64 l1 l1', .complex .f64 l2 l2', .complex .f64 l3 l3', .complex .f64 l4 l4', .float .f64 0] ∧ Ch.Bl v5 Bm [.int .u8 1, .complex .f64 m1 m1', .complex .f64 m2 m2', .complex .f64 m3 m3', .complex .f64 m4 m4', .float .f64 0] ∧ Bw w v5) := ⟨H4.out.1.bw kb, H4.out.2.1.bw kb, H4.out.2.2.1.bw kb, H4.out.2.2.2.1.bw kb, ka, bw_trans H4.out.2.2.2.2 kb⟩
 have HW := hide hW
 have HB := hide hB
 clear ka kb hW hB H4
 go_wp2_with fail
 rw [HW.out, HB.out]
 clear HW HB nA20 nA21 nA22 nA23 nA24 nA25 nA26 nA27
 refine (F2.out _).mono ?_
 rintro e' v6 ⟨rfl, bb⟩
 have H6 : Hid (Ch.Bl v6 A [.int .i16 X00, .int .i16 Y00, .int .i16 X01, .int .i16 Y01, .int .i16 X02, .int .i16 Y02, .int .i16 X03, .int .i16 Y03] ∧ Ch.Bl v6 A1 [.int .i16 X10, .int .i16 Y10, .int .i16 X11, .int .i16 Y11, .int .i16 X12, .int .i16 Y12, .int .i16 X13, .int .i16 Y13] ∧ Ch.Bl v6 A2 [.int .i16 X20, .int .i16 Y20, .int .i16 X21, .int .i16 Y21, .int .i16 X22, .int .i16 Y22, .int .i16 X23, .int .i16 Y23] ∧ Ch.Bl v6 Bl [.int .u8 1, .complex .f64 l1 l1', .complex .f64 l2 l2', .complex .f64 l3 l3', .complex .f64 l4 l4', .float .f64 0] ∧ Ch.Bl v6 Bm [.int .u8 1, .complex .f64 m1 m1', .complex .f64 m2 m2', .complex .f64 m3 m3', .complex .f64 m4 m4', .float .f64 0] ∧ Bw w v6) := ⟨H5.out.1.bw bb, H5.out.2.1.bw bb, H5.out.2.2.1.bw bb, H5.out.2.2.2.1.bw bb, H5.out.2.2.2.2.1.bw bb, bw_trans H5.out.2.2.2.2.2 bb⟩
 clear bb H5
 clear F2
 have nA0 := ((H6.out.1).bw (bw_alloc v6 (.cells #[.int .u8 1, .complex .f64 n1 n1', .complex .f64 n2 n2', .complex .f64 n3 n3', .complex .f64 n4 n4', .float .f64 0] 33))).c 0 _ rfl
 have nA1 := ((H6.out.1).bw (bw_alloc v6 (.cells #[.int .u8 1, .complex .f64 n1 n1', .complex .f64 n2 n2', .complex .f64 n3 n3', .complex .f64 n4 n4', .float .f64 0] 33))).c 1 _ rfl
 have nA2 := ((H6.out.1).bw (bw_alloc v6 (.cells #[.int .u8 1, .complex .f64 n1 n1', .complex .f64 n2 n2', .complex .f64 n3 n3', .complex .f64 n4 n4', .float .f64 0] 33))).c 2 _ rfl
 have nA3 := ((H6.out.1).bw (bw_alloc v6 (.cells #[.int .u8 1, .complex .f64 n1 n1', .complex .f64 n2 n2', .complex .f64 n3 n3', .complex .f64 n4 n4', .float .f64 0] 33))).c 3 _ rfl
 have nA4 := ((H6.out.1).bw (bw_alloc v6 (.cells #[.int .u8 1, .complex .f64 n1 n1', .complex .f64 n2 n2', .complex .f64 n3 n3', .complex .f64 n4 n4', .float .f64 0] 33))).c 4 _ rfl
 have nA5 := ((H6.out.1).bw (bw_alloc v6 (.cells #[.int .u8 1, .complex .f64 n1 n1', .complex .f64 n2 n2', .complex .f64 n3 n3', .complex .f64 n4 n4', .float .f64 0] 33))).c 5 _ rfl
 have nA6 := ((H6.out.1).bw (bw_alloc v6 (.cells #[.int .u8 1, .complex .f64 n1 n1', .complex .f64 n2 n2', .complex .f64 n3 n3', .complex .f64 n4 n4', .float .f64 0] 33))).c 6 _ rfl
 have nA7 := ((H6.out.1).bw (bw_alloc v6 (.cells #[.int .u8 1, .complex .f64 n1 n1', .complex .f64 n2 n2', .complex .f64 n3 n3', .complex .f64 n4 n4', .float .f64 0] 33))).c 7 _ rfl
 have ka := Ch.Bl.new v6 #[.int .u8 1, .complex .f64 n1 n1', .complex .f64 n2 n2', .complex .f64 n3 n3', .complex .f64 n4 n4', .float .f64 0] 33
 have kb := bw_alloc v6 (.cells #[.int .u8 1, .complex .f64 n1 n1', .complex .f64 n2 n2', .complex .f64 n3 n3', .complex .f64 n4 n4', .float .f64 0] 33)
 obtain ⟨v7, hW⟩ : ∃ v, v6.alloc (.cells #[.int .u8 1, .complex .f64 n1 n1', .complex .f64 n2 n2', .complex .f64 n3 n3', .complex .f64 n4 n4', .float .f64 0] 33) = v := ⟨_, rfl⟩
 rw [hW] at ka kb
 obtain ⟨Bn, hB⟩ : ∃ v, v6.heap.size = v := ⟨_, rfl⟩
 rw [hB] at ka
 have H7 : Hid (Ch.Bl v7 A [.int .i16 X00, .int .i16 Y00, .int .i16 X01, .int .i16 Y01, .int .i16 X02, .int .i16 Y02, .int .i16 X03, .int .i16 Y03] ∧ Ch.Bl v7 A1 [.int .i16 X10, .int .i16 Y10, .int .i16 X11, .int .i16 Y11, .int .i16 X12, .int .i16 Y12, .int .i16 X13, .int .i16 Y13] ∧ Ch.Bl v7 A2 [.int .i16 X20, .int .i16 Y20, .int .i16 X21, .int .i16 Y21, .int .i16 X22, .int .i16 Y22, .int .i16 X23, .int .i16 Y23] ∧ Ch.Bl v7 Bl [.int .u8 1, .complex .f64 l1 l1', .complex .f64 l2 l2', .complex .f64 l3 l3', .complex .f64 l4 l4', .float .f64 0] ∧ Ch.Bl v7 Bm [.int .u8 1, .complex .f64 m1 m1', .complex .f64 m2 m2', .complex .f64 m3 m3', .complex .f64 m4 m4', .float .f64 0] ∧ Ch.Bl v7 Bn [.int .u8 1, .complex .f64 n1 n1', .complex .f64 n2 n2', .complex .f64 n3 n3', .complex .f64 n4 n4', .float .f64 0] ∧ Bw w v7) := ⟨H6.out.1.bw kb, H6.out.2.1.bw kb, H6.out.2.2.1.bw kb, H6.out.2.2.2.1.bw kb, H6.out.2.2.2.2.1.bw kb, ka, bw_trans H6.out.2.2.2.2.2 kb⟩
 have HW := hide hW
 have HB := hide hB
 clear ka kb hW hB H6
 go_wp2_with fail
 rw [HW.out, HB.out]
 clear HW HB nA0 nA1 nA2 nA3 nA4 nA5 nA6 nA7
 refine (fsmall18 X00 Y00 X01 Y01 X02 Y02 X03 Y03 _).mono ?_
 rintro e' x0 ⟨p0, rfl, s0, bb⟩
 have S0 := hide s0
 clear s0
 have J0 : Hid (Ch.Bl x0 A [.int .i16 X00, .int .i16 Y00, .int .i16 X01, .int .i16 Y01, .int .i16 X02, .int .i16 Y02, .int .i16 X03, .int .i16 Y03] ∧ Ch.Bl x0 A1 [.int .i16 X10, .int .i16 Y10, .int .i16 X11, .int .i16 Y11, .int .i16 X12, .int .i16 Y12, .int .i16 X13, .int .i16 Y13] ∧ Ch.Bl x0 A2 [.int .i16 X20, .int .i16 Y20, .int .i16 X21, .int .i16 Y21, .int .i16 X22, .int .i16 Y22, .int .i16 X23, .int .i16 Y23] ∧ Ch.Bl x0 Bl [.int .u8 1, .complex .f64 l1 l1', .complex .f64 l2 l2', .complex .f64 l3 l3', .complex .f64 l4 l4', .float .f64 0] ∧ Ch.Bl x0 Bm [.int .u8 1, .complex .f64 m1 m1', .complex .f64 m2 m2', .complex .f64 m3 m3', .complex .f64 m4 m4', .float .f64 0] ∧ Ch.Bl x0 Bn [.int .u8 1, .complex .f64 n1 n1', .complex .f64 n2 n2', .complex .f64 n3 n3', .complex .f64 n4 n4', .float .f64 0] ∧ Bw w x0) := ⟨H7.out.1.bw bb, H7.out.2.1.bw bb, H7.out.2.2.1.bw bb, H7.out.2.2.2.1.bw bb, H7.out.2.2.2.2.1.bw bb, H7.out.2.2.2.2.2.1.bw bb, bw_trans H7.out.2.2.2.2.2.2 bb⟩
 clear bb H7
 have cA10 := (J0.out.2.1).c 0 _ rfl
 have cA11 := (J0.out.2.1).c 1 _ rfl
 have cA12 := (J0.out.2.1).c 2 _ rfl
 have cA13 := (J0.out.2.1).c 3 _ rfl
 have cA14 := (J0.out.2.1).c 4 _ rfl
 have cA15 := (J0.out.2.1).c 5 _ rfl
 have cA16 := (J0.out.2.1).c 6 _ rfl
 have cA17 := (J0.out.2.1).c 7 _ rfl
 cases p0
 ·
  go_wp2
  go_ret
  exact ⟨rfl, J0.out.2.2.2.2.2.2⟩
 go_wp2_with fail
 clear cA10 cA11 cA12 cA13 cA14 cA15 cA16 cA17
 refine (fsmall18 X10 Y10 X11 Y11 X12 Y12 X13 Y13 _).mono ?_
 rintro e' x1 ⟨p1, rfl, s1, bb⟩
 have S1 := hide s1
 clear s1
 have J1 : Hid (Ch.Bl x1 A [.int .i16 X00, .int .i16 Y00, .int .i16 X01, .int .i16 Y01, .int .i16 X02, .int .i16 Y02, .int .i16 X03, .int .i16 Y03] ∧ Ch.Bl x1 A1 [.int .i16 X10, .int .i16 Y10, .int .i16 X11, .int .i16 Y11, .int .i16 X12, .int .i16 Y12, .int .i16 X13, .int .i16 Y13] ∧ Ch.Bl x1 A2 [.int .i16 X20, .int .i16 Y20, .int .i16 X21, .int .i16 Y21, .int .i16 X22, .int .i16 Y22, .int .i16 X23, .int .i16 Y23] ∧ Ch.Bl x1 Bl [.int .u8 1, .complex .f64 l1 l1', .complex .f64 l2 l2', .complex .f64 l3 l3', .complex .f64 l4 l4', .float .f64 0] ∧ Ch.Bl x1 Bm [.int .u8 1, .complex .f64 m1 m1', .complex .f64 m2 m2', .complex .f64 m3 m3', .complex .f64 m4 m4', .float .f64 0] ∧ Ch.Bl x1 Bn [.int .u8 1, .complex .f64 n1 n1', .complex .f64 n2 n2', .complex .f64 n3 n3', .complex .f64 n4 n4', .float .f64 0] ∧ Bw w x1) := ⟨J0.out.1.bw bb, J0.out.2.1.bw bb, J0.out.2.2.1.bw bb, J0.out.2.2.2.1.bw bb, J0.out.2.2.2.2.1.bw bb, J0.out.2.2.2.2.2.1.bw bb, bw_trans J0.out.2.2.2.2.2.2 bb⟩
 clear bb J0
 have cA20 := (J1.out.2.2.1).c 0 _ rfl
 have cA21 := (J1.out.2.2.1).c 1 _ rfl
 have cA22 := (J1.out.2.2.1).c 2 _ rfl
 have cA23 := (J1.out.2.2.1).c 3 _ rfl
 have cA24 := (J1.out.2.2.1).c 4 _ rfl
 have cA25 := (J1.out.2.2.1).c 5 _ rfl
 have cA26 := (J1.out.2.2.1).c 6 _ rfl
 have cA27 := (J1.out.2.2.1).c 7 _ rfl
 cases p1
 ·
  go_wp2
  go_ret
  exact ⟨rfl, J1.out.2.2.2.2.2.2⟩
 go_wp2_with fail
 clear cA20 cA21 cA22 cA23 cA24 cA25 cA26 cA27
 refine (fsmall18 X20 Y20 X21 Y21 X22 Y22 X23 Y23 _).mono ?_
 rintro e' x2 ⟨p2, rfl, s2, bb⟩
 have S2 := hide s2
 clear s2
 have J2 : Hid (Ch.Bl x2 A [.int .i16 X00, .int .i16 Y00, .int .i16 X01, .int .i16 Y01, .int .i16 X02, .int .i16 Y02, .int .i16 X03, .int .i16 Y03] ∧ Ch.Bl x2 A1 [.int .i16 X10, .int .i16 Y10, .int .i16 X11, .int .i16 Y11, .int .i16 X12, .int .i16 Y12, .int .i16 X13, .int .i16 Y13] ∧ Ch.Bl x2 A2 [.int .i16 X20, .int .i16 Y20, .int .i16 X21, .int .i16 Y21, .int .i16 X22, .int .i16 Y22, .int .i16 X23, .int .i16 Y23] ∧ Ch.Bl x2 Bl [.int .u8 1, .complex .f64 l1 l1', .complex .f64 l2 l2', .complex .f64 l3 l3', .complex .f64 l4 l4', .float .f64 0] ∧ Ch.Bl x2 Bm [.int .u8 1, .complex .f64 m1 m1', .complex .f64 m2 m2', .complex .f64 m3 m3', .complex .f64 m4 m4', .float .f64 0] ∧ Ch.Bl x2 Bn [.int .u8 1, .complex .f64 n1 n1', .complex .f64 n2 n2', .complex .f64 n3 n3', .complex .f64 n4 n4', .float .f64 0] ∧ Bw w x2) := ⟨J1.out.1.bw bb, J1.out.2.1.bw bb, J1.out.2.2.1.bw bb, J1.out.2.2.2.1.bw bb, J1.out.2.2.2.2.1.bw bb, J1.out.2.2.2.2.2.1.bw bb, bw_trans J1.out.2.2.2.2.2.2 bb⟩
 clear bb J1
 have cBl0 := (J2.out.2.2.2.1).c 0 _ rfl
 have cBl1 := (J2.out.2.2.2.1).c 1 _ rfl
 have cBl2 := (J2.out.2.2.2.1).c 2 _ rfl
 have cBl3 := (J2.out.2.2.2.1).c 3 _ rfl
 have cBl4 := (J2.out.2.2.2.1).c 4 _ rfl
 have cBl5 := (J2.out.2.2.2.1).c 5 _ rfl
 cases p2
 ·
  go_wp2
  go_ret
  exact ⟨rfl, J2.out.2.2.2.2.2.2⟩
 obtain ⟨e1, e2, e3, k1, k2, k3, hr⟩ := HK.out (S0.out) (S1.out) (S2.out)
 have K1 := hide k1
 have K2 := hide k2
 have K3 := hide k3
 have HR := hide hr
 clear k1 k2 k3 hr HK S0 S1 S2
 go_wp2_with fail
 clear cBl0 cBl1 cBl2 cBl3 cBl4 cBl5
 have KJ2 : Hid (Ch.Bl x2 Bl [.int .u8 1, .complex .f64 l1 l1', .complex .f64 l2 l2', .complex .f64 l3 l3', .complex .f64 l4 l4', .float .f64 0] ∧ Ch.Bl x2 Bm [.int .u8 1, .complex .f64 m1 m1', .complex .f64 m2 m2', .complex .f64 m3 m3', .complex .f64 m4 m4', .float .f64 0] ∧ Ch.Bl x2 Bn [.int .u8 1, .complex .f64 n1 n1', .complex .f64 n2 n2', .complex .f64 n3 n3', .complex .f64 n4 n4', .float .f64 0] ∧ Bw w x2) := ⟨J2.out.2.2.2.1, J2.out.2.2.2.2.1, J2.out.2.2.2.2.2.1, J2.out.2.2.2.2.2.2⟩
 clear J2
 refine (K1.out _).mono ?_
 rintro e' v8 ⟨rfl, bb⟩
 have H8 : Hid (Ch.Bl v8 Bl [.int .u8 1, .complex .f64 l1 l1', .complex .f64 l2 l2', .complex .f64 l3 l3', .complex .f64 l4 l4', .float .f64 0] ∧ Ch.Bl v8 Bm [.int .u8 1, .complex .f64 m1 m1', .complex .f64 m2 m2', .complex .f64 m3 m3', .complex .f64 m4 m4', .float .f64 0] ∧ Ch.Bl v8 Bn [.int .u8 1, .complex .f64 n1 n1', .complex .f64 n2 n2', .complex .f64 n3 n3', .complex .f64 n4 n4', .float .f64 0] ∧ Bw w v8) := ⟨KJ2.out.1.bw bb, KJ2.out.2.1.bw bb, KJ2.out.2.2.1.bw bb, bw_trans KJ2.out.2.2.2 bb⟩
 clear bb KJ2
 clear K1
 have cBm0 := (H8.out.2.1).c 0 _ rfl
 have cBm1 := (H8.out.2.1).c 1 _ rfl
 have cBm2 := (H8.out.2.1).c 2 _ rfl
 have cBm3 := (H8.out.2.1).c 3 _ rfl
 have cBm4 := (H8.out.2.1).c 4 _ rfl
 have cBm5 := (H8.out.2.1).c 5 _ rfl
 by_cases h1 : e1 = 0
 case neg =>
  go_wp2
  go_ret
  exact ⟨rfl, H8.out.2.2.2⟩
 subst h1
 go_wp2_with fail
 clear cBm0 cBm1 cBm2 cBm3 cBm4 cBm5
 refine (K2.out _).mono ?_
 rintro e' v9 ⟨rfl, bb⟩
 have H9 : Hid (Ch.Bl v9 Bl [.int .u8 1, .complex .f64 l1 l1', .complex .f64 l2 l2', .complex .f64 l3 l3', .complex .f64 l4 l4', .float .f64 0] ∧ Ch.Bl v9 Bm [.int .u8 1, .complex .f64 m1 m1', .complex .f64 m2 m2', .complex .f64 m3 m3', .complex .f64 m4 m4', .float .f64 0] ∧ Ch.Bl v9 Bn [.int .u8 1, .complex .f64 n1 n1', .complex .f64 n2 n2', .complex .f64 n3 n3', .complex .f64 n4 n4', .float .f64 0] ∧ Bw w v9) := ⟨H8.out.1.bw bb, H8.out.2.1.bw bb, H8.out.2.2.1.bw bb, bw_trans H8.out.2.2.2 bb⟩
 clear bb H8
 clear K2
 have cBn0 := (H9.out.2.2.1).c 0 _ rfl
 have cBn1 := (H9.out.2.2.1).c 1 _ rfl
 have cBn2 := (H9.out.2.2.1).c 2 _ rfl
 have cBn3 := (H9.out.2.2.1).c 3 _ rfl
 have cBn4 := (H9.out.2.2.1).c 4 _ rfl
 have cBn5 := (H9.out.2.2.1).c 5 _ rfl
 by_cases h2 : e2 = 0
 case neg =>
  go_wp2
  go_ret
  exact ⟨rfl, H9.out.2.2.2⟩
 subst h2
 go_wp2_with fail
 clear cBn0 cBn1 cBn2 cBn3 cBn4 cBn5
 refine (K3.out _).mono ?_
 rintro e' v10 ⟨rfl, bb⟩
 have H10 : Hid (Ch.Bl v10 Bl [.int .u8 1, .complex .f64 l1 l1', .complex .f64 l2 l2', .complex .f64 l3 l3', .complex .f64 l4 l4', .float .f64 0] ∧ Ch.Bl v10 Bm [.int .u8 1, .complex .f64 m1 m1', .complex .f64 m2 m2', .complex .f64 m3 m3', .complex .f64 m4 m4', .float .f64 0] ∧ Ch.Bl v10 Bn [.int .u8 1, .complex .f64 n1 n1', .complex .f64 n2 n2', .complex .f64 n3 n3', .complex .f64 n4 n4', .float .f64 0] ∧ Bw w v10) := ⟨H9.out.1.bw bb, H9.out.2.1.bw bb, H9.out.2.2.1.bw bb, bw_trans H9.out.2.2.2 bb⟩
 clear bb H9
 clear K3
 have cBl0 := (H10.out.1).c 0 _ rfl
 have cBl1 := (H10.out.1).c 1 _ rfl
 have cBl2 := (H10.out.1).c 2 _ rfl
 have cBl3 := (H10.out.1).c 3 _ rfl
 have cBl4 := (H10.out.1).c 4 _ rfl
 have cBl5 := (H10.out.1).c 5 _ rfl
 have cBm0 := (H10.out.2.1).c 0 _ rfl
 have cBm1 := (H10.out.2.1).c 1 _ rfl
 have cBm2 := (H10.out.2.1).c 2 _ rfl
 have cBm3 := (H10.out.2.1).c 3 _ rfl
 have cBm4 := (H10.out.2.1).c 4 _ rfl
 have cBm5 := (H10.out.2.1).c 5 _ rfl
 by_cases h3 : e3 = 0
 case neg =>
  go_wp2
  go_ret
  exact ⟨rfl, H10.out.2.2.2⟩
 obtain ⟨p1, p1', p2, p2', p3, p3', p4, p4', q1, q1', q2, q2', q3, q3', q4, q4', r1, r1', r2, r2', r3, r3', r4, r4', s1, s1', s2, s2', s3, s3', s4, s4', b1, b1', b2, b2', b3, b3', b4, b4', o1, o1', o2, o2', o3, o3', o4, o4', t, t', u, u', z, z', hT1, hT2, hT3, hT4, hAL, hTU, hT5, hM1, hM2, hSU, hL1, hL2, hQ1, hQ2⟩ := HR.out (by simp) (by simp) h3
 have T1 := hide hT1
 have T2 := hide hT2
 have T3 := hide hT3
 have T4 := hide hT4
 have AL := hide hAL
 have TU := hide hTU
 have T5 := hide hT5
 have M1 := hide hM1
 have M2 := hide hM2
 have SU := hide hSU
 have L1 := hide hL1
 have L2 := hide hL2
 have Q1 := hide hQ1
 have Q2 := hide hQ2
 clear HR hT1 hT2 hT3 hT4 hAL hTU hT5 hM1 hM2 hSU hL1 hL2 hQ1 hQ2
 subst h3
 go_wp2_with fail
 clear cBl0 cBl1 cBl2 cBl3 cBl4 cBl5
 clear cBm0 cBm1 cBm2 cBm3 cBm4 cBm5
 refine (T1.out _).mono ?_
 rintro e' v11 ⟨rfl, bb⟩
 have H11 : Hid (Ch.Bl v11 Bl [.int .u8 1, .complex .f64 l1 l1', .complex .f64 l2 l2', .complex .f64 l3 l3', .complex .f64 l4 l4', .float .f64 0] ∧ Ch.Bl v11 Bm [.int .u8 1, .complex .f64 m1 m1', .complex .f64 m2 m2', .complex .f64 m3 m3', .complex .f64 m4 m4', .float .f64 0] ∧ Ch.Bl v11 Bn [.int .u8 1, .complex .f64 n1 n1', .complex .f64 n2 n2', .complex .f64 n3 n3', .complex .f64 n4 n4', .float .f64 0] ∧ Bw w v11) := ⟨H10.out.1.bw bb, H10.out.2.1.bw bb, H10.out.2.2.1.bw bb, bw_trans H10.out.2.2.2 bb⟩
 clear bb H10
 clear T1
 have nBm0 := ((H11.out.2.1).bw (bw_alloc v11 (.cells #[.int .u8 1, .complex .f64 p1 p1', .complex .f64 p2 p2', .complex .f64 p3 p3', .complex .f64 p4 p4', .float .f64 0] 33))).c 0 _ rfl
 have nBm1 := ((H11.out.2.1).bw (bw_alloc v11 (.cells #[.int .u8 1, .complex .f64 p1 p1', .complex .f64 p2 p2', .complex .f64 p3 p3', .complex .f64 p4 p4', .float .f64 0] 33))).c 1 _ rfl
 have nBm2 := ((H11.out.2.1).bw (bw_alloc v11 (.cells #[.int .u8 1, .complex .f64 p1 p1', .complex .f64 p2 p2', .complex .f64 p3 p3', .complex .f64 p4 p4', .float .f64 0] 33))).c 2 _ rfl
 have nBm3 := ((H11.out.2.1).bw (bw_alloc v11 (.cells #[.int .u8 1, .complex .f64 p1 p1', .complex .f64 p2 p2', .complex .f64 p3 p3', .complex .f64 p4 p4', .float .f64 0] 33))).c 3 _ rfl
 have nBm4 := ((H11.out.2.1).bw (bw_alloc v11 (.cells #[.int .u8 1, .complex .f64 p1 p1', .complex .f64 p2 p2', .complex .f64 p3 p3', .complex .f64 p4 p4', .float .f64 0] 33))).c 4 _ rfl
 have nBm5 := ((H11.out.2.1).bw (bw_alloc v11 (.cells #[.int .u8 1, .complex .f64 p1 p1', .complex .f64 p2 p2', .complex .f64 p3 p3', .complex .f64 p4 p4', .float .f64 0] 33))).c 5 _ rfl
 have nBn0 := ((H11.out.2.2.1).bw (bw_alloc v11 (.cells #[.int .u8 1, .complex .f64 p1 p1', .complex .f64 p2 p2', .complex .f64 p3 p3', .complex .f64 p4 p4', .float .f64 0] 33))).c 0 _ rfl
 have nBn1 := ((H11.out.2.2.1).bw (bw_alloc v11 (.cells #[.int .u8 1, .complex .f64 p1 p1', .complex .f64 p2 p2', .complex .f64 p3 p3', .complex .f64 p4 p4', .float .f64 0] 33))).c 1 _ rfl
 have nBn2 := ((H11.out.2.2.1).bw (bw_alloc v11 (.cells #[.int .u8 1, .complex .f64 p1 p1', .complex .f64 p2 p2', .complex .f64 p3 p3', .complex .f64 p4 p4', .float .f64 0] 33))).c 2 _ rfl
 have nBn3 := ((H11.out.2.2.1).bw (bw_alloc v11 (.cells #[.int .u8 1, .complex .f64 p1 p1', .complex .f64 p2 p2', .complex .f64 p3 p3', .complex .f64 p4 p4', .float .f64 0] 33))).c 3 _ rfl
 have nBn4 := ((H11.out.2.2.1).bw (bw_alloc v11 (.cells #[.int .u8 1, .complex .f64 p1 p1', .complex .f64 p2 p2', .complex .f64 p3 p3', .complex .f64 p4 p4', .float .f64 0] 33))).c 4 _ rfl
 have nBn5 := ((H11.out.2.2.1).bw (bw_alloc v11 (.cells #[.int .u8 1, .complex .f64 p1 p1', .complex .f64 p2 p2', .complex .f64 p3 p3', .complex .f64 p4 p4', .float .f64 0] 33))).c 5 _ rfl
 have ka := Ch.Bl.new v11 #[.int .u8 1, .complex .f64 p1 p1', .complex .f64 p2 p2', .complex .f64 p3 p3', .complex .f64 p4 p4', .float .f64 0] 33
 have kb := bw_alloc v11 (.cells #[.int .u8 1, .complex .f64 p1 p1', .complex .f64 p2 p2', .complex .f64 p3 p3', .complex .f64 p4 p4', .float .f64 0] 33)
 obtain ⟨v12, hW⟩ : ∃ v, v11.alloc (.cells #[.int .u8 1, .complex .f64 p1 p1', .complex .f64 p2 p2', .complex .f64 p3 p3', .complex .f64 p4 p4', .float .f64 0] 33) = v := ⟨_, rfl⟩
 rw [hW] at ka kb
 obtain ⟨Bp, hB⟩ : ∃ v, v11.heap.size = v := ⟨_, rfl⟩
 rw [hB] at ka
 have H12 : Hid (Ch.Bl v12 Bl [.int .u8 1, .complex .f64 l1 l1', .complex .f64 l2 l2', .complex .f64 l3 l3', .complex .f64 l4 l4', .float .f64 0] ∧ Ch.Bl v12 Bm [.int .u8 1, .complex .f64 m1 m1', .complex .f64 m2 m2', .complex .f64 m3 m3', .complex .f64 m4 m4', .float .f64 0] ∧ Ch.Bl v12 Bn [.int .u8 1, .complex .f64 n1 n1', .complex .f64 n2 n2', .complex .f64 n3 n3', .complex .f64 n4 n4', .float .f64 0] ∧ Ch.Bl v12 Bp [.int .u8 1, .complex .f64 p1 p1', .complex .f64 p2 p2', .complex .f64 p3 p3', .complex .f64 p4 p4', .float .f64 0] ∧ Bw w v12) := ⟨H11.out.1.bw kb, H11.out.2.1.bw kb, H11.out.2.2.1.bw kb, ka, bw_trans H11.out.2.2.2 kb⟩
 have HW := hide hW
 have HB := hide hB
 clear ka kb hW hB H11
 go_wp2_with fail
 rw [HW.out, HB.out]
 clear HW HB nBm0 nBm1 nBm2 nBm3 nBm4 nBm5 nBn0 nBn1 nBn2 nBn3 nBn4 nBn5
 refine (T2.out _).mono ?_
 rintro e' v13 ⟨rfl, bb⟩
 have H13 : Hid (Ch.Bl v13 Bl [.int .u8 1, .complex .f64 l1 l1', .complex .f64 l2 l2', .complex .f64 l3 l3', .complex .f64 l4 l4', .float .f64 0] ∧ Ch.Bl v13 Bm [.int .u8 1, .complex .f64 m1 m1', .complex .f64 m2 m2', .complex .f64 m3 m3', .complex .f64 m4 m4', .float .f64 0] ∧ Ch.Bl v13 Bn [.int .u8 1, .complex .f64 n1 n1', .complex .f64 n2 n2', .complex .f64 n3 n3', .complex .f64 n4 n4', .float .f64 0] ∧ Ch.Bl v13 Bp [.int .u8 1, .complex .f64 p1 p1', .complex .f64 p2 p2', .complex .f64 p3 p3', .complex .f64 p4 p4', .float .f64 0] ∧ Bw w v13) := ⟨H12.out.1.bw bb, H12.out.2.1.bw bb, H12.out.2.2.1.bw bb, H12.out.2.2.2.1.bw bb, bw_trans H12.out.2.2.2.2 bb⟩
 clear bb H12
 clear T2
 have nBp0 := ((H13.out.2.2.2.1).bw (bw_alloc v13 (.cells #[.int .u8 1, .complex .f64 q1 q1', .complex .f64 q2 q2', .complex .f64 q3 q3', .complex .f64 q4 q4', .float .f64 0] 33))).c 0 _ rfl
 have nBp1 := ((H13.out.2.2.2.1).bw (bw_alloc v13 (.cells #[.int .u8 1, .complex .f64 q1 q1', .complex .f64 q2 q2', .complex .f64 q3 q3', .complex .f64 q4 q4', .float .f64 0] 33))).c 1 _ rfl
 have nBp2 := ((H13.out.2.2.2.1).bw (bw_alloc v13 (.cells #[.int .u8 1, .complex .f64 q1 q1', .complex .f64 q2 q2', .complex .f64 q3 q3', .complex .f64 q4 q4', .float .f64 0] 33))).c 2 _ rfl
 have nBp3 := ((H13.out.2.2.2.1).bw (bw_alloc v13 (.cells #[.int .u8 1, .complex .f64 q1 q1', .complex .f64 q2 q2', .complex .f64 q3 q3', .complex .f64 q4 q4', .float .f64 0] 33))).c 3 _ rfl
 have nBp4 := ((H13.out.2.2.2.1).bw (bw_alloc v13 (.cells #[.int .u8 1, .complex .f64 q1 q1', .complex .f64 q2 q2', .complex .f64 q3 q3', .complex .f64 q4 q4', .float .f64 0] 33))).c 4 _ rfl
 have nBp5 := ((H13.out.2.2.2.1).bw (bw_alloc v13 (.cells #[.int .u8 1, .complex .f64 q1 q1', .complex .f64 q2 q2', .complex .f64 q3 q3', .complex .f64 q4 q4', .float .f64 0] 33))).c 5 _ rfl
 have nBn0 := ((H13.out.2.2.1).bw (bw_alloc v13 (.cells #[.int .u8 1, .complex .f64 q1 q1', .complex .f64 q2 q2', .complex .f64 q3 q3', .complex .f64 q4 q4', .float .f64 0] 33))).c 0 _ rfl
 have nBn1 := ((H13.out.2.2.1).bw (bw_alloc v13 (.cells #[.int .u8 1, .complex .f64 q1 q1', .complex .f64 q2 q2', .complex .f64 q3 q3', .complex .f64 q4 q4', .float .f64 0] 33))).c 1 _ rfl
 have nBn2 := ((H13.out.2.2.1).bw (bw_alloc v13 (.cells #[.int .u8 1, .complex .f64 q1 q1', .complex .f64 q2 q2', .complex .f64 q3 q3', .complex .f64 q4 q4', .float .f64 0] 33))).c 2 _ rfl
 have nBn3 := ((H13.out.2.2.1).bw (bw_alloc v13 (.cells #[.int .u8 1, .complex .f64 q1 q1', .complex .f64 q2 q2', .complex .f64 q3 q3', .complex .f64 q4 q4', .float .f64 0] 33))).c 3 _ rfl
 have nBn4 := ((H13.out.2.2.1).bw (bw_alloc v13 (.cells #[.int .u8 1, .complex .f64 q1 q1', .complex .f64 q2 q2', .complex .f64 q3 q3', .complex .f64 q4 q4', .float .f64 0] 33))).c 4 _ rfl
 have nBn5 := ((H13.out.2.2.1).bw (bw_alloc v13 (.cells #[.int .u8 1, .complex .f64 q1 q1', .complex .f64 q2 q2', .complex .f64 q3 q3', .complex .f64 q4 q4', .float .f64 0] 33))).c 5 _ rfl
 have ka := Ch.Bl.new v13 #[.int .u8 1, .complex .f64 q1 q1', .complex .f64 q2 q2', .complex .f64 q3 q3', .complex .f64 q4 q4', .float .f64 0] 33
 have kb := bw_alloc v13 (.cells #[.int .u8 1, .complex .f64 q1 q1', .complex .f64 q2 q2', .complex .f64 q3 q3', .complex .f64 q4 q4', .float .f64 0] 33)
 obtain ⟨v14, hW⟩ : ∃ v, v13.alloc (.cells #[.int .u8 1, .complex .f64 q1 q1', .complex .f64 q2 q2', .complex .f64 q3 q3', .complex .f64 q4 q4', .float .f64 0] 33) = v := ⟨_, rfl⟩
 rw [hW] at ka kb
 obtain ⟨Bq, hB⟩ : ∃ v, v13.heap.size = v := ⟨_, rfl⟩
 rw [hB] at ka
 have H14 : Hid (Ch.Bl v14 Bl [.int .u8 1, .complex .f64 l1 l1', .complex .f64 l2 l2', .complex .f64 l3 l3', .complex .f64 l4 l4', .float .f64 0] ∧ Ch.Bl v14 Bm [.int .u8 1, .complex .f64 m1 m1', .complex .f64 m2 m2', .complex .f64 m3 m3', .complex .f64 m4 m4', .float .f64 0] ∧ Ch.Bl v14 Bn [.int .u8 1, .complex .f64 n1 n1', .complex .f64 n2 n2', .complex .f64 n3 n3', .complex .f64 n4 n4', .float .f64 0] ∧ Ch.Bl v14 Bp [.int .u8 1, .complex .f64 p1 p1', .complex .f64 p2 p2', .complex .f64 p3 p3', .complex .f64 p4 p4', .float .f64 0] ∧ Ch.Bl v14 Bq [.int .u8 1, .complex .f64 q1 q1', .complex .f64 q2 q2', .complex .f64 q3 q3', .complex .f64 q4 q4', .float .f64 0] ∧ Bw w v14) := ⟨H13.out.1.bw kb, H13.out.2.1.bw kb, H13.out.2.2.1.bw kb, H13.out.2.2.2.1.bw kb, ka, bw_trans H13.out.2.2.2.2 kb⟩
 have HW := hide hW
 have HB := hide hB
 clear ka kb hW hB H13
 go_wp2_with fail
 rw [HW.out, HB.out]
 clear HW HB nBp0 nBp1 nBp2 nBp3 nBp4 nBp5 nBn0 nBn1 nBn2 nBn3 nBn4 nBn5
 refine (T3.out _).mono ?_
 rintro e' v15 ⟨rfl, bb⟩
 have H15 : Hid (Ch.Bl v15 Bl [.int .u8 1, .complex .f64 l1 l1', .complex .f64 l2 l2', .complex .f64 l3 l3', .complex .f64 l4 l4', .float .f64 0] ∧ Ch.Bl v15 Bm [.int .u8 1, .complex .f64 m1 m1', .complex .f64 m2 m2', .complex .f64 m3 m3', .complex .f64 m4 m4', .float .f64 0] ∧ Ch.Bl v15 Bn [.int .u8 1, .complex .f64 n1 n1', .complex .f64 n2 n2', .complex .f64 n3 n3', .complex .f64 n4 n4', .float .f64 0] ∧ Ch.Bl v15 Bp [.int .u8 1, .complex .f64 p1 p1', .complex .f64 p2 p2', .complex .f64 p3 p3', .complex .f64 p4 p4', .float .f64 0] ∧ Ch.Bl v15 Bq [.int .u8 1, .complex .f64 q1 q1', .complex .f64 q2 q2', .complex .f64 q3 q3', .complex .f64 q4 q4', .float .f64 0] ∧ Bw w v15) := ⟨H14.out.1.bw bb, H14.out.2.1.bw bb, H14.out.2.2.1.bw bb, H14.out.2.2.2.1.bw bb, H14.out.2.2.2.2.1.bw bb, bw_trans H14.out.2.2.2.2.2 bb⟩
 clear bb H14
 clear T3
 have nBl0 := ((H15.out.1).bw (bw_alloc v15 (.cells #[.int .u8 1, .complex .f64 r1 r1', .complex .f64 r2 r2', .complex .f64 r3 r3', .complex .f64 r4 r4', .float .f64 0] 33))).c 0 _ rfl
 have nBl1 := ((H15.out.1).bw (bw_alloc v15 (.cells #[.int .u8 1, .complex .f64 r1 r1', .complex .f64 r2 r2', .complex .f64 r3 r3', .complex .f64 r4 r4', .float .f64 0] 33))).c 1 _ rfl
 have nBl2 := ((H15.out.1).bw (bw_alloc v15 (.cells #[.int .u8 1, .complex .f64 r1 r1', .complex .f64 r2 r2', .complex .f64 r3 r3', .complex .f64 r4 r4', .float .f64 0] 33))).c 2 _ rfl
 have nBl3 := ((H15.out.1).bw (bw_alloc v15 (.cells #[.int .u8 1, .complex .f64 r1 r1', .complex .f64 r2 r2', .complex .f64 r3 r3', .complex .f64 r4 r4', .float .f64 0] 33))).c 3 _ rfl
 have nBl4 := ((H15.out.1).bw (bw_alloc v15 (.cells #[.int .u8 1, .complex .f64 r1 r1', .complex .f64 r2 r2', .complex .f64 r3 r3', .complex .f64 r4 r4', .float .f64 0] 33))).c 4 _ rfl
 have nBl5 := ((H15.out.1).bw (bw_alloc v15 (.cells #[.int .u8 1, .complex .f64 r1 r1', .complex .f64 r2 r2', .complex .f64 r3 r3', .complex .f64 r4 r4', .float .f64 0] 33))).c 5 _ rfl
 have nBq0 := ((H15.out.2.2.2.2.1).bw (bw_alloc v15 (.cells #[.int .u8 1, .complex .f64 r1 r1', .complex .f64 r2 r2', .complex .f64 r3 r3', .complex .f64 r4 r4', .float .f64 0] 33))).c 0 _ rfl
 have nBq1 := ((H15.out.2.2.2.2.1).bw (bw_alloc v15 (.cells #[.int .u8 1, .complex .f64 r1 r1', .complex .f64 r2 r2', .complex .f64 r3 r3', .complex .f64 r4 r4', .float .f64 0] 33))).c 1 _ rfl
 have nBq2 := ((H15.out.2.2.2.2.1).bw (bw_alloc v15 (.cells #[.int .u8 1, .complex .f64 r1 r1', .complex .f64 r2 r2', .complex .f64 r3 r3', .complex .f64 r4 r4', .float .f64 0] 33))).c 2 _ rfl
 have nBq3 := ((H15.out.2.2.2.2.1).bw (bw_alloc v15 (.cells #[.int .u8 1, .complex .f64 r1 r1', .complex .f64 r2 r2', .complex .f64 r3 r3', .complex .f64 r4 r4', .float .f64 0] 33))).c 3 _ rfl
 have nBq4 := ((H15.out.2.2.2.2.1).bw (bw_alloc v15 (.cells #[.int .u8 1, .complex .f64 r1 r1', .complex .f64 r2 r2', .complex .f64 r3 r3', .complex .f64 r4 r4', .float .f64 0] 33))).c 4 _ rfl
 have nBq5 := ((H15.out.2.2.2.2.1).bw (bw_alloc v15 (.cells #[.int .u8 1, .complex .f64 r1 r1', .complex .f64 r2 r2', .complex .f64 r3 r3', .complex .f64 r4 r4', .float .f64 0] 33))).c 5 _ rfl
 have ka := Ch.Bl.new v15 #[.int .u8 1, .complex .f64 r1 r1', .complex .f64 r2 r2', .complex .f64 r3 r3', .complex .f64 r4 r4', .float .f64 0] 33
 have kb := bw_alloc v15 (.cells #[.int .u8 1, .complex .f64 r1 r1', .complex .f64 r2 r2', .complex .f64 r3 r3', .complex .f64 r4 r4', .float .f64 0] 33)
 obtain ⟨v16, hW⟩ : ∃ v, v15.alloc (.cells #[.int .u8 1, .complex .f64 r1 r1', .complex .f64 r2 r2', .complex .f64 r3 r3', .complex .f64 r4 r4', .float .f64 0] 33) = v := ⟨_, rfl⟩
 rw [hW] at ka kb
 obtain ⟨Br, hB⟩ : ∃ v, v15.heap.size = v := ⟨_, rfl⟩
 rw [hB] at ka
 have H16 : Hid (Ch.Bl v16 Bl [.int .u8 1, .complex .f64 l1 l1', .complex .f64 l2 l2', .complex .f64 l3 l3', .complex .f64 l4 l4', .float .f64 0] ∧ Ch.Bl v16 Bm [.int .u8 1, .complex .f64 m1 m1', .complex .f64 m2 m2', .complex .f64 m3 m3', .complex .f64 m4 m4', .float .f64 0] ∧ Ch.Bl v16 Bn [.int .u8 1, .complex .f64 n1 n1', .complex .f64 n2 n2', .complex .f64 n3 n3', .complex .f64 n4 n4', .float .f64 0] ∧ Ch.Bl v16 Bp [.int .u8 1, .complex .f64 p1 p1', .complex .f64 p2 p2', .complex .f64 p3 p3', .complex .f64 p4 p4', .float .f64 0] ∧ Ch.Bl v16 Bq [.int .u8 1, .complex .f64 q1 q1', .complex .f64 q2 q2', .complex .f64 q3 q3', .complex .f64 q4 q4', .float .f64 0] ∧ Ch.Bl v16 Br [.int .u8 1, .complex .f64 r1 r1', .complex .f64 r2 r2', .complex .f64 r3 r3', .complex .f64 r4 r4', .float .f64 0] ∧ Bw w v16) := ⟨H15.out.1.bw kb, H15.out.2.1.bw kb, H15.out.2.2.1.bw kb, H15.out.2.2.2.1.bw kb, H15.out.2.2.2.2.1.bw kb, ka, bw_trans H15.out.2.2.2.2.2 kb⟩
 have HW := hide hW
 have HB := hide hB
 clear ka kb hW hB H15
 go_wp2_with fail
 rw [HW.out, HB.out]
 clear HW HB nBl0 nBl1 nBl2 nBl3 nBl4 nBl5 nBq0 nBq1 nBq2 nBq3 nBq4 nBq5
 refine (T4.out _).mono ?_
 rintro e' v17 ⟨rfl, bb⟩
 have H17 : Hid (Ch.Bl v17 Bl [.int .u8 1, .complex .f64 l1 l1', .complex .f64 l2 l2', .complex .f64 l3 l3', .complex .f64 l4 l4', .float .f64 0] ∧ Ch.Bl v17 Bm [.int .u8 1, .complex .f64 m1 m1', .complex .f64 m2 m2', .complex .f64 m3 m3', .complex .f64 m4 m4', .float .f64 0] ∧ Ch.Bl v17 Bn [.int .u8 1, .complex .f64 n1 n1', .complex .f64 n2 n2', .complex .f64 n3 n3', .complex .f64 n4 n4', .float .f64 0] ∧ Ch.Bl v17 Bp [.int .u8 1, .complex .f64 p1 p1', .complex .f64 p2 p2', .complex .f64 p3 p3', .complex .f64 p4 p4', .float .f64 0] ∧ Ch.Bl v17 Bq [.int .u8 1, .complex .f64 q1 q1', .complex .f64 q2 q2', .complex .f64 q3 q3', .complex .f64 q4 q4', .float .f64 0] ∧ Ch.Bl v17 Br [.int .u8 1, .complex .f64 r1 r1', .complex .f64 r2 r2', .complex .f64 r3 r3', .complex .f64 r4 r4', .float .f64 0] ∧ Bw w v17) := ⟨H16.out.1.bw bb, H16.out.2.1.bw bb, H16.out.2.2.1.bw bb, H16.out.2.2.2.1.bw bb, H16.out.2.2.2.2.1.bw bb, H16.out.2.2.2.2.2.1.bw bb, bw_trans H16.out.2.2.2.2.2.2 bb⟩
 clear bb H16
 clear T4
 have nBr0 := ((H17.out.2.2.2.2.2.1).bw (bw_alloc v17 (.cells #[.int .u8 1, .complex .f64 s1 s1', .complex .f64 s2 s2', .complex .f64 s3 s3', .complex .f64 s4 s4', .float .f64 0] 33))).c 0 _ rfl
 have nBr1 := ((H17.out.2.2.2.2.2.1).bw (bw_alloc v17 (.cells #[.int .u8 1, .complex .f64 s1 s1', .complex .f64 s2 s2', .complex .f64 s3 s3', .complex .f64 s4 s4', .float .f64 0] 33))).c 1 _ rfl
 have nBr2 := ((H17.out.2.2.2.2.2.1).bw (bw_alloc v17 (.cells #[.int .u8 1, .complex .f64 s1 s1', .complex .f64 s2 s2', .complex .f64 s3 s3', .complex .f64 s4 s4', .float .f64 0] 33))).c 2 _ rfl
 have nBr3 := ((H17.out.2.2.2.2.2.1).bw (bw_alloc v17 (.cells #[.int .u8 1, .complex .f64 s1 s1', .complex .f64 s2 s2', .complex .f64 s3 s3', .complex .f64 s4 s4', .float .f64 0] 33))).c 3 _ rfl
 have nBr4 := ((H17.out.2.2.2.2.2.1).bw (bw_alloc v17 (.cells #[.int .u8 1, .complex .f64 s1 s1', .complex .f64 s2 s2', .complex .f64 s3 s3', .complex .f64 s4 s4', .float .f64 0] 33))).c 4 _ rfl
 have nBr5 := ((H17.out.2.2.2.2.2.1).bw (bw_alloc v17 (.cells #[.int .u8 1, .complex .f64 s1 s1', .complex .f64 s2 s2', .complex .f64 s3 s3', .complex .f64 s4 s4', .float .f64 0] 33))).c 5 _ rfl
 have ka := Ch.Bl.new v17 #[.int .u8 1, .complex .f64 s1 s1', .complex .f64 s2 s2', .complex .f64 s3 s3', .complex .f64 s4 s4', .float .f64 0] 33
 have kb := bw_alloc v17 (.cells #[.int .u8 1, .complex .f64 s1 s1', .complex .f64 s2 s2', .complex .f64 s3 s3', .complex .f64 s4 s4', .float .f64 0] 33)
 obtain ⟨v18, hW⟩ : ∃ v, v17.alloc (.cells #[.int .u8 1, .complex .f64 s1 s1', .complex .f64 s2 s2', .complex .f64 s3 s3', .complex .f64 s4 s4', .float .f64 0] 33) = v := ⟨_, rfl⟩
 rw [hW] at ka kb
 obtain ⟨Bs, hB⟩ : ∃ v, v17.heap.size = v := ⟨_, rfl⟩
 rw [hB] at ka
 have H18 : Hid (Ch.Bl v18 Bl [.int .u8 1, .complex .f64 l1 l1', .complex .f64 l2 l2', .complex .f64 l3 l3', .complex .f64 l4 l4', .float .f64 0] ∧ Ch.Bl v18 Bm [.int .u8 1, .complex .f64 m1 m1', .complex .f64 m2 m2', .complex .f64 m3 m3', .complex .f64 m4 m4', .float .f64 0] ∧ Ch.Bl v18 Bn [.int .u8 1, .complex .f64 n1 n1', .complex .f64 n2 n2', .complex .f64 n3 n3', .complex .f64 n4 n4', .float .f64 0] ∧ Ch.Bl v18 Bp [.int .u8 1, .complex .f64 p1 p1', .complex .f64 p2 p2', .complex .f64 p3 p3', .complex .f64 p4 p4', .float .f64 0] ∧ Ch.Bl v18 Bq [.int .u8 1, .complex .f64 q1 q1', .complex .f64 q2 q2', .complex .f64 q3 q3', .complex .f64 q4 q4', .float .f64 0] ∧ Ch.Bl v18 Br [.int .u8 1, .complex .f64 r1 r1', .complex .f64 r2 r2', .complex .f64 r3 r3', .complex .f64 r4 r4', .float .f64 0] ∧ Ch.Bl v18 Bs [.int .u8 1, .complex .f64 s1 s1', .complex .f64 s2 s2', .complex .f64 s3 s3', .complex .f64 s4 s4', .float .f64 0] ∧ Bw w v18) := ⟨H17.out.1.bw kb, H17.out.2.1.bw kb, H17.out.2.2.1.bw kb, H17.out.2.2.2.1.bw kb, H17.out.2.2.2.2.1.bw kb, H17.out.2.2.2.2.2.1.bw kb, ka, bw_trans H17.out.2.2.2.2.2.2 kb⟩
 have HW := hide hW
 have HB := hide hB
 clear ka kb hW hB H17
 go_wp2_with fail
 rw [HW.out, HB.out]
 clear HW HB nBr0 nBr1 nBr2 nBr3 nBr4 nBr5
 refine (AL.out _).mono ?_
 rintro e' v19 ⟨rfl, bb⟩
 have H19 : Hid (Ch.Bl v19 Bl [.int .u8 1, .complex .f64 l1 l1', .complex .f64 l2 l2', .complex .f64 l3 l3', .complex .f64 l4 l4', .float .f64 0] ∧ Ch.Bl v19 Bm [.int .u8 1, .complex .f64 m1 m1', .complex .f64 m2 m2', .complex .f64 m3 m3', .complex .f64 m4 m4', .float .f64 0] ∧ Ch.Bl v19 Bn [.int .u8 1, .complex .f64 n1 n1', .complex .f64 n2 n2', .complex .f64 n3 n3', .complex .f64 n4 n4', .float .f64 0] ∧ Ch.Bl v19 Bp [.int .u8 1, .complex .f64 p1 p1', .complex .f64 p2 p2', .complex .f64 p3 p3', .complex .f64 p4 p4', .float .f64 0] ∧ Ch.Bl v19 Bq [.int .u8 1, .complex .f64 q1 q1', .complex .f64 q2 q2', .complex .f64 q3 q3', .complex .f64 q4 q4', .float .f64 0] ∧ Ch.Bl v19 Br [.int .u8 1, .complex .f64 r1 r1', .complex .f64 r2 r2', .complex .f64 r3 r3', .complex .f64 r4 r4', .float .f64 0] ∧ Ch.Bl v19 Bs [.int .u8 1, .complex .f64 s1 s1', .complex .f64 s2 s2', .complex .f64 s3 s3', .complex .f64 s4 s4', .float .f64 0] ∧ Bw w v19) := ⟨H18.out.1.bw bb, H18.out.2.1.bw bb, H18.out.2.2.1.bw bb, H18.out.2.2.2.1.bw bb, H18.out.2.2.2.2.1.bw bb, H18.out.2.2.2.2.2.1.bw bb, H18.out.2.2.2.2.2.2.1.bw bb, bw_trans H18.out.2.2.2.2.2.2.2 bb⟩
 clear bb H18
 clear AL
 have KH19 : Hid (Ch.Bl v19 Bl [.int .u8 1, .complex .f64 l1 l1', .complex .f64 l2 l2', .complex .f64 l3 l3', .complex .f64 l4 l4', .float .f64 0] ∧ Bw w v19) := ⟨H19.out.1, H19.out.2.2.2.2.2.2.2⟩
 clear H19
 have cBl0 := (KH19.out.1).c 0 _ rfl
 have cBl1 := (KH19.out.1).c 1 _ rfl
 have cBl2 := (KH19.out.1).c 2 _ rfl
 have cBl3 := (KH19.out.1).c 3 _ rfl
 have cBl4 := (KH19.out.1).c 4 _ rfl
 have cBl5 := (KH19.out.1).c 5 _ rfl
 go_wp2_with fail
 clear cBl0 cBl1 cBl2 cBl3 cBl4 cBl5
 refine (TU.out _).mono ?_
 rintro e' v20 ⟨rfl, bb⟩
 have H20 : Hid (Ch.Bl v20 Bl [.int .u8 1, .complex .f64 l1 l1', .complex .f64 l2 l2', .complex .f64 l3 l3', .complex .f64 l4 l4', .float .f64 0] ∧ Bw w v20) := ⟨KH19.out.1.bw bb, bw_trans KH19.out.2 bb⟩
 clear bb KH19
 clear TU
 have nBl0 := ((H20.out.1).bw (bw_alloc v20 (.cells #[.int .u8 1, .complex .f64 b1 b1', .complex .f64 b2 b2', .complex .f64 b3 b3', .complex .f64 b4 b4', .float .f64 0] 33))).c 0 _ rfl
 have nBl1 := ((H20.out.1).bw (bw_alloc v20 (.cells #[.int .u8 1, .complex .f64 b1 b1', .complex .f64 b2 b2', .complex .f64 b3 b3', .complex .f64 b4 b4', .float .f64 0] 33))).c 1 _ rfl
 have nBl2 := ((H20.out.1).bw (bw_alloc v20 (.cells #[.int .u8 1, .complex .f64 b1 b1', .complex .f64 b2 b2', .complex .f64 b3 b3', .complex .f64 b4 b4', .float .f64 0] 33))).c 2 _ rfl
 have nBl3 := ((H20.out.1).bw (bw_alloc v20 (.cells #[.int .u8 1, .complex .f64 b1 b1', .complex .f64 b2 b2', .complex .f64 b3 b3', .complex .f64 b4 b4', .float .f64 0] 33))).c 3 _ rfl
 have nBl4 := ((H20.out.1).bw (bw_alloc v20 (.cells #[.int .u8 1, .complex .f64 b1 b1', .complex .f64 b2 b2', .complex .f64 b3 b3', .complex .f64 b4 b4', .float .f64 0] 33))).c 4 _ rfl
 have nBl5 := ((H20.out.1).bw (bw_alloc v20 (.cells #[.int .u8 1, .complex .f64 b1 b1', .complex .f64 b2 b2', .complex .f64 b3 b3', .complex .f64 b4 b4', .float .f64 0] 33))).c 5 _ rfl
 have ka := Ch.Bl.new v20 #[.int .u8 1, .complex .f64 b1 b1', .complex .f64 b2 b2', .complex .f64 b3 b3', .complex .f64 b4 b4', .float .f64 0] 33
 have kb := bw_alloc v20 (.cells #[.int .u8 1, .complex .f64 b1 b1', .complex .f64 b2 b2', .complex .f64 b3 b3', .complex .f64 b4 b4', .float .f64 0] 33)
 obtain ⟨v21, hW⟩ : ∃ v, v20.alloc (.cells #[.int .u8 1, .complex .f64 b1 b1', .complex .f64 b2 b2', .complex .f64 b3 b3', .complex .f64 b4 b4', .float .f64 0] 33) = v := ⟨_, rfl⟩
 rw [hW] at ka kb
 obtain ⟨Bb, hB⟩ : ∃ v, v20.heap.size = v := ⟨_, rfl⟩
 rw [hB] at ka
 have H21 : Hid (Ch.Bl v21 Bl [.int .u8 1, .complex .f64 l1 l1', .complex .f64 l2 l2', .complex .f64 l3 l3', .complex .f64 l4 l4', .float .f64 0] ∧ Ch.Bl v21 Bb [.int .u8 1, .complex .f64 b1 b1', .complex .f64 b2 b2', .complex .f64 b3 b3', .complex .f64 b4 b4', .float .f64 0] ∧ Bw w v21) := ⟨H20.out.1.bw kb, ka, bw_trans H20.out.2 kb⟩
 have HW := hide hW
 have HB := hide hB
 clear ka kb hW hB H20
 go_wp2_with fail
 rw [HW.out, HB.out]
 clear HW HB nBl0 nBl1 nBl2 nBl3 nBl4 nBl5
 refine (T5.out _).mono ?_
 rintro e' v22 ⟨rfl, bb⟩
 have H22 : Hid (Ch.Bl v22 Bl [.int .u8 1, .complex .f64 l1 l1', .complex .f64 l2 l2', .complex .f64 l3 l3', .complex .f64 l4 l4', .float .f64 0] ∧ Ch.Bl v22 Bb [.int .u8 1, .complex .f64 b1 b1', .complex .f64 b2 b2', .complex .f64 b3 b3', .complex .f64 b4 b4', .float .f64 0] ∧ Bw w v22) := ⟨H21.out.1.bw bb, H21.out.2.1.bw bb, bw_trans H21.out.2.2 bb⟩
 clear bb H21
 clear T5
 have ka := Ch.Bl.new v22 #[.int .u8 1, .complex .f64 o1 o1', .complex .f64 o2 o2', .complex .f64 o3 o3', .complex .f64 o4 o4', .float .f64 0] 33
 have kb := bw_alloc v22 (.cells #[.int .u8 1, .complex .f64 o1 o1', .complex .f64 o2 o2', .complex .f64 o3 o3', .complex .f64 o4 o4', .float .f64 0] 33)
 obtain ⟨v23, hW⟩ : ∃ v, v22.alloc (.cells #[.int .u8 1, .complex .f64 o1 o1', .complex .f64 o2 o2', .complex .f64 o3 o3', .complex .f64 o4 o4', .float .f64 0] 33) = v := ⟨_, rfl⟩
 rw [hW] at ka kb
 obtain ⟨Bo, hB⟩ : ∃ v, v22.heap.size = v := ⟨_, rfl⟩
 rw [hB] at ka
 have H23 : Hid (Ch.Bl v23 Bl [.int .u8 1, .complex .f64 l1 l1', .complex .f64 l2 l2', .complex .f64 l3 l3', .complex .f64 l4 l4', .float .f64 0] ∧ Ch.Bl v23 Bb [.int .u8 1, .complex .f64 b1 b1', .complex .f64 b2 b2', .complex .f64 b3 b3', .complex .f64 b4 b4', .float .f64 0] ∧ Ch.Bl v23 Bo [.int .u8 1, .complex .f64 o1 o1', .complex .f64 o2 o2', .complex .f64 o3 o3', .complex .f64 o4 o4', .float .f64 0] ∧ Bw w v23) := ⟨H22.out.1.bw kb, H22.out.2.1.bw kb, ka, bw_trans H22.out.2.2 kb⟩
 have HW := hide hW
 have HB := hide hB
 clear ka kb hW hB H22
 go_wp2_with fail
 rw [HW.out, HB.out]
 clear HW HB 
 refine wp_region_K (fun w' => Ch.Bl w' Bl [.int .u8 1, .complex .f64 l1 l1', .complex .f64 l2 l2', .complex .f64 l3 l3', .complex .f64 l4 l4', .float .f64 0]) 11 12 #[false, false, false, false, false, false, false, false, false, false, false, false] (by kernel_rfl) (by kernel_rfl) (by kernel_rfl) ?_
 have GD : Hid (Ch.Bl v23.drew Bl [.int .u8 1, .complex .f64 l1 l1', .complex .f64 l2 l2', .complex .f64 l3 l3', .complex .f64 l4 l4', .float .f64 0] ∧ Ch.Bl v23.drew Bb [.int .u8 1, .complex .f64 b1 b1', .complex .f64 b2 b2', .complex .f64 b3 b3', .complex .f64 b4 b4', .float .f64 0] ∧ Ch.Bl v23.drew Bo [.int .u8 1, .complex .f64 o1 o1', .complex .f64 o2 o2', .complex .f64 o3 o3', .complex .f64 o4 o4', .float .f64 0] ∧ Bw w v23.drew) := ⟨H23.out.1.bw (Bw.refl v23).drew, H23.out.2.1.bw (Bw.refl v23).drew, H23.out.2.2.1.bw (Bw.refl v23).drew, bw_trans H23.out.2.2.2 (Bw.refl v23).drew⟩
 generalize v23.drew = WD at *
 have SL := GD.out.1
 refine wpAnyK_take 0 116 (v := ?v0) rfl (by kernel_rfl) (by kernel_rfl) (by kernel_rfl) (by kernel_rfl) (by kernel_rfl) (fun _ _ _ h => h) rfl (Or.inl ⟨by rfl, ?h0⟩) (by assumption) ?r0
 case h0 => (intro w hSw; have d0 := hSw.c 0 _ rfl; have d1 := hSw.c 1 _ rfl; have d2 := hSw.c 2 _ rfl; have d3 := hSw.c 3 _ rfl; have d4 := hSw.c 4 _ rfl; have d5 := hSw.c 5 _ rfl; go_simp; with_reducible rfl)
 simp only [Act.put, List.setIfInBounds_toArray, List.set_cons_zero, List.set_cons_succ]
 refine wpAnyK_take 1 117 (v := ?v1) rfl (by kernel_rfl) (by kernel_rfl) (by kernel_rfl) (by kernel_rfl) (by kernel_rfl) (fun _ _ _ h => h) rfl (Or.inl ⟨by rfl, ?h1⟩) (by assumption) ?r1
 case h1 => (intro w hSw; have d0 := hSw.c 0 _ rfl; have d1 := hSw.c 1 _ rfl; have d2 := hSw.c 2 _ rfl; have d3 := hSw.c 3 _ rfl; have d4 := hSw.c 4 _ rfl; have d5 := hSw.c 5 _ rfl; go_simp; with_reducible rfl)
 simp only [Act.put, List.setIfInBounds_toArray, List.set_cons_zero, List.set_cons_succ]
 refine wpAnyK_take 2 118 (v := ?v2) rfl (by kernel_rfl) (by kernel_rfl) (by kernel_rfl) (by kernel_rfl) (by kernel_rfl) (fun _ _ _ h => h) rfl (Or.inl ⟨by rfl, ?h2⟩) (by assumption) ?r2
 case h2 => (intro w hSw; have d0 := hSw.c 0 _ rfl; have d1 := hSw.c 1 _ rfl; have d2 := hSw.c 2 _ rfl; have d3 := hSw.c 3 _ rfl; have d4 := hSw.c 4 _ rfl; have d5 := hSw.c 5 _ rfl; go_simp; with_reducible rfl)
 simp only [Act.put, List.setIfInBounds_toArray, List.set_cons_zero, List.set_cons_succ]
 refine wpAnyK_take 3 119 (v := ?v3) rfl (by kernel_rfl) (by kernel_rfl) (by kernel_rfl) (by kernel_rfl) (by kernel_rfl) (fun _ _ _ h => h) rfl (Or.inl ⟨by rfl, ?h3⟩) (by assumption) ?r3
 case h3 => (intro w hSw; have d0 := hSw.c 0 _ rfl; have d1 := hSw.c 1 _ rfl; have d2 := hSw.c 2 _ rfl; have d3 := hSw.c 3 _ rfl; have d4 := hSw.c 4 _ rfl; have d5 := hSw.c 5 _ rfl; go_simp; with_reducible rfl)
 simp only [Act.put, List.setIfInBounds_toArray, List.set_cons_zero, List.set_cons_succ]
 refine wpAnyK_take 5 121 (v := ?v5) rfl (by kernel_rfl) (by kernel_rfl) (by kernel_rfl) (by kernel_rfl) (by kernel_rfl) (fun _ _ _ h => h) rfl (Or.inl ⟨by rfl, ?h5⟩) (by assumption) ?r5
 case h5 => (intro w hSw; have d0 := hSw.c 0 _ rfl; have d1 := hSw.c 1 _ rfl; have d2 := hSw.c 2 _ rfl; have d3 := hSw.c 3 _ rfl; have d4 := hSw.c 4 _ rfl; have d5 := hSw.c 5 _ rfl; go_simp; with_reducible rfl)
 simp only [Act.put, List.setIfInBounds_toArray, List.set_cons_zero, List.set_cons_succ]
 refine wpAnyK_take 6 122 (v := ?v6) rfl (by kernel_rfl) (by kernel_rfl) (by kernel_rfl) (by kernel_rfl) (by kernel_rfl) (fun _ _ _ h => h) rfl (Or.inl ⟨by rfl, ?h6⟩) (by assumption) ?r6
 case h6 => (intro w hSw; have d0 := hSw.c 0 _ rfl; have d1 := hSw.c 1 _ rfl; have d2 := hSw.c 2 _ rfl; have d3 := hSw.c 3 _ rfl; have d4 := hSw.c 4 _ rfl; have d5 := hSw.c 5 _ rfl; go_simp; with_reducible rfl)
 simp only [Act.put, List.setIfInBounds_toArray, List.set_cons_zero, List.set_cons_succ]
 refine wpAnyK_take 7 123 (v := ?v7) rfl (by kernel_rfl) (by kernel_rfl) (by kernel_rfl) (by kernel_rfl) (by kernel_rfl) (fun _ _ _ h => h) rfl (Or.inl ⟨by rfl, ?h7⟩) (by assumption) ?r7
 case h7 => (intro w hSw; have d0 := hSw.c 0 _ rfl; have d1 := hSw.c 1 _ rfl; have d2 := hSw.c 2 _ rfl; have d3 := hSw.c 3 _ rfl; have d4 := hSw.c 4 _ rfl; have d5 := hSw.c 5 _ rfl; go_simp; with_reducible rfl)
 simp only [Act.put, List.setIfInBounds_toArray, List.set_cons_zero, List.set_cons_succ]
 refine wpAnyK_take 8 124 (v := ?v8) rfl (by kernel_rfl) (by kernel_rfl) (by kernel_rfl) (by kernel_rfl) (by kernel_rfl) (fun _ _ _ h => h) rfl (Or.inl ⟨by rfl, ?h8⟩) (by assumption) ?r8
 case h8 => (intro w hSw; have d0 := hSw.c 0 _ rfl; have d1 := hSw.c 1 _ rfl; have d2 := hSw.c 2 _ rfl; have d3 := hSw.c 3 _ rfl; have d4 := hSw.c 4 _ rfl; have d5 := hSw.c 5 _ rfl; go_simp; with_reducible rfl)
 simp only [Act.put, List.setIfInBounds_toArray, List.set_cons_zero, List.set_cons_succ]
 refine wpAnyK_one 4 (by kernel_rfl) rfl (fun K hK => ?_)
 go_simp
 refine (M1.out _).mono ?_
 rintro e' w' ⟨rfl, rfl⟩
 refine hK.out _ _ (fun _ _ => SL) ?_
 clear hK K
 simp only [List.setIfInBounds_toArray, List.set_cons_zero, List.set_cons_succ]
 refine wpAnyK_one 9 (by kernel_rfl) rfl (fun K hK => ?_)
 go_simp
 refine (M2.out _).mono ?_
 rintro e' w' ⟨rfl, rfl⟩
 refine hK.out _ _ (fun _ _ => SL) ?_
 clear hK K
 simp only [List.setIfInBounds_toArray, List.set_cons_zero, List.set_cons_succ]
 refine wpAnyK_one 10 (by kernel_rfl) rfl (fun K hK => ?_)
 go_simp
 refine (SU.out _).mono ?_
 rintro e' w' ⟨rfl, rfl⟩
 refine hK.out _ _ (fun _ _ => SL) ?_
 clear hK K
 simp only [List.setIfInBounds_toArray, List.set_cons_zero, List.set_cons_succ]
 refine wpAnyK_one 11 (by kernel_rfl) rfl (fun K hK => ?_)
 go_simp
 refine hK.out _ _ (fun h => absurd rfl h) ?_
 clear hK K
 simp only [List.setIfInBounds_toArray, List.set_cons_zero, List.set_cons_succ]
 refine wpAnyK_done (by kernel_rfl) ?_ _
 have cBo0 := (GD.out.2.2.1).c 0 _ rfl
 have cBo1 := (GD.out.2.2.1).c 1 _ rfl
 have cBo2 := (GD.out.2.2.1).c 2 _ rfl
 have cBo3 := (GD.out.2.2.1).c 3 _ rfl
 have cBo4 := (GD.out.2.2.1).c 4 _ rfl
 have cBo5 := (GD.out.2.2.1).c 5 _ rfl
 go_wp2_with fail
 refine (L1.out _).mono ?_
 rintro e' w' ⟨rfl, rfl⟩
 go_wp2_with fail
 refine (L2.out _).mono ?_
 rintro e' w' ⟨rfl, rfl⟩
 have z1 := Q1.out
 have z2 := Q2.out
 go_wp2
 go_ret
 exact ⟨rfl, GD.out.2.2.2⟩
end Go.Proofs.YtfgfofedacehiaaGreat

