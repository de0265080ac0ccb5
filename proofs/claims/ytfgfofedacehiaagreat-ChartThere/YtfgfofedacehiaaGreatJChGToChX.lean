/-
 OWN TEXT: the test of life of layer 18, by the evaluator.
-/
import Derived.Test.YtfgfofedacehiaaGreatJXxAToXxH
import Derived.Test.YtfgfofedacehiaaGreatJEoAToFnSame
import Derived.Test.YtfgfofedacehiaaGreatJChF
import Derived.Laws.StructEq
namespace Go.Proofs.YtfgfofedacehiaaGreat
set_option maxRecDepth 1000000
theorem awake18_ev (w : World) : Calls Tryz.prog 6 #[] w fun e w' => e = .returned (.bool true) ∧ Bw w w' :=
 xevaluated exF_ok plainX mixedX (by decide) kpF hsF 100000 40 (args := []) (v := .bool true) rfl rfl (by decide +kernel) w (fun g l h => by cases h) (fun g l h => by cases h)
end Go.Proofs.YtfgfofedacehiaaGreat

/-
 OWN TEXT: the law ChartThere, over contracts of what it calls.
-/
namespace Go.Proofs.YtfgfofedacehiaaGreat
open Go.ChangeShapes Go.WideShapes Go.ChangeAt Go.RowKit
set_option linter.unusedVariables false
set_option linter.unusedSimpArgs false
theorem geqi (d : Nat) (a b : Int) (w : World) : (Op.equalIn (d + 1) 22 (.int .i16 a) (.int .i16 b)).run Tryz.prog w = .ok (a == b) w := by
 simp only [Op.equalIn, Sem.run_bind, run_underlying Tryz.underlying22, Result.andThen_ok]
 rfl
theorem gpart0 (a b : Value) (w : World) : (part 22 #[a, b] 0).run Tryz.prog w = .ok a w := by kernel_rfl
theorem gpart1 (a b : Value) (w : World) : (part 22 #[a, b] 1).run Tryz.prog w = .ok b w := by kernel_rfl
theorem geq18 (a b c d : Int) (w : World) : (binOp .eql 24 (.agg #[.int .i16 a, .int .i16 b]) (.agg #[.int .i16 c, .int .i16 d])).run Tryz.prog w = .ok (.bool (decide ((a, b) = (c, d)))) w := by
 have e : (Op.equal 24 (.agg #[.int .i16 a, .int .i16 b]) (.agg #[.int .i16 c, .int .i16 d])).run Tryz.prog w = .ok ((a == c) && (b == d)) w := by
  refine (run_equalIn_struct (P := Tryz.prog) w 9999 24 _ _ (by kernel_rfl) (by kernel_rfl)).trans ?_
  simp only [Program.fieldsOf, Tryz.underlying24]
  have q : ∀ p r : Bool, (a == c) = p → (b == d) = r → (Op.eqFields 9999 #[.int .i16 a, .int .i16 b] #[.int .i16 c, .int .i16 d] (Program.fieldsOf Tryz.prog 24).toList).run Tryz.prog w = .ok (p && r) w := by
   intro p r h1 h2
   simp only [Program.fieldsOf, Tryz.underlying24]
   cases p <;> cases r <;> simp [Op.eqFields, gpart0, gpart1, geqi, h1, h2]
  have z := q _ _ rfl rfl
  simp only [Program.fieldsOf, Tryz.underlying24] at z
  exact z
 have e2 : decide ((a, b) = (c, d)) = ((a == c) && (b == d)) := by
  by_cases h1 : a = c <;> by_cases h2 : b = d <;> simp [h1, h2]
 rw [e2]
 simp [binOp, e]
attribute [local go_sem] frombits_call tobits_call run_neg El.run_store_cx El.run_store_fl
set_option maxHeartbeats 64000000 in
set_option maxRecDepth 100000 in
theorem law18h {X0 Y0 X1 Y1 X2 Y2 X3 Y3 PA QA PZ QZ : Int} {a a' z z' m1 m1' m2 m2' m3 m3' m4 m4' : Nat} {p0 p1 : Bool} (w : World)
  (OZ : Hid (∀ wz, Calls Tryz.prog 9 #[.agg #[.int .i16 PZ, .int .i16 QZ]] wz fun e w' => e = .returned (.complex .f64 z z') ∧ Bw wz w')) (OA : Hid (∀ wz, Calls Tryz.prog 9 #[.agg #[.int .i16 PA, .int .i16 QA]] wz fun e w' => e = .returned (.complex .f64 a a') ∧ Bw wz w')) (OM : Hid (∀ wz, Calls Tryz.prog 10 #[.agg #[.int .i16 X0, .int .i16 Y0, .int .i16 X1, .int .i16 Y1, .int .i16 X2, .int .i16 Y2, .int .i16 X3, .int .i16 Y3]] wz fun e w' => e = .returned (.agg #[.int .u8 1, .complex .f64 m1 m1', .complex .f64 m2 m2', .complex .f64 m3 m3', .complex .f64 m4 m4', .float .f64 0]) ∧ Bw wz w'))
  (E0 : Hid (∀ w, (binOp .eql 24 (.agg #[.int .i16 PA, .int .i16 QA]) (.agg #[.int .i16 0, .int .i16 0])).run Tryz.prog w = .ok (.bool p0) w))
  (E1 : Hid (∀ w, (binOp .eql 24 (.agg #[.int .i16 PZ, .int .i16 QZ]) (.agg #[.int .i16 0, .int .i16 0])).run Tryz.prog w = .ok (.bool p1) w))
  (HM : Hid (Ch.Sn true X0 Y0 X1 Y1 X2 Y2 X3 Y3 ∧ Ch.Sm true PA QA ∧ Ch.Sm true PZ QZ → (∃ er : Int, ¬ er = 0 ∧ (∀ wz, Calls Tryz.prog 11 #[.agg #[.int .u8 1, .complex .f64 m1 m1', .complex .f64 m2 m2', .complex .f64 m3 m3', .complex .f64 m4 m4', .float .f64 0], .complex .f64 z z'] wz fun e w' => e = .returned (.tuple #[.complex .f64 0 0, .int .i64 er]) ∧ Bw wz w')) ∨ (∃ x x' y y' : Nat, (∀ wz, Calls Tryz.prog 11 #[.agg #[.int .u8 1, .complex .f64 m1 m1', .complex .f64 m2 m2', .complex .f64 m3 m3', .complex .f64 m4 m4', .float .f64 0], .complex .f64 z z'] wz fun e w' => e = .returned (.tuple #[.complex .f64 x x', .int .i64 0]) ∧ Bw wz w') ∧ (∀ wz, Calls Tryz.prog 12 #[.agg #[.int .u8 1, .complex .f64 m1 m1', .complex .f64 m2 m2', .complex .f64 m3 m3', .complex .f64 m4 m4', .float .f64 0], .complex .f64 x x', .bool false] wz fun e w' => e = .returned (.tuple #[.complex .f64 y y', .int .i64 0]) ∧ Bw wz w') ∧ (∀ wz, Calls Tryz.prog 13 #[.complex .f64 y y', .complex .f64 z z', .float .f64 4517110426252607488] wz fun e w' => e = .returned (.bool true) ∧ Bw wz w'))))
  (HJ : Hid (Ch.Sn true X0 Y0 X1 Y1 X2 Y2 X3 Y3 ∧ Ch.Sm true PA QA ∧ Ch.Sm true PZ QZ → ((p0 || p1) = true ∧ ∃ er : Int, ¬ er = 0 ∧ (∀ wz, Calls Tryz.prog 11 #[.agg #[.int .u8 2, .complex .f64 a a', .complex .f64 0 0, .complex .f64 0 0, .complex .f64 0 0, .float .f64 0], .complex .f64 z z'] wz fun e w' => e = .returned (.tuple #[.complex .f64 0 0, .int .i64 er]) ∧ Bw wz w')) ∨ (∃ (v v' : Nat) (Qb Qc : Nat → Nat → Prop), (∀ wz, Calls Tryz.prog 11 #[.agg #[.int .u8 2, .complex .f64 a a', .complex .f64 0 0, .complex .f64 0 0, .complex .f64 0 0, .float .f64 0], .complex .f64 z z'] wz fun e w' => e = .returned (.tuple #[.complex .f64 v v', .int .i64 0]) ∧ Bw wz w') ∧ (∀ wz, Calls Tryz.prog 12 #[.agg #[.int .u8 2, .complex .f64 a a', .complex .f64 0 0, .complex .f64 0 0, .complex .f64 0 0, .float .f64 0], .complex .f64 v v', .bool false] wz fun e w' => ∃ x y, e = .returned (.tuple #[.complex .f64 x y, .int .i64 0]) ∧ Qb x y ∧ Bw wz w') ∧ (∀ wz, Calls Tryz.prog 12 #[.agg #[.int .u8 2, .complex .f64 a a', .complex .f64 0 0, .complex .f64 0 0, .complex .f64 0 0, .float .f64 0], .complex .f64 v v', .bool true] wz fun e w' => ∃ x y, e = .returned (.tuple #[.complex .f64 x y, .int .i64 0]) ∧ Qc x y ∧ Bw wz w') ∧ (∀ b b' c c', Qb b b' → Qc c c' → ∃ o t : Bool, (o || t) = true ∧ (∀ wz, Calls Tryz.prog 13 #[.complex .f64 b b', .complex .f64 z z', .float .f64 4544132024016830464] wz fun e w' => ∃ r : Bool, e = .returned (.bool r) ∧ (o = true → r = true) ∧ Bw wz w') ∧ (∀ wz, Calls Tryz.prog 13 #[.complex .f64 c c', .complex .f64 z z', .float .f64 4544132024016830464] wz fun e w' => ∃ r : Bool, e = .returned (.bool r) ∧ (t = true → r = true) ∧ Bw wz w')))))
  : Calls Tryz.prog 3 #[.agg #[.int .i16 X0, .int .i16 Y0, .int .i16 X1, .int .i16 Y1, .int .i16 X2, .int .i16 Y2, .int .i16 X3, .int .i16 Y3], .agg #[.int .i16 PA, .int .i16 QA], .agg #[.int .i16 PZ, .int .i16 QZ]] w fun e w' => e = .returned (.bool true) ∧ Bw w w' := by
 have g1 := Ch.Bl.new w #[.int .i16 X0, .int .i16 Y0, .int .i16 X1, .int .i16 Y1, .int .i16 X2, .int .i16 Y2, .int .i16 X3, .int .i16 Y3] 26
 have z1 : (w.alloc (.cells #[.int .i16 X0, .int .i16 Y0, .int .i16 X1, .int .i16 Y1, .int .i16 X2, .int .i16 Y2, .int .i16 X3, .int .i16 Y3] 26)).heap.size = w.heap.size + 1 := by simp
 have b1 := bw_alloc w (.cells #[.int .i16 X0, .int .i16 Y0, .int .i16 X1, .int .i16 Y1, .int .i16 X2, .int .i16 Y2, .int .i16 X3, .int .i16 Y3] 26)
 obtain ⟨W1, hW1⟩ : ∃ v, w.alloc (.cells #[.int .i16 X0, .int .i16 Y0, .int .i16 X1, .int .i16 Y1, .int .i16 X2, .int .i16 Y2, .int .i16 X3, .int .i16 Y3] 26) = v := ⟨_, rfl⟩
 rw [hW1] at g1 z1 b1
 have g2 := Ch.Bl.new W1 #[.int .i16 PA, .int .i16 QA] 24
 have z2 : (W1.alloc (.cells #[.int .i16 PA, .int .i16 QA] 24)).heap.size = w.heap.size + 1 + 1 := by simp [z1]
 have b2 := bw_alloc W1 (.cells #[.int .i16 PA, .int .i16 QA] 24)
 obtain ⟨W2, hW2⟩ : ∃ v, W1.alloc (.cells #[.int .i16 PA, .int .i16 QA] 24) = v := ⟨_, rfl⟩
 rw [hW2] at g2 z2 b2
 have g3 := Ch.Bl.new W2 #[.int .i16 PZ, .int .i16 QZ] 24
 have z3 : (W2.alloc (.cells #[.int .i16 PZ, .int .i16 QZ] 24)).heap.size = w.heap.size + 1 + 1 + 1 := by simp [z2]
 have b3 := bw_alloc W2 (.cells #[.int .i16 PZ, .int .i16 QZ] 24)
 obtain ⟨W3, hW3⟩ : ∃ v, W2.alloc (.cells #[.int .i16 PZ, .int .i16 QZ] 24) = v := ⟨_, rfl⟩
 rw [hW3] at g3 z3 b3
 have GG : Hid (Ch.Bl W3 (w.heap.size) [.int .i16 X0, .int .i16 Y0, .int .i16 X1, .int .i16 Y1, .int .i16 X2, .int .i16 Y2, .int .i16 X3, .int .i16 Y3] ∧ Ch.Bl W3 (w.heap.size + 1) [.int .i16 PA, .int .i16 QA] ∧ Ch.Bl W3 (w.heap.size + 1 + 1) [.int .i16 PZ, .int .i16 QZ] ∧ Bw w W3) := ⟨(show Ch.Bl _ (w.heap.size) _ from g1).bw (bw_trans b2 b3), (show Ch.Bl _ (w.heap.size + 1) _ from z1 ▸ g2).bw b3, (show Ch.Bl _ (w.heap.size + 1 + 1) _ from z2 ▸ g3), (bw_trans b1 (bw_trans b2 b3))⟩
 have HW := hide (And.intro hW1 (And.intro hW2 (hW3)))
 clear g1 b1 z1 hW1 g2 b2 z2 hW2 g3 b3 z3 hW3
 go_enter Tryz.func3, Tryz.ntmps3
 go_wp2_with fail
 rw [HW.out.1, HW.out.2.1, HW.out.2.2]
 obtain ⟨A, hA⟩ : ∃ A, w.heap.size = A := ⟨_, rfl⟩
 rw [hA] at GG ⊢
 have HA := hide hA
 obtain ⟨A1, hA1⟩ : ∃ v, A + 1 = v := ⟨_, rfl⟩
 obtain ⟨A2, hA2⟩ : ∃ v, A1 + 1 = v := ⟨_, rfl⟩
 rw [hA1, hA2] at GG ⊢
 have LT : Hid (w.heap.size ≤ A ∧ A < A1 ∧ A1 < A2) := by have q := HA.out; exact ⟨by omega, by omega, by omega⟩
 clear hA1 hA2 HA HW
 refine (awake18_ev _).mono ?_
 rintro e' v1 ⟨rfl, bb⟩
 have H1 : Hid (Ch.Bl v1 A [.int .i16 X0, .int .i16 Y0, .int .i16 X1, .int .i16 Y1, .int .i16 X2, .int .i16 Y2, .int .i16 X3, .int .i16 Y3] ∧ Ch.Bl v1 A1 [.int .i16 PA, .int .i16 QA] ∧ Ch.Bl v1 A2 [.int .i16 PZ, .int .i16 QZ] ∧ Bw w v1) := ⟨GG.out.1.bw bb, GG.out.2.1.bw bb, GG.out.2.2.1.bw bb, bw_trans GG.out.2.2.2 bb⟩
 clear bb GG
 have cA0 := (H1.out.1).c 0 _ rfl
 have cA1 := (H1.out.1).c 1 _ rfl
 have cA2 := (H1.out.1).c 2 _ rfl
 have cA3 := (H1.out.1).c 3 _ rfl
 have cA4 := (H1.out.1).c 4 _ rfl
 have cA5 := (H1.out.1).c 5 _ rfl
 have cA6 := (H1.out.1).c 6 _ rfl
 have cA7 := (H1.out.1).c 7 _ rfl
 go_wp2_with fail
 clear cA0 cA1 cA2 cA3 cA4 cA5 cA6 cA7
 refine (fsmall18 X0 Y0 X1 Y1 X2 Y2 X3 Y3 _).mono ?_
 rintro e' v2 ⟨p, rfl, s, bb⟩
 have H2 : Hid (Ch.Bl v2 A [.int .i16 X0, .int .i16 Y0, .int .i16 X1, .int .i16 Y1, .int .i16 X2, .int .i16 Y2, .int .i16 X3, .int .i16 Y3] ∧ Ch.Bl v2 A1 [.int .i16 PA, .int .i16 QA] ∧ Ch.Bl v2 A2 [.int .i16 PZ, .int .i16 QZ] ∧ Bw w v2) := ⟨H1.out.1.bw bb, H1.out.2.1.bw bb, H1.out.2.2.1.bw bb, bw_trans H1.out.2.2.2 bb⟩
 clear bb H1
 have cA10 := (H2.out.2.1).c 0 _ rfl
 have cA11 := (H2.out.2.1).c 1 _ rfl
 cases p
 case false =>
  go_wp2
  go_ret
  exact ⟨rfl, H2.out.2.2.2⟩
 have S0 := hide s
 clear s
 go_wp2_with fail
 clear cA10 cA11
 refine (gup18 PA QA _).mono ?_
 rintro e' v3 ⟨p, rfl, s, bb⟩
 have H3 : Hid (Ch.Bl v3 A [.int .i16 X0, .int .i16 Y0, .int .i16 X1, .int .i16 Y1, .int .i16 X2, .int .i16 Y2, .int .i16 X3, .int .i16 Y3] ∧ Ch.Bl v3 A1 [.int .i16 PA, .int .i16 QA] ∧ Ch.Bl v3 A2 [.int .i16 PZ, .int .i16 QZ] ∧ Bw w v3) := ⟨H2.out.1.bw bb, H2.out.2.1.bw bb, H2.out.2.2.1.bw bb, bw_trans H2.out.2.2.2 bb⟩
 clear bb H2
 have cA20 := (H3.out.2.2.1).c 0 _ rfl
 have cA21 := (H3.out.2.2.1).c 1 _ rfl
 cases p
 case false =>
  go_wp2
  go_ret
  exact ⟨rfl, H3.out.2.2.2⟩
 have S1 := hide s
 clear s
 go_wp2_with fail
 clear cA20 cA21
 refine (gup18 PZ QZ _).mono ?_
 rintro e' v4 ⟨p, rfl, s, bb⟩
 have H4 : Hid (Ch.Bl v4 A [.int .i16 X0, .int .i16 Y0, .int .i16 X1, .int .i16 Y1, .int .i16 X2, .int .i16 Y2, .int .i16 X3, .int .i16 Y3] ∧ Ch.Bl v4 A1 [.int .i16 PA, .int .i16 QA] ∧ Ch.Bl v4 A2 [.int .i16 PZ, .int .i16 QZ] ∧ Bw w v4) := ⟨H3.out.1.bw bb, H3.out.2.1.bw bb, H3.out.2.2.1.bw bb, bw_trans H3.out.2.2.2 bb⟩
 clear bb H3
 have cA20 := (H4.out.2.2.1).c 0 _ rfl
 have cA21 := (H4.out.2.2.1).c 1 _ rfl
 cases p
 case false =>
  go_wp2
  go_ret
  exact ⟨rfl, H4.out.2.2.2⟩
 have S2 := hide s
 clear s
 go_wp2_with fail
 clear cA20 cA21
 refine (OZ.out _).mono ?_
 rintro e' v5 ⟨rfl, bb⟩
 have H5 : Hid (Ch.Bl v5 A [.int .i16 X0, .int .i16 Y0, .int .i16 X1, .int .i16 Y1, .int .i16 X2, .int .i16 Y2, .int .i16 X3, .int .i16 Y3] ∧ Ch.Bl v5 A1 [.int .i16 PA, .int .i16 QA] ∧ Ch.Bl v5 A2 [.int .i16 PZ, .int .i16 QZ] ∧ Bw w v5) := ⟨H4.out.1.bw bb, H4.out.2.1.bw bb, H4.out.2.2.1.bw bb, bw_trans H4.out.2.2.2 bb⟩
 clear bb H4
 clear OZ
 have cA0 := (H5.out.1).c 0 _ rfl
 have cA1 := (H5.out.1).c 1 _ rfl
 have cA2 := (H5.out.1).c 2 _ rfl
 have cA3 := (H5.out.1).c 3 _ rfl
 have cA4 := (H5.out.1).c 4 _ rfl
 have cA5 := (H5.out.1).c 5 _ rfl
 have cA6 := (H5.out.1).c 6 _ rfl
 have cA7 := (H5.out.1).c 7 _ rfl
 go_wp2_with fail
 clear cA0 cA1 cA2 cA3 cA4 cA5 cA6 cA7
 refine (OM.out _).mono ?_
 rintro e' v6 ⟨rfl, bb⟩
 have H6 : Hid (Ch.Bl v6 A [.int .i16 X0, .int .i16 Y0, .int .i16 X1, .int .i16 Y1, .int .i16 X2, .int .i16 Y2, .int .i16 X3, .int .i16 Y3] ∧ Ch.Bl v6 A1 [.int .i16 PA, .int .i16 QA] ∧ Ch.Bl v6 A2 [.int .i16 PZ, .int .i16 QZ] ∧ Bw w v6) := ⟨H5.out.1.bw bb, H5.out.2.1.bw bb, H5.out.2.2.1.bw bb, bw_trans H5.out.2.2.2 bb⟩
 clear bb H5
 clear OM
 have ka := Ch.Bl.new v6 #[.int .u8 1, .complex .f64 m1 m1', .complex .f64 m2 m2', .complex .f64 m3 m3', .complex .f64 m4 m4', .float .f64 0] 33
 have kb := bw_alloc v6 (.cells #[.int .u8 1, .complex .f64 m1 m1', .complex .f64 m2 m2', .complex .f64 m3 m3', .complex .f64 m4 m4', .float .f64 0] 33)
 obtain ⟨v7, hW⟩ : ∃ v, v6.alloc (.cells #[.int .u8 1, .complex .f64 m1 m1', .complex .f64 m2 m2', .complex .f64 m3 m3', .complex .f64 m4 m4', .float .f64 0] 33) = v := ⟨_, rfl⟩
 rw [hW] at ka kb
 obtain ⟨A3, hB⟩ : ∃ v, v6.heap.size = v := ⟨_, rfl⟩
 rw [hB] at ka
 have LT2 : Hid (w.heap.size ≤ A ∧ A < A1 ∧ A1 < A2 ∧ A2 < A3) := by have q := LT.out; have r := H6.out.2.2.1.lt; rw [hB] at r; exact ⟨by omega, by omega, by omega, by omega⟩
 clear LT
 have LT := LT2
 clear LT2
 have H7 : Hid (Ch.Bl v7 A [.int .i16 X0, .int .i16 Y0, .int .i16 X1, .int .i16 Y1, .int .i16 X2, .int .i16 Y2, .int .i16 X3, .int .i16 Y3] ∧ Ch.Bl v7 A1 [.int .i16 PA, .int .i16 QA] ∧ Ch.Bl v7 A2 [.int .i16 PZ, .int .i16 QZ] ∧ Ch.Bl v7 A3 [.int .u8 1, .complex .f64 m1 m1', .complex .f64 m2 m2', .complex .f64 m3 m3', .complex .f64 m4 m4', .float .f64 0] ∧ Bw w v7) := ⟨H6.out.1.bw kb, H6.out.2.1.bw kb, H6.out.2.2.1.bw kb, ka, bw_trans H6.out.2.2.2 kb⟩
 have HW := hide hW
 have HB := hide hB
 clear ka kb hW hB H6
 go_wp2_with fail
 rw [HW.out, HB.out]
 clear HW HB 
 have SM : Hid (Ch.Sn true X0 Y0 X1 Y1 X2 Y2 X3 Y3 ∧ Ch.Sm true PA QA ∧ Ch.Sm true PZ QZ) := ⟨S0.out, S1.out, S2.out⟩
 have HQ := hide (HM.out SM.out)
 have HR := hide (HJ.out SM.out)
 clear HM HJ SM S0 S1 S2
 rcases HQ.out with ⟨er, h0, at1⟩ | ⟨x, x', y, y', at1, bk1, ne1⟩
 ·
  have AM := hide at1
  clear at1 HQ
  refine (AM.out _).mono ?_
  rintro e' v8 ⟨rfl, bb⟩
  have H8 : Hid (Ch.Bl v8 A [.int .i16 X0, .int .i16 Y0, .int .i16 X1, .int .i16 Y1, .int .i16 X2, .int .i16 Y2, .int .i16 X3, .int .i16 Y3] ∧ Ch.Bl v8 A1 [.int .i16 PA, .int .i16 QA] ∧ Ch.Bl v8 A2 [.int .i16 PZ, .int .i16 QZ] ∧ Ch.Bl v8 A3 [.int .u8 1, .complex .f64 m1 m1', .complex .f64 m2 m2', .complex .f64 m3 m3', .complex .f64 m4 m4', .float .f64 0] ∧ Bw w v8) := ⟨H7.out.1.bw bb, H7.out.2.1.bw bb, H7.out.2.2.1.bw bb, H7.out.2.2.2.1.bw bb, bw_trans H7.out.2.2.2.2 bb⟩
  clear bb H7
  clear AM
  have cA10 := (H8.out.2.1).c 0 _ rfl
  have cA11 := (H8.out.2.1).c 1 _ rfl
  go_wp2_with fail
  clear cA10 cA11
  refine (OA.out _).mono ?_
  rintro e' v9 ⟨rfl, bb⟩
  have H9 : Hid (Ch.Bl v9 A [.int .i16 X0, .int .i16 Y0, .int .i16 X1, .int .i16 Y1, .int .i16 X2, .int .i16 Y2, .int .i16 X3, .int .i16 Y3] ∧ Ch.Bl v9 A1 [.int .i16 PA, .int .i16 QA] ∧ Ch.Bl v9 A2 [.int .i16 PZ, .int .i16 QZ] ∧ Ch.Bl v9 A3 [.int .u8 1, .complex .f64 m1 m1', .complex .f64 m2 m2', .complex .f64 m3 m3', .complex .f64 m4 m4', .float .f64 0] ∧ Bw w v9) := ⟨H8.out.1.bw bb, H8.out.2.1.bw bb, H8.out.2.2.1.bw bb, H8.out.2.2.2.1.bw bb, bw_trans H8.out.2.2.2.2 bb⟩
  clear bb H8
  clear OA
  have ka := Ch.Bl.new v9 #[.int .u8 2, .complex .f64 a a', .complex .f64 0 0, .complex .f64 0 0, .complex .f64 0 0, .float .f64 0] 33
  have kb := bw_alloc v9 (.cells #[.int .u8 2, .complex .f64 a a', .complex .f64 0 0, .complex .f64 0 0, .complex .f64 0 0, .float .f64 0] 33)
  obtain ⟨v10, hW⟩ : ∃ v, v9.alloc (.cells #[.int .u8 2, .complex .f64 a a', .complex .f64 0 0, .complex .f64 0 0, .complex .f64 0 0, .float .f64 0] 33) = v := ⟨_, rfl⟩
  rw [hW] at ka kb
  obtain ⟨A4, hB⟩ : ∃ v, v9.heap.size = v := ⟨_, rfl⟩
  rw [hB] at ka
  have LT2 : Hid (w.heap.size ≤ A ∧ A < A1 ∧ A1 < A2 ∧ A2 < A3 ∧ A3 < A4) := by have q := LT.out; have r := H9.out.2.2.2.1.lt; rw [hB] at r; exact ⟨by omega, by omega, by omega, by omega, by omega⟩
  clear LT
  have LT := LT2
  clear LT2
  have H10 : Hid (Ch.Bl v10 A [.int .i16 X0, .int .i16 Y0, .int .i16 X1, .int .i16 Y1, .int .i16 X2, .int .i16 Y2, .int .i16 X3, .int .i16 Y3] ∧ Ch.Bl v10 A1 [.int .i16 PA, .int .i16 QA] ∧ Ch.Bl v10 A2 [.int .i16 PZ, .int .i16 QZ] ∧ Ch.Bl v10 A3 [.int .u8 1, .complex .f64 m1 m1', .complex .f64 m2 m2', .complex .f64 m3 m3', .complex .f64 m4 m4', .float .f64 0] ∧ Ch.Bl v10 A4 [.int .u8 2, .complex .f64 a a', .complex .f64 0 0, .complex .f64 0 0, .complex .f64 0 0, .float .f64 0] ∧ Bw w v10) := ⟨H9.out.1.bw kb, H9.out.2.1.bw kb, H9.out.2.2.1.bw kb, H9.out.2.2.2.1.bw kb, ka, bw_trans H9.out.2.2.2.2 kb⟩
  have HW := hide hW
  have HB := hide hB
  clear ka kb hW hB H9
  go_wp2_with fail
  rw [HW.out, HB.out]
  clear HW HB 
  rcases HR.out with ⟨hp, er, h0, at1⟩ | ⟨v, v', Qb, Qc, at1, bk1, bk2, nb⟩
  ·
   have AT := hide at1
   clear at1 HR
   refine (AT.out _).mono ?_
   rintro e' v11 ⟨rfl, bb⟩
   have H11 : Hid (Ch.Bl v11 A [.int .i16 X0, .int .i16 Y0, .int .i16 X1, .int .i16 Y1, .int .i16 X2, .int .i16 Y2, .int .i16 X3, .int .i16 Y3] ∧ Ch.Bl v11 A1 [.int .i16 PA, .int .i16 QA] ∧ Ch.Bl v11 A2 [.int .i16 PZ, .int .i16 QZ] ∧ Ch.Bl v11 A3 [.int .u8 1, .complex .f64 m1 m1', .complex .f64 m2 m2', .complex .f64 m3 m3', .complex .f64 m4 m4', .float .f64 0] ∧ Ch.Bl v11 A4 [.int .u8 2, .complex .f64 a a', .complex .f64 0 0, .complex .f64 0 0, .complex .f64 0 0, .float .f64 0] ∧ Bw w v11) := ⟨H10.out.1.bw bb, H10.out.2.1.bw bb, H10.out.2.2.1.bw bb, H10.out.2.2.2.1.bw bb, H10.out.2.2.2.2.1.bw bb, bw_trans H10.out.2.2.2.2.2 bb⟩
   clear bb H10
   clear AT
   have cA10 := (H11.out.2.1).c 0 _ rfl
   have cA11 := (H11.out.2.1).c 1 _ rfl
   have cA20 := (H11.out.2.2.1).c 0 _ rfl
   have cA21 := (H11.out.2.2.1).c 1 _ rfl
   have e0 := E0.out
   have e1 := E1.out
   cases p0
   ·
    obtain rfl : p1 = true := by simpa using hp
    go_wp2
    go_ret
    exact ⟨rfl, H11.out.2.2.2.2.2⟩
   ·
    go_wp2
    go_ret
    exact ⟨rfl, H11.out.2.2.2.2.2⟩
  ·
   have AT := hide at1
   have B1 := hide bk1
   have B2 := hide bk2
   have NB := hide nb
   clear at1 bk1 bk2 nb HR E0 E1
   have KH10 : Hid (Ch.Bl v10 A4 [.int .u8 2, .complex .f64 a a', .complex .f64 0 0, .complex .f64 0 0, .complex .f64 0 0, .float .f64 0] ∧ Bw w v10) := ⟨H10.out.2.2.2.2.1, H10.out.2.2.2.2.2⟩
   clear H10
   refine (AT.out _).mono ?_
   rintro e' v11 ⟨rfl, bb⟩
   have H11 : Hid (Ch.Bl v11 A4 [.int .u8 2, .complex .f64 a a', .complex .f64 0 0, .complex .f64 0 0, .complex .f64 0 0, .float .f64 0] ∧ Bw w v11) := ⟨KH10.out.1.bw bb, bw_trans KH10.out.2 bb⟩
   clear bb KH10
   clear AT
   have cA40 := (H11.out.1).c 0 _ rfl
   have cA41 := (H11.out.1).c 1 _ rfl
   have cA42 := (H11.out.1).c 2 _ rfl
   have cA43 := (H11.out.1).c 3 _ rfl
   have cA44 := (H11.out.1).c 4 _ rfl
   have cA45 := (H11.out.1).c 5 _ rfl
   go_wp2_with fail
   clear cA40 cA41 cA42 cA43 cA44 cA45
   refine (B1.out _).mono ?_
   rintro e' v12 ⟨b, b', rfl, hb, bb⟩
   have H12 : Hid (Ch.Bl v12 A4 [.int .u8 2, .complex .f64 a a', .complex .f64 0 0, .complex .f64 0 0, .complex .f64 0 0, .float .f64 0] ∧ Bw w v12) := ⟨H11.out.1.bw bb, bw_trans H11.out.2 bb⟩
   clear bb H11
   clear B1
   have cA40 := (H12.out.1).c 0 _ rfl
   have cA41 := (H12.out.1).c 1 _ rfl
   have cA42 := (H12.out.1).c 2 _ rfl
   have cA43 := (H12.out.1).c 3 _ rfl
   have cA44 := (H12.out.1).c 4 _ rfl
   have cA45 := (H12.out.1).c 5 _ rfl
   go_wp2_with fail
   clear cA40 cA41 cA42 cA43 cA44 cA45
   refine (B2.out _).mono ?_
   rintro e' v13 ⟨c, c', rfl, hc, bb⟩
   have H13 : Hid (Ch.Bl v13 A4 [.int .u8 2, .complex .f64 a a', .complex .f64 0 0, .complex .f64 0 0, .complex .f64 0 0, .float .f64 0] ∧ Bw w v13) := ⟨H12.out.1.bw bb, bw_trans H12.out.2 bb⟩
   clear bb H12
   clear B2
   obtain ⟨o, t, hot, n1, n2⟩ := NB.out b b' c c' hb hc
   have N1 := hide n1
   have N2 := hide n2
   clear n1 n2 NB hb hc
   go_wp2_with fail
   refine (N1.out _).mono ?_
   rintro e' v14 ⟨r1, rfl, hr1, bb⟩
   have H14 : Hid (Ch.Bl v14 A4 [.int .u8 2, .complex .f64 a a', .complex .f64 0 0, .complex .f64 0 0, .complex .f64 0 0, .float .f64 0] ∧ Bw w v14) := ⟨H13.out.1.bw bb, bw_trans H13.out.2 bb⟩
   clear bb H13
   clear N1
   go_wp2_with fail
   refine (N2.out _).mono ?_
   rintro e' v15 ⟨r2, rfl, hr2, bb⟩
   have H15 : Hid (Ch.Bl v15 A4 [.int .u8 2, .complex .f64 a a', .complex .f64 0 0, .complex .f64 0 0, .complex .f64 0 0, .float .f64 0] ∧ Bw w v15) := ⟨H14.out.1.bw bb, bw_trans H14.out.2 bb⟩
   clear bb H14
   clear N2
   cases r1
   ·
    obtain rfl : o = false := by cases o; rfl; exact absurd (hr1 rfl) (by decide)
    obtain rfl : t = true := by simpa using hot
    obtain rfl : r2 = true := hr2 rfl
    clear hr1 hr2 hot
    go_wp2
    go_ret
    exact ⟨rfl, H15.out.2⟩
   ·
    clear hr1 hr2 hot
    go_wp2
    go_ret
    exact ⟨rfl, H15.out.2⟩
 ·
  have AM := hide at1
  have BM := hide bk1
  have NM := hide ne1
  clear at1 bk1 ne1 HQ
  refine (AM.out _).mono ?_
  rintro e' v8 ⟨rfl, bb⟩
  have H8 : Hid (Ch.Bl v8 A [.int .i16 X0, .int .i16 Y0, .int .i16 X1, .int .i16 Y1, .int .i16 X2, .int .i16 Y2, .int .i16 X3, .int .i16 Y3] ∧ Ch.Bl v8 A1 [.int .i16 PA, .int .i16 QA] ∧ Ch.Bl v8 A2 [.int .i16 PZ, .int .i16 QZ] ∧ Ch.Bl v8 A3 [.int .u8 1, .complex .f64 m1 m1', .complex .f64 m2 m2', .complex .f64 m3 m3', .complex .f64 m4 m4', .float .f64 0] ∧ Bw w v8) := ⟨H7.out.1.bw bb, H7.out.2.1.bw bb, H7.out.2.2.1.bw bb, H7.out.2.2.2.1.bw bb, bw_trans H7.out.2.2.2.2 bb⟩
  clear bb H7
  clear AM
  have cA30 := (H8.out.2.2.2.1).c 0 _ rfl
  have cA31 := (H8.out.2.2.2.1).c 1 _ rfl
  have cA32 := (H8.out.2.2.2.1).c 2 _ rfl
  have cA33 := (H8.out.2.2.2.1).c 3 _ rfl
  have cA34 := (H8.out.2.2.2.1).c 4 _ rfl
  have cA35 := (H8.out.2.2.2.1).c 5 _ rfl
  go_wp2_with fail
  clear cA30 cA31 cA32 cA33 cA34 cA35
  refine (BM.out _).mono ?_
  rintro e' v9 ⟨rfl, bb⟩
  have H9 : Hid (Ch.Bl v9 A [.int .i16 X0, .int .i16 Y0, .int .i16 X1, .int .i16 Y1, .int .i16 X2, .int .i16 Y2, .int .i16 X3, .int .i16 Y3] ∧ Ch.Bl v9 A1 [.int .i16 PA, .int .i16 QA] ∧ Ch.Bl v9 A2 [.int .i16 PZ, .int .i16 QZ] ∧ Ch.Bl v9 A3 [.int .u8 1, .complex .f64 m1 m1', .complex .f64 m2 m2', .complex .f64 m3 m3', .complex .f64 m4 m4', .float .f64 0] ∧ Bw w v9) := ⟨H8.out.1.bw bb, H8.out.2.1.bw bb, H8.out.2.2.1.bw bb, H8.out.2.2.2.1.bw bb, bw_trans H8.out.2.2.2.2 bb⟩
  clear bb H8
  clear BM
  go_wp2_with fail
  refine (NM.out _).mono ?_
  rintro e' v10 ⟨rfl, bb⟩
  have H10 : Hid (Ch.Bl v10 A [.int .i16 X0, .int .i16 Y0, .int .i16 X1, .int .i16 Y1, .int .i16 X2, .int .i16 Y2, .int .i16 X3, .int .i16 Y3] ∧ Ch.Bl v10 A1 [.int .i16 PA, .int .i16 QA] ∧ Ch.Bl v10 A2 [.int .i16 PZ, .int .i16 QZ] ∧ Ch.Bl v10 A3 [.int .u8 1, .complex .f64 m1 m1', .complex .f64 m2 m2', .complex .f64 m3 m3', .complex .f64 m4 m4', .float .f64 0] ∧ Bw w v10) := ⟨H9.out.1.bw bb, H9.out.2.1.bw bb, H9.out.2.2.1.bw bb, H9.out.2.2.2.1.bw bb, bw_trans H9.out.2.2.2.2 bb⟩
  clear bb H9
  clear NM
  have cA10 := (H10.out.2.1).c 0 _ rfl
  have cA11 := (H10.out.2.1).c 1 _ rfl
  go_wp2_with fail
  clear cA10 cA11
  refine (OA.out _).mono ?_
  rintro e' v11 ⟨rfl, bb⟩
  have H11 : Hid (Ch.Bl v11 A [.int .i16 X0, .int .i16 Y0, .int .i16 X1, .int .i16 Y1, .int .i16 X2, .int .i16 Y2, .int .i16 X3, .int .i16 Y3] ∧ Ch.Bl v11 A1 [.int .i16 PA, .int .i16 QA] ∧ Ch.Bl v11 A2 [.int .i16 PZ, .int .i16 QZ] ∧ Ch.Bl v11 A3 [.int .u8 1, .complex .f64 m1 m1', .complex .f64 m2 m2', .complex .f64 m3 m3', .complex .f64 m4 m4', .float .f64 0] ∧ Bw w v11) := ⟨H10.out.1.bw bb, H10.out.2.1.bw bb, H10.out.2.2.1.bw bb, H10.out.2.2.2.1.bw bb, bw_trans H10.out.2.2.2.2 bb⟩
  clear bb H10
  clear OA
  have ka := Ch.Bl.new v11 #[.int .u8 2, .complex .f64 a a', .complex .f64 0 0, .complex .f64 0 0, .complex .f64 0 0, .float .f64 0] 33
  have kb := bw_alloc v11 (.cells #[.int .u8 2, .complex .f64 a a', .complex .f64 0 0, .complex .f64 0 0, .complex .f64 0 0, .float .f64 0] 33)
  obtain ⟨v12, hW⟩ : ∃ v, v11.alloc (.cells #[.int .u8 2, .complex .f64 a a', .complex .f64 0 0, .complex .f64 0 0, .complex .f64 0 0, .float .f64 0] 33) = v := ⟨_, rfl⟩
  rw [hW] at ka kb
  obtain ⟨A4, hB⟩ : ∃ v, v11.heap.size = v := ⟨_, rfl⟩
  rw [hB] at ka
  have LT2 : Hid (w.heap.size ≤ A ∧ A < A1 ∧ A1 < A2 ∧ A2 < A3 ∧ A3 < A4) := by have q := LT.out; have r := H11.out.2.2.2.1.lt; rw [hB] at r; exact ⟨by omega, by omega, by omega, by omega, by omega⟩
  clear LT
  have LT := LT2
  clear LT2
  have H12 : Hid (Ch.Bl v12 A [.int .i16 X0, .int .i16 Y0, .int .i16 X1, .int .i16 Y1, .int .i16 X2, .int .i16 Y2, .int .i16 X3, .int .i16 Y3] ∧ Ch.Bl v12 A1 [.int .i16 PA, .int .i16 QA] ∧ Ch.Bl v12 A2 [.int .i16 PZ, .int .i16 QZ] ∧ Ch.Bl v12 A3 [.int .u8 1, .complex .f64 m1 m1', .complex .f64 m2 m2', .complex .f64 m3 m3', .complex .f64 m4 m4', .float .f64 0] ∧ Ch.Bl v12 A4 [.int .u8 2, .complex .f64 a a', .complex .f64 0 0, .complex .f64 0 0, .complex .f64 0 0, .float .f64 0] ∧ Bw w v12) := ⟨H11.out.1.bw kb, H11.out.2.1.bw kb, H11.out.2.2.1.bw kb, H11.out.2.2.2.1.bw kb, ka, bw_trans H11.out.2.2.2.2 kb⟩
  have HW := hide hW
  have HB := hide hB
  clear ka kb hW hB H11
  go_wp2_with fail
  rw [HW.out, HB.out]
  clear HW HB 
  rcases HR.out with ⟨hp, er, h0, at1⟩ | ⟨v, v', Qb, Qc, at1, bk1, bk2, nb⟩
  ·
   have AT := hide at1
   clear at1 HR
   refine (AT.out _).mono ?_
   rintro e' v13 ⟨rfl, bb⟩
   have H13 : Hid (Ch.Bl v13 A [.int .i16 X0, .int .i16 Y0, .int .i16 X1, .int .i16 Y1, .int .i16 X2, .int .i16 Y2, .int .i16 X3, .int .i16 Y3] ∧ Ch.Bl v13 A1 [.int .i16 PA, .int .i16 QA] ∧ Ch.Bl v13 A2 [.int .i16 PZ, .int .i16 QZ] ∧ Ch.Bl v13 A3 [.int .u8 1, .complex .f64 m1 m1', .complex .f64 m2 m2', .complex .f64 m3 m3', .complex .f64 m4 m4', .float .f64 0] ∧ Ch.Bl v13 A4 [.int .u8 2, .complex .f64 a a', .complex .f64 0 0, .complex .f64 0 0, .complex .f64 0 0, .float .f64 0] ∧ Bw w v13) := ⟨H12.out.1.bw bb, H12.out.2.1.bw bb, H12.out.2.2.1.bw bb, H12.out.2.2.2.1.bw bb, H12.out.2.2.2.2.1.bw bb, bw_trans H12.out.2.2.2.2.2 bb⟩
   clear bb H12
   clear AT
   have cA10 := (H13.out.2.1).c 0 _ rfl
   have cA11 := (H13.out.2.1).c 1 _ rfl
   have cA20 := (H13.out.2.2.1).c 0 _ rfl
   have cA21 := (H13.out.2.2.1).c 1 _ rfl
   have e0 := E0.out
   have e1 := E1.out
   cases p0
   ·
    obtain rfl : p1 = true := by simpa using hp
    go_wp2
    go_ret
    exact ⟨rfl, H13.out.2.2.2.2.2⟩
   ·
    go_wp2
    go_ret
    exact ⟨rfl, H13.out.2.2.2.2.2⟩
  ·
   have AT := hide at1
   have B1 := hide bk1
   have B2 := hide bk2
   have NB := hide nb
   clear at1 bk1 bk2 nb HR E0 E1
   have KH12 : Hid (Ch.Bl v12 A4 [.int .u8 2, .complex .f64 a a', .complex .f64 0 0, .complex .f64 0 0, .complex .f64 0 0, .float .f64 0] ∧ Bw w v12) := ⟨H12.out.2.2.2.2.1, H12.out.2.2.2.2.2⟩
   clear H12
   refine (AT.out _).mono ?_
   rintro e' v13 ⟨rfl, bb⟩
   have H13 : Hid (Ch.Bl v13 A4 [.int .u8 2, .complex .f64 a a', .complex .f64 0 0, .complex .f64 0 0, .complex .f64 0 0, .float .f64 0] ∧ Bw w v13) := ⟨KH12.out.1.bw bb, bw_trans KH12.out.2 bb⟩
   clear bb KH12
   clear AT
   have cA40 := (H13.out.1).c 0 _ rfl
   have cA41 := (H13.out.1).c 1 _ rfl
   have cA42 := (H13.out.1).c 2 _ rfl
   have cA43 := (H13.out.1).c 3 _ rfl
   have cA44 := (H13.out.1).c 4 _ rfl
   have cA45 := (H13.out.1).c 5 _ rfl
   go_wp2_with fail
   clear cA40 cA41 cA42 cA43 cA44 cA45
   refine (B1.out _).mono ?_
   rintro e' v14 ⟨b, b', rfl, hb, bb⟩
   have H14 : Hid (Ch.Bl v14 A4 [.int .u8 2, .complex .f64 a a', .complex .f64 0 0, .complex .f64 0 0, .complex .f64 0 0, .float .f64 0] ∧ Bw w v14) := ⟨H13.out.1.bw bb, bw_trans H13.out.2 bb⟩
   clear bb H13
   clear B1
   have cA40 := (H14.out.1).c 0 _ rfl
   have cA41 := (H14.out.1).c 1 _ rfl
   have cA42 := (H14.out.1).c 2 _ rfl
   have cA43 := (H14.out.1).c 3 _ rfl
   have cA44 := (H14.out.1).c 4 _ rfl
   have cA45 := (H14.out.1).c 5 _ rfl
   go_wp2_with fail
   clear cA40 cA41 cA42 cA43 cA44 cA45
   refine (B2.out _).mono ?_
   rintro e' v15 ⟨c, c', rfl, hc, bb⟩
   have H15 : Hid (Ch.Bl v15 A4 [.int .u8 2, .complex .f64 a a', .complex .f64 0 0, .complex .f64 0 0, .complex .f64 0 0, .float .f64 0] ∧ Bw w v15) := ⟨H14.out.1.bw bb, bw_trans H14.out.2 bb⟩
   clear bb H14
   clear B2
   obtain ⟨o, t, hot, n1, n2⟩ := NB.out b b' c c' hb hc
   have N1 := hide n1
   have N2 := hide n2
   clear n1 n2 NB hb hc
   go_wp2_with fail
   refine (N1.out _).mono ?_
   rintro e' v16 ⟨r1, rfl, hr1, bb⟩
   have H16 : Hid (Ch.Bl v16 A4 [.int .u8 2, .complex .f64 a a', .complex .f64 0 0, .complex .f64 0 0, .complex .f64 0 0, .float .f64 0] ∧ Bw w v16) := ⟨H15.out.1.bw bb, bw_trans H15.out.2 bb⟩
   clear bb H15
   clear N1
   go_wp2_with fail
   refine (N2.out _).mono ?_
   rintro e' v17 ⟨r2, rfl, hr2, bb⟩
   have H17 : Hid (Ch.Bl v17 A4 [.int .u8 2, .complex .f64 a a', .complex .f64 0 0, .complex .f64 0 0, .complex .f64 0 0, .float .f64 0] ∧ Bw w v17) := ⟨H16.out.1.bw bb, bw_trans H16.out.2 bb⟩
   clear bb H16
   clear N2
   cases r1
   ·
    obtain rfl : o = false := by cases o; rfl; exact absurd (hr1 rfl) (by decide)
    obtain rfl : t = true := by simpa using hot
    obtain rfl : r2 = true := hr2 rfl
    clear hr1 hr2 hot
    go_wp2
    go_ret
    exact ⟨rfl, H17.out.2⟩
   ·
    clear hr1 hr2 hot
    go_wp2
    go_ret
    exact ⟨rfl, H17.out.2⟩
end Go.Proofs.YtfgfofedacehiaaGreat

