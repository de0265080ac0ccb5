/-
 OWN TEXT: the law ChartThree, over contracts of what it calls.
-/
import Derived.Test.YtfgfofedacehiaaGreatJChJToChK
import Derived.Test.YtfgfofedacehiaaGreatJChLToChG
import Derived.Laws.StructEq
namespace Go.Proofs.YtfgfofedacehiaaGreat
open Go.ChangeShapes Go.WideShapes Go.ChangeAt Go.RowKit
set_option linter.unusedVariables false
set_option linter.unusedSimpArgs false
theorem geqi (d : Nat) (a b : Int) (w : World) : (Op.equalIn (d + 1) 22 (.int .i16 a) (.int .i16 b)).run Tryz.prog w = .ok (a == b) w := by
 simp only [Op.equalIn, Sem.run_bind, run_underlying Tryz.underlying22, Result.andThen_ok]
 rfl
theorem gpart0 (a b : Value) (w : World) : (part 22 #[a, b] 0).run Tryz.prog w = .ok a w := by kernel_rfl
theorem gpart1 (a b : Value) (w : World) : (part 22 #[a, b] 1).run Tryz.prog w = .ok b w := by kernel_rfl
theorem geq18 (a b c d : Int) (w : World) : (binOp .eql 24 (.agg #[.int .i16 a, .int .i16 b]) (.agg #[.int .i16 c, .int .i16 d])).run Tryz.prog w = .ok (.bool (decide ((a, b) = (c, d)))) w := by
 have e : (Op.equal 24 (.agg #[.int .i16 a, .int .i16 b]) (.agg #[.int .i16 c, .int .i16 d])).run Tryz.prog w = .ok ((a == c) && (b == d)) w := by
  refine (run_equalIn_struct (P := Tryz.prog) w 9999 24 _ _ (by kernel_rfl) (by kernel_rfl)).trans ?_
  simp only [Program.fieldsOf, Tryz.underlying24]
  have q : ∀ p r : Bool, (a == c) = p → (b == d) = r → (Op.eqFields 9999 #[.int .i16 a, .int .i16 b] #[.int .i16 c, .int .i16 d] (Program.fieldsOf Tryz.prog 24).toList).run Tryz.prog w = .ok (p && r) w := by
   intro p r h1 h2
   simp only [Program.fieldsOf, Tryz.underlying24]
   cases p <;> cases r <;> simp [Op.eqFields, gpart0, gpart1, geqi, h1, h2]
  have z := q _ _ rfl rfl
  simp only [Program.fieldsOf, Tryz.underlying24] at z
  exact z
 have e2 : decide ((a, b) = (c, d)) = ((a == c) && (b == d)) := by
  by_cases h1 : a = c <;> by_cases h2 : b = d <;> simp [h1, h2]
 rw [e2]
 simp [binOp, e]
attribute [local go_sem] frombits_call tobits_call run_neg El.run_store_cx El.run_store_fl
/-- three cells, the first k of them laid -/
def Ch.ar : Nat → Value → Value → Value → List Value
 | 0, _, _, _ => [.complex .f64 0 0, .complex .f64 0 0, .complex .f64 0 0]
 | 1, x, _, _ => [x, .complex .f64 0 0, .complex .f64 0 0]
 | 2, x, y, _ => [x, y, .complex .f64 0 0]
 | _, x, y, z => [x, y, z]
set_option maxHeartbeats 64000000 in
set_option maxRecDepth 100000 in
theorem law18t {X0 Y0 X1 Y1 X2 Y2 P0 Q0 P1 Q1 P2 Q2 : Int} {a a' b b' c c' ta ta' tb tb' tc tc' : Nat} {p0 p1 p2 p3 p4 p5 : Bool} {R0 R1 R2 : Nat → Nat → Prop} (w : World)
  (O0 : Hid (∀ wz, Calls Tryz.prog 9 #[.agg #[.int .i16 X0, .int .i16 Y0]] wz fun e w' => e = .returned (.complex .f64 a a') ∧ Bw wz w')) (U0 : Hid (∀ wz, Calls Tryz.prog 9 #[.agg #[.int .i16 P0, .int .i16 Q0]] wz fun e w' => e = .returned (.complex .f64 ta ta') ∧ Bw wz w'))
  (O1 : Hid (∀ wz, Calls Tryz.prog 9 #[.agg #[.int .i16 X1, .int .i16 Y1]] wz fun e w' => e = .returned (.complex .f64 b b') ∧ Bw wz w')) (U1 : Hid (∀ wz, Calls Tryz.prog 9 #[.agg #[.int .i16 P1, .int .i16 Q1]] wz fun e w' => e = .returned (.complex .f64 tb tb') ∧ Bw wz w'))
  (O2 : Hid (∀ wz, Calls Tryz.prog 9 #[.agg #[.int .i16 X2, .int .i16 Y2]] wz fun e w' => e = .returned (.complex .f64 c c') ∧ Bw wz w')) (U2 : Hid (∀ wz, Calls Tryz.prog 9 #[.agg #[.int .i16 P2, .int .i16 Q2]] wz fun e w' => e = .returned (.complex .f64 tc tc') ∧ Bw wz w'))
  (E0 : Hid (∀ w, (binOp .eql 24 (.agg #[.int .i16 X0, .int .i16 Y0]) (.agg #[.int .i16 X1, .int .i16 Y1])).run Tryz.prog w = .ok (.bool p0) w))
  (E1 : Hid (∀ w, (binOp .eql 24 (.agg #[.int .i16 X1, .int .i16 Y1]) (.agg #[.int .i16 X2, .int .i16 Y2])).run Tryz.prog w = .ok (.bool p1) w))
  (E2 : Hid (∀ w, (binOp .eql 24 (.agg #[.int .i16 X2, .int .i16 Y2]) (.agg #[.int .i16 X0, .int .i16 Y0])).run Tryz.prog w = .ok (.bool p2) w))
  (E3 : Hid (∀ w, (binOp .eql 24 (.agg #[.int .i16 P0, .int .i16 Q0]) (.agg #[.int .i16 P1, .int .i16 Q1])).run Tryz.prog w = .ok (.bool p3) w))
  (E4 : Hid (∀ w, (binOp .eql 24 (.agg #[.int .i16 P1, .int .i16 Q1]) (.agg #[.int .i16 P2, .int .i16 Q2])).run Tryz.prog w = .ok (.bool p4) w))
  (E5 : Hid (∀ w, (binOp .eql 24 (.agg #[.int .i16 P2, .int .i16 Q2]) (.agg #[.int .i16 P0, .int .i16 Q0])).run Tryz.prog w = .ok (.bool p5) w))
  (HA : Hid ((p0 || p1 || p2 || p3 || p4 || p5) = true → ((0 < 3 → Ch.Sm true X0 Y0 ∧ Ch.Sm true P0 Q0) ∧ (1 < 3 → Ch.Sm true X1 Y1 ∧ Ch.Sm true P1 Q1) ∧ (2 < 3 → Ch.Sm true X2 Y2 ∧ Ch.Sm true P2 Q2)) → (∀ wz, Calls Tryz.prog 21 #[.agg #[.complex .f64 a a', .complex .f64 b b', .complex .f64 c c'], .agg #[.complex .f64 ta ta', .complex .f64 tb tb', .complex .f64 tc tc']] wz fun e w' => e = .returned (.tuple #[.agg #[.int .u8 0, .complex .f64 0 0, .complex .f64 0 0, .complex .f64 0 0, .complex .f64 0 0, .float .f64 0], .int .i64 180]) ∧ Bw wz w')))
  (HB : Hid ((p0 || p1 || p2 || p3 || p4 || p5) = false → ((0 < 3 → Ch.Sm true X0 Y0 ∧ Ch.Sm true P0 Q0) ∧ (1 < 3 → Ch.Sm true X1 Y1 ∧ Ch.Sm true P1 Q1) ∧ (2 < 3 → Ch.Sm true X2 Y2 ∧ Ch.Sm true P2 Q2)) → ∃ o1 o1' o2 o2' o3 o3' o4 o4' : Nat, (∀ wz, Calls Tryz.prog 21 #[.agg #[.complex .f64 a a', .complex .f64 b b', .complex .f64 c c'], .agg #[.complex .f64 ta ta', .complex .f64 tb tb', .complex .f64 tc tc']] wz fun e w' => e = .returned (.tuple #[.agg #[.int .u8 1, .complex .f64 o1 o1', .complex .f64 o2 o2', .complex .f64 o3 o3', .complex .f64 o4 o4', .float .f64 0], .int .i64 0]) ∧ Bw wz w') ∧ (∀ wz, Calls Tryz.prog 11 #[.agg #[.int .u8 1, .complex .f64 o1 o1', .complex .f64 o2 o2', .complex .f64 o3 o3', .complex .f64 o4 o4', .float .f64 0], .complex .f64 a a'] wz fun e w' => ∃ x y, e = .returned (.tuple #[.complex .f64 x y, .int .i64 0]) ∧ R0 x y ∧ Bw wz w') ∧ (∀ wz, Calls Tryz.prog 11 #[.agg #[.int .u8 1, .complex .f64 o1 o1', .complex .f64 o2 o2', .complex .f64 o3 o3', .complex .f64 o4 o4', .float .f64 0], .complex .f64 b b'] wz fun e w' => ∃ x y, e = .returned (.tuple #[.complex .f64 x y, .int .i64 0]) ∧ R1 x y ∧ Bw wz w') ∧ (∀ wz, Calls Tryz.prog 11 #[.agg #[.int .u8 1, .complex .f64 o1 o1', .complex .f64 o2 o2', .complex .f64 o3 o3', .complex .f64 o4 o4', .float .f64 0], .complex .f64 c c'] wz fun e w' => ∃ x y, e = .returned (.tuple #[.complex .f64 x y, .int .i64 0]) ∧ R2 x y ∧ Bw wz w')))
  (N0 : Hid (∀ x y wz, R0 x y → Calls Tryz.prog 13 #[.complex .f64 x y, .complex .f64 ta ta', .float .f64 4472074429978902528] wz fun e w' => e = .returned (.bool true) ∧ Bw wz w'))
  (N1 : Hid (∀ x y wz, R1 x y → Calls Tryz.prog 13 #[.complex .f64 x y, .complex .f64 tb tb', .float .f64 4472074429978902528] wz fun e w' => e = .returned (.bool true) ∧ Bw wz w'))
  (N2 : Hid (∀ x y wz, R2 x y → Calls Tryz.prog 13 #[.complex .f64 x y, .complex .f64 tc tc', .float .f64 4472074429978902528] wz fun e w' => e = .returned (.bool true) ∧ Bw wz w'))
  : Calls Tryz.prog 5 #[.agg #[.int .i16 X0, .int .i16 Y0, .int .i16 X1, .int .i16 Y1, .int .i16 X2, .int .i16 Y2], .agg #[.int .i16 P0, .int .i16 Q0, .int .i16 P1, .int .i16 Q1, .int .i16 P2, .int .i16 Q2]] w fun e w' => e = .returned (.bool true) ∧ Bw w w' := by
 have g1 := Ch.Bl.new w #[.int .i16 X0, .int .i16 Y0, .int .i16 X1, .int .i16 Y1, .int .i16 X2, .int .i16 Y2] 49
 have z1 : (w.alloc (.cells #[.int .i16 X0, .int .i16 Y0, .int .i16 X1, .int .i16 Y1, .int .i16 X2, .int .i16 Y2] 49)).heap.size = w.heap.size + 1 := by simp
 have b1 := bw_alloc w (.cells #[.int .i16 X0, .int .i16 Y0, .int .i16 X1, .int .i16 Y1, .int .i16 X2, .int .i16 Y2] 49)
 obtain ⟨W1, hW1⟩ : ∃ v, w.alloc (.cells #[.int .i16 X0, .int .i16 Y0, .int .i16 X1, .int .i16 Y1, .int .i16 X2, .int .i16 Y2] 49) = v := ⟨_, rfl⟩
 rw [hW1] at g1 z1 b1
 have g2 := Ch.Bl.new W1 #[.int .i16 P0, .int .i16 Q0, .int .i16 P1, .int .i16 Q1, .int .i16 P2, .int .i16 Q2] 49
 have z2 : (W1.alloc (.cells #[.int .i16 P0, .int .i16 Q0, .int .i16 P1, .int .i16 Q1, .int .i16 P2, .int .i16 Q2] 49)).heap.size = w.heap.size + 1 + 1 := by simp [z1]
 have b2 := bw_alloc W1 (.cells #[.int .i16 P0, .int .i16 Q0, .int .i16 P1, .int .i16 Q1, .int .i16 P2, .int .i16 Q2] 49)
 obtain ⟨W2, hW2⟩ : ∃ v, W1.alloc (.cells #[.int .i16 P0, .int .i16 Q0, .int .i16 P1, .int .i16 Q1, .int .i16 P2, .int .i16 Q2] 49) = v := ⟨_, rfl⟩
 rw [hW2] at g2 z2 b2
 have GG : Hid (Ch.Bl W2 (w.heap.size) [.int .i16 X0, .int .i16 Y0, .int .i16 X1, .int .i16 Y1, .int .i16 X2, .int .i16 Y2] ∧ Ch.Bl W2 (w.heap.size + 1) [.int .i16 P0, .int .i16 Q0, .int .i16 P1, .int .i16 Q1, .int .i16 P2, .int .i16 Q2] ∧ Bw w W2) := ⟨(show Ch.Bl _ (w.heap.size) _ from g1).bw b2, (show Ch.Bl _ (w.heap.size + 1) _ from z1 ▸ g2), (bw_trans b1 b2)⟩
 have HW := hide (And.intro hW1 (hW2))
 clear g1 b1 z1 hW1 g2 b2 z2 hW2
 go_enter Tryz.func5, Tryz.ntmps5
 go_wp2_with fail
 rw [HW.out.1, HW.out.2]
 obtain ⟨A, hA⟩ : ∃ A, w.heap.size = A := ⟨_, rfl⟩
 rw [hA] at GG ⊢
 have HA := hide hA
 obtain ⟨A1, hA1⟩ : ∃ v, A + 1 = v := ⟨_, rfl⟩
 rw [hA1] at GG ⊢
 have LT : Hid (w.heap.size ≤ A ∧ A < A1) := by have q := HA.out; exact ⟨by omega, by omega⟩
 clear hA1 HA HW
 refine (awake18_ev _).mono ?_
 rintro e' v1 ⟨rfl, bb⟩
 have H1 : Hid (Ch.Bl v1 A [.int .i16 X0, .int .i16 Y0, .int .i16 X1, .int .i16 Y1, .int .i16 X2, .int .i16 Y2] ∧ Ch.Bl v1 A1 [.int .i16 P0, .int .i16 Q0, .int .i16 P1, .int .i16 Q1, .int .i16 P2, .int .i16 Q2] ∧ Bw w v1) := ⟨GG.out.1.bw bb, GG.out.2.1.bw bb, bw_trans GG.out.2.2 bb⟩
 clear bb GG
 have ka := Ch.Bl.new v1 #[.complex .f64 0 0, .complex .f64 0 0, .complex .f64 0 0] 50
 have kb := bw_alloc v1 (.cells #[.complex .f64 0 0, .complex .f64 0 0, .complex .f64 0 0] 50)
 have kz : (v1.alloc (.cells #[.complex .f64 0 0, .complex .f64 0 0, .complex .f64 0 0] 50)).heap.size = v1.heap.size + 1 := by simp
 obtain ⟨v2, hV2⟩ : ∃ v, v1.alloc (.cells #[.complex .f64 0 0, .complex .f64 0 0, .complex .f64 0 0] 50) = v := ⟨_, rfl⟩
 rw [hV2] at ka kb kz
 have kc := Ch.Bl.new v2 #[.complex .f64 0 0, .complex .f64 0 0, .complex .f64 0 0] 50
 have kd := bw_alloc v2 (.cells #[.complex .f64 0 0, .complex .f64 0 0, .complex .f64 0 0] 50)
 obtain ⟨v3, hV3⟩ : ∃ v, v2.alloc (.cells #[.complex .f64 0 0, .complex .f64 0 0, .complex .f64 0 0] 50) = v := ⟨_, rfl⟩
 rw [hV3] at kc kd
 rw [kz] at kc
 obtain ⟨A2, hA2⟩ : ∃ v, v1.heap.size = v := ⟨_, rfl⟩
 rw [hA2] at ka kc
 obtain ⟨A3, hA3⟩ : ∃ v, A2 + 1 = v := ⟨_, rfl⟩
 rw [hA3] at kc
 have LT2 : Hid (w.heap.size ≤ A ∧ A < A1 ∧ A1 < A2 ∧ A2 < A3) := by have q := LT.out; have r := H1.out.2.1.lt; rw [hA2] at r; exact ⟨by omega, by omega, by omega, by omega⟩
 clear LT
 have LT := LT2
 clear LT2
 have H3 : Hid (Ch.Bl v3 A [.int .i16 X0, .int .i16 Y0, .int .i16 X1, .int .i16 Y1, .int .i16 X2, .int .i16 Y2] ∧ Ch.Bl v3 A1 [.int .i16 P0, .int .i16 Q0, .int .i16 P1, .int .i16 Q1, .int .i16 P2, .int .i16 Q2] ∧ Ch.Bl v3 A2 [.complex .f64 0 0, .complex .f64 0 0, .complex .f64 0 0] ∧ Ch.Bl v3 A3 [.complex .f64 0 0, .complex .f64 0 0, .complex .f64 0 0] ∧ Bw w v3) := ⟨H1.out.1.bw (bw_trans kb kd), H1.out.2.1.bw (bw_trans kb kd), ka.bw kd, kc, bw_trans H1.out.2.2 (bw_trans kb kd)⟩
 have HV2 := hide hV2
 have HV3 := hide hV3
 have HA2 := hide hA2
 have HA3 := hide hA3
 clear ka kb kc kd kz hV2 hV3 hA2 hA3 H1
 go_wp2_with fail
 rw [HV2.out, HV3.out, HA2.out, HA3.out]
 clear HV2 HV3 HA2 HA3
 go_loopw [8] (fun i wr => ∃ k : Nat, k ≤ 3 ∧ i = .int .i64 k ∧ Hid (Ch.Bl wr A [.int .i16 X0, .int .i16 Y0, .int .i16 X1, .int .i16 Y1, .int .i16 X2, .int .i16 Y2] ∧ Ch.Bl wr A1 [.int .i16 P0, .int .i16 Q0, .int .i16 P1, .int .i16 Q1, .int .i16 P2, .int .i16 Q2] ∧ Ch.Bl wr A2 (Ch.ar k (.complex .f64 a a') (.complex .f64 b b') (.complex .f64 c c')) ∧ Ch.Bl wr A3 (Ch.ar k (.complex .f64 ta ta') (.complex .f64 tb tb') (.complex .f64 tc tc')) ∧ Bw w wr) ∧ Hid ((0 < k → Ch.Sm true X0 Y0 ∧ Ch.Sm true P0 Q0) ∧ (1 < k → Ch.Sm true X1 Y1 ∧ Ch.Sm true P1 Q1) ∧ (2 < k → Ch.Sm true X2 Y2 ∧ Ch.Sm true P2 Q2))) (fun i _ => 3 - (intOf i).toNat)
 case atStart => exact ⟨0, by omega, rfl, hide H3.out, hide ⟨fun h => absurd h (by decide), fun h => absurd h (by decide), fun h => absurd h (by decide)⟩⟩
 case round =>
  obtain ⟨k, hk, rfl, G0, SM⟩ := hrel
  have hk' : k = 0 ∨ k = 1 ∨ k = 2 ∨ k = 3 := by omega
  clear H3
  rcases hk' with h0 | h0 | h0 | h0
  ·
   obtain rfl : k = 0 := by omega
   have G : Hid (Ch.Bl wr A [.int .i16 X0, .int .i16 Y0, .int .i16 X1, .int .i16 Y1, .int .i16 X2, .int .i16 Y2] ∧ Ch.Bl wr A1 [.int .i16 P0, .int .i16 Q0, .int .i16 P1, .int .i16 Q1, .int .i16 P2, .int .i16 Q2] ∧ Ch.Bl wr A2 [.complex .f64 0 0, .complex .f64 0 0, .complex .f64 0 0] ∧ Ch.Bl wr A3 [.complex .f64 0 0, .complex .f64 0 0, .complex .f64 0 0] ∧ Bw w wr) := G0
   clear hk h0 G0
   have cA0 := (G.out.1).c 0 _ rfl
   have cA1 := (G.out.1).c 1 _ rfl
   have cA2 := (G.out.1).c 2 _ rfl
   have cA3 := (G.out.1).c 3 _ rfl
   have cA4 := (G.out.1).c 4 _ rfl
   have cA5 := (G.out.1).c 5 _ rfl
   go_wp2_with fail
   clear cA0 cA1 cA2 cA3 cA4 cA5
   refine (gup18 X0 Y0 _).mono ?_
   rintro e' v4 ⟨p, rfl, s, bb⟩
   have H4 : Hid (Ch.Bl v4 A [.int .i16 X0, .int .i16 Y0, .int .i16 X1, .int .i16 Y1, .int .i16 X2, .int .i16 Y2] ∧ Ch.Bl v4 A1 [.int .i16 P0, .int .i16 Q0, .int .i16 P1, .int .i16 Q1, .int .i16 P2, .int .i16 Q2] ∧ Ch.Bl v4 A2 [.complex .f64 0 0, .complex .f64 0 0, .complex .f64 0 0] ∧ Ch.Bl v4 A3 [.complex .f64 0 0, .complex .f64 0 0, .complex .f64 0 0] ∧ Bw w v4) := ⟨G.out.1.bw bb, G.out.2.1.bw bb, G.out.2.2.1.bw bb, G.out.2.2.2.1.bw bb, bw_trans G.out.2.2.2.2 bb⟩
   clear bb G
   cases p
   case false =>
    go_wp2
    go_ret
    exact ⟨rfl, H4.out.2.2.2.2⟩
   have S0 := hide s
   clear s
   have cA10 := (H4.out.2.1).c 0 _ rfl
   have cA11 := (H4.out.2.1).c 1 _ rfl
   have cA12 := (H4.out.2.1).c 2 _ rfl
   have cA13 := (H4.out.2.1).c 3 _ rfl
   have cA14 := (H4.out.2.1).c 4 _ rfl
   have cA15 := (H4.out.2.1).c 5 _ rfl
   go_wp2_with fail
   clear cA10 cA11 cA12 cA13 cA14 cA15
   refine (gup18 P0 Q0 _).mono ?_
   rintro e' v5 ⟨p, rfl, s, bb⟩
   have H5 : Hid (Ch.Bl v5 A [.int .i16 X0, .int .i16 Y0, .int .i16 X1, .int .i16 Y1, .int .i16 X2, .int .i16 Y2] ∧ Ch.Bl v5 A1 [.int .i16 P0, .int .i16 Q0, .int .i16 P1, .int .i16 Q1, .int .i16 P2, .int .i16 Q2] ∧ Ch.Bl v5 A2 [.complex .f64 0 0, .complex .f64 0 0, .complex .f64 0 0] ∧ Ch.Bl v5 A3 [.complex .f64 0 0, .complex .f64 0 0, .complex .f64 0 0] ∧ Bw w v5) := ⟨H4.out.1.bw bb, H4.out.2.1.bw bb, H4.out.2.2.1.bw bb, H4.out.2.2.2.1.bw bb, bw_trans H4.out.2.2.2.2 bb⟩
   clear bb H4
   cases p
   case false =>
    go_wp2
    go_ret
    exact ⟨rfl, H5.out.2.2.2.2⟩
   have S1 := hide s
   clear s
   have cA0 := (H5.out.1).c 0 _ rfl
   have cA1 := (H5.out.1).c 1 _ rfl
   have cA2 := (H5.out.1).c 2 _ rfl
   have cA3 := (H5.out.1).c 3 _ rfl
   have cA4 := (H5.out.1).c 4 _ rfl
   have cA5 := (H5.out.1).c 5 _ rfl
   go_wp2_with fail
   clear cA0 cA1 cA2 cA3 cA4 cA5
   refine (O0.out _).mono ?_
   rintro e' v6 ⟨rfl, bb⟩
   have H6 : Hid (Ch.Bl v6 A [.int .i16 X0, .int .i16 Y0, .int .i16 X1, .int .i16 Y1, .int .i16 X2, .int .i16 Y2] ∧ Ch.Bl v6 A1 [.int .i16 P0, .int .i16 Q0, .int .i16 P1, .int .i16 Q1, .int .i16 P2, .int .i16 Q2] ∧ Ch.Bl v6 A2 [.complex .f64 0 0, .complex .f64 0 0, .complex .f64 0 0] ∧ Ch.Bl v6 A3 [.complex .f64 0 0, .complex .f64 0 0, .complex .f64 0 0] ∧ Bw w v6) := ⟨H5.out.1.bw bb, H5.out.2.1.bw bb, H5.out.2.2.1.bw bb, H5.out.2.2.2.1.bw bb, bw_trans H5.out.2.2.2.2 bb⟩
   clear bb H5
   have GZ : Hid (Ch.Bl (v6.setCell ⟨A2, 0, none⟩ (.complex .f64 a a')) A [.int .i16 X0, .int .i16 Y0, .int .i16 X1, .int .i16 Y1, .int .i16 X2, .int .i16 Y2] ∧ Ch.Bl (v6.setCell ⟨A2, 0, none⟩ (.complex .f64 a a')) A1 [.int .i16 P0, .int .i16 Q0, .int .i16 P1, .int .i16 Q1, .int .i16 P2, .int .i16 Q2] ∧ Ch.Bl (v6.setCell ⟨A2, 0, none⟩ (.complex .f64 a a')) A2 [.complex .f64 a a', .complex .f64 0 0, .complex .f64 0 0] ∧ Ch.Bl (v6.setCell ⟨A2, 0, none⟩ (.complex .f64 a a')) A3 [.complex .f64 0 0, .complex .f64 0 0, .complex .f64 0 0] ∧ Bw w (v6.setCell ⟨A2, 0, none⟩ (.complex .f64 a a'))) := ⟨H6.out.1.off (by have q := LT.out; omega), H6.out.2.1.off (by have q := LT.out; omega), H6.out.2.2.1.set (i := 0) (by simp) (.complex .f64 a a'), H6.out.2.2.2.1.off (by have q := LT.out; omega), Below.setCell H6.out.2.2.2.2 (show w.heap.size ≤ A2 by have q := LT.out; omega) _⟩
   have q0 := (H6.out.2.2.1).c 0 _ rfl
   have r0 := (H6.out.2.2.1).fz 0
   have nA10 := (GZ.out.2.1).c 0 _ rfl
   have nA11 := (GZ.out.2.1).c 1 _ rfl
   have nA12 := (GZ.out.2.1).c 2 _ rfl
   have nA13 := (GZ.out.2.1).c 3 _ rfl
   have nA14 := (GZ.out.2.1).c 4 _ rfl
   have nA15 := (GZ.out.2.1).c 5 _ rfl
   go_wp2_with fail
   obtain ⟨v7, hV⟩ : ∃ V, v6.setCell ⟨A2, 0, none⟩ (.complex .f64 a a') = V := ⟨_, rfl⟩
   have H7 : Hid (Ch.Bl v7 A [.int .i16 X0, .int .i16 Y0, .int .i16 X1, .int .i16 Y1, .int .i16 X2, .int .i16 Y2] ∧ Ch.Bl v7 A1 [.int .i16 P0, .int .i16 Q0, .int .i16 P1, .int .i16 Q1, .int .i16 P2, .int .i16 Q2] ∧ Ch.Bl v7 A2 [.complex .f64 a a', .complex .f64 0 0, .complex .f64 0 0] ∧ Ch.Bl v7 A3 [.complex .f64 0 0, .complex .f64 0 0, .complex .f64 0 0] ∧ Bw w v7) := by rw [← hV]; exact GZ
   rw [hV]
   clear hV GZ q0 r0 H6 nA10 nA11 nA12 nA13 nA14 nA15
   refine (U0.out _).mono ?_
   rintro e' v8 ⟨rfl, bb⟩
   have H8 : Hid (Ch.Bl v8 A [.int .i16 X0, .int .i16 Y0, .int .i16 X1, .int .i16 Y1, .int .i16 X2, .int .i16 Y2] ∧ Ch.Bl v8 A1 [.int .i16 P0, .int .i16 Q0, .int .i16 P1, .int .i16 Q1, .int .i16 P2, .int .i16 Q2] ∧ Ch.Bl v8 A2 [.complex .f64 a a', .complex .f64 0 0, .complex .f64 0 0] ∧ Ch.Bl v8 A3 [.complex .f64 0 0, .complex .f64 0 0, .complex .f64 0 0] ∧ Bw w v8) := ⟨H7.out.1.bw bb, H7.out.2.1.bw bb, H7.out.2.2.1.bw bb, H7.out.2.2.2.1.bw bb, bw_trans H7.out.2.2.2.2 bb⟩
   clear bb H7
   have GZ : Hid (Ch.Bl (v8.setCell ⟨A3, 0, none⟩ (.complex .f64 ta ta')) A [.int .i16 X0, .int .i16 Y0, .int .i16 X1, .int .i16 Y1, .int .i16 X2, .int .i16 Y2] ∧ Ch.Bl (v8.setCell ⟨A3, 0, none⟩ (.complex .f64 ta ta')) A1 [.int .i16 P0, .int .i16 Q0, .int .i16 P1, .int .i16 Q1, .int .i16 P2, .int .i16 Q2] ∧ Ch.Bl (v8.setCell ⟨A3, 0, none⟩ (.complex .f64 ta ta')) A2 [.complex .f64 a a', .complex .f64 0 0, .complex .f64 0 0] ∧ Ch.Bl (v8.setCell ⟨A3, 0, none⟩ (.complex .f64 ta ta')) A3 [.complex .f64 ta ta', .complex .f64 0 0, .complex .f64 0 0] ∧ Bw w (v8.setCell ⟨A3, 0, none⟩ (.complex .f64 ta ta'))) := ⟨H8.out.1.off (by have q := LT.out; omega), H8.out.2.1.off (by have q := LT.out; omega), H8.out.2.2.1.off (by have q := LT.out; omega), H8.out.2.2.2.1.set (i := 0) (by simp) (.complex .f64 ta ta'), Below.setCell H8.out.2.2.2.2 (show w.heap.size ≤ A3 by have q := LT.out; omega) _⟩
   have q0 := (H8.out.2.2.2.1).c 0 _ rfl
   have r0 := (H8.out.2.2.2.1).fz 0
   go_wp2
   obtain ⟨v9, hV⟩ : ∃ V, v8.setCell ⟨A3, 0, none⟩ (.complex .f64 ta ta') = V := ⟨_, rfl⟩
   have H9 : Hid (Ch.Bl v9 A [.int .i16 X0, .int .i16 Y0, .int .i16 X1, .int .i16 Y1, .int .i16 X2, .int .i16 Y2] ∧ Ch.Bl v9 A1 [.int .i16 P0, .int .i16 Q0, .int .i16 P1, .int .i16 Q1, .int .i16 P2, .int .i16 Q2] ∧ Ch.Bl v9 A2 [.complex .f64 a a', .complex .f64 0 0, .complex .f64 0 0] ∧ Ch.Bl v9 A3 [.complex .f64 ta ta', .complex .f64 0 0, .complex .f64 0 0] ∧ Bw w v9) := by rw [← hV]; exact GZ
   rw [hV]
   clear hV GZ q0 r0 H8 
   go_roundw
   case rel => exact ⟨1, by omega, rfl, hide H9.out, hide ⟨fun _ => ⟨S0.out, S1.out⟩, fun h => absurd h (by decide), fun h => absurd h (by decide)⟩⟩
   case measure => simp [intOf]
  ·
   obtain rfl : k = 1 := by omega
   have G : Hid (Ch.Bl wr A [.int .i16 X0, .int .i16 Y0, .int .i16 X1, .int .i16 Y1, .int .i16 X2, .int .i16 Y2] ∧ Ch.Bl wr A1 [.int .i16 P0, .int .i16 Q0, .int .i16 P1, .int .i16 Q1, .int .i16 P2, .int .i16 Q2] ∧ Ch.Bl wr A2 [.complex .f64 a a', .complex .f64 0 0, .complex .f64 0 0] ∧ Ch.Bl wr A3 [.complex .f64 ta ta', .complex .f64 0 0, .complex .f64 0 0] ∧ Bw w wr) := G0
   clear hk h0 G0
   have cA0 := (G.out.1).c 0 _ rfl
   have cA1 := (G.out.1).c 1 _ rfl
   have cA2 := (G.out.1).c 2 _ rfl
   have cA3 := (G.out.1).c 3 _ rfl
   have cA4 := (G.out.1).c 4 _ rfl
   have cA5 := (G.out.1).c 5 _ rfl
   go_wp2_with fail
   clear cA0 cA1 cA2 cA3 cA4 cA5
   refine (gup18 X1 Y1 _).mono ?_
   rintro e' v4 ⟨p, rfl, s, bb⟩
   have H4 : Hid (Ch.Bl v4 A [.int .i16 X0, .int .i16 Y0, .int .i16 X1, .int .i16 Y1, .int .i16 X2, .int .i16 Y2] ∧ Ch.Bl v4 A1 [.int .i16 P0, .int .i16 Q0, .int .i16 P1, .int .i16 Q1, .int .i16 P2, .int .i16 Q2] ∧ Ch.Bl v4 A2 [.complex .f64 a a', .complex .f64 0 0, .complex .f64 0 0] ∧ Ch.Bl v4 A3 [.complex .f64 ta ta', .complex .f64 0 0, .complex .f64 0 0] ∧ Bw w v4) := ⟨G.out.1.bw bb, G.out.2.1.bw bb, G.out.2.2.1.bw bb, G.out.2.2.2.1.bw bb, bw_trans G.out.2.2.2.2 bb⟩
   clear bb G
   cases p
   case false =>
    go_wp2
    go_ret
    exact ⟨rfl, H4.out.2.2.2.2⟩
   have S0 := hide s
   clear s
   have cA10 := (H4.out.2.1).c 0 _ rfl
   have cA11 := (H4.out.2.1).c 1 _ rfl
   have cA12 := (H4.out.2.1).c 2 _ rfl
   have cA13 := (H4.out.2.1).c 3 _ rfl
   have cA14 := (H4.out.2.1).c 4 _ rfl
   have cA15 := (H4.out.2.1).c 5 _ rfl
   go_wp2_with fail
   clear cA10 cA11 cA12 cA13 cA14 cA15
   refine (gup18 P1 Q1 _).mono ?_
   rintro e' v5 ⟨p, rfl, s, bb⟩
   have H5 : Hid (Ch.Bl v5 A [.int .i16 X0, .int .i16 Y0, .int .i16 X1, .int .i16 Y1, .int .i16 X2, .int .i16 Y2] ∧ Ch.Bl v5 A1 [.int .i16 P0, .int .i16 Q0, .int .i16 P1, .int .i16 Q1, .int .i16 P2, .int .i16 Q2] ∧ Ch.Bl v5 A2 [.complex .f64 a a', .complex .f64 0 0, .complex .f64 0 0] ∧ Ch.Bl v5 A3 [.complex .f64 ta ta', .complex .f64 0 0, .complex .f64 0 0] ∧ Bw w v5) := ⟨H4.out.1.bw bb, H4.out.2.1.bw bb, H4.out.2.2.1.bw bb, H4.out.2.2.2.1.bw bb, bw_trans H4.out.2.2.2.2 bb⟩
   clear bb H4
   cases p
   case false =>
    go_wp2
    go_ret
    exact ⟨rfl, H5.out.2.2.2.2⟩
   have S1 := hide s
   clear s
   have cA0 := (H5.out.1).c 0 _ rfl
   have cA1 := (H5.out.1).c 1 _ rfl
   have cA2 := (H5.out.1).c 2 _ rfl
   have cA3 := (H5.out.1).c 3 _ rfl
   have cA4 := (H5.out.1).c 4 _ rfl
   have cA5 := (H5.out.1).c 5 _ rfl
   go_wp2_with fail
   clear cA0 cA1 cA2 cA3 cA4 cA5
   refine (O1.out _).mono ?_
   rintro e' v6 ⟨rfl, bb⟩
   have H6 : Hid (Ch.Bl v6 A [.int .i16 X0, .int .i16 Y0, .int .i16 X1, .int .i16 Y1, .int .i16 X2, .int .i16 Y2] ∧ Ch.Bl v6 A1 [.int .i16 P0, .int .i16 Q0, .int .i16 P1, .int .i16 Q1, .int .i16 P2, .int .i16 Q2] ∧ Ch.Bl v6 A2 [.complex .f64 a a', .complex .f64 0 0, .complex .f64 0 0] ∧ Ch.Bl v6 A3 [.complex .f64 ta ta', .complex .f64 0 0, .complex .f64 0 0] ∧ Bw w v6) := ⟨H5.out.1.bw bb, H5.out.2.1.bw bb, H5.out.2.2.1.bw bb, H5.out.2.2.2.1.bw bb, bw_trans H5.out.2.2.2.2 bb⟩
   clear bb H5
   have GZ : Hid (Ch.Bl (v6.setCell ⟨A2, 1, none⟩ (.complex .f64 b b')) A [.int .i16 X0, .int .i16 Y0, .int .i16 X1, .int .i16 Y1, .int .i16 X2, .int .i16 Y2] ∧ Ch.Bl (v6.setCell ⟨A2, 1, none⟩ (.complex .f64 b b')) A1 [.int .i16 P0, .int .i16 Q0, .int .i16 P1, .int .i16 Q1, .int .i16 P2, .int .i16 Q2] ∧ Ch.Bl (v6.setCell ⟨A2, 1, none⟩ (.complex .f64 b b')) A2 [.complex .f64 a a', .complex .f64 b b', .complex .f64 0 0] ∧ Ch.Bl (v6.setCell ⟨A2, 1, none⟩ (.complex .f64 b b')) A3 [.complex .f64 ta ta', .complex .f64 0 0, .complex .f64 0 0] ∧ Bw w (v6.setCell ⟨A2, 1, none⟩ (.complex .f64 b b'))) := ⟨H6.out.1.off (by have q := LT.out; omega), H6.out.2.1.off (by have q := LT.out; omega), H6.out.2.2.1.set (i := 1) (by simp) (.complex .f64 b b'), H6.out.2.2.2.1.off (by have q := LT.out; omega), Below.setCell H6.out.2.2.2.2 (show w.heap.size ≤ A2 by have q := LT.out; omega) _⟩
   have q0 := (H6.out.2.2.1).c 1 _ rfl
   have r0 := (H6.out.2.2.1).fz 1
   have nA10 := (GZ.out.2.1).c 0 _ rfl
   have nA11 := (GZ.out.2.1).c 1 _ rfl
   have nA12 := (GZ.out.2.1).c 2 _ rfl
   have nA13 := (GZ.out.2.1).c 3 _ rfl
   have nA14 := (GZ.out.2.1).c 4 _ rfl
   have nA15 := (GZ.out.2.1).c 5 _ rfl
   go_wp2_with fail
   obtain ⟨v7, hV⟩ : ∃ V, v6.setCell ⟨A2, 1, none⟩ (.complex .f64 b b') = V := ⟨_, rfl⟩
   have H7 : Hid (Ch.Bl v7 A [.int .i16 X0, .int .i16 Y0, .int .i16 X1, .int .i16 Y1, .int .i16 X2, .int .i16 Y2] ∧ Ch.Bl v7 A1 [.int .i16 P0, .int .i16 Q0, .int .i16 P1, .int .i16 Q1, .int .i16 P2, .int .i16 Q2] ∧ Ch.Bl v7 A2 [.complex .f64 a a', .complex .f64 b b', .complex .f64 0 0] ∧ Ch.Bl v7 A3 [.complex .f64 ta ta', .complex .f64 0 0, .complex .f64 0 0] ∧ Bw w v7) := by rw [← hV]; exact GZ
   rw [hV]
   clear hV GZ q0 r0 H6 nA10 nA11 nA12 nA13 nA14 nA15
   refine (U1.out _).mono ?_
   rintro e' v8 ⟨rfl, bb⟩
   have H8 : Hid (Ch.Bl v8 A [.int .i16 X0, .int .i16 Y0, .int .i16 X1, .int .i16 Y1, .int .i16 X2, .int .i16 Y2] ∧ Ch.Bl v8 A1 [.int .i16 P0, .int .i16 Q0, .int .i16 P1, .int .i16 Q1, .int .i16 P2, .int .i16 Q2] ∧ Ch.Bl v8 A2 [.complex .f64 a a', .complex .f64 b b', .complex .f64 0 0] ∧ Ch.Bl v8 A3 [.complex .f64 ta ta', .complex .f64 0 0, .complex .f64 0 0] ∧ Bw w v8) := ⟨H7.out.1.bw bb, H7.out.2.1.bw bb, H7.out.2.2.1.bw bb, H7.out.2.2.2.1.bw bb, bw_trans H7.out.2.2.2.2 bb⟩
   clear bb H7
   have GZ : Hid (Ch.Bl (v8.setCell ⟨A3, 1, none⟩ (.complex .f64 tb tb')) A [.int .i16 X0, .int .i16 Y0, .int .i16 X1, .int .i16 Y1, .int .i16 X2, .int .i16 Y2] ∧ Ch.Bl (v8.setCell ⟨A3, 1, none⟩ (.complex .f64 tb tb')) A1 [.int .i16 P0, .int .i16 Q0, .int .i16 P1, .int .i16 Q1, .int .i16 P2, .int .i16 Q2] ∧ Ch.Bl (v8.setCell ⟨A3, 1, none⟩ (.complex .f64 tb tb')) A2 [.complex .f64 a a', .complex .f64 b b', .complex .f64 0 0] ∧ Ch.Bl (v8.setCell ⟨A3, 1, none⟩ (.complex .f64 tb tb')) A3 [.complex .f64 ta ta', .complex .f64 tb tb', .complex .f64 0 0] ∧ Bw w (v8.setCell ⟨A3, 1, none⟩ (.complex .f64 tb tb'))) := ⟨H8.out.1.off (by have q := LT.out; omega), H8.out.2.1.off (by have q := LT.out; omega), H8.out.2.2.1.off (by have q := LT.out; omega), H8.out.2.2.2.1.set (i := 1) (by simp) (.complex .f64 tb tb'), Below.setCell H8.out.2.2.2.2 (show w.heap.size ≤ A3 by have q := LT.out; omega) _⟩
   have q0 := (H8.out.2.2.2.1).c 1 _ rfl
   have r0 := (H8.out.2.2.2.1).fz 1
   go_wp2
   obtain ⟨v9, hV⟩ : ∃ V, v8.setCell ⟨A3, 1, none⟩ (.complex .f64 tb tb') = V := ⟨_, rfl⟩
   have H9 : Hid (Ch.Bl v9 A [.int .i16 X0, .int .i16 Y0, .int .i16 X1, .int .i16 Y1, .int .i16 X2, .int .i16 Y2] ∧ Ch.Bl v9 A1 [.int .i16 P0, .int .i16 Q0, .int .i16 P1, .int .i16 Q1, .int .i16 P2, .int .i16 Q2] ∧ Ch.Bl v9 A2 [.complex .f64 a a', .complex .f64 b b', .complex .f64 0 0] ∧ Ch.Bl v9 A3 [.complex .f64 ta ta', .complex .f64 tb tb', .complex .f64 0 0] ∧ Bw w v9) := by rw [← hV]; exact GZ
   rw [hV]
   clear hV GZ q0 r0 H8 
   go_roundw
   case rel => exact ⟨2, by omega, rfl, hide H9.out, hide ⟨fun _ => SM.out.1 (by decide), fun _ => ⟨S0.out, S1.out⟩, fun h => absurd h (by decide)⟩⟩
   case measure => simp [intOf]
  ·
   obtain rfl : k = 2 := by omega
   have G : Hid (Ch.Bl wr A [.int .i16 X0, .int .i16 Y0, .int .i16 X1, .int .i16 Y1, .int .i16 X2, .int .i16 Y2] ∧ Ch.Bl wr A1 [.int .i16 P0, .int .i16 Q0, .int .i16 P1, .int .i16 Q1, .int .i16 P2, .int .i16 Q2] ∧ Ch.Bl wr A2 [.complex .f64 a a', .complex .f64 b b', .complex .f64 0 0] ∧ Ch.Bl wr A3 [.complex .f64 ta ta', .complex .f64 tb tb', .complex .f64 0 0] ∧ Bw w wr) := G0
   clear hk h0 G0
   have cA0 := (G.out.1).c 0 _ rfl
   have cA1 := (G.out.1).c 1 _ rfl
   have cA2 := (G.out.1).c 2 _ rfl
   have cA3 := (G.out.1).c 3 _ rfl
   have cA4 := (G.out.1).c 4 _ rfl
   have cA5 := (G.out.1).c 5 _ rfl
   go_wp2_with fail
   clear cA0 cA1 cA2 cA3 cA4 cA5
   refine (gup18 X2 Y2 _).mono ?_
   rintro e' v4 ⟨p, rfl, s, bb⟩
   have H4 : Hid (Ch.Bl v4 A [.int .i16 X0, .int .i16 Y0, .int .i16 X1, .int .i16 Y1, .int .i16 X2, .int .i16 Y2] ∧ Ch.Bl v4 A1 [.int .i16 P0, .int .i16 Q0, .int .i16 P1, .int .i16 Q1, .int .i16 P2, .int .i16 Q2] ∧ Ch.Bl v4 A2 [.complex .f64 a a', .complex .f64 b b', .complex .f64 0 0] ∧ Ch.Bl v4 A3 [.complex .f64 ta ta', .complex .f64 tb tb', .complex .f64 0 0] ∧ Bw w v4) := ⟨G.out.1.bw bb, G.out.2.1.bw bb, G.out.2.2.1.bw bb, G.out.2.2.2.1.bw bb, bw_trans G.out.2.2.2.2 bb⟩
   clear bb G
   cases p
   case false =>
    go_wp2
    go_ret
    exact ⟨rfl, H4.out.2.2.2.2⟩
   have S0 := hide s
   clear s
   have cA10 := (H4.out.2.1).c 0 _ rfl
   have cA11 := (H4.out.2.1).c 1 _ rfl
   have cA12 := (H4.out.2.1).c 2 _ rfl
   have cA13 := (H4.out.2.1).c 3 _ rfl
   have cA14 := (H4.out.2.1).c 4 _ rfl
   have cA15 := (H4.out.2.1).c 5 _ rfl
   go_wp2_with fail
   clear cA10 cA11 cA12 cA13 cA14 cA15
   refine (gup18 P2 Q2 _).mono ?_
   rintro e' v5 ⟨p, rfl, s, bb⟩
   have H5 : Hid (Ch.Bl v5 A [.int .i16 X0, .int .i16 Y0, .int .i16 X1, .int .i16 Y1, .int .i16 X2, .int .i16 Y2] ∧ Ch.Bl v5 A1 [.int .i16 P0, .int .i16 Q0, .int .i16 P1, .int .i16 Q1, .int .i16 P2, .int .i16 Q2] ∧ Ch.Bl v5 A2 [.complex .f64 a a', .complex .f64 b b', .complex .f64 0 0] ∧ Ch.Bl v5 A3 [.complex .f64 ta ta', .complex .f64 tb tb', .complex .f64 0 0] ∧ Bw w v5) := ⟨H4.out.1.bw bb, H4.out.2.1.bw bb, H4.out.2.2.1.bw bb, H4.out.2.2.2.1.bw bb, bw_trans H4.out.2.2.2.2 bb⟩
   clear bb H4
   cases p
   case false =>
    go_wp2
    go_ret
    exact ⟨rfl, H5.out.2.2.2.2⟩
   have S1 := hide s
   clear s
   have cA0 := (H5.out.1).c 0 _ rfl
   have cA1 := (H5.out.1).c 1 _ rfl
   have cA2 := (H5.out.1).c 2 _ rfl
   have cA3 := (H5.out.1).c 3 _ rfl
   have cA4 := (H5.out.1).c 4 _ rfl
   have cA5 := (H5.out.1).c 5 _ rfl
   go_wp2_with fail
   clear cA0 cA1 cA2 cA3 cA4 cA5
   refine (O2.out _).mono ?_
   rintro e' v6 ⟨rfl, bb⟩
   have H6 : Hid (Ch.Bl v6 A [.int .i16 X0, .int .i16 Y0, .int .i16 X1, .int .i16 Y1, .int .i16 X2, .int .i16 Y2] ∧ Ch.Bl v6 A1 [.int .i16 P0, .int .i16 Q0, .int .i16 P1, .int .i16 Q1, .int .i16 P2, .int .i16 Q2] ∧ Ch.Bl v6 A2 [.complex .f64 a a', .complex .f64 b b', .complex .f64 0 0] ∧ Ch.Bl v6 A3 [.complex .f64 ta ta', .complex .f64 tb tb', .complex .f64 0 0] ∧ Bw w v6) := ⟨H5.out.1.bw bb, H5.out.2.1.bw bb, H5.out.2.2.1.bw bb, H5.out.2.2.2.1.bw bb, bw_trans H5.out.2.2.2.2 bb⟩
   clear bb H5
   have GZ : Hid (Ch.Bl (v6.setCell ⟨A2, 2, none⟩ (.complex .f64 c c')) A [.int .i16 X0, .int .i16 Y0, .int .i16 X1, .int .i16 Y1, .int .i16 X2, .int .i16 Y2] ∧ Ch.Bl (v6.setCell ⟨A2, 2, none⟩ (.complex .f64 c c')) A1 [.int .i16 P0, .int .i16 Q0, .int .i16 P1, .int .i16 Q1, .int .i16 P2, .int .i16 Q2] ∧ Ch.Bl (v6.setCell ⟨A2, 2, none⟩ (.complex .f64 c c')) A2 [.complex .f64 a a', .complex .f64 b b', .complex .f64 c c'] ∧ Ch.Bl (v6.setCell ⟨A2, 2, none⟩ (.complex .f64 c c')) A3 [.complex .f64 ta ta', .complex .f64 tb tb', .complex .f64 0 0] ∧ Bw w (v6.setCell ⟨A2, 2, none⟩ (.complex .f64 c c'))) := ⟨H6.out.1.off (by have q := LT.out; omega), H6.out.2.1.off (by have q := LT.out; omega), H6.out.2.2.1.set (i := 2) (by simp) (.complex .f64 c c'), H6.out.2.2.2.1.off (by have q := LT.out; omega), Below.setCell H6.out.2.2.2.2 (show w.heap.size ≤ A2 by have q := LT.out; omega) _⟩
   have q0 := (H6.out.2.2.1).c 2 _ rfl
   have r0 := (H6.out.2.2.1).fz 2
   have nA10 := (GZ.out.2.1).c 0 _ rfl
   have nA11 := (GZ.out.2.1).c 1 _ rfl
   have nA12 := (GZ.out.2.1).c 2 _ rfl
   have nA13 := (GZ.out.2.1).c 3 _ rfl
   have nA14 := (GZ.out.2.1).c 4 _ rfl
   have nA15 := (GZ.out.2.1).c 5 _ rfl
   go_wp2_with fail
   obtain ⟨v7, hV⟩ : ∃ V, v6.setCell ⟨A2, 2, none⟩ (.complex .f64 c c') = V := ⟨_, rfl⟩
   have H7 : Hid (Ch.Bl v7 A [.int .i16 X0, .int .i16 Y0, .int .i16 X1, .int .i16 Y1, .int .i16 X2, .int .i16 Y2] ∧ Ch.Bl v7 A1 [.int .i16 P0, .int .i16 Q0, .int .i16 P1, .int .i16 Q1, .int .i16 P2, .int .i16 Q2] ∧ Ch.Bl v7 A2 [.complex .f64 a a', .complex .f64 b b', .complex .f64 c c'] ∧ Ch.Bl v7 A3 [.complex .f64 ta ta', .complex .f64 tb tb', .complex .f64 0 0] ∧ Bw w v7) := by rw [← hV]; exact GZ
   rw [hV]
   clear hV GZ q0 r0 H6 nA10 nA11 nA12 nA13 nA14 nA15
   refine (U2.out _).mono ?_
   rintro e' v8 ⟨rfl, bb⟩
   have H8 : Hid (Ch.Bl v8 A [.int .i16 X0, .int .i16 Y0, .int .i16 X1, .int .i16 Y1, .int .i16 X2, .int .i16 Y2] ∧ Ch.Bl v8 A1 [.int .i16 P0, .int .i16 Q0, .int .i16 P1, .int .i16 Q1, .int .i16 P2, .int .i16 Q2] ∧ Ch.Bl v8 A2 [.complex .f64 a a', .complex .f64 b b', .complex .f64 c c'] ∧ Ch.Bl v8 A3 [.complex .f64 ta ta', .complex .f64 tb tb', .complex .f64 0 0] ∧ Bw w v8) := ⟨H7.out.1.bw bb, H7.out.2.1.bw bb, H7.out.2.2.1.bw bb, H7.out.2.2.2.1.bw bb, bw_trans H7.out.2.2.2.2 bb⟩
   clear bb H7
   have GZ : Hid (Ch.Bl (v8.setCell ⟨A3, 2, none⟩ (.complex .f64 tc tc')) A [.int .i16 X0, .int .i16 Y0, .int .i16 X1, .int .i16 Y1, .int .i16 X2, .int .i16 Y2] ∧ Ch.Bl (v8.setCell ⟨A3, 2, none⟩ (.complex .f64 tc tc')) A1 [.int .i16 P0, .int .i16 Q0, .int .i16 P1, .int .i16 Q1, .int .i16 P2, .int .i16 Q2] ∧ Ch.Bl (v8.setCell ⟨A3, 2, none⟩ (.complex .f64 tc tc')) A2 [.complex .f64 a a', .complex .f64 b b', .complex .f64 c c'] ∧ Ch.Bl (v8.setCell ⟨A3, 2, none⟩ (.complex .f64 tc tc')) A3 [.complex .f64 ta ta', .complex .f64 tb tb', .complex .f64 tc tc'] ∧ Bw w (v8.setCell ⟨A3, 2, none⟩ (.complex .f64 tc tc'))) := ⟨H8.out.1.off (by have q := LT.out; omega), H8.out.2.1.off (by have q := LT.out; omega), H8.out.2.2.1.off (by have q := LT.out; omega), H8.out.2.2.2.1.set (i := 2) (by simp) (.complex .f64 tc tc'), Below.setCell H8.out.2.2.2.2 (show w.heap.size ≤ A3 by have q := LT.out; omega) _⟩
   have q0 := (H8.out.2.2.2.1).c 2 _ rfl
   have r0 := (H8.out.2.2.2.1).fz 2
   go_wp2
   obtain ⟨v9, hV⟩ : ∃ V, v8.setCell ⟨A3, 2, none⟩ (.complex .f64 tc tc') = V := ⟨_, rfl⟩
   have H9 : Hid (Ch.Bl v9 A [.int .i16 X0, .int .i16 Y0, .int .i16 X1, .int .i16 Y1, .int .i16 X2, .int .i16 Y2] ∧ Ch.Bl v9 A1 [.int .i16 P0, .int .i16 Q0, .int .i16 P1, .int .i16 Q1, .int .i16 P2, .int .i16 Q2] ∧ Ch.Bl v9 A2 [.complex .f64 a a', .complex .f64 b b', .complex .f64 c c'] ∧ Ch.Bl v9 A3 [.complex .f64 ta ta', .complex .f64 tb tb', .complex .f64 tc tc'] ∧ Bw w v9) := by rw [← hV]; exact GZ
   rw [hV]
   clear hV GZ q0 r0 H8 
   go_roundw
   case rel => exact ⟨3, by omega, rfl, hide H9.out, hide ⟨fun _ => SM.out.1 (by decide), fun _ => SM.out.2.1 (by decide), fun _ => ⟨S0.out, S1.out⟩⟩⟩
   case measure => simp [intOf]
  ·
   obtain rfl : k = 3 := by omega
   have G : Hid (Ch.Bl wr A [.int .i16 X0, .int .i16 Y0, .int .i16 X1, .int .i16 Y1, .int .i16 X2, .int .i16 Y2] ∧ Ch.Bl wr A1 [.int .i16 P0, .int .i16 Q0, .int .i16 P1, .int .i16 Q1, .int .i16 P2, .int .i16 Q2] ∧ Ch.Bl wr A2 [.complex .f64 a a', .complex .f64 b b', .complex .f64 c c'] ∧ Ch.Bl wr A3 [.complex .f64 ta ta', .complex .f64 tb tb', .complex .f64 tc tc'] ∧ Bw w wr) := G0
   clear hk h0 G0
   clear O0 O1 O2 U0 U1 U2
   cases al : (p0 || p1 || p2 || p3 || p4 || p5)
   case true =>
    have TH := hide (HA.out al SM.out)
    clear HA HB N0 N1 N2 SM
    have cA20 := (G.out.2.2.1).c 0 _ rfl
    have cA21 := (G.out.2.2.1).c 1 _ rfl
    have cA22 := (G.out.2.2.1).c 2 _ rfl
    have cA30 := (G.out.2.2.2.1).c 0 _ rfl
    have cA31 := (G.out.2.2.2.1).c 1 _ rfl
    have cA32 := (G.out.2.2.2.1).c 2 _ rfl
    go_wp2_with fail
    clear cA20 cA21 cA22 cA30 cA31 cA32
    refine (TH.out _).mono ?_
    rintro e' v4 ⟨rfl, bb⟩
    have H4 : Hid (Ch.Bl v4 A [.int .i16 X0, .int .i16 Y0, .int .i16 X1, .int .i16 Y1, .int .i16 X2, .int .i16 Y2] ∧ Ch.Bl v4 A1 [.int .i16 P0, .int .i16 Q0, .int .i16 P1, .int .i16 Q1, .int .i16 P2, .int .i16 Q2] ∧ Ch.Bl v4 A2 [.complex .f64 a a', .complex .f64 b b', .complex .f64 c c'] ∧ Ch.Bl v4 A3 [.complex .f64 ta ta', .complex .f64 tb tb', .complex .f64 tc tc'] ∧ Bw w v4) := ⟨G.out.1.bw bb, G.out.2.1.bw bb, G.out.2.2.1.bw bb, G.out.2.2.2.1.bw bb, bw_trans G.out.2.2.2.2 bb⟩
    clear bb G
    clear TH
    cases p0
    case true =>
     clear al
     have nA0 := ((H4.out.1).bw (bw_alloc v4 (.cells #[.int .u8 0, .complex .f64 0 0, .complex .f64 0 0, .complex .f64 0 0, .complex .f64 0 0, .float .f64 0] 33))).c 0 _ rfl
     have nA1 := ((H4.out.1).bw (bw_alloc v4 (.cells #[.int .u8 0, .complex .f64 0 0, .complex .f64 0 0, .complex .f64 0 0, .complex .f64 0 0, .float .f64 0] 33))).c 1 _ rfl
     have nA2 := ((H4.out.1).bw (bw_alloc v4 (.cells #[.int .u8 0, .complex .f64 0 0, .complex .f64 0 0, .complex .f64 0 0, .complex .f64 0 0, .float .f64 0] 33))).c 2 _ rfl
     have nA3 := ((H4.out.1).bw (bw_alloc v4 (.cells #[.int .u8 0, .complex .f64 0 0, .complex .f64 0 0, .complex .f64 0 0, .complex .f64 0 0, .float .f64 0] 33))).c 3 _ rfl
     have nA4 := ((H4.out.1).bw (bw_alloc v4 (.cells #[.int .u8 0, .complex .f64 0 0, .complex .f64 0 0, .complex .f64 0 0, .complex .f64 0 0, .float .f64 0] 33))).c 4 _ rfl
     have nA5 := ((H4.out.1).bw (bw_alloc v4 (.cells #[.int .u8 0, .complex .f64 0 0, .complex .f64 0 0, .complex .f64 0 0, .complex .f64 0 0, .float .f64 0] 33))).c 5 _ rfl
     have nA10 := ((H4.out.2.1).bw (bw_alloc v4 (.cells #[.int .u8 0, .complex .f64 0 0, .complex .f64 0 0, .complex .f64 0 0, .complex .f64 0 0, .float .f64 0] 33))).c 0 _ rfl
     have nA11 := ((H4.out.2.1).bw (bw_alloc v4 (.cells #[.int .u8 0, .complex .f64 0 0, .complex .f64 0 0, .complex .f64 0 0, .complex .f64 0 0, .float .f64 0] 33))).c 1 _ rfl
     have nA12 := ((H4.out.2.1).bw (bw_alloc v4 (.cells #[.int .u8 0, .complex .f64 0 0, .complex .f64 0 0, .complex .f64 0 0, .complex .f64 0 0, .float .f64 0] 33))).c 2 _ rfl
     have nA13 := ((H4.out.2.1).bw (bw_alloc v4 (.cells #[.int .u8 0, .complex .f64 0 0, .complex .f64 0 0, .complex .f64 0 0, .complex .f64 0 0, .float .f64 0] 33))).c 3 _ rfl
     have nA14 := ((H4.out.2.1).bw (bw_alloc v4 (.cells #[.int .u8 0, .complex .f64 0 0, .complex .f64 0 0, .complex .f64 0 0, .complex .f64 0 0, .float .f64 0] 33))).c 4 _ rfl
     have nA15 := ((H4.out.2.1).bw (bw_alloc v4 (.cells #[.int .u8 0, .complex .f64 0 0, .complex .f64 0 0, .complex .f64 0 0, .complex .f64 0 0, .float .f64 0] 33))).c 5 _ rfl
     have ka := Ch.Bl.new v4 #[.int .u8 0, .complex .f64 0 0, .complex .f64 0 0, .complex .f64 0 0, .complex .f64 0 0, .float .f64 0] 33
     have kb := bw_alloc v4 (.cells #[.int .u8 0, .complex .f64 0 0, .complex .f64 0 0, .complex .f64 0 0, .complex .f64 0 0, .float .f64 0] 33)
     obtain ⟨v5, hW⟩ : ∃ v, v4.alloc (.cells #[.int .u8 0, .complex .f64 0 0, .complex .f64 0 0, .complex .f64 0 0, .complex .f64 0 0, .float .f64 0] 33) = v := ⟨_, rfl⟩
     rw [hW] at ka kb
     obtain ⟨A4, hB⟩ : ∃ v, v4.heap.size = v := ⟨_, rfl⟩
     rw [hB] at ka
     have LT2 : Hid (w.heap.size ≤ A ∧ A < A1 ∧ A1 < A2 ∧ A2 < A3 ∧ A3 < A4) := by have q := LT.out; have r := H4.out.2.2.2.1.lt; rw [hB] at r; exact ⟨by omega, by omega, by omega, by omega, by omega⟩
     clear LT
     have LT := LT2
     clear LT2
     have H5 : Hid (Ch.Bl v5 A [.int .i16 X0, .int .i16 Y0, .int .i16 X1, .int .i16 Y1, .int .i16 X2, .int .i16 Y2] ∧ Ch.Bl v5 A1 [.int .i16 P0, .int .i16 Q0, .int .i16 P1, .int .i16 Q1, .int .i16 P2, .int .i16 Q2] ∧ Ch.Bl v5 A2 [.complex .f64 a a', .complex .f64 b b', .complex .f64 c c'] ∧ Ch.Bl v5 A3 [.complex .f64 ta ta', .complex .f64 tb tb', .complex .f64 tc tc'] ∧ Ch.Bl v5 A4 [.int .u8 0, .complex .f64 0 0, .complex .f64 0 0, .complex .f64 0 0, .complex .f64 0 0, .float .f64 0] ∧ Bw w v5) := ⟨H4.out.1.bw kb, H4.out.2.1.bw kb, H4.out.2.2.1.bw kb, H4.out.2.2.2.1.bw kb, ka, bw_trans H4.out.2.2.2.2 kb⟩
     have HW := hide hW
     have HB := hide hB
     clear ka kb hW hB H4
     have e0 := E0.out
     go_wp2
     rw [HW.out]
     go_ret
     exact ⟨rfl, H5.out.2.2.2.2.2⟩
    have e0 := E0.out
    cases p1
    case true =>
     clear al
     have nA0 := ((H4.out.1).bw (bw_alloc v4 (.cells #[.int .u8 0, .complex .f64 0 0, .complex .f64 0 0, .complex .f64 0 0, .complex .f64 0 0, .float .f64 0] 33))).c 0 _ rfl
     have nA1 := ((H4.out.1).bw (bw_alloc v4 (.cells #[.int .u8 0, .complex .f64 0 0, .complex .f64 0 0, .complex .f64 0 0, .complex .f64 0 0, .float .f64 0] 33))).c 1 _ rfl
     have nA2 := ((H4.out.1).bw (bw_alloc v4 (.cells #[.int .u8 0, .complex .f64 0 0, .complex .f64 0 0, .complex .f64 0 0, .complex .f64 0 0, .float .f64 0] 33))).c 2 _ rfl
     have nA3 := ((H4.out.1).bw (bw_alloc v4 (.cells #[.int .u8 0, .complex .f64 0 0, .complex .f64 0 0, .complex .f64 0 0, .complex .f64 0 0, .float .f64 0] 33))).c 3 _ rfl
     have nA4 := ((H4.out.1).bw (bw_alloc v4 (.cells #[.int .u8 0, .complex .f64 0 0, .complex .f64 0 0, .complex .f64 0 0, .complex .f64 0 0, .float .f64 0] 33))).c 4 _ rfl
     have nA5 := ((H4.out.1).bw (bw_alloc v4 (.cells #[.int .u8 0, .complex .f64 0 0, .complex .f64 0 0, .complex .f64 0 0, .complex .f64 0 0, .float .f64 0] 33))).c 5 _ rfl
     have nA10 := ((H4.out.2.1).bw (bw_alloc v4 (.cells #[.int .u8 0, .complex .f64 0 0, .complex .f64 0 0, .complex .f64 0 0, .complex .f64 0 0, .float .f64 0] 33))).c 0 _ rfl
     have nA11 := ((H4.out.2.1).bw (bw_alloc v4 (.cells #[.int .u8 0, .complex .f64 0 0, .complex .f64 0 0, .complex .f64 0 0, .complex .f64 0 0, .float .f64 0] 33))).c 1 _ rfl
     have nA12 := ((H4.out.2.1).bw (bw_alloc v4 (.cells #[.int .u8 0, .complex .f64 0 0, .complex .f64 0 0, .complex .f64 0 0, .complex .f64 0 0, .float .f64 0] 33))).c 2 _ rfl
     have nA13 := ((H4.out.2.1).bw (bw_alloc v4 (.cells #[.int .u8 0, .complex .f64 0 0, .complex .f64 0 0, .complex .f64 0 0, .complex .f64 0 0, .float .f64 0] 33))).c 3 _ rfl
     have nA14 := ((H4.out.2.1).bw (bw_alloc v4 (.cells #[.int .u8 0, .complex .f64 0 0, .complex .f64 0 0, .complex .f64 0 0, .complex .f64 0 0, .float .f64 0] 33))).c 4 _ rfl
     have nA15 := ((H4.out.2.1).bw (bw_alloc v4 (.cells #[.int .u8 0, .complex .f64 0 0, .complex .f64 0 0, .complex .f64 0 0, .complex .f64 0 0, .float .f64 0] 33))).c 5 _ rfl
     have ka := Ch.Bl.new v4 #[.int .u8 0, .complex .f64 0 0, .complex .f64 0 0, .complex .f64 0 0, .complex .f64 0 0, .float .f64 0] 33
     have kb := bw_alloc v4 (.cells #[.int .u8 0, .complex .f64 0 0, .complex .f64 0 0, .complex .f64 0 0, .complex .f64 0 0, .float .f64 0] 33)
     obtain ⟨v5, hW⟩ : ∃ v, v4.alloc (.cells #[.int .u8 0, .complex .f64 0 0, .complex .f64 0 0, .complex .f64 0 0, .complex .f64 0 0, .float .f64 0] 33) = v := ⟨_, rfl⟩
     rw [hW] at ka kb
     obtain ⟨A4, hB⟩ : ∃ v, v4.heap.size = v := ⟨_, rfl⟩
     rw [hB] at ka
     have LT2 : Hid (w.heap.size ≤ A ∧ A < A1 ∧ A1 < A2 ∧ A2 < A3 ∧ A3 < A4) := by have q := LT.out; have r := H4.out.2.2.2.1.lt; rw [hB] at r; exact ⟨by omega, by omega, by omega, by omega, by omega⟩
     clear LT
     have LT := LT2
     clear LT2
     have H5 : Hid (Ch.Bl v5 A [.int .i16 X0, .int .i16 Y0, .int .i16 X1, .int .i16 Y1, .int .i16 X2, .int .i16 Y2] ∧ Ch.Bl v5 A1 [.int .i16 P0, .int .i16 Q0, .int .i16 P1, .int .i16 Q1, .int .i16 P2, .int .i16 Q2] ∧ Ch.Bl v5 A2 [.complex .f64 a a', .complex .f64 b b', .complex .f64 c c'] ∧ Ch.Bl v5 A3 [.complex .f64 ta ta', .complex .f64 tb tb', .complex .f64 tc tc'] ∧ Ch.Bl v5 A4 [.int .u8 0, .complex .f64 0 0, .complex .f64 0 0, .complex .f64 0 0, .complex .f64 0 0, .float .f64 0] ∧ Bw w v5) := ⟨H4.out.1.bw kb, H4.out.2.1.bw kb, H4.out.2.2.1.bw kb, H4.out.2.2.2.1.bw kb, ka, bw_trans H4.out.2.2.2.2 kb⟩
     have HW := hide hW
     have HB := hide hB
     clear ka kb hW hB H4
     have e1 := E1.out
     go_wp2
     rw [HW.out]
     go_ret
     exact ⟨rfl, H5.out.2.2.2.2.2⟩
    have e1 := E1.out
    cases p2
    case true =>
     clear al
     have nA0 := ((H4.out.1).bw (bw_alloc v4 (.cells #[.int .u8 0, .complex .f64 0 0, .complex .f64 0 0, .complex .f64 0 0, .complex .f64 0 0, .float .f64 0] 33))).c 0 _ rfl
     have nA1 := ((H4.out.1).bw (bw_alloc v4 (.cells #[.int .u8 0, .complex .f64 0 0, .complex .f64 0 0, .complex .f64 0 0, .complex .f64 0 0, .float .f64 0] 33))).c 1 _ rfl
     have nA2 := ((H4.out.1).bw (bw_alloc v4 (.cells #[.int .u8 0, .complex .f64 0 0, .complex .f64 0 0, .complex .f64 0 0, .complex .f64 0 0, .float .f64 0] 33))).c 2 _ rfl
     have nA3 := ((H4.out.1).bw (bw_alloc v4 (.cells #[.int .u8 0, .complex .f64 0 0, .complex .f64 0 0, .complex .f64 0 0, .complex .f64 0 0, .float .f64 0] 33))).c 3 _ rfl
     have nA4 := ((H4.out.1).bw (bw_alloc v4 (.cells #[.int .u8 0, .complex .f64 0 0, .complex .f64 0 0, .complex .f64 0 0, .complex .f64 0 0, .float .f64 0] 33))).c 4 _ rfl
     have nA5 := ((H4.out.1).bw (bw_alloc v4 (.cells #[.int .u8 0, .complex .f64 0 0, .complex .f64 0 0, .complex .f64 0 0, .complex .f64 0 0, .float .f64 0] 33))).c 5 _ rfl
     have nA10 := ((H4.out.2.1).bw (bw_alloc v4 (.cells #[.int .u8 0, .complex .f64 0 0, .complex .f64 0 0, .complex .f64 0 0, .complex .f64 0 0, .float .f64 0] 33))).c 0 _ rfl
     have nA11 := ((H4.out.2.1).bw (bw_alloc v4 (.cells #[.int .u8 0, .complex .f64 0 0, .complex .f64 0 0, .complex .f64 0 0, .complex .f64 0 0, .float .f64 0] 33))).c 1 _ rfl
     have nA12 := ((H4.out.2.1).bw (bw_alloc v4 (.cells #[.int .u8 0, .complex .f64 0 0, .complex .f64 0 0, .complex .f64 0 0, .complex .f64 0 0, .float .f64 0] 33))).c 2 _ rfl
     have nA13 := ((H4.out.2.1).bw (bw_alloc v4 (.cells #[.int .u8 0, .complex .f64 0 0, .complex .f64 0 0, .complex .f64 0 0, .complex .f64 0 0, .float .f64 0] 33))).c 3 _ rfl
     have nA14 := ((H4.out.2.1).bw (bw_alloc v4 (.cells #[.int .u8 0, .complex .f64 0 0, .complex .f64 0 0, .complex .f64 0 0, .complex .f64 0 0, .float .f64 0] 33))).c 4 _ rfl
     have nA15 := ((H4.out.2.1).bw (bw_alloc v4 (.cells #[.int .u8 0, .complex .f64 0 0, .complex .f64 0 0, .complex .f64 0 0, .complex .f64 0 0, .float .f64 0] 33))).c 5 _ rfl
     have ka := Ch.Bl.new v4 #[.int .u8 0, .complex .f64 0 0, .complex .f64 0 0, .complex .f64 0 0, .complex .f64 0 0, .float .f64 0] 33
     have kb := bw_alloc v4 (.cells #[.int .u8 0, .complex .f64 0 0, .complex .f64 0 0, .complex .f64 0 0, .complex .f64 0 0, .float .f64 0] 33)
     obtain ⟨v5, hW⟩ : ∃ v, v4.alloc (.cells #[.int .u8 0, .complex .f64 0 0, .complex .f64 0 0, .complex .f64 0 0, .complex .f64 0 0, .float .f64 0] 33) = v := ⟨_, rfl⟩
     rw [hW] at ka kb
     obtain ⟨A4, hB⟩ : ∃ v, v4.heap.size = v := ⟨_, rfl⟩
     rw [hB] at ka
     have LT2 : Hid (w.heap.size ≤ A ∧ A < A1 ∧ A1 < A2 ∧ A2 < A3 ∧ A3 < A4) := by have q := LT.out; have r := H4.out.2.2.2.1.lt; rw [hB] at r; exact ⟨by omega, by omega, by omega, by omega, by omega⟩
     clear LT
     have LT := LT2
     clear LT2
     have H5 : Hid (Ch.Bl v5 A [.int .i16 X0, .int .i16 Y0, .int .i16 X1, .int .i16 Y1, .int .i16 X2, .int .i16 Y2] ∧ Ch.Bl v5 A1 [.int .i16 P0, .int .i16 Q0, .int .i16 P1, .int .i16 Q1, .int .i16 P2, .int .i16 Q2] ∧ Ch.Bl v5 A2 [.complex .f64 a a', .complex .f64 b b', .complex .f64 c c'] ∧ Ch.Bl v5 A3 [.complex .f64 ta ta', .complex .f64 tb tb', .complex .f64 tc tc'] ∧ Ch.Bl v5 A4 [.int .u8 0, .complex .f64 0 0, .complex .f64 0 0, .complex .f64 0 0, .complex .f64 0 0, .float .f64 0] ∧ Bw w v5) := ⟨H4.out.1.bw kb, H4.out.2.1.bw kb, H4.out.2.2.1.bw kb, H4.out.2.2.2.1.bw kb, ka, bw_trans H4.out.2.2.2.2 kb⟩
     have HW := hide hW
     have HB := hide hB
     clear ka kb hW hB H4
     have e2 := E2.out
     go_wp2
     rw [HW.out]
     go_ret
     exact ⟨rfl, H5.out.2.2.2.2.2⟩
    have e2 := E2.out
    cases p3
    case true =>
     clear al
     have nA0 := ((H4.out.1).bw (bw_alloc v4 (.cells #[.int .u8 0, .complex .f64 0 0, .complex .f64 0 0, .complex .f64 0 0, .complex .f64 0 0, .float .f64 0] 33))).c 0 _ rfl
     have nA1 := ((H4.out.1).bw (bw_alloc v4 (.cells #[.int .u8 0, .complex .f64 0 0, .complex .f64 0 0, .complex .f64 0 0, .complex .f64 0 0, .float .f64 0] 33))).c 1 _ rfl
     have nA2 := ((H4.out.1).bw (bw_alloc v4 (.cells #[.int .u8 0, .complex .f64 0 0, .complex .f64 0 0, .complex .f64 0 0, .complex .f64 0 0, .float .f64 0] 33))).c 2 _ rfl
     have nA3 := ((H4.out.1).bw (bw_alloc v4 (.cells #[.int .u8 0, .complex .f64 0 0, .complex .f64 0 0, .complex .f64 0 0, .complex .f64 0 0, .float .f64 0] 33))).c 3 _ rfl
     have nA4 := ((H4.out.1).bw (bw_alloc v4 (.cells #[.int .u8 0, .complex .f64 0 0, .complex .f64 0 0, .complex .f64 0 0, .complex .f64 0 0, .float .f64 0] 33))).c 4 _ rfl
     have nA5 := ((H4.out.1).bw (bw_alloc v4 (.cells #[.int .u8 0, .complex .f64 0 0, .complex .f64 0 0, .complex .f64 0 0, .complex .f64 0 0, .float .f64 0] 33))).c 5 _ rfl
     have nA10 := ((H4.out.2.1).bw (bw_alloc v4 (.cells #[.int .u8 0, .complex .f64 0 0, .complex .f64 0 0, .complex .f64 0 0, .complex .f64 0 0, .float .f64 0] 33))).c 0 _ rfl
     have nA11 := ((H4.out.2.1).bw (bw_alloc v4 (.cells #[.int .u8 0, .complex .f64 0 0, .complex .f64 0 0, .complex .f64 0 0, .complex .f64 0 0, .float .f64 0] 33))).c 1 _ rfl
     have nA12 := ((H4.out.2.1).bw (bw_alloc v4 (.cells #[.int .u8 0, .complex .f64 0 0, .complex .f64 0 0, .complex .f64 0 0, .complex .f64 0 0, .float .f64 0] 33))).c 2 _ rfl
     have nA13 := ((H4.out.2.1).bw (bw_alloc v4 (.cells #[.int .u8 0, .complex .f64 0 0, .complex .f64 0 0, .complex .f64 0 0, .complex .f64 0 0, .float .f64 0] 33))).c 3 _ rfl
     have nA14 := ((H4.out.2.1).bw (bw_alloc v4 (.cells #[.int .u8 0, .complex .f64 0 0, .complex .f64 0 0, .complex .f64 0 0, .complex .f64 0 0, .float .f64 0] 33))).c 4 _ rfl
     have nA15 := ((H4.out.2.1).bw (bw_alloc v4 (.cells #[.int .u8 0, .complex .f64 0 0, .complex .f64 0 0, .complex .f64 0 0, .complex .f64 0 0, .float .f64 0] 33))).c 5 _ rfl
     have ka := Ch.Bl.new v4 #[.int .u8 0, .complex .f64 0 0, .complex .f64 0 0, .complex .f64 0 0, .complex .f64 0 0, .float .f64 0] 33
     have kb := bw_alloc v4 (.cells #[.int .u8 0, .complex .f64 0 0, .complex .f64 0 0, .complex .f64 0 0, .complex .f64 0 0, .float .f64 0] 33)
     obtain ⟨v5, hW⟩ : ∃ v, v4.alloc (.cells #[.int .u8 0, .complex .f64 0 0, .complex .f64 0 0, .complex .f64 0 0, .complex .f64 0 0, .float .f64 0] 33) = v := ⟨_, rfl⟩
     rw [hW] at ka kb
     obtain ⟨A4, hB⟩ : ∃ v, v4.heap.size = v := ⟨_, rfl⟩
     rw [hB] at ka
     have LT2 : Hid (w.heap.size ≤ A ∧ A < A1 ∧ A1 < A2 ∧ A2 < A3 ∧ A3 < A4) := by have q := LT.out; have r := H4.out.2.2.2.1.lt; rw [hB] at r; exact ⟨by omega, by omega, by omega, by omega, by omega⟩
     clear LT
     have LT := LT2
     clear LT2
     have H5 : Hid (Ch.Bl v5 A [.int .i16 X0, .int .i16 Y0, .int .i16 X1, .int .i16 Y1, .int .i16 X2, .int .i16 Y2] ∧ Ch.Bl v5 A1 [.int .i16 P0, .int .i16 Q0, .int .i16 P1, .int .i16 Q1, .int .i16 P2, .int .i16 Q2] ∧ Ch.Bl v5 A2 [.complex .f64 a a', .complex .f64 b b', .complex .f64 c c'] ∧ Ch.Bl v5 A3 [.complex .f64 ta ta', .complex .f64 tb tb', .complex .f64 tc tc'] ∧ Ch.Bl v5 A4 [.int .u8 0, .complex .f64 0 0, .complex .f64 0 0, .complex .f64 0 0, .complex .f64 0 0, .float .f64 0] ∧ Bw w v5) := ⟨H4.out.1.bw kb, H4.out.2.1.bw kb, H4.out.2.2.1.bw kb, H4.out.2.2.2.1.bw kb, ka, bw_trans H4.out.2.2.2.2 kb⟩
     have HW := hide hW
     have HB := hide hB
     clear ka kb hW hB H4
     have e3 := E3.out
     go_wp2
     rw [HW.out]
     go_ret
     exact ⟨rfl, H5.out.2.2.2.2.2⟩
    have e3 := E3.out
    cases p4
    case true =>
     clear al
     have nA0 := ((H4.out.1).bw (bw_alloc v4 (.cells #[.int .u8 0, .complex .f64 0 0, .complex .f64 0 0, .complex .f64 0 0, .complex .f64 0 0, .float .f64 0] 33))).c 0 _ rfl
     have nA1 := ((H4.out.1).bw (bw_alloc v4 (.cells #[.int .u8 0, .complex .f64 0 0, .complex .f64 0 0, .complex .f64 0 0, .complex .f64 0 0, .float .f64 0] 33))).c 1 _ rfl
     have nA2 := ((H4.out.1).bw (bw_alloc v4 (.cells #[.int .u8 0, .complex .f64 0 0, .complex .f64 0 0, .complex .f64 0 0, .complex .f64 0 0, .float .f64 0] 33))).c 2 _ rfl
     have nA3 := ((H4.out.1).bw (bw_alloc v4 (.cells #[.int .u8 0, .complex .f64 0 0, .complex .f64 0 0, .complex .f64 0 0, .complex .f64 0 0, .float .f64 0] 33))).c 3 _ rfl
     have nA4 := ((H4.out.1).bw (bw_alloc v4 (.cells #[.int .u8 0, .complex .f64 0 0, .complex .f64 0 0, .complex .f64 0 0, .complex .f64 0 0, .float .f64 0] 33))).c 4 _ rfl
     have nA5 := ((H4.out.1).bw (bw_alloc v4 (.cells #[.int .u8 0, .complex .f64 0 0, .complex .f64 0 0, .complex .f64 0 0, .complex .f64 0 0, .float .f64 0] 33))).c 5 _ rfl
     have nA10 := ((H4.out.2.1).bw (bw_alloc v4 (.cells #[.int .u8 0, .complex .f64 0 0, .complex .f64 0 0, .complex .f64 0 0, .complex .f64 0 0, .float .f64 0] 33))).c 0 _ rfl
     have nA11 := ((H4.out.2.1).bw (bw_alloc v4 (.cells #[.int .u8 0, .complex .f64 0 0, .complex .f64 0 0, .complex .f64 0 0, .complex .f64 0 0, .float .f64 0] 33))).c 1 _ rfl
     have nA12 := ((H4.out.2.1).bw (bw_alloc v4 (.cells #[.int .u8 0, .complex .f64 0 0, .complex .f64 0 0, .complex .f64 0 0, .complex .f64 0 0, .float .f64 0] 33))).c 2 _ rfl
     have nA13 := ((H4.out.2.1).bw (bw_alloc v4 (.cells #[.int .u8 0, .complex .f64 0 0, .complex .f64 0 0, .complex .f64 0 0, .complex .f64 0 0, .float .f64 0] 33))).c 3 _ rfl
     have nA14 := ((H4.out.2.1).bw (bw_alloc v4 (.cells #[.int .u8 0, .complex .f64 0 0, .complex .f64 0 0, .complex .f64 0 0, .complex .f64 0 0, .float .f64 0] 33))).c 4 _ rfl
     have nA15 := ((H4.out.2.1).bw (bw_alloc v4 (.cells #[.int .u8 0, .complex .f64 0 0, .complex .f64 0 0, .complex .f64 0 0, .complex .f64 0 0, .float .f64 0] 33))).c 5 _ rfl
     have ka := Ch.Bl.new v4 #[.int .u8 0, .complex .f64 0 0, .complex .f64 0 0, .complex .f64 0 0, .complex .f64 0 0, .float .f64 0] 33
     have kb := bw_alloc v4 (.cells #[.int .u8 0, .complex .f64 0 0, .complex .f64 0 0, .complex .f64 0 0, .complex .f64 0 0, .float .f64 0] 33)
     obtain ⟨v5, hW⟩ : ∃ v, v4.alloc (.cells #[.int .u8 0, .complex .f64 0 0, .complex .f64 0 0, .complex .f64 0 0, .complex .f64 0 0, .float .f64 0] 33) = v := ⟨_, rfl⟩
     rw [hW] at ka kb
     obtain ⟨A4, hB⟩ : ∃ v, v4.heap.size = v := ⟨_, rfl⟩
     rw [hB] at ka
     have LT2 : Hid (w.heap.size ≤ A ∧ A < A1 ∧ A1 < A2 ∧ A2 < A3 ∧ A3 < A4) := by have q := LT.out; have r := H4.out.2.2.2.1.lt; rw [hB] at r; exact ⟨by omega, by omega, by omega, by omega, by omega⟩
     clear LT
     have LT := LT2
     clear LT2
     have H5 : Hid (Ch.Bl v5 A [.int .i16 X0, .int .i16 Y0, .int .i16 X1, .int .i16 Y1, .int .i16 X2, .int .i16 Y2] ∧ Ch.Bl v5 A1 [.int .i16 P0, .int .i16 Q0, .int .i16 P1, .int .i16 Q1, .int .i16 P2, .int .i16 Q2] ∧ Ch.Bl v5 A2 [.complex .f64 a a', .complex .f64 b b', .complex .f64 c c'] ∧ Ch.Bl v5 A3 [.complex .f64 ta ta', .complex .f64 tb tb', .complex .f64 tc tc'] ∧ Ch.Bl v5 A4 [.int .u8 0, .complex .f64 0 0, .complex .f64 0 0, .complex .f64 0 0, .complex .f64 0 0, .float .f64 0] ∧ Bw w v5) := ⟨H4.out.1.bw kb, H4.out.2.1.bw kb, H4.out.2.2.1.bw kb, H4.out.2.2.2.1.bw kb, ka, bw_trans H4.out.2.2.2.2 kb⟩
     have HW := hide hW
     have HB := hide hB
     clear ka kb hW hB H4
     have e4 := E4.out
     go_wp2
     rw [HW.out]
     go_ret
     exact ⟨rfl, H5.out.2.2.2.2.2⟩
    have e4 := E4.out
    cases p5
    case true =>
     clear al
     have nA0 := ((H4.out.1).bw (bw_alloc v4 (.cells #[.int .u8 0, .complex .f64 0 0, .complex .f64 0 0, .complex .f64 0 0, .complex .f64 0 0, .float .f64 0] 33))).c 0 _ rfl
     have nA1 := ((H4.out.1).bw (bw_alloc v4 (.cells #[.int .u8 0, .complex .f64 0 0, .complex .f64 0 0, .complex .f64 0 0, .complex .f64 0 0, .float .f64 0] 33))).c 1 _ rfl
     have nA2 := ((H4.out.1).bw (bw_alloc v4 (.cells #[.int .u8 0, .complex .f64 0 0, .complex .f64 0 0, .complex .f64 0 0, .complex .f64 0 0, .float .f64 0] 33))).c 2 _ rfl
     have nA3 := ((H4.out.1).bw (bw_alloc v4 (.cells #[.int .u8 0, .complex .f64 0 0, .complex .f64 0 0, .complex .f64 0 0, .complex .f64 0 0, .float .f64 0] 33))).c 3 _ rfl
     have nA4 := ((H4.out.1).bw (bw_alloc v4 (.cells #[.int .u8 0, .complex .f64 0 0, .complex .f64 0 0, .complex .f64 0 0, .complex .f64 0 0, .float .f64 0] 33))).c 4 _ rfl
     have nA5 := ((H4.out.1).bw (bw_alloc v4 (.cells #[.int .u8 0, .complex .f64 0 0, .complex .f64 0 0, .complex .f64 0 0, .complex .f64 0 0, .float .f64 0] 33))).c 5 _ rfl
     have nA10 := ((H4.out.2.1).bw (bw_alloc v4 (.cells #[.int .u8 0, .complex .f64 0 0, .complex .f64 0 0, .complex .f64 0 0, .complex .f64 0 0, .float .f64 0] 33))).c 0 _ rfl
     have nA11 := ((H4.out.2.1).bw (bw_alloc v4 (.cells #[.int .u8 0, .complex .f64 0 0, .complex .f64 0 0, .complex .f64 0 0, .complex .f64 0 0, .float .f64 0] 33))).c 1 _ rfl
     have nA12 := ((H4.out.2.1).bw (bw_alloc v4 (.cells #[.int .u8 0, .complex .f64 0 0, .complex .f64 0 0, .complex .f64 0 0, .complex .f64 0 0, .float .f64 0] 33))).c 2 _ rfl
     have nA13 := ((H4.out.2.1).bw (bw_alloc v4 (.cells #[.int .u8 0, .complex .f64 0 0, .complex .f64 0 0, .complex .f64 0 0, .complex .f64 0 0, .float .f64 0] 33))).c 3 _ rfl
     have nA14 := ((H4.out.2.1).bw (bw_alloc v4 (.cells #[.int .u8 0, .complex .f64 0 0, .complex .f64 0 0, .complex .f64 0 0, .complex .f64 0 0, .float .f64 0] 33))).c 4 _ rfl
     have nA15 := ((H4.out.2.1).bw (bw_alloc v4 (.cells #[.int .u8 0, .complex .f64 0 0, .complex .f64 0 0, .complex .f64 0 0, .complex .f64 0 0, .float .f64 0] 33))).c 5 _ rfl
     have ka := Ch.Bl.new v4 #[.int .u8 0, .complex .f64 0 0, .complex .f64 0 0, .complex .f64 0 0, .complex .f64 0 0, .float .f64 0] 33
     have kb := bw_alloc v4 (.cells #[.int .u8 0, .complex .f64 0 0, .complex .f64 0 0, .complex .f64 0 0, .complex .f64 0 0, .float .f64 0] 33)
     obtain ⟨v5, hW⟩ : ∃ v, v4.alloc (.cells #[.int .u8 0, .complex .f64 0 0, .complex .f64 0 0, .complex .f64 0 0, .complex .f64 0 0, .float .f64 0] 33) = v := ⟨_, rfl⟩
     rw [hW] at ka kb
     obtain ⟨A4, hB⟩ : ∃ v, v4.heap.size = v := ⟨_, rfl⟩
     rw [hB] at ka
     have LT2 : Hid (w.heap.size ≤ A ∧ A < A1 ∧ A1 < A2 ∧ A2 < A3 ∧ A3 < A4) := by have q := LT.out; have r := H4.out.2.2.2.1.lt; rw [hB] at r; exact ⟨by omega, by omega, by omega, by omega, by omega⟩
     clear LT
     have LT := LT2
     clear LT2
     have H5 : Hid (Ch.Bl v5 A [.int .i16 X0, .int .i16 Y0, .int .i16 X1, .int .i16 Y1, .int .i16 X2, .int .i16 Y2] ∧ Ch.Bl v5 A1 [.int .i16 P0, .int .i16 Q0, .int .i16 P1, .int .i16 Q1, .int .i16 P2, .int .i16 Q2] ∧ Ch.Bl v5 A2 [.complex .f64 a a', .complex .f64 b b', .complex .f64 c c'] ∧ Ch.Bl v5 A3 [.complex .f64 ta ta', .complex .f64 tb tb', .complex .f64 tc tc'] ∧ Ch.Bl v5 A4 [.int .u8 0, .complex .f64 0 0, .complex .f64 0 0, .complex .f64 0 0, .complex .f64 0 0, .float .f64 0] ∧ Bw w v5) := ⟨H4.out.1.bw kb, H4.out.2.1.bw kb, H4.out.2.2.1.bw kb, H4.out.2.2.2.1.bw kb, ka, bw_trans H4.out.2.2.2.2 kb⟩
     have HW := hide hW
     have HB := hide hB
     clear ka kb hW hB H4
     have e5 := E5.out
     go_wp2
     rw [HW.out]
     go_ret
     exact ⟨rfl, H5.out.2.2.2.2.2⟩
    have e5 := E5.out
    cases al
   case false =>
    obtain ⟨o1, o1', o2, o2', o3, o3', o4, o4', th, t0, t1, t2⟩ := HB.out al SM.out
    have TH := hide th
    have T0 := hide t0
    have T1 := hide t1
    have T2 := hide t2
    clear th t0 t1 t2 HA HB SM
    simp only [Bool.or_eq_false_iff] at al
    obtain ⟨⟨⟨⟨⟨rfl, rfl⟩, rfl⟩, rfl⟩, rfl⟩, rfl⟩ := al
    have cA20 := (G.out.2.2.1).c 0 _ rfl
    have cA21 := (G.out.2.2.1).c 1 _ rfl
    have cA22 := (G.out.2.2.1).c 2 _ rfl
    have cA30 := (G.out.2.2.2.1).c 0 _ rfl
    have cA31 := (G.out.2.2.2.1).c 1 _ rfl
    have cA32 := (G.out.2.2.2.1).c 2 _ rfl
    go_wp2_with fail
    clear cA20 cA21 cA22 cA30 cA31 cA32
    refine (TH.out _).mono ?_
    rintro e' v4 ⟨rfl, bb⟩
    have H4 : Hid (Ch.Bl v4 A [.int .i16 X0, .int .i16 Y0, .int .i16 X1, .int .i16 Y1, .int .i16 X2, .int .i16 Y2] ∧ Ch.Bl v4 A1 [.int .i16 P0, .int .i16 Q0, .int .i16 P1, .int .i16 Q1, .int .i16 P2, .int .i16 Q2] ∧ Ch.Bl v4 A2 [.complex .f64 a a', .complex .f64 b b', .complex .f64 c c'] ∧ Ch.Bl v4 A3 [.complex .f64 ta ta', .complex .f64 tb tb', .complex .f64 tc tc'] ∧ Bw w v4) := ⟨G.out.1.bw bb, G.out.2.1.bw bb, G.out.2.2.1.bw bb, G.out.2.2.2.1.bw bb, bw_trans G.out.2.2.2.2 bb⟩
    clear bb G
    clear TH
    have nA0 := ((H4.out.1).bw (bw_alloc v4 (.cells #[.int .u8 1, .complex .f64 o1 o1', .complex .f64 o2 o2', .complex .f64 o3 o3', .complex .f64 o4 o4', .float .f64 0] 33))).c 0 _ rfl
    have nA1 := ((H4.out.1).bw (bw_alloc v4 (.cells #[.int .u8 1, .complex .f64 o1 o1', .complex .f64 o2 o2', .complex .f64 o3 o3', .complex .f64 o4 o4', .float .f64 0] 33))).c 1 _ rfl
    have nA2 := ((H4.out.1).bw (bw_alloc v4 (.cells #[.int .u8 1, .complex .f64 o1 o1', .complex .f64 o2 o2', .complex .f64 o3 o3', .complex .f64 o4 o4', .float .f64 0] 33))).c 2 _ rfl
    have nA3 := ((H4.out.1).bw (bw_alloc v4 (.cells #[.int .u8 1, .complex .f64 o1 o1', .complex .f64 o2 o2', .complex .f64 o3 o3', .complex .f64 o4 o4', .float .f64 0] 33))).c 3 _ rfl
    have nA4 := ((H4.out.1).bw (bw_alloc v4 (.cells #[.int .u8 1, .complex .f64 o1 o1', .complex .f64 o2 o2', .complex .f64 o3 o3', .complex .f64 o4 o4', .float .f64 0] 33))).c 4 _ rfl
    have nA5 := ((H4.out.1).bw (bw_alloc v4 (.cells #[.int .u8 1, .complex .f64 o1 o1', .complex .f64 o2 o2', .complex .f64 o3 o3', .complex .f64 o4 o4', .float .f64 0] 33))).c 5 _ rfl
    have nA10 := ((H4.out.2.1).bw (bw_alloc v4 (.cells #[.int .u8 1, .complex .f64 o1 o1', .complex .f64 o2 o2', .complex .f64 o3 o3', .complex .f64 o4 o4', .float .f64 0] 33))).c 0 _ rfl
    have nA11 := ((H4.out.2.1).bw (bw_alloc v4 (.cells #[.int .u8 1, .complex .f64 o1 o1', .complex .f64 o2 o2', .complex .f64 o3 o3', .complex .f64 o4 o4', .float .f64 0] 33))).c 1 _ rfl
    have nA12 := ((H4.out.2.1).bw (bw_alloc v4 (.cells #[.int .u8 1, .complex .f64 o1 o1', .complex .f64 o2 o2', .complex .f64 o3 o3', .complex .f64 o4 o4', .float .f64 0] 33))).c 2 _ rfl
    have nA13 := ((H4.out.2.1).bw (bw_alloc v4 (.cells #[.int .u8 1, .complex .f64 o1 o1', .complex .f64 o2 o2', .complex .f64 o3 o3', .complex .f64 o4 o4', .float .f64 0] 33))).c 3 _ rfl
    have nA14 := ((H4.out.2.1).bw (bw_alloc v4 (.cells #[.int .u8 1, .complex .f64 o1 o1', .complex .f64 o2 o2', .complex .f64 o3 o3', .complex .f64 o4 o4', .float .f64 0] 33))).c 4 _ rfl
    have nA15 := ((H4.out.2.1).bw (bw_alloc v4 (.cells #[.int .u8 1, .complex .f64 o1 o1', .complex .f64 o2 o2', .complex .f64 o3 o3', .complex .f64 o4 o4', .float .f64 0] 33))).c 5 _ rfl
    have ka := Ch.Bl.new v4 #[.int .u8 1, .complex .f64 o1 o1', .complex .f64 o2 o2', .complex .f64 o3 o3', .complex .f64 o4 o4', .float .f64 0] 33
    have kb := bw_alloc v4 (.cells #[.int .u8 1, .complex .f64 o1 o1', .complex .f64 o2 o2', .complex .f64 o3 o3', .complex .f64 o4 o4', .float .f64 0] 33)
    obtain ⟨v5, hW⟩ : ∃ v, v4.alloc (.cells #[.int .u8 1, .complex .f64 o1 o1', .complex .f64 o2 o2', .complex .f64 o3 o3', .complex .f64 o4 o4', .float .f64 0] 33) = v := ⟨_, rfl⟩
    rw [hW] at ka kb
    obtain ⟨A4, hB⟩ : ∃ v, v4.heap.size = v := ⟨_, rfl⟩
    rw [hB] at ka
    have LT2 : Hid (w.heap.size ≤ A ∧ A < A1 ∧ A1 < A2 ∧ A2 < A3 ∧ A3 < A4) := by have q := LT.out; have r := H4.out.2.2.2.1.lt; rw [hB] at r; exact ⟨by omega, by omega, by omega, by omega, by omega⟩
    clear LT
    have LT := LT2
    clear LT2
    have H5 : Hid (Ch.Bl v5 A [.int .i16 X0, .int .i16 Y0, .int .i16 X1, .int .i16 Y1, .int .i16 X2, .int .i16 Y2] ∧ Ch.Bl v5 A1 [.int .i16 P0, .int .i16 Q0, .int .i16 P1, .int .i16 Q1, .int .i16 P2, .int .i16 Q2] ∧ Ch.Bl v5 A2 [.complex .f64 a a', .complex .f64 b b', .complex .f64 c c'] ∧ Ch.Bl v5 A3 [.complex .f64 ta ta', .complex .f64 tb tb', .complex .f64 tc tc'] ∧ Ch.Bl v5 A4 [.int .u8 1, .complex .f64 o1 o1', .complex .f64 o2 o2', .complex .f64 o3 o3', .complex .f64 o4 o4', .float .f64 0] ∧ Bw w v5) := ⟨H4.out.1.bw kb, H4.out.2.1.bw kb, H4.out.2.2.1.bw kb, H4.out.2.2.2.1.bw kb, ka, bw_trans H4.out.2.2.2.2 kb⟩
    have HW := hide hW
    have HB := hide hB
    clear ka kb hW hB H4
    have e0 := E0.out
    have e1 := E1.out
    have e2 := E2.out
    have e3 := E3.out
    have e4 := E4.out
    have e5 := E5.out
    go_wp2_with fail
    rw [HW.out, HB.out]
    clear HW HB nA0 nA1 nA2 nA3 nA4 nA5 nA10 nA11 nA12 nA13 nA14 nA15
    clear e0 e1 e2 e3 e4 e5 E0 E1 E2 E3 E4 E5
    have KH5 : Hid (Ch.Bl v5 A2 [.complex .f64 a a', .complex .f64 b b', .complex .f64 c c'] ∧ Ch.Bl v5 A3 [.complex .f64 ta ta', .complex .f64 tb tb', .complex .f64 tc tc'] ∧ Ch.Bl v5 A4 [.int .u8 1, .complex .f64 o1 o1', .complex .f64 o2 o2', .complex .f64 o3 o3', .complex .f64 o4 o4', .float .f64 0] ∧ Bw w v5) := ⟨H5.out.2.2.1, H5.out.2.2.2.1, H5.out.2.2.2.2.1, H5.out.2.2.2.2.2⟩
    clear H5
    go_loopw [11] (fun i wr => ∃ k : Nat, k ≤ 3 ∧ i = .int .i64 k ∧ Hid (Ch.Bl wr A2 [.complex .f64 a a', .complex .f64 b b', .complex .f64 c c'] ∧ Ch.Bl wr A3 [.complex .f64 ta ta', .complex .f64 tb tb', .complex .f64 tc tc'] ∧ Ch.Bl wr A4 [.int .u8 1, .complex .f64 o1 o1', .complex .f64 o2 o2', .complex .f64 o3 o3', .complex .f64 o4 o4', .float .f64 0] ∧ Bw w wr)) (fun i _ => 3 - (intOf i).toNat)
    case atStart => exact ⟨0, by omega, rfl, hide KH5.out⟩
    case round =>
     obtain ⟨k, hk, rfl, G⟩ := hrel
     have hk' : k = 0 ∨ k = 1 ∨ k = 2 ∨ k = 3 := by omega
     clear KH5
     rcases hk' with h0 | h0 | h0 | h0
     ·
      obtain rfl : k = 0 := by omega
      clear hk h0
      go_wp2_with fail
      refine wp_region_K (fun w' => Ch.Bl w' A2 [.complex .f64 a a', .complex .f64 b b', .complex .f64 c c'] ∧ Ch.Bl w' A4 [.int .u8 1, .complex .f64 o1 o1', .complex .f64 o2 o2', .complex .f64 o3 o3', .complex .f64 o4 o4', .float .f64 0]) 9 10 #[false, false, false, false, false, false, false, false, false, false] (by kernel_rfl) (by kernel_rfl) (by kernel_rfl) ?_
      have GD : Hid (Ch.Bl wr.drew A2 [.complex .f64 a a', .complex .f64 b b', .complex .f64 c c'] ∧ Ch.Bl wr.drew A3 [.complex .f64 ta ta', .complex .f64 tb tb', .complex .f64 tc tc'] ∧ Ch.Bl wr.drew A4 [.int .u8 1, .complex .f64 o1 o1', .complex .f64 o2 o2', .complex .f64 o3 o3', .complex .f64 o4 o4', .float .f64 0] ∧ Bw w wr.drew) := ⟨G.out.1.bw (Bw.refl wr).drew, G.out.2.1.bw (Bw.refl wr).drew, G.out.2.2.1.bw (Bw.refl wr).drew, bw_trans G.out.2.2.2 (Bw.refl wr).drew⟩
      generalize wr.drew = WD at *
      have SL : Ch.Bl WD A2 [.complex .f64 a a', .complex .f64 b b', .complex .f64 c c'] ∧ Ch.Bl WD A4 [.int .u8 1, .complex .f64 o1 o1', .complex .f64 o2 o2', .complex .f64 o3 o3', .complex .f64 o4 o4', .float .f64 0] := ⟨GD.out.1, GD.out.2.2.1⟩
      refine wpAnyK_take 0 100 (v := ?vk00) rfl (by kernel_rfl) (by kernel_rfl) (by kernel_rfl) (by kernel_rfl) (by kernel_rfl) (fun _ _ _ h => h) rfl (Or.inl ⟨by rfl, ?hk00⟩) (by assumption) ?rk00
      case hk00 => (intro w hSw; obtain ⟨s2, s4⟩ := hSw; have d0 := s2.c 0 _ rfl; have d1 := s2.c 1 _ rfl; have d2 := s2.c 2 _ rfl; have f0 := s4.c 0 _ rfl; have f1 := s4.c 1 _ rfl; have f2 := s4.c 2 _ rfl; have f3 := s4.c 3 _ rfl; have f4 := s4.c 4 _ rfl; have f5 := s4.c 5 _ rfl; go_simp; with_reducible rfl)
      simp only [Act.put, List.setIfInBounds_toArray, List.set_cons_zero, List.set_cons_succ]
      refine wpAnyK_take 1 101 (v := ?vk01) rfl (by kernel_rfl) (by kernel_rfl) (by kernel_rfl) (by kernel_rfl) (by kernel_rfl) (fun _ _ _ h => h) rfl (Or.inl ⟨by rfl, ?hk01⟩) (by assumption) ?rk01
      case hk01 => (intro w hSw; obtain ⟨s2, s4⟩ := hSw; have d0 := s2.c 0 _ rfl; have d1 := s2.c 1 _ rfl; have d2 := s2.c 2 _ rfl; have f0 := s4.c 0 _ rfl; have f1 := s4.c 1 _ rfl; have f2 := s4.c 2 _ rfl; have f3 := s4.c 3 _ rfl; have f4 := s4.c 4 _ rfl; have f5 := s4.c 5 _ rfl; go_simp; with_reducible rfl)
      simp only [Act.put, List.setIfInBounds_toArray, List.set_cons_zero, List.set_cons_succ]
      refine wpAnyK_take 2 102 (v := ?vk02) rfl (by kernel_rfl) (by kernel_rfl) (by kernel_rfl) (by kernel_rfl) (by kernel_rfl) (fun _ _ _ h => h) rfl (Or.inl ⟨by rfl, ?hk02⟩) (by assumption) ?rk02
      case hk02 => (intro w hSw; obtain ⟨s2, s4⟩ := hSw; have d0 := s2.c 0 _ rfl; have d1 := s2.c 1 _ rfl; have d2 := s2.c 2 _ rfl; have f0 := s4.c 0 _ rfl; have f1 := s4.c 1 _ rfl; have f2 := s4.c 2 _ rfl; have f3 := s4.c 3 _ rfl; have f4 := s4.c 4 _ rfl; have f5 := s4.c 5 _ rfl; go_simp; with_reducible rfl)
      simp only [Act.put, List.setIfInBounds_toArray, List.set_cons_zero, List.set_cons_succ]
      refine wpAnyK_take 3 103 (v := ?vk03) rfl (by kernel_rfl) (by kernel_rfl) (by kernel_rfl) (by kernel_rfl) (by kernel_rfl) (fun _ _ _ h => h) rfl (Or.inl ⟨by rfl, ?hk03⟩) (by assumption) ?rk03
      case hk03 => (intro w hSw; obtain ⟨s2, s4⟩ := hSw; have d0 := s2.c 0 _ rfl; have d1 := s2.c 1 _ rfl; have d2 := s2.c 2 _ rfl; have f0 := s4.c 0 _ rfl; have f1 := s4.c 1 _ rfl; have f2 := s4.c 2 _ rfl; have f3 := s4.c 3 _ rfl; have f4 := s4.c 4 _ rfl; have f5 := s4.c 5 _ rfl; go_simp; with_reducible rfl)
      simp only [Act.put, List.setIfInBounds_toArray, List.set_cons_zero, List.set_cons_succ]
      refine wpAnyK_one 4 (by kernel_rfl) rfl (fun K hK => ?_)
      go_simp
      refine (T0.out _).mono ?_
      rintro e' w2 ⟨x, y, rfl, hq, bb⟩
      have GE : Hid (Ch.Bl w2 A2 [.complex .f64 a a', .complex .f64 b b', .complex .f64 c c'] ∧ Ch.Bl w2 A3 [.complex .f64 ta ta', .complex .f64 tb tb', .complex .f64 tc tc'] ∧ Ch.Bl w2 A4 [.int .u8 1, .complex .f64 o1 o1', .complex .f64 o2 o2', .complex .f64 o3 o3', .complex .f64 o4 o4', .float .f64 0] ∧ Bw w w2) := ⟨GD.out.1.bw bb, GD.out.2.1.bw bb, GD.out.2.2.1.bw bb, bw_trans GD.out.2.2.2 bb⟩
      clear bb SL
      have SE : Ch.Bl w2 A2 [.complex .f64 a a', .complex .f64 b b', .complex .f64 c c'] ∧ Ch.Bl w2 A4 [.int .u8 1, .complex .f64 o1 o1', .complex .f64 o2 o2', .complex .f64 o3 o3', .complex .f64 o4 o4', .float .f64 0] := ⟨GE.out.1, GE.out.2.2.1⟩
      refine hK.out _ _ (fun _ _ => SE) ?_
      clear hK K
      simp only [List.setIfInBounds_toArray, List.set_cons_zero, List.set_cons_succ]
      refine wpAnyK_take 5 99 (v := ?vk05) rfl (by kernel_rfl) (by kernel_rfl) (by kernel_rfl) (by kernel_rfl) (by kernel_rfl) (fun _ _ _ h => h) rfl (Or.inl ⟨by rfl, ?hk05⟩) (by assumption) ?rk05
      case hk05 => (intro w hSw; obtain ⟨s2, s4⟩ := hSw; have d0 := s2.c 0 _ rfl; have d1 := s2.c 1 _ rfl; have d2 := s2.c 2 _ rfl; have f0 := s4.c 0 _ rfl; have f1 := s4.c 1 _ rfl; have f2 := s4.c 2 _ rfl; have f3 := s4.c 3 _ rfl; have f4 := s4.c 4 _ rfl; have f5 := s4.c 5 _ rfl; go_simp; with_reducible rfl)
      simp only [Act.put, List.setIfInBounds_toArray, List.set_cons_zero, List.set_cons_succ]
      refine wpAnyK_take 6 105 (v := ?vk06) rfl (by kernel_rfl) (by kernel_rfl) (by kernel_rfl) (by kernel_rfl) (by kernel_rfl) (fun _ _ _ h => h) rfl (Or.inl ⟨by rfl, ?hk06⟩) (by assumption) ?rk06
      case hk06 => (intro w hSw; obtain ⟨s2, s4⟩ := hSw; have d0 := s2.c 0 _ rfl; have d1 := s2.c 1 _ rfl; have d2 := s2.c 2 _ rfl; have f0 := s4.c 0 _ rfl; have f1 := s4.c 1 _ rfl; have f2 := s4.c 2 _ rfl; have f3 := s4.c 3 _ rfl; have f4 := s4.c 4 _ rfl; have f5 := s4.c 5 _ rfl; go_simp; with_reducible rfl)
      simp only [Act.put, List.setIfInBounds_toArray, List.set_cons_zero, List.set_cons_succ]
      refine wpAnyK_take 7 106 (v := ?vk07) rfl (by kernel_rfl) (by kernel_rfl) (by kernel_rfl) (by kernel_rfl) (by kernel_rfl) (fun _ _ _ h => h) rfl (Or.inl ⟨by rfl, ?hk07⟩) (by assumption) ?rk07
      case hk07 => (intro w hSw; obtain ⟨s2, s4⟩ := hSw; have d0 := s2.c 0 _ rfl; have d1 := s2.c 1 _ rfl; have d2 := s2.c 2 _ rfl; have f0 := s4.c 0 _ rfl; have f1 := s4.c 1 _ rfl; have f2 := s4.c 2 _ rfl; have f3 := s4.c 3 _ rfl; have f4 := s4.c 4 _ rfl; have f5 := s4.c 5 _ rfl; go_simp; with_reducible rfl)
      simp only [Act.put, List.setIfInBounds_toArray, List.set_cons_zero, List.set_cons_succ]
      refine wpAnyK_one 8 (by kernel_rfl) rfl (fun K hK => ?_)
      go_simp
      refine hK.out _ _ (fun _ _ => SE) ?_
      clear hK K
      simp only [List.setIfInBounds_toArray, List.set_cons_zero, List.set_cons_succ]
      refine wpAnyK_one 9 (by kernel_rfl) rfl (fun K hK => ?_)
      go_simp
      refine hK.out _ _ (fun h => absurd rfl h) ?_
      clear hK K
      simp only [List.setIfInBounds_toArray, List.set_cons_zero, List.set_cons_succ]
      refine wpAnyK_done (by kernel_rfl) ?_ _
      have cA30 := (GE.out.2.1).c 0 _ rfl
      have cA31 := (GE.out.2.1).c 1 _ rfl
      have cA32 := (GE.out.2.1).c 2 _ rfl
      go_wp2_with fail
      clear cA30 cA31 cA32
      refine (N0.out x y _ hq).mono ?_
      rintro e' w3 ⟨rfl, bb⟩
      have GF : Hid (Ch.Bl w3 A2 [.complex .f64 a a', .complex .f64 b b', .complex .f64 c c'] ∧ Ch.Bl w3 A3 [.complex .f64 ta ta', .complex .f64 tb tb', .complex .f64 tc tc'] ∧ Ch.Bl w3 A4 [.int .u8 1, .complex .f64 o1 o1', .complex .f64 o2 o2', .complex .f64 o3 o3', .complex .f64 o4 o4', .float .f64 0] ∧ Bw w w3) := ⟨GE.out.1.bw bb, GE.out.2.1.bw bb, GE.out.2.2.1.bw bb, bw_trans GE.out.2.2.2 bb⟩
      clear bb GE
      go_wp2
      go_roundw
      case rel => exact ⟨1, by omega, rfl, GF⟩
      case measure => simp [intOf]
     ·
      obtain rfl : k = 1 := by omega
      clear hk h0
      go_wp2_with fail
      refine wp_region_K (fun w' => Ch.Bl w' A2 [.complex .f64 a a', .complex .f64 b b', .complex .f64 c c'] ∧ Ch.Bl w' A4 [.int .u8 1, .complex .f64 o1 o1', .complex .f64 o2 o2', .complex .f64 o3 o3', .complex .f64 o4 o4', .float .f64 0]) 9 10 #[false, false, false, false, false, false, false, false, false, false] (by kernel_rfl) (by kernel_rfl) (by kernel_rfl) ?_
      have GD : Hid (Ch.Bl wr.drew A2 [.complex .f64 a a', .complex .f64 b b', .complex .f64 c c'] ∧ Ch.Bl wr.drew A3 [.complex .f64 ta ta', .complex .f64 tb tb', .complex .f64 tc tc'] ∧ Ch.Bl wr.drew A4 [.int .u8 1, .complex .f64 o1 o1', .complex .f64 o2 o2', .complex .f64 o3 o3', .complex .f64 o4 o4', .float .f64 0] ∧ Bw w wr.drew) := ⟨G.out.1.bw (Bw.refl wr).drew, G.out.2.1.bw (Bw.refl wr).drew, G.out.2.2.1.bw (Bw.refl wr).drew, bw_trans G.out.2.2.2 (Bw.refl wr).drew⟩
      generalize wr.drew = WD at *
      have SL : Ch.Bl WD A2 [.complex .f64 a a', .complex .f64 b b', .complex .f64 c c'] ∧ Ch.Bl WD A4 [.int .u8 1, .complex .f64 o1 o1', .complex .f64 o2 o2', .complex .f64 o3 o3', .complex .f64 o4 o4', .float .f64 0] := ⟨GD.out.1, GD.out.2.2.1⟩
      refine wpAnyK_take 0 100 (v := ?vk10) rfl (by kernel_rfl) (by kernel_rfl) (by kernel_rfl) (by kernel_rfl) (by kernel_rfl) (fun _ _ _ h => h) rfl (Or.inl ⟨by rfl, ?hk10⟩) (by assumption) ?rk10
      case hk10 => (intro w hSw; obtain ⟨s2, s4⟩ := hSw; have d0 := s2.c 0 _ rfl; have d1 := s2.c 1 _ rfl; have d2 := s2.c 2 _ rfl; have f0 := s4.c 0 _ rfl; have f1 := s4.c 1 _ rfl; have f2 := s4.c 2 _ rfl; have f3 := s4.c 3 _ rfl; have f4 := s4.c 4 _ rfl; have f5 := s4.c 5 _ rfl; go_simp; with_reducible rfl)
      simp only [Act.put, List.setIfInBounds_toArray, List.set_cons_zero, List.set_cons_succ]
      refine wpAnyK_take 1 101 (v := ?vk11) rfl (by kernel_rfl) (by kernel_rfl) (by kernel_rfl) (by kernel_rfl) (by kernel_rfl) (fun _ _ _ h => h) rfl (Or.inl ⟨by rfl, ?hk11⟩) (by assumption) ?rk11
      case hk11 => (intro w hSw; obtain ⟨s2, s4⟩ := hSw; have d0 := s2.c 0 _ rfl; have d1 := s2.c 1 _ rfl; have d2 := s2.c 2 _ rfl; have f0 := s4.c 0 _ rfl; have f1 := s4.c 1 _ rfl; have f2 := s4.c 2 _ rfl; have f3 := s4.c 3 _ rfl; have f4 := s4.c 4 _ rfl; have f5 := s4.c 5 _ rfl; go_simp; with_reducible rfl)
      simp only [Act.put, List.setIfInBounds_toArray, List.set_cons_zero, List.set_cons_succ]
      refine wpAnyK_take 2 102 (v := ?vk12) rfl (by kernel_rfl) (by kernel_rfl) (by kernel_rfl) (by kernel_rfl) (by kernel_rfl) (fun _ _ _ h => h) rfl (Or.inl ⟨by rfl, ?hk12⟩) (by assumption) ?rk12
      case hk12 => (intro w hSw; obtain ⟨s2, s4⟩ := hSw; have d0 := s2.c 0 _ rfl; have d1 := s2.c 1 _ rfl; have d2 := s2.c 2 _ rfl; have f0 := s4.c 0 _ rfl; have f1 := s4.c 1 _ rfl; have f2 := s4.c 2 _ rfl; have f3 := s4.c 3 _ rfl; have f4 := s4.c 4 _ rfl; have f5 := s4.c 5 _ rfl; go_simp; with_reducible rfl)
      simp only [Act.put, List.setIfInBounds_toArray, List.set_cons_zero, List.set_cons_succ]
      refine wpAnyK_take 3 103 (v := ?vk13) rfl (by kernel_rfl) (by kernel_rfl) (by kernel_rfl) (by kernel_rfl) (by kernel_rfl) (fun _ _ _ h => h) rfl (Or.inl ⟨by rfl, ?hk13⟩) (by assumption) ?rk13
      case hk13 => (intro w hSw; obtain ⟨s2, s4⟩ := hSw; have d0 := s2.c 0 _ rfl; have d1 := s2.c 1 _ rfl; have d2 := s2.c 2 _ rfl; have f0 := s4.c 0 _ rfl; have f1 := s4.c 1 _ rfl; have f2 := s4.c 2 _ rfl; have f3 := s4.c 3 _ rfl; have f4 := s4.c 4 _ rfl; have f5 := s4.c 5 _ rfl; go_simp; with_reducible rfl)
      simp only [Act.put, List.setIfInBounds_toArray, List.set_cons_zero, List.set_cons_succ]
      refine wpAnyK_one 4 (by kernel_rfl) rfl (fun K hK => ?_)
      go_simp
      refine (T1.out _).mono ?_
      rintro e' w2 ⟨x, y, rfl, hq, bb⟩
      have GE : Hid (Ch.Bl w2 A2 [.complex .f64 a a', .complex .f64 b b', .complex .f64 c c'] ∧ Ch.Bl w2 A3 [.complex .f64 ta ta', .complex .f64 tb tb', .complex .f64 tc tc'] ∧ Ch.Bl w2 A4 [.int .u8 1, .complex .f64 o1 o1', .complex .f64 o2 o2', .complex .f64 o3 o3', .complex .f64 o4 o4', .float .f64 0] ∧ Bw w w2) := ⟨GD.out.1.bw bb, GD.out.2.1.bw bb, GD.out.2.2.1.bw bb, bw_trans GD.out.2.2.2 bb⟩
      clear bb SL
      have SE : Ch.Bl w2 A2 [.complex .f64 a a', .complex .f64 b b', .complex .f64 c c'] ∧ Ch.Bl w2 A4 [.int .u8 1, .complex .f64 o1 o1', .complex .f64 o2 o2', .complex .f64 o3 o3', .complex .f64 o4 o4', .float .f64 0] := ⟨GE.out.1, GE.out.2.2.1⟩
      refine hK.out _ _ (fun _ _ => SE) ?_
      clear hK K
      simp only [List.setIfInBounds_toArray, List.set_cons_zero, List.set_cons_succ]
      refine wpAnyK_take 5 99 (v := ?vk15) rfl (by kernel_rfl) (by kernel_rfl) (by kernel_rfl) (by kernel_rfl) (by kernel_rfl) (fun _ _ _ h => h) rfl (Or.inl ⟨by rfl, ?hk15⟩) (by assumption) ?rk15
      case hk15 => (intro w hSw; obtain ⟨s2, s4⟩ := hSw; have d0 := s2.c 0 _ rfl; have d1 := s2.c 1 _ rfl; have d2 := s2.c 2 _ rfl; have f0 := s4.c 0 _ rfl; have f1 := s4.c 1 _ rfl; have f2 := s4.c 2 _ rfl; have f3 := s4.c 3 _ rfl; have f4 := s4.c 4 _ rfl; have f5 := s4.c 5 _ rfl; go_simp; with_reducible rfl)
      simp only [Act.put, List.setIfInBounds_toArray, List.set_cons_zero, List.set_cons_succ]
      refine wpAnyK_take 6 105 (v := ?vk16) rfl (by kernel_rfl) (by kernel_rfl) (by kernel_rfl) (by kernel_rfl) (by kernel_rfl) (fun _ _ _ h => h) rfl (Or.inl ⟨by rfl, ?hk16⟩) (by assumption) ?rk16
      case hk16 => (intro w hSw; obtain ⟨s2, s4⟩ := hSw; have d0 := s2.c 0 _ rfl; have d1 := s2.c 1 _ rfl; have d2 := s2.c 2 _ rfl; have f0 := s4.c 0 _ rfl; have f1 := s4.c 1 _ rfl; have f2 := s4.c 2 _ rfl; have f3 := s4.c 3 _ rfl; have f4 := s4.c 4 _ rfl; have f5 := s4.c 5 _ rfl; go_simp; with_reducible rfl)
      simp only [Act.put, List.setIfInBounds_toArray, List.set_cons_zero, List.set_cons_succ]
      refine wpAnyK_take 7 106 (v := ?vk17) rfl (by kernel_rfl) (by kernel_rfl) (by kernel_rfl) (by kernel_rfl) (by kernel_rfl) (fun _ _ _ h => h) rfl (Or.inl ⟨by rfl, ?hk17⟩) (by assumption) ?rk17
      case hk17 => (intro w hSw; obtain ⟨s2, s4⟩ := hSw; have d0 := s2.c 0 _ rfl; have d1 := s2.c 1 _ rfl; have d2 := s2.c 2 _ rfl; have f0 := s4.c 0 _ rfl; have f1 := s4.c 1 _ rfl; have f2 := s4.c 2 _ rfl; have f3 := s4.c 3 _ rfl; have f4 := s4.c 4 _ rfl; have f5 := s4.c 5 _ rfl; go_simp; with_reducible rfl)
      simp only [Act.put, List.setIfInBounds_toArray, List.set_cons_zero, List.set_cons_succ]
      refine wpAnyK_one 8 (by kernel_rfl) rfl (fun K hK => ?_)
      go_simp
      refine hK.out _ _ (fun _ _ => SE) ?_
      clear hK K
      simp only [List.setIfInBounds_toArray, List.set_cons_zero, List.set_cons_succ]
      refine wpAnyK_one 9 (by kernel_rfl) rfl (fun K hK => ?_)
      go_simp
      refine hK.out _ _ (fun h => absurd rfl h) ?_
      clear hK K
      simp only [List.setIfInBounds_toArray, List.set_cons_zero, List.set_cons_succ]
      refine wpAnyK_done (by kernel_rfl) ?_ _
      have cA30 := (GE.out.2.1).c 0 _ rfl
      have cA31 := (GE.out.2.1).c 1 _ rfl
      have cA32 := (GE.out.2.1).c 2 _ rfl
      go_wp2_with fail
      clear cA30 cA31 cA32
      refine (N1.out x y _ hq).mono ?_
      rintro e' w3 ⟨rfl, bb⟩
      have GF : Hid (Ch.Bl w3 A2 [.complex .f64 a a', .complex .f64 b b', .complex .f64 c c'] ∧ Ch.Bl w3 A3 [.complex .f64 ta ta', .complex .f64 tb tb', .complex .f64 tc tc'] ∧ Ch.Bl w3 A4 [.int .u8 1, .complex .f64 o1 o1', .complex .f64 o2 o2', .complex .f64 o3 o3', .complex .f64 o4 o4', .float .f64 0] ∧ Bw w w3) := ⟨GE.out.1.bw bb, GE.out.2.1.bw bb, GE.out.2.2.1.bw bb, bw_trans GE.out.2.2.2 bb⟩
      clear bb GE
      go_wp2
      go_roundw
      case rel => exact ⟨2, by omega, rfl, GF⟩
      case measure => simp [intOf]
     ·
      obtain rfl : k = 2 := by omega
      clear hk h0
      go_wp2_with fail
      refine wp_region_K (fun w' => Ch.Bl w' A2 [.complex .f64 a a', .complex .f64 b b', .complex .f64 c c'] ∧ Ch.Bl w' A4 [.int .u8 1, .complex .f64 o1 o1', .complex .f64 o2 o2', .complex .f64 o3 o3', .complex .f64 o4 o4', .float .f64 0]) 9 10 #[false, false, false, false, false, false, false, false, false, false] (by kernel_rfl) (by kernel_rfl) (by kernel_rfl) ?_
      have GD : Hid (Ch.Bl wr.drew A2 [.complex .f64 a a', .complex .f64 b b', .complex .f64 c c'] ∧ Ch.Bl wr.drew A3 [.complex .f64 ta ta', .complex .f64 tb tb', .complex .f64 tc tc'] ∧ Ch.Bl wr.drew A4 [.int .u8 1, .complex .f64 o1 o1', .complex .f64 o2 o2', .complex .f64 o3 o3', .complex .f64 o4 o4', .float .f64 0] ∧ Bw w wr.drew) := ⟨G.out.1.bw (Bw.refl wr).drew, G.out.2.1.bw (Bw.refl wr).drew, G.out.2.2.1.bw (Bw.refl wr).drew, bw_trans G.out.2.2.2 (Bw.refl wr).drew⟩
      generalize wr.drew = WD at *
      have SL : Ch.Bl WD A2 [.complex .f64 a a', .complex .f64 b b', .complex .f64 c c'] ∧ Ch.Bl WD A4 [.int .u8 1, .complex .f64 o1 o1', .complex .f64 o2 o2', .complex .f64 o3 o3', .complex .f64 o4 o4', .float .f64 0] := ⟨GD.out.1, GD.out.2.2.1⟩
      refine wpAnyK_take 0 100 (v := ?vk20) rfl (by kernel_rfl) (by kernel_rfl) (by kernel_rfl) (by kernel_rfl) (by kernel_rfl) (fun _ _ _ h => h) rfl (Or.inl ⟨by rfl, ?hk20⟩) (by assumption) ?rk20
      case hk20 => (intro w hSw; obtain ⟨s2, s4⟩ := hSw; have d0 := s2.c 0 _ rfl; have d1 := s2.c 1 _ rfl; have d2 := s2.c 2 _ rfl; have f0 := s4.c 0 _ rfl; have f1 := s4.c 1 _ rfl; have f2 := s4.c 2 _ rfl; have f3 := s4.c 3 _ rfl; have f4 := s4.c 4 _ rfl; have f5 := s4.c 5 _ rfl; go_simp; with_reducible rfl)
      simp only [Act.put, List.setIfInBounds_toArray, List.set_cons_zero, List.set_cons_succ]
      refine wpAnyK_take 1 101 (v := ?vk21) rfl (by kernel_rfl) (by kernel_rfl) (by kernel_rfl) (by kernel_rfl) (by kernel_rfl) (fun _ _ _ h => h) rfl (Or.inl ⟨by rfl, ?hk21⟩) (by assumption) ?rk21
      case hk21 => (intro w hSw; obtain ⟨s2, s4⟩ := hSw; have d0 := s2.c 0 _ rfl; have d1 := s2.c 1 _ rfl; have d2 := s2.c 2 _ rfl; have f0 := s4.c 0 _ rfl; have f1 := s4.c 1 _ rfl; have f2 := s4.c 2 _ rfl; have f3 := s4.c 3 _ rfl; have f4 := s4.c 4 _ rfl; have f5 := s4.c 5 _ rfl; go_simp; with_reducible rfl)
      simp only [Act.put, List.setIfInBounds_toArray, List.set_cons_zero, List.set_cons_succ]
      refine wpAnyK_take 2 102 (v := ?vk22) rfl (by kernel_rfl) (by kernel_rfl) (by kernel_rfl) (by kernel_rfl) (by kernel_rfl) (fun _ _ _ h => h) rfl (Or.inl ⟨by rfl, ?hk22⟩) (by assumption) ?rk22
      case hk22 => (intro w hSw; obtain ⟨s2, s4⟩ := hSw; have d0 := s2.c 0 _ rfl; have d1 := s2.c 1 _ rfl; have d2 := s2.c 2 _ rfl; have f0 := s4.c 0 _ rfl; have f1 := s4.c 1 _ rfl; have f2 := s4.c 2 _ rfl; have f3 := s4.c 3 _ rfl; have f4 := s4.c 4 _ rfl; have f5 := s4.c 5 _ rfl; go_simp; with_reducible rfl)
      simp only [Act.put, List.setIfInBounds_toArray, List.set_cons_zero, List.set_cons_succ]
      refine wpAnyK_take 3 103 (v := ?vk23) rfl (by kernel_rfl) (by kernel_rfl) (by kernel_rfl) (by kernel_rfl) (by kernel_rfl) (fun _ _ _ h => h) rfl (Or.inl ⟨by rfl, ?hk23⟩) (by assumption) ?rk23
      case hk23 => (intro w hSw; obtain ⟨s2, s4⟩ := hSw; have d0 := s2.c 0 _ rfl; have d1 := s2.c 1 _ rfl; have d2 := s2.c 2 _ rfl; have f0 := s4.c 0 _ rfl; have f1 := s4.c 1 _ rfl; have f2 := s4.c 2 _ rfl; have f3 := s4.c 3 _ rfl; have f4 := s4.c 4 _ rfl; have f5 := s4.c 5 _ rfl; go_simp; with_reducible rfl)
      simp only [Act.put, List.setIfInBounds_toArray, List.set_cons_zero, List.set_cons_succ]
      refine wpAnyK_one 4 (by kernel_rfl) rfl (fun K hK => ?_)
      go_simp
      refine (T2.out _).mono ?_
      rintro e' w2 ⟨x, y, rfl, hq, bb⟩
      have GE : Hid (Ch.Bl w2 A2 [.complex .f64 a a', .complex .f64 b b', .complex .f64 c c'] ∧ Ch.Bl w2 A3 [.complex .f64 ta ta', .complex .f64 tb tb', .complex .f64 tc tc'] ∧ Ch.Bl w2 A4 [.int .u8 1, .complex .f64 o1 o1', .complex .f64 o2 o2', .complex .f64 o3 o3', .complex .f64 o4 o4', .float .f64 0] ∧ Bw w w2) := ⟨GD.out.1.bw bb, GD.out.2.1.bw bb, GD.out.2.2.1.bw bb, bw_trans GD.out.2.2.2 bb⟩
      clear bb SL
      have SE : Ch.Bl w2 A2 [.complex .f64 a a', .complex .f64 b b', .complex .f64 c c'] ∧ Ch.Bl w2 A4 [.int .u8 1, .complex .f64 o1 o1', .complex .f64 o2 o2', .complex .f64 o3 o3', .complex .f64 o4 o4', .float .f64 0] := ⟨GE.out.1, GE.out.2.2.1⟩
      refine hK.out _ _ (fun _ _ => SE) ?_
      clear hK K
      simp only [List.setIfInBounds_toArray, List.set_cons_zero, List.set_cons_succ]
      refine wpAnyK_take 5 99 (v := ?vk25) rfl (by kernel_rfl) (by kernel_rfl) (by kernel_rfl) (by kernel_rfl) (by kernel_rfl) (fun _ _ _ h => h) rfl (Or.inl ⟨by rfl, ?hk25⟩) (by assumption) ?rk25
      case hk25 => (intro w hSw; obtain ⟨s2, s4⟩ := hSw; have d0 := s2.c 0 _ rfl; have d1 := s2.c 1 _ rfl; have d2 := s2.c 2 _ rfl; have f0 := s4.c 0 _ rfl; have f1 := s4.c 1 _ rfl; have f2 := s4.c 2 _ rfl; have f3 := s4.c 3 _ rfl; have f4 := s4.c 4 _ rfl; have f5 := s4.c 5 _ rfl; go_simp; with_reducible rfl)
      simp only [Act.put, List.setIfInBounds_toArray, List.set_cons_zero, List.set_cons_succ]
      refine wpAnyK_take 6 105 (v := ?vk26) rfl (by kernel_rfl) (by kernel_rfl) (by kernel_rfl) (by kernel_rfl) (by kernel_rfl) (fun _ _ _ h => h) rfl (Or.inl ⟨by rfl, ?hk26⟩) (by assumption) ?rk26
      case hk26 => (intro w hSw; obtain ⟨s2, s4⟩ := hSw; have d0 := s2.c 0 _ rfl; have d1 := s2.c 1 _ rfl; have d2 := s2.c 2 _ rfl; have f0 := s4.c 0 _ rfl; have f1 := s4.c 1 _ rfl; have f2 := s4.c 2 _ rfl; have f3 := s4.c 3 _ rfl; have f4 := s4.c 4 _ rfl; have f5 := s4.c 5 _ rfl; go_simp; with_reducible rfl)
      simp only [Act.put, List.setIfInBounds_toArray, List.set_cons_zero, List.set_cons_succ]
      refine wpAnyK_take 7 106 (v := ?vk27) rfl (by kernel_rfl) (by kernel_rfl) (by kernel_rfl) (by kernel_rfl) (by kernel_rfl) (fun _ _ _ h => h) rfl (Or.inl ⟨by rfl, ?hk27⟩) (by assumption) ?rk27
      case hk27 => (intro w hSw; obtain ⟨s2, s4⟩ := hSw; have d0 := s2.c 0 _ rfl; have d1 := s2.c 1 _ rfl; have d2 := s2.c 2 _ rfl; have f0 := s4.c 0 _ rfl; have f1 := s4.c 1 _ rfl; have f2 := s4.c 2 _ rfl; have f3 := s4.c 3 _ rfl; have f4 := s4.c 4 _ rfl; have f5 := s4.c 5 _ rfl; go_simp; with_reducible rfl)
      simp only [Act.put, List.setIfInBounds_toArray, List.set_cons_zero, List.set_cons_succ]
      refine wpAnyK_one 8 (by kernel_rfl) rfl (fun K hK => ?_)
      go_simp
      refine hK.out _ _ (fun _ _ => SE) ?_
      clear hK K
      simp only [List.setIfInBounds_toArray, List.set_cons_zero, List.set_cons_succ]
      refine wpAnyK_one 9 (by kernel_rfl) rfl (fun K hK => ?_)
      go_simp
      refine hK.out _ _ (fun h => absurd rfl h) ?_
      clear hK K
      simp only [List.setIfInBounds_toArray, List.set_cons_zero, List.set_cons_succ]
      refine wpAnyK_done (by kernel_rfl) ?_ _
      have cA30 := (GE.out.2.1).c 0 _ rfl
      have cA31 := (GE.out.2.1).c 1 _ rfl
      have cA32 := (GE.out.2.1).c 2 _ rfl
      go_wp2_with fail
      clear cA30 cA31 cA32
      refine (N2.out x y _ hq).mono ?_
      rintro e' w3 ⟨rfl, bb⟩
      have GF : Hid (Ch.Bl w3 A2 [.complex .f64 a a', .complex .f64 b b', .complex .f64 c c'] ∧ Ch.Bl w3 A3 [.complex .f64 ta ta', .complex .f64 tb tb', .complex .f64 tc tc'] ∧ Ch.Bl w3 A4 [.int .u8 1, .complex .f64 o1 o1', .complex .f64 o2 o2', .complex .f64 o3 o3', .complex .f64 o4 o4', .float .f64 0] ∧ Bw w w3) := ⟨GE.out.1.bw bb, GE.out.2.1.bw bb, GE.out.2.2.1.bw bb, bw_trans GE.out.2.2.2 bb⟩
      clear bb GE
      go_wp2
      go_roundw
      case rel => exact ⟨3, by omega, rfl, GF⟩
      case measure => simp [intOf]
     ·
      obtain rfl : k = 3 := by omega
      go_wp2
      go_ret
      exact ⟨rfl, G.out.2.2.2⟩
end Go.Proofs.YtfgfofedacehiaaGreat

