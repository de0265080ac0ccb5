/-
 OWN TEXT: ChartGroup, for every input.
-/
import Derived.Test.YtfgfofedacehiaaGreatJChH
namespace Go.Proofs.YtfgfofedacehiaaGreat
open Go.ChangeShapes Go.WideShapes Go.ChangeAt Go.RowKit
set_option linter.unusedVariables false
theorem Ch.le12 {x y : Int} (h : x.natAbs ≤ 8 ∧ y.natAbs ≤ 8) : Py.Le (x, y) 12 := by
 have e : ∀ x : Int, x.natAbs ≤ 8 → x * x ≤ 64 := by
  intro x h
  have k := Nat.mul_le_mul h h
  have e : x * x = ((x.natAbs * x.natAbs : Nat) : Int) := Int.natAbs_mul_self.symm
  omega
 have h1 := e x h.1
 have h2 := e y h.2
 unfold Py.Le
 show x * x + y * y ≤ _
 omega
theorem Ch.wC8 {x y : Int} (h : x.natAbs ≤ 8 ∧ y.natAbs ≤ 8) : wC 1074 (floatOfInt .f64 x) (floatOfInt .f64 y) (x, y) := ⟨(El.wP_thou x (by omega)).1, (El.wP_thou y (by omega)).1⟩
theorem groupk18 {l1 l1' l2 l2' l3 l3' l4 l4' m1 m1' m2 m2' m3 m3' m4 m4' n1 n1' n2 n2' n3 n3' n4 n4' : Nat} {F G H : Ch.Mq} (hl : Ch.W8 l1 l1' l2 l2' l3 l3' l4 l4' F) (hm : Ch.W8 m1 m1' m2 m2' m3 m3' m4 m4' G) (hn : Ch.W8 n1 n1' n2 n2' n3 n3' n4 n4' H) (ll : Ch.Lq F 12) (lm : Ch.Lq G 12) (ln : Ch.Lq H 12) :
  ∃ e1 e2 e3 : Int, (∀ wz, Calls Tryz.prog 14 #[.agg #[.int .u8 1, .complex .f64 l1 l1', .complex .f64 l2 l2', .complex .f64 l3 l3', .complex .f64 l4 l4', .float .f64 0]] wz fun e w' => e = .returned (.int .i64 e1) ∧ Bw wz w') ∧ (∀ wz, Calls Tryz.prog 14 #[.agg #[.int .u8 1, .complex .f64 m1 m1', .complex .f64 m2 m2', .complex .f64 m3 m3', .complex .f64 m4 m4', .float .f64 0]] wz fun e w' => e = .returned (.int .i64 e2) ∧ Bw wz w') ∧ (∀ wz, Calls Tryz.prog 14 #[.agg #[.int .u8 1, .complex .f64 n1 n1', .complex .f64 n2 n2', .complex .f64 n3 n3', .complex .f64 n4 n4', .float .f64 0]] wz fun e w' => e = .returned (.int .i64 e3) ∧ Bw wz w') ∧ (e1 = 0 → e2 = 0 → e3 = 0 → ∃ p1 p1' p2 p2' p3 p3' p4 p4' q1 q1' q2 q2' q3 q3' q4 q4' r1 r1' r2 r2' r3 r3' r4 r4' s1 s1' s2 s2' s3 s3' s4 s4' b1 b1' b2 b2' b3 b3' b4 b4' o1 o1' o2 o2' o3 o3' o4 o4' t t' u u' z z' : Nat, (∀ wz, Calls Tryz.prog 15 #[.agg #[.int .u8 1, .complex .f64 l1 l1', .complex .f64 l2 l2', .complex .f64 l3 l3', .complex .f64 l4 l4', .float .f64 0], .agg #[.int .u8 1, .complex .f64 m1 m1', .complex .f64 m2 m2', .complex .f64 m3 m3', .complex .f64 m4 m4', .float .f64 0]] wz fun e w' => e = .returned (.tuple #[.agg #[.int .u8 1, .complex .f64 p1 p1', .complex .f64 p2 p2', .complex .f64 p3 p3', .complex .f64 p4 p4', .float .f64 0], .int .i64 0]) ∧ Bw wz w') ∧ (∀ wz, Calls Tryz.prog 15 #[.agg #[.int .u8 1, .complex .f64 m1 m1', .complex .f64 m2 m2', .complex .f64 m3 m3', .complex .f64 m4 m4', .float .f64 0], .agg #[.int .u8 1, .complex .f64 n1 n1', .complex .f64 n2 n2', .complex .f64 n3 n3', .complex .f64 n4 n4', .float .f64 0]] wz fun e w' => e = .returned (.tuple #[.agg #[.int .u8 1, .complex .f64 q1 q1', .complex .f64 q2 q2', .complex .f64 q3 q3', .complex .f64 q4 q4', .float .f64 0], .int .i64 0]) ∧ Bw wz w') ∧ (∀ wz, Calls Tryz.prog 15 #[.agg #[.int .u8 1, .complex .f64 p1 p1', .complex .f64 p2 p2', .complex .f64 p3 p3', .complex .f64 p4 p4', .float .f64 0], .agg #[.int .u8 1, .complex .f64 n1 n1', .complex .f64 n2 n2', .complex .f64 n3 n3', .complex .f64 n4 n4', .float .f64 0]] wz fun e w' => e = .returned (.tuple #[.agg #[.int .u8 1, .complex .f64 r1 r1', .complex .f64 r2 r2', .complex .f64 r3 r3', .complex .f64 r4 r4', .float .f64 0], .int .i64 0]) ∧ Bw wz w') ∧ (∀ wz, Calls Tryz.prog 15 #[.agg #[.int .u8 1, .complex .f64 l1 l1', .complex .f64 l2 l2', .complex .f64 l3 l3', .complex .f64 l4 l4', .float .f64 0], .agg #[.int .u8 1, .complex .f64 q1 q1', .complex .f64 q2 q2', .complex .f64 q3 q3', .complex .f64 q4 q4', .float .f64 0]] wz fun e w' => e = .returned (.tuple #[.agg #[.int .u8 1, .complex .f64 s1 s1', .complex .f64 s2 s2', .complex .f64 s3 s3', .complex .f64 s4 s4', .float .f64 0], .int .i64 0]) ∧ Bw wz w') ∧ (∀ wz, Calls Tryz.prog 16 #[.agg #[.int .u8 1, .complex .f64 r1 r1', .complex .f64 r2 r2', .complex .f64 r3 r3', .complex .f64 r4 r4', .float .f64 0], .agg #[.int .u8 1, .complex .f64 s1 s1', .complex .f64 s2 s2', .complex .f64 s3 s3', .complex .f64 s4 s4', .float .f64 0]] wz fun e w' => e = .returned (.bool true) ∧ Bw wz w') ∧ (∀ wz, Calls Tryz.prog 17 #[.agg #[.int .u8 1, .complex .f64 l1 l1', .complex .f64 l2 l2', .complex .f64 l3 l3', .complex .f64 l4 l4', .float .f64 0]] wz fun e w' => e = .returned (.tuple #[.agg #[.int .u8 1, .complex .f64 b1 b1', .complex .f64 b2 b2', .complex .f64 b3 b3', .complex .f64 b4 b4', .float .f64 0], .int .i64 0]) ∧ Bw wz w') ∧ (∀ wz, Calls Tryz.prog 15 #[.agg #[.int .u8 1, .complex .f64 l1 l1', .complex .f64 l2 l2', .complex .f64 l3 l3', .complex .f64 l4 l4', .float .f64 0], .agg #[.int .u8 1, .complex .f64 b1 b1', .complex .f64 b2 b2', .complex .f64 b3 b3', .complex .f64 b4 b4', .float .f64 0]] wz fun e w' => e = .returned (.tuple #[.agg #[.int .u8 1, .complex .f64 o1 o1', .complex .f64 o2 o2', .complex .f64 o3 o3', .complex .f64 o4 o4', .float .f64 0], .int .i64 0]) ∧ Bw wz w') ∧ (∀ wz, Calls Tryz.prog 19 #[.complex .f64 l1 l1', .complex .f64 l4 l4'] wz fun e w' => e = .returned (.complex .f64 t t') ∧ w' = wz) ∧ (∀ wz, Calls Tryz.prog 19 #[.complex .f64 l2 l2', .complex .f64 l3 l3'] wz fun e w' => e = .returned (.complex .f64 u u') ∧ w' = wz) ∧ (∀ wz, Calls Tryz.prog 18 #[.complex .f64 t t', .complex .f64 u u'] wz fun e w' => e = .returned (.complex .f64 z z') ∧ w' = wz) ∧ (∀ wz, Calls Tryz.prog 20 #[.complex .f64 o1 o1', .complex .f64 z z'] wz fun e w' => e = .returned (.bool true) ∧ w' = wz) ∧ (∀ wz, Calls Tryz.prog 20 #[.complex .f64 o4 o4', .complex .f64 z z'] wz fun e w' => e = .returned (.bool true) ∧ w' = wz) ∧ (∀ t w, (binOp .eql t (.complex .f64 o2 o2') (.complex .f64 0 0)).run Tryz.prog w = .ok (.bool true) w) ∧ (∀ t w, (binOp .eql t (.complex .f64 o3 o3') (.complex .f64 0 0)).run Tryz.prog w = .ok (.bool true) w)) := by
 have z : ∀ g : Py.G, (if g = (0, 0) then (180 : Int) else 0) = 0 → g ≠ (0, 0) := by
  intro g h e
  rw [if_pos e] at h
  exact absurd h (by decide)
 refine ⟨_, _, _, fun wz => check18 hl ll (by decide) (by decide) wz, fun wz => check18 hm lm (by decide) (by decide) wz, fun wz => check18 hn ln (by decide) (by decide) wz, fun h1 h2 h3 => ?_⟩
 have d1 := z _ h1
 have d2 := z _ h2
 have d3 := z _ h3
 clear h1 h2 h3 z
 obtain ⟨p1, p1', p2, p2', p3, p3', p4, p4', hp, T1⟩ := then18 (J := 288) hl ll hm lm (by decide) (by decide) (by decide) (by decide) (by decide) (by decide) (by decide) d1 d2
 obtain ⟨q1, q1', q2, q2', q3, q3', q4, q4', hq, T2⟩ := then18 (J := 288) hm lm hn ln (by decide) (by decide) (by decide) (by decide) (by decide) (by decide) (by decide) d2 d3
 have lp : Ch.Lq (Ch.thn F G) 288 := ll.thn lm
 have lq : Ch.Lq (Ch.thn G H) 288 := lm.thn ln
 obtain ⟨r1, r1', r2, r2', r3, r3', r4, r4', hr, T3⟩ := then18 (J := 6912) hp lp hn ln (by decide) (by decide) (by decide) (by decide) (by decide) (by decide) (by decide) (Ch.dt_thn_ne d1 d2) d3
 obtain ⟨s1, s1', s2, s2', s3, s3', s4, s4', hs, T4⟩ := then18 (J := 6912) hl ll hq lq (by decide) (by decide) (by decide) (by decide) (by decide) (by decide) (by decide) d1 (Ch.dt_thn_ne d2 d3)
 rw [← Ch.thn_assoc] at hs
 obtain ⟨b2, b2', b3, b3', hb2, hb3, TU⟩ := turned18 hl ll (by decide) (by decide) d1
 have hb : Ch.W8 l4 l4' b2 b2' b3 b3' l1 l1' (Ch.trn F) := ⟨hl.2.2.2, hb2, hb3, hl.1⟩
 obtain ⟨o1, o1', o2, o2', o3, o3', o4, o4', ho, T5⟩ := then18 (J := 288) hl ll hb ll.trn (by decide) (by decide) (by decide) (by decide) (by decide) (by decide) (by decide) d1 (by rw [Ch.dt_trn]; exact d1)
 rw [Ch.thn_trn] at ho
 obtain ⟨t, t', ht, M1⟩ := pmul8 rfl hl.1 hl.2.2.2 ll.1 ll.2.2.2 (by decide)
 obtain ⟨u, u', hu, M2⟩ := pmul8 rfl hl.2.1 hl.2.2.1 ll.2.1 ll.2.2.1 (by decide)
 obtain ⟨z, z', hz, SU⟩ := psub9 rfl ht hu (ll.1.mul ll.2.2.2) (ll.2.1.mul ll.2.2.1) (by decide)
 have hz' : wC 1074 z z' (Ch.dt F) := hz
 refine ⟨p1, p1', p2, p2', p3, p3', p4, p4', q1, q1', q2, q2', q3, q3', q4, q4', r1, r1', r2, r2', r3, r3', r4, r4', s1, s1', s2, s2', s3, s3', s4, s4', l4, l4', b2, b2', b3, b3', l1, l1', o1, o1', o2, o2', o3, o3', o4, o4', t, t', u, u', z, z', T1, T2, T3, T4, fun wz => alike18 hr hs wz, TU, T5, M1, M2, SU, ?_, ?_, ?_, ?_⟩
 ·
  intro wz
  have k := plike8 ho.1 hz' wz
  rw [decide_eq_true rfl] at k
  exact k
 ·
  intro wz
  have k := plike8 ho.2.2.2 hz' wz
  rw [decide_eq_true rfl] at k
  exact k
 ·
  intro t w
  have k := El.ceq_run ho.2.1 (wC.nought 1074) t w
  rw [decide_eq_true rfl] at k
  exact k
 ·
  intro t w
  have k := El.ceq_run ho.2.2.1 (wC.nought 1074) t w
  rw [decide_eq_true rfl] at k
  exact k
theorem chartgroup_any (X00 Y00 X01 Y01 X02 Y02 X03 Y03 X10 Y10 X11 Y11 X12 Y12 X13 Y13 X20 Y20 X21 Y21 X22 Y22 X23 Y23 : Int) (w : World) : Calls Tryz.prog 4 #[.agg #[.int .i16 X00, .int .i16 Y00, .int .i16 X01, .int .i16 Y01, .int .i16 X02, .int .i16 Y02, .int .i16 X03, .int .i16 Y03], .agg #[.int .i16 X10, .int .i16 Y10, .int .i16 X11, .int .i16 Y11, .int .i16 X12, .int .i16 Y12, .int .i16 X13, .int .i16 Y13], .agg #[.int .i16 X20, .int .i16 Y20, .int .i16 X21, .int .i16 Y21, .int .i16 X22, .int .i16 Y22, .int .i16 X23, .int .i16 Y23]] w fun e w' => e = .returned (.bool true) ∧ Bw w w' :=
 group18 w (hide (fun wz => fof18 (hide (gof18 X00 Y00)) (hide (gof18 X01 Y01)) (hide (gof18 X02 Y02)) (hide (gof18 X03 Y03)) wz)) (hide (fun wz => fof18 (hide (gof18 X10 Y10)) (hide (gof18 X11 Y11)) (hide (gof18 X12 Y12)) (hide (gof18 X13 Y13)) wz)) (hide (fun wz => fof18 (hide (gof18 X20 Y20)) (hide (gof18 X21 Y21)) (hide (gof18 X22 Y22)) (hide (gof18 X23 Y23)) wz))
  (hide (fun s0 s1 s2 => groupk18 (F := ⟨(X00, Y00), (X01, Y01), (X02, Y02), (X03, Y03)⟩) (G := ⟨(X10, Y10), (X11, Y11), (X12, Y12), (X13, Y13)⟩) (H := ⟨(X20, Y20), (X21, Y21), (X22, Y22), (X23, Y23)⟩) ⟨Ch.wC8 (s0 rfl).1, Ch.wC8 (s0 rfl).2.1, Ch.wC8 (s0 rfl).2.2.1, Ch.wC8 (s0 rfl).2.2.2⟩ ⟨Ch.wC8 (s1 rfl).1, Ch.wC8 (s1 rfl).2.1, Ch.wC8 (s1 rfl).2.2.1, Ch.wC8 (s1 rfl).2.2.2⟩ ⟨Ch.wC8 (s2 rfl).1, Ch.wC8 (s2 rfl).2.1, Ch.wC8 (s2 rfl).2.2.1, Ch.wC8 (s2 rfl).2.2.2⟩ ⟨Ch.le12 (s0 rfl).1, Ch.le12 (s0 rfl).2.1, Ch.le12 (s0 rfl).2.2.1, Ch.le12 (s0 rfl).2.2.2⟩ ⟨Ch.le12 (s1 rfl).1, Ch.le12 (s1 rfl).2.1, Ch.le12 (s1 rfl).2.2.1, Ch.le12 (s1 rfl).2.2.2⟩ ⟨Ch.le12 (s2 rfl).1, Ch.le12 (s2 rfl).2.1, Ch.le12 (s2 rfl).2.2.1, Ch.le12 (s2 rfl).2.2.2⟩))
end Go.Proofs.YtfgfofedacehiaaGreat

