/-
 OWN TEXT: ChartThere, for every input.
-/
import Derived.Test.YtfgfofedacehiaaGreatJChGToChX
import Derived.Test.YtfgfofedacehiaaGreatJChWToChZ
namespace Go.Proofs.YtfgfofedacehiaaGreat
open Go.ChangeShapes Go.WideShapes Go.ChangeAt Go.RowKit
set_option linter.unusedVariables false
theorem Ch.le8 {x y : Int} (h : x.natAbs ≤ 8 ∧ y.natAbs ≤ 8) : Py.Le (x, y) 12 := by
 have e : ∀ x : Int, x.natAbs ≤ 8 → x * x ≤ 64 := by
  intro x h
  have k := Nat.mul_le_mul h h
  have e : x * x = ((x.natAbs * x.natAbs : Nat) : Int) := Int.natAbs_mul_self.symm
  omega
 have h1 := e x h.1
 have h2 := e y h.2
 unfold Py.Le
 show x * x + y * y ≤ _
 omega
theorem Ch.w8 {x y : Int} (h : x.natAbs ≤ 8 ∧ y.natAbs ≤ 8) : wC 1074 (floatOfInt .f64 x) (floatOfInt .f64 y) (x, y) := ⟨(El.wP_thou x (by omega)).1, (El.wP_thou y (by omega)).1⟩
set_option maxHeartbeats 4000000 in
theorem chartthere_any (X0 Y0 X1 Y1 X2 Y2 X3 Y3 PA QA PZ QZ : Int) (w : World) : Calls Tryz.prog 3 #[.agg #[.int .i16 X0, .int .i16 Y0, .int .i16 X1, .int .i16 Y1, .int .i16 X2, .int .i16 Y2, .int .i16 X3, .int .i16 Y3], .agg #[.int .i16 PA, .int .i16 QA], .agg #[.int .i16 PZ, .int .i16 QZ]] w fun e w' => e = .returned (.bool true) ∧ Bw w w' := by
 refine law18h w (hide (gof18 PZ QZ)) (hide (gof18 PA QA)) (hide (fun wz => fof18 (hide (gof18 X0 Y0)) (hide (gof18 X1 Y1)) (hide (gof18 X2 Y2)) (hide (gof18 X3 Y3)) wz)) (hide (geq18 PA QA 0 0)) (hide (geq18 PZ QZ 0 0)) (hide (fun s => ?_)) (hide (fun s => ?_))
 ·
  have s0 := s.1 rfl
  have s2 := s.2.2 rfl
  exact moeb_all (m := ⟨(X0, Y0), (X1, Y1), (X2, Y2), (X3, Y3)⟩) ⟨Ch.w8 s0.1, Ch.w8 s0.2.1, Ch.w8 s0.2.2.1, Ch.w8 s0.2.2.2⟩ ⟨Ch.le8 s0.1, Ch.le8 s0.2.1, Ch.le8 s0.2.2.1, Ch.le8 s0.2.2.2⟩ (Ch.w8 s2) (Ch.le8 s2)
 ·
  have s1 := s.2.1 rfl
  have s2 := s.2.2 rfl
  exact jou_calls (Ch.w8 s1) (Ch.w8 s2) (Ch.le8 s1) (Ch.le8 s2)
end Go.Proofs.YtfgfofedacehiaaGreat

