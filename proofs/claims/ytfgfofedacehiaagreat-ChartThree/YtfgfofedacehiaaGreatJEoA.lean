/-
 OWN TEXT: what an operation on two floats comes to, no numbers too; that like operands give like answers; the reference's odd sum.
-/
import Derived.Test.YtfgfofedacehiaaGreatJFnToFnStairs
import Derived.Test.YtfgfofedacehiaaGreatJFlCToFlG
import Derived.Below
namespace Go.Proofs.YtfgfofedacehiaaGreat
open Go.ChangeShapes Go.WideShapes Go.ChangeAt Go.RowKit
set_option linter.unusedVariables false
attribute [local go_sem] frombits_call tobits_call run_neg
/-- nothing that was there has turned -/
def Bw (w w' : World) : Prop := Below w.heap.size w w'
theorem Bw.refl (w : World) : Bw w w := Below.refl _ _
theorem Bw.drew {a b : World} (h : Bw a b) : Bw a b.drew := Below.drew h
theorem bw_trans {a b c : World} (h : Bw a b) (k : Bw b c) : Bw a c := Below.trans h (Below.mono k h.size)
/-- the four operations -/
def isOp (op : BinOp) : Prop := op = .add ∨ op = .sub ∨ op = .mul ∨ op = .quo
/-- x is what a and b come to -/
def opR (op : BinOp) (a b x : Nat) : Prop := x < 18446744073709551616 ∧ (floatBits op .f64 a b = some x ∨ (floatBits op .f64 a b = none ∧ Fl.nan x = true))
/-- alike: one float, or both no numbers -/
def simR (a b : Nat) : Prop := a = b ∨ (Fl.nan a = true ∧ Fl.nan b = true)
theorem simR.refl (a : Nat) : simR a a := Or.inl rfl
theorem simR.same {a b : Nat} (h : simR a b) : Fl.sameB a b = true := by
 rcases h with rfl | ⟨h1, h2⟩
 · unfold Fl.sameB; simp
 · unfold Fl.sameB; rw [h1, h2]; rfl
theorem nan_left (op : BinOp) (ho : isOp op) {a b : Nat} (h : Fl.nan a = true) : floatBits op .f64 a b = none := by
 have hr := Fl.read_nan (Fl.nan_lt h)
 rcases ho with rfl | rfl | rfl | rfl
 · show Ieee.double.add a b = none; unfold Ieee.Format.add; rw [hr]; rfl
 · show Ieee.double.sub a b = none; unfold Ieee.Format.sub; rw [hr]; rfl
 · show Ieee.double.mul a b = none; unfold Ieee.Format.mul; rw [hr]; rfl
 · show Ieee.double.div a b = none; unfold Ieee.Format.div; rw [hr]; rfl
theorem nan_right (op : BinOp) (ho : isOp op) {a b : Nat} (h : Fl.nan b = true) : floatBits op .f64 a b = none := by
 have hr := Fl.read_nan (Fl.nan_lt h)
 rcases ho with rfl | rfl | rfl | rfl
 · show Ieee.double.add a b = none; unfold Ieee.Format.add; rw [hr]; cases Ieee.double.read a <;> rfl
 · show Ieee.double.sub a b = none; unfold Ieee.Format.sub; rw [hr]; cases Ieee.double.read a <;> rfl
 · show Ieee.double.mul a b = none; unfold Ieee.Format.mul; rw [hr]; cases Ieee.double.read a <;> rfl
 · show Ieee.double.div a b = none; unfold Ieee.Format.div; rw [hr]; cases Ieee.double.read a <;> rfl
theorem opR.nan {op : BinOp} {a b x : Nat} (h : opR op a b x) (hn : floatBits op .f64 a b = none) : Fl.nan x = true := by
 rcases h.2 with e | e
 · rw [hn] at e; cases e
 · exact e.2
theorem floatBits_lt0 {op : BinOp} {x y r : Nat} (h : floatBits op .f64 x y = some r) : r < 18446744073709551616 := by
 have hw := floatBits_wf h
 simp only [Lit.wf] at hw
 exact of_decide_eq_true hw
/-- an operation runs: what it leaves, and the world (a draw at most) -/
theorem op_run (op : BinOp) (ho : isOp op) (a b : Nat) (w : World) : ∃ x w1, opR op a b x ∧ (∀ t, (binOp op t (.float .f64 a) (.float .f64 b)).run Tryz.prog w = .ok (.float .f64 x) w1) ∧ Bw w w1 := by
 cases e : floatBits op .f64 a b with
 | some z => exact ⟨z, w, ⟨floatBits_lt0 e, Or.inl e⟩, fun t => run_float_arith (P := Tryz.prog) w op t .f64 _ _ _ e, Bw.refl _⟩
 | none =>
  obtain ⟨z, hz, nz, e1⟩ := run_arith_none Tryz.prog op a b w ho e
  exact ⟨z, w.drew, ⟨hz, Or.inr ⟨e, nz⟩⟩, e1, (Bw.refl _).drew⟩
end Go.Proofs.YtfgfofedacehiaaGreat

