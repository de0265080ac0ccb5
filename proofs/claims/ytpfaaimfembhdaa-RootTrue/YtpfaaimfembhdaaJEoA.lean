/-
  OWN TEXT: what an operation on two floats comes to, no numbers too; that like operands give like answers; the reference's odd sum.
-/
import Derived.Test.YtpfaaimfembhdaaJFnToFnStairs
import Derived.Test.YtpfaaimfembhdaaJFlCToFlG
import Derived.Below
namespace Go.Proofs.Ytpfaaimfembhdaa
open Go.ChangeShapes Go.WideShapes Go.ChangeAt Go.RowKit
set_option linter.unusedVariables false
attribute [local go_sem] frombits_call tobits_call run_neg
/-- nothing that was there has turned -/
def Bw (w w' : World) : Prop := Below w.heap.size w w'
theorem Bw.refl (w : World) : Bw w w := Below.refl _ _
theorem Bw.drew {a b : World} (h : Bw a b) : Bw a b.drew := Below.drew h
theorem bw_trans {a b c : World} (h : Bw a b) (k : Bw b c) : Bw a c := Below.trans h (Below.mono k h.size)
/-- the four operations -/
def isOp (op : BinOp) : Prop := op = .add ∨ op = .sub ∨ op = .mul ∨ op = .quo
/-- x is what a and b come to -/
def opR (op : BinOp) (a b x : Nat) : Prop := x < 18446744073709551616 ∧ (floatBits op .f64 a b = some x ∨ (floatBits op .f64 a b = none ∧ Fl.nan x = true))
/-- alike: one float, or both no numbers -/
def simR (a b : Nat) : Prop := a = b ∨ (Fl.nan a = true ∧ Fl.nan b = true)
theorem simR.refl (a : Nat) : simR a a := Or.inl rfl
theorem simR.same {a b : Nat} (h : simR a b) : Fl.sameB a b = true := by
  rcases h with rfl | ⟨h1, h2⟩
  · unfold Fl.sameB; simp
  · unfold Fl.sameB; rw [h1, h2]; rfl
theorem nan_left (op : BinOp) (ho : isOp op) {a b : Nat} (h : Fl.nan a = true) : floatBits op .f64 a b = none := by
  have hr := Fl.read_nan (Fl.nan_lt h)
  rcases ho with rfl | rfl | rfl | rfl
  · show Ieee.double.add a b = none; unfold Ieee.Format.add; rw [hr]; rfl
  · show Ieee.double.sub a b = none; unfold Ieee.Format.sub; rw [hr]; rfl
  · show Ieee.double.mul a b = none; unfold Ieee.Format.mul; rw [hr]; rfl
  · show Ieee.double.div a b = none; unfold Ieee.Format.div; rw [hr]; rfl
theorem nan_right (op : BinOp) (ho : isOp op) {a b : Nat} (h : Fl.nan b = true) : floatBits op .f64 a b = none := by
  have hr := Fl.read_nan (Fl.nan_lt h)
  rcases ho with rfl | rfl | rfl | rfl
  · show Ieee.double.add a b = none; unfold Ieee.Format.add; rw [hr]; cases Ieee.double.read a <;> rfl
  · show Ieee.double.sub a b = none; unfold Ieee.Format.sub; rw [hr]; cases Ieee.double.read a <;> rfl
  · show Ieee.double.mul a b = none; unfold Ieee.Format.mul; rw [hr]; cases Ieee.double.read a <;> rfl
  · show Ieee.double.div a b = none; unfold Ieee.Format.div; rw [hr]; cases Ieee.double.read a <;> rfl
theorem opR.nan {op : BinOp} {a b x : Nat} (h : opR op a b x) (hn : floatBits op .f64 a b = none) : Fl.nan x = true := by
  rcases h.2 with e | e
  · rw [hn] at e; cases e
  · exact e.2
/-- like operands give like answers -/
theorem opR.sim {op : BinOp} (ho : isOp op) {a a' b b' x x' : Nat} (h : opR op a b x) (h' : opR op a' b' x') (ha : simR a a') (hb : simR b b') : simR x x' := by
  rcases ha with rfl | ⟨h1, h2⟩
  · rcases hb with rfl | ⟨h1, h2⟩
    · cases e : floatBits op .f64 a b with
      | none => exact Or.inr ⟨h.nan e, h'.nan e⟩
      | some z =>
        have k1 : z = x := by
          rcases h.2 with k | k
          · rw [e] at k; exact Option.some.inj k
          · rw [e] at k; cases k.1
        have k2 : z = x' := by
          rcases h'.2 with k | k
          · rw [e] at k; exact Option.some.inj k
          · rw [e] at k; cases k.1
        exact Or.inl (k1.symm.trans k2)
    · exact Or.inr ⟨h.nan (nan_right op ho h1), h'.nan (nan_right op ho h2)⟩
  · exact Or.inr ⟨h.nan (nan_left op ho h1), h'.nan (nan_left op ho h2)⟩
theorem floatBits_lt0 {op : BinOp} {x y r : Nat} (h : floatBits op .f64 x y = some r) : r < 18446744073709551616 := by
  have hw := floatBits_wf h
  simp only [Lit.wf] at hw
  exact of_decide_eq_true hw
/-- an operation runs: what it leaves, and the world (a draw at most) -/
theorem op_run (op : BinOp) (ho : isOp op) (a b : Nat) (w : World) : ∃ x w1, opR op a b x ∧ (∀ t, (binOp op t (.float .f64 a) (.float .f64 b)).run Try.prog w = .ok (.float .f64 x) w1) ∧ Bw w w1 := by
  cases e : floatBits op .f64 a b with
  | some z => exact ⟨z, w, ⟨floatBits_lt0 e, Or.inl e⟩, fun t => run_float_arith (P := Try.prog) w op t .f64 _ _ _ e, Bw.refl _⟩
  | none =>
    obtain ⟨z, hz, nz, e1⟩ := run_arith_none Try.prog op a b w ho e
    exact ⟨z, w.drew, ⟨hz, Or.inr ⟨e, nz⟩⟩, e1, (Bw.refl _).drew⟩
/-- the odd sum, behind i rounds -/
def oddQ (s : Nat) : Nat → Nat → Prop
  | 0, q => q = 4585925428558828667
  | i + 1, q' => ∃ q d p, oddQ s i q ∧ opR .quo 4607182418800017408 (floatOfInt .f64 (23 - 2 * (i : Int))) d ∧ opR .mul s q p ∧ opR .add d p q'
def oddR (f y : Nat) : Prop := ∃ s q a p r, opR .mul f f s ∧ oddQ s 11 q ∧ opR .mul 4611686018427387904 f a ∧ opR .mul s q p ∧ opR .mul a p r ∧ opR .add a r y
theorem oddQ.sim {s s' : Nat} (hs : simR s s') : ∀ (i q q' : Nat), oddQ s i q → oddQ s' i q' → simR q q'
  | 0, q, q', h, h' => Or.inl (Eq.trans h (Eq.symm h'))
  | i + 1, q, q', ⟨u, d, p, h1, h2, h3, h4⟩, ⟨u', d', p', k1, k2, k3, k4⟩ =>
    h4.sim (Or.inl rfl) k4 (h2.sim (Or.inr (Or.inr (Or.inr rfl))) k2 (simR.refl _) (simR.refl _)) (h3.sim (Or.inr (Or.inr (Or.inl rfl))) k3 hs (oddQ.sim hs i u u' h1 k1))
theorem oddR.sim {f f' y y' : Nat} (h : oddR f y) (k : oddR f' y') (hf : simR f f') : simR y y' := by
  obtain ⟨s, q, a, p, r, h1, h2, h3, h4, h5, h6⟩ := h
  obtain ⟨s', q', a', p', r', k1, k2, k3, k4, k5, k6⟩ := k
  have m : isOp .mul := Or.inr (Or.inr (Or.inl rfl))
  have es := h1.sim m k1 hf hf
  have eq := oddQ.sim es 11 q q' h2 k2
  have ea := h3.sim m k3 (simR.refl _) hf
  have ep := h4.sim m k4 es eq
  have er := h5.sim m k5 ea ep
  exact h6.sim (Or.inl rfl) k6 ea er
end Go.Proofs.Ytpfaaimfembhdaa
