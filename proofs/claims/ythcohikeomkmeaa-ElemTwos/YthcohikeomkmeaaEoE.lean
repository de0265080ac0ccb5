/-
  OWN TEXT: the reference's rising sum (eddyref04.Rising), for every float.
-/
import Derived.Test.YthcohikeomkmeaaEoA
namespace Go.Proofs.Ythcohikeomkmeaa
open Go.ChangeShapes Go.WideShapes Go.ChangeAt Go.RowKit
set_option linter.unusedVariables false
attribute [local go_sem] frombits_call tobits_call run_neg
/-- the rising sum of r, behind i rounds -/
def risQ (r : Nat) : Nat → Nat → Prop
  | 0, t => t = 4607182418800017408
  | i + 1, t' => ∃ t p d, risQ r i t ∧ opR .mul r t p ∧ opR .quo p (floatOfInt .f64 (13 - (i : Int))) d ∧ opR .add 4607182418800017408 d t'
theorem risQ.sim {r r' : Nat} (hr : simR r r') : ∀ (i t t' : Nat), risQ r i t → risQ r' i t' → simR t t'
  | 0, t, t', h, h' => Or.inl (Eq.trans h (Eq.symm h'))
  | i + 1, t, t', ⟨u, p, d, h1, h2, h3, h4⟩, ⟨u', p', d', k1, k2, k3, k4⟩ =>
    h4.sim (Or.inl rfl) k4 (simR.refl _) (h3.sim (Or.inr (Or.inr (Or.inr rfl))) k3 (h2.sim (Or.inr (Or.inr (Or.inl rfl))) k2 hr (risQ.sim hr i u u' h1 k1)) (simR.refl _))
end Go.Proofs.Ythcohikeomkmeaa
