/-
 OWN TEXT: whole complex numbers as the program has them: sums, products, quotients by 1, tests.
-/
import Derived.Test.YtnjkdfhhlcoaaaaGreatJWhA
import Derived.Test.YtnjkdfhhlcoaaaaGreatJPyAToPyB
import Derived.Test.YtnjkdfhhlcoaaaaGreatJFnEqToFnSame
namespace Go.Proofs.YtnjkdfhhlcoaaaaGreat
open Go.ChangeShapes Go.WideShapes Go.ChangeAt Go.RowKit
set_option linter.unusedVariables false
attribute [local go_sem] frombits_call tobits_call run_neg
namespace Fl
end Fl
theorem run_some {op : BinOp} {a b x : Nat} (e : floatBits op .f64 a b = some x) : opR op a b x ∧ ∀ (t : TypeId) (w : World), (binOp op t (.float .f64 a) (.float .f64 b)).run Tryz.prog w = .ok (.float .f64 x) w :=
 ⟨⟨floatBits_lt0 e, Or.inl e⟩, fun t w => run_float_arith (P := Tryz.prog) w op t .f64 _ _ _ e⟩
theorem one_vl : ∀ c, c = 1074 → Fl.vl 4607182418800017408 = 2 ^ c := by rintro _ rfl; decide +kernel
theorem wI.nan {c x : Nat} {m : Int} (h : wI c x m) : Fl.nan x = false := by unfold Fl.nan; exact decide_eq_false (by have := h.2.1; omega)
theorem wI.fin {c x : Nat} {m : Int} (h : wI c x m) : Fl.finB x = true := by unfold Fl.finB; exact decide_eq_true h.2.1
theorem wI.ng {c x : Nat} {m : Int} (h : wI c x m) : wI c (Fl.ng x) (-m) := by
 refine ⟨Fl.ng_lt h.1, ?_, ?_⟩
 · rw [Fl.rg_ng x]; exact h.2.1
 · rw [Fl.val_ng h.1, h.2.2, Int.neg_mul]
theorem w_nought (c : Nat) : wI c 0 0 := by
 refine ⟨by decide, by decide, ?_⟩
 rw [Int.zero_mul]; decide
theorem w_unit {c : Nat} (hc : c = 1074) : wI c 4607182418800017408 1 := by
 refine ⟨by decide, by decide, ?_⟩
 have h := one_vl c hc
 have e : Fl.val 4607182418800017408 = (Fl.vl 4607182418800017408 : Nat) := by
  unfold Fl.val
  rw [show Fl.sg 4607182418800017408 = false by decide, if_neg (by decide), show Fl.rg 4607182418800017408 = 4607182418800017408 by decide]
 rw [e, h, Int.one_mul]
/-- whole numbers up to 2^40 are within it -/
theorem real_vl : ∀ c, c = 1074 → Fl.vl 4787326403894837248 = 1099511627776 * 2 ^ c := by rintro _ rfl; decide +kernel
theorem wI.within {c x : Nat} {m : Int} (hc : c = 1074) (h : wI c x m) (hm : m.natAbs ≤ 1099511627776) : Fl.withinB x 4787326403894837248 = true := by
 unfold Fl.withinB
 rw [h.nan, show Fl.nan 4787326403894837248 = false by decide, show Fl.key 4787326403894837248 = 4787326403894837248 by decide]
 simp only [Bool.not_false, Bool.true_and]
 refine decide_eq_true ?_
 have : Fl.rg x ≤ 4787326403894837248 := by
  rcases Nat.lt_or_ge 4787326403894837248 (Fl.rg x) with k | k
  ·
   have := Fl.vl_mono k
   rw [h.vl, real_vl c hc] at this
   have := Nat.lt_of_mul_lt_mul_right this
   omega
  · exact k
 omega
/-- a complex number is the whole number g -/
def wC (c x y : Nat) (g : Py.G) : Prop := wI c x g.1 ∧ wI c y g.2
theorem wC.nought (c : Nat) : wC c 0 0 (0, 0) := ⟨w_nought c, w_nought c⟩
theorem wC.one {c : Nat} (hc : c = 1074) : wC c 4607182418800017408 0 (1, 0) := ⟨w_unit hc, w_nought c⟩
end Go.Proofs.YtnjkdfhhlcoaaaaGreat

