/-
 OWN TEXT: the reference's logarithm (eddyref04.Log), for every float.
-/
import Derived.Test.YtfgfofedacehiaaGreatJEoA
import Derived.Test.YtfgfofedacehiaaGreatJRfBToRfC
import Derived.Test.YtfgfofedacehiaaGreatJRoAToEqC
import Derived.Test.YtfgfofedacehiaaGreatJFnEqToBhM
import Derived.Test.YtfgfofedacehiaaGreatJFnWholeToAnA
namespace Go.Proofs.YtfgfofedacehiaaGreat
open Go.ChangeShapes Go.WideShapes Go.ChangeAt Go.RowKit
set_option linter.unusedVariables false
attribute [local go_sem] frombits_call tobits_call run_neg
end Go.Proofs.YtfgfofedacehiaaGreat

/-
 OWN TEXT: the reference's logarithm for every float, and that of 1 and x (eddyref04.Log, eddyref04.More).
-/
namespace Go.Proofs.YtfgfofedacehiaaGreat
open Go.ChangeShapes Go.WideShapes Go.ChangeAt Go.RowKit
set_option linter.unusedVariables false
attribute [local go_sem] frombits_call tobits_call run_neg
end Go.Proofs.YtfgfofedacehiaaGreat

/-
 OWN TEXT: exponentials, logarithms, powers, sines of complex numbers: what the chapter's steps come to.
-/
namespace Go.Proofs.YtfgfofedacehiaaGreat
open Go.ChangeShapes Go.WideShapes Go.ChangeAt Go.RowKit
set_option linter.unusedVariables false
end Go.Proofs.YtfgfofedacehiaaGreat

/-
 OWN TEXT: the values of sines, cosines, quarters, angles at given floats, by computation.
-/
namespace Go.Proofs.YtfgfofedacehiaaGreat
open Go.ChangeShapes Go.WideShapes Go.ChangeAt Go.RowKit
set_option linter.unusedVariables false
end Go.Proofs.YtfgfofedacehiaaGreat

/-
 OWN TEXT: the values of lengths, roots, units at given numbers, by computation.
-/
namespace Go.Proofs.YtfgfofedacehiaaGreat
open Go.ChangeShapes Go.WideShapes Go.ChangeAt Go.RowKit
set_option linter.unusedVariables false
end Go.Proofs.YtfgfofedacehiaaGreat

/-
 OWN TEXT: floats with their signs turned: products, differences, whole numbers; that no rest of a quarter is nought.
-/
namespace Go.Proofs.YtfgfofedacehiaaGreat.Fl
set_option linter.unusedVariables false
theorem ng_wd (b : Bool) (r : Nat) (h : r < 9223372036854775808) : wd (!b) r = ng (wd b r) := by
 unfold wd ng
 cases b
 · simp only [Bool.not_false, if_true, Bool.false_eq_true, if_false]; rw [if_pos h]; omega
 · simp only [Bool.not_true, if_true, Bool.false_eq_true, if_false]; rw [if_neg (by omega)]; omega
theorem write_num (b : Bool) (m : Nat) (e : Int) : ∃ r, r ≤ 9218868437227405312 ∧ ∀ b, Ieee.double.write (.number b m e) = wd b r := by
 refine ⟨rq (m * 2 ^ (e + 1074).toNat) (-(e + 1074)).toNat, rq_le _ _, fun b => ?_⟩
 have := nearest_eq b m (e + 1074).toNat (-(e + 1074)).toNat
 rw [show (-1074 + ((e + 1074).toNat : Int) - ((-(e + 1074)).toNat : Int)) = e by omega] at this
 exact this
theorem write_opp (d : Ieee.Datum) (hd : d.isNaN = false) : Ieee.double.write d.opposite = ng (Ieee.double.write d) := by
 cases d with
 | number s m e =>
  obtain ⟨r, hr, h⟩ := write_num s m e
  rw [Ieee.Datum.opposite, h, h]
  exact ng_wd _ _ (by omega)
 | infinity s => cases s <;> rfl
 | nan s t => cases hd
theorem prod_opp (a b : Ieee.Datum) : a.opposite.product b = (a.product b).map Ieee.Datum.opposite ∧ a.product b.opposite = (a.product b).map Ieee.Datum.opposite ∧ ∀ d, a.product b = some d → d.isNaN = false := by
 cases a <;> cases b <;> simp only [Ieee.Datum.opposite, Ieee.Datum.product] <;> (try split) <;> refine ⟨?_, ?_, ?_⟩ <;> first | rfl | (intro d h; cases h; rfl) | (intro d h; cases h) | (simp [Ieee.Datum.opposite, Bool.xor_comm])
theorem mul_ng {a b : Nat} (ha : a < 18446744073709551616) : Ieee.double.mul (ng a) b = (Ieee.double.mul a b).map ng := by
 unfold Ieee.Format.mul
 obtain ⟨h1, _, h3⟩ := prod_opp (Ieee.double.read a) (Ieee.double.read b)
 rw [read_ng ha, h1]
 cases e : (Ieee.double.read a).product (Ieee.double.read b) with
 | none => rfl
 | some d => simp only [Option.map_some, write_opp d (h3 d e)]
theorem mul_ng' {a b : Nat} (hb : b < 18446744073709551616) : Ieee.double.mul a (ng b) = (Ieee.double.mul a b).map ng := by
 unfold Ieee.Format.mul
 obtain ⟨_, h2, h3⟩ := prod_opp (Ieee.double.read a) (Ieee.double.read b)
 rw [read_ng hb, h2]
 cases e : (Ieee.double.read a).product (Ieee.double.read b) with
 | none => rfl
 | some d => simp only [Option.map_some, write_opp d (h3 d e)]
end Go.Proofs.YtfgfofedacehiaaGreat.Fl
namespace Go.Proofs.YtfgfofedacehiaaGreat
open Go.ChangeShapes Go.WideShapes Go.ChangeAt Go.RowKit
set_option linter.unusedVariables false
end Go.Proofs.YtfgfofedacehiaaGreat

