/-
 OWN TEXT: a float by its parts: scaled to a half and more, and back; what is as great or greater stays so.
-/
import Derived.Test.YtfgfofedacehiaaGreatJRmAToTwA
import Derived.Test.YtfgfofedacehiaaGreatJFnLdexpToEoE
import Derived.Test.YtfgfofedacehiaaGreatJRfBToRfC
import Derived.Test.YtfgfofedacehiaaGreatJAnMToRoS
set_option linter.unusedVariables false
namespace Go.Proofs.YtfgfofedacehiaaGreat
end Go.Proofs.YtfgfofedacehiaaGreat

/-
 OWN TEXT: a length is at least the greater part, and at most both together, or the next float.
-/
set_option linter.unusedVariables false
namespace Go.Proofs.YtfgfofedacehiaaGreat
theorem wd_false (r : Nat) : Fl.wd false r = r := rfl
theorem mul_word {a b x : Nat} (fa : Fl.rg a < 9218868437227405312) (fb : Fl.rg b < 9218868437227405312) (h : opR .mul a b x) : x = Fl.wd (Fl.sg a ^^ Fl.sg b) (Fl.rq (Fl.vl (Fl.rg a) * Fl.vl (Fl.rg b)) 1074) := by
 have hm := Fl.mul_fin (x := a) (y := b) fa fb
 rcases h.2 with k | k
 · exact (Option.some.inj (hm.symm.trans k)).symm
 · exact absurd (hm.symm.trans k.1) (by intro c; cases c)
theorem add_word {a b x : Nat} (sa : Fl.sg a = false) (sb : Fl.sg b = false) (fa : Fl.rg a < 9218868437227405312) (fb : Fl.rg b < 9218868437227405312) (h : opR .add a b x) : x = Fl.rq (Fl.vl (Fl.rg a) + Fl.vl (Fl.rg b)) 0 := by
 have hm := Fl.add_fin (x := a) (y := b) fa fb
 have e : x = Fl.wd (if Fl.val a + Fl.val b = 0 then Fl.sg a && Fl.sg b else decide (Fl.val a + Fl.val b < 0)) (Fl.rq (Fl.val a + Fl.val b).natAbs 0) := by
  rcases h.2 with k | k
  · exact (Option.some.inj (hm.symm.trans k)).symm
  · exact absurd (hm.symm.trans k.1) (by intro c; cases c)
 have va : Fl.val a = (Fl.vl (Fl.rg a) : Int) := by unfold Fl.val; rw [sa]; rfl
 have vb : Fl.val b = (Fl.vl (Fl.rg b) : Int) := by unfold Fl.val; rw [sb]; rfl
 rw [va, vb, sa, show ((Fl.vl (Fl.rg a) : Int) + (Fl.vl (Fl.rg b) : Int)).natAbs = Fl.vl (Fl.rg a) + Fl.vl (Fl.rg b) by omega] at e
 rw [e]
 by_cases z : (Fl.vl (Fl.rg a) : Int) + (Fl.vl (Fl.rg b) : Int) = 0
 · rw [if_pos z, Bool.false_and, wd_false]
 · rw [if_neg z, decide_eq_false (by omega), wd_false]
theorem rg_rung {r : Nat} (h : r ≤ 9218868437227405312) : Fl.rg r = r ∧ Fl.sg r = false := by
 constructor
 · unfold Fl.rg; omega
 · rw [Fl.sg_lt (by omega)]; exact decide_eq_false (by omega)
end Go.Proofs.YtfgfofedacehiaaGreat

/-
 OWN TEXT: a length is at most both parts together, or the next float.
-/
set_option linter.unusedVariables false
set_option exponentiation.threshold 3000
namespace Go.Proofs.YtfgfofedacehiaaGreat
end Go.Proofs.YtfgfofedacehiaaGreat

/-
 OWN TEXT: lengths of mirrored and turned numbers; roots of mirrored numbers, their sides.
-/
set_option linter.unusedVariables false
set_option exponentiation.threshold 3000
namespace Go.Proofs.YtfgfofedacehiaaGreat
end Go.Proofs.YtfgfofedacehiaaGreat

