/-
 OWN TEXT: what Whole of package float returns, for every float.
-/
import Derived.Test.YtfgfofedacehiaaGreatJFnToFnStairs
import Derived.Test.YtfgfofedacehiaaGreatJFlCToFlG
import Derived.Test.YtfgfofedacehiaaGreatJEoA
namespace Go.Proofs.YtfgfofedacehiaaGreat
open Go.ChangeShapes Go.WideShapes Go.ChangeAt Go.RowKit
end Go.Proofs.YtfgfofedacehiaaGreat

/-
 OWN TEXT: rounding keeps the order; a float made whole, as an integer.
-/
namespace Go.Proofs.YtfgfofedacehiaaGreat.Fl
set_option linter.unusedVariables false
end Go.Proofs.YtfgfofedacehiaaGreat.Fl
namespace Go.Proofs.YtfgfofedacehiaaGreat
open Go.ChangeShapes Go.WideShapes Go.ChangeAt Go.RowKit
set_option linter.unusedVariables false
/-- n is p made whole -/
def whR (p n : Nat) : Prop := n < 18446744073709551616 ∧ (if Fl.nan p = true then Fl.nan n = true else n = Fl.whF p)
end Go.Proofs.YtfgfofedacehiaaGreat

/-
 OWN TEXT: sines, cosines, quarters, angles of floats: what the chapter's steps come to.
-/
namespace Go.Proofs.YtfgfofedacehiaaGreat
open Go.ChangeShapes Go.WideShapes Go.ChangeAt Go.RowKit
set_option linter.unusedVariables false
/-- x less m times three pieces -/
def lesR (x m a b c y : Nat) : Prop := ∃ p d q e r, opR .mul m a p ∧ opR .sub x p d ∧ opR .mul m b q ∧ opR .sub d q e ∧ opR .mul m c r ∧ opR .sub e r y
/-- m: how often a float goes into x, whole -/
def folR (x c n : Nat) : Prop := ∃ p, opR .mul x c p ∧ whR p n
def fitB (x : Nat) : Bool := Fl.leF (Fl.rg x) 4697254411347427328
/-- x less whole quarters, and how many -/
def quaR (x y : Nat) (n : Int) : Prop := y < 18446744073709551616 ∧
 if fitB x = true then ∃ m, folR x 4603909380684499075 m ∧ if Fl.eqF m 0 = true then y = x ∧ n = 0 else lesR x m 4609753056924401664 4454258360616747008 4297306550709518336 y ∧ ∃ q, floatToIntVal .f64 m .i64 = some q ∧ n = q % 4
 else Fl.nan y = true ∧ n = 0
theorem quaR.range {x y : Nat} {n : Int} (h : quaR x y n) : 0 ≤ n ∧ n < 4 := by
 obtain ⟨_, h⟩ := h
 by_cases c : fitB x = true
 ·
  rw [if_pos c] at h
  obtain ⟨m, _, h⟩ := h
  by_cases c2 : Fl.eqF m 0 = true
  · rw [if_pos c2] at h; omega
  ·
   rw [if_neg c2] at h
   obtain ⟨_, q, _, e⟩ := h
   omega
 · rw [if_neg c] at h; omega
end Go.Proofs.YtfgfofedacehiaaGreat

