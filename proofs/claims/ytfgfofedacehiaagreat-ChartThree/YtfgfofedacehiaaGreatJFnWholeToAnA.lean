/-
 OWN TEXT: what Whole of package float returns, for every float.
-/
import Derived.Test.YtfgfofedacehiaaGreatJFnToFnStairs
import Derived.Test.YtfgfofedacehiaaGreatJFlCToFlG
import Derived.Test.YtfgfofedacehiaaGreatJEoA
namespace Go.Proofs.YtfgfofedacehiaaGreat
open Go.ChangeShapes Go.WideShapes Go.ChangeAt Go.RowKit
end Go.Proofs.YtfgfofedacehiaaGreat

/-
 OWN TEXT: rounding keeps the order; a float made whole, as an integer.
-/
namespace Go.Proofs.YtfgfofedacehiaaGreat.Fl
set_option linter.unusedVariables false
theorem rne_mono (n n' s : Nat) (h : n ≤ n') : rne n s ≤ rne n' s := by
 have hp := Nat.two_pow_pos s
 have d1 := Nat.div_add_mod n (2 ^ s)
 have d2 := Nat.div_add_mod n' (2 ^ s)
 have m1 := Nat.mod_lt n hp
 have m2 := Nat.mod_lt n' hp
 have hq : n / 2 ^ s ≤ n' / 2 ^ s := Nat.div_le_div_right h
 unfold rne
 rcases Nat.lt_or_ge (n / 2 ^ s) (n' / 2 ^ s) with c | c
 · split <;> split <;> omega
 ·
  have e : n / 2 ^ s = n' / 2 ^ s := by omega
  rw [e] at d1 ⊢
  have hm : n % 2 ^ s ≤ n' % 2 ^ s := by omega
  split <;> split <;> omega
theorem log2_mono {n n' : Nat} (h0 : n ≠ 0) (h : n ≤ n') : n.log2 ≤ n'.log2 := (Nat.le_log2 (by omega)).2 (Nat.le_trans (log2_le n h0) h)
theorem rq_mono (n n' d : Nat) (h : n ≤ n') : rq n d ≤ rq n' d := by
 by_cases h0 : n = 0
 · unfold rq; rw [if_pos h0]; exact Nat.zero_le _
 ·
  have h0' : n' ≠ 0 := by omega
  have hl := log2_mono h0 h
  unfold rq
  rw [if_neg h0, if_neg h0']
  by_cases c : n.log2 - (52 + d) = n'.log2 - (52 + d)
  ·
   rw [c]
   have := rne_mono n n' (n'.log2 - (52 + d) + d) h
   omega
  ·
   have a1 : rne n (n.log2 - (52 + d) + d) ≤ 9007199254740992 := by
    refine rne_le _ _ _ ?_
    have := log2_lt n h0
    rw [show (9007199254740992 : Nat) = 2 ^ 53 by decide, ← Nat.pow_add]
    exact Nat.le_of_lt (Nat.lt_of_lt_of_le this (Nat.pow_le_pow_right (by decide) (by omega)))
   have a2 : 4503599627370496 ≤ rne n' (n'.log2 - (52 + d) + d) := by
    refine le_rne _ _ _ ?_
    have := log2_le n' h0'
    rw [show (4503599627370496 : Nat) = 2 ^ 52 by decide, ← Nat.pow_add]
    exact Nat.le_trans (Nat.pow_le_pow_right (by decide) (by omega)) this
   omega
end Go.Proofs.YtfgfofedacehiaaGreat.Fl
namespace Go.Proofs.YtfgfofedacehiaaGreat
open Go.ChangeShapes Go.WideShapes Go.ChangeAt Go.RowKit
set_option linter.unusedVariables false
/-- n is p made whole -/
def whR (p n : Nat) : Prop := n < 18446744073709551616 ∧ (if Fl.nan p = true then Fl.nan n = true else n = Fl.whF p)
end Go.Proofs.YtfgfofedacehiaaGreat

/-
 OWN TEXT: sines, cosines, quarters, angles of floats: what the chapter's steps come to.
-/
namespace Go.Proofs.YtfgfofedacehiaaGreat
open Go.ChangeShapes Go.WideShapes Go.ChangeAt Go.RowKit
set_option linter.unusedVariables false
theorem isMul : isOp .mul := Or.inr (Or.inr (Or.inl rfl))
theorem isQuo : isOp .quo := Or.inr (Or.inr (Or.inr rfl))
theorem isSub : isOp .sub := Or.inr (Or.inl rfl)
theorem isAdd : isOp .add := Or.inl rfl
/-- x less m times three pieces -/
def lesR (x m a b c y : Nat) : Prop := ∃ p d q e r, opR .mul m a p ∧ opR .sub x p d ∧ opR .mul m b q ∧ opR .sub d q e ∧ opR .mul m c r ∧ opR .sub e r y
/-- m: how often a float goes into x, whole -/
def folR (x c n : Nat) : Prop := ∃ p, opR .mul x c p ∧ whR p n
def fitB (x : Nat) : Bool := Fl.leF (Fl.rg x) 4697254411347427328
/-- x less whole quarters, and how many -/
def quaR (x y : Nat) (n : Int) : Prop := y < 18446744073709551616 ∧
 if fitB x = true then ∃ m, folR x 4603909380684499075 m ∧ if Fl.eqF m 0 = true then y = x ∧ n = 0 else lesR x m 4609753056924401664 4454258360616747008 4297306550709518336 y ∧ ∃ q, floatToIntVal .f64 m .i64 = some q ∧ n = q % 4
 else Fl.nan y = true ∧ n = 0
theorem quaR.range {x y : Nat} {n : Int} (h : quaR x y n) : 0 ≤ n ∧ n < 4 := by
 obtain ⟨_, h⟩ := h
 by_cases c : fitB x = true
 ·
  rw [if_pos c] at h
  obtain ⟨m, _, h⟩ := h
  by_cases c2 : Fl.eqF m 0 = true
  · rw [if_pos c2] at h; omega
  ·
   rw [if_neg c2] at h
   obtain ⟨_, q, _, e⟩ := h
   omega
 · rw [if_neg c] at h; omega
end Go.Proofs.YtfgfofedacehiaaGreat

