/-
  OWN TEXT: what Up and Down of package float return, for every float.
-/
import Derived.Test.YthhikidlnpndjaaFn
namespace Go.Proofs.Ythhikidlnpndjaa
open Go.ChangeShapes Go.WideShapes Go.ChangeAt Go.RowKit
attribute [local go_sem] frombits_call tobits_call run_neg
/-- the least word above -/
def upF (x : Nat) : Nat :=
  if Fl.nan x then x else if x = 9218868437227405312 then x else if Fl.rg x = 0 then 1 else if 9223372036854775808 ≤ x then x - 1 else x + 1
theorem upF_lt {x : Nat} (hx : x < 18446744073709551616) : upF x < 18446744073709551616 := by
  unfold upF
  by_cases h1 : Fl.nan x = true
  · rw [if_pos h1]; exact hx
  · rw [if_neg h1]
    have h2 := Fl.nan_le (Bool.eq_false_iff.2 h1)
    have h3 := Fl.sg_key hx
    repeat' split
    all_goals omega
theorem up_tests {x : Nat} (hx : x < 18446744073709551616) (hn : Fl.nan x = false) :
    Fl.ltF 9218868437227405311 x = decide (x = 9218868437227405312) ∧ Fl.eqF x 0 = decide (Fl.rg x = 0) ∧ Fl.ltF x 0 = decide (9223372036854775808 < x) := by
  have hk := Fl.sg_key hx
  have hl := Fl.nan_le hn
  unfold Fl.ltF Fl.eqF
  rw [hn, show Fl.nan 9218868437227405311 = false from by decide, show Fl.key 9218868437227405311 = 9218868437227405311 from by decide, show Fl.nan 0 = false from by decide, show Fl.key 0 = 0 from by decide]
  simp only [Bool.not_false, Bool.true_and, decide_eq_decide]
  refine ⟨?_, ?_, ?_⟩ <;> omega
/-- the greatest word below -/
def downF (x : Nat) : Nat := Fl.ng (upF (Fl.ng x))
end Go.Proofs.Ythhikidlnpndjaa
