/-
  OWN TEXT: the reference's half the sum and half the difference of exponentials (eddyref04.Cosh, Sinh), for every float.
-/
import Derived.Test.YtlbikopancleoaaDoorJnAm
import Derived.Test.YtlbikopancleoaaDoorJnBr
namespace Go.Proofs.YtlbikopancleoaaDoor
open Go.ChangeShapes Go.WideShapes Go.ChangeAt Go.RowKit
open Bg
set_option linter.unusedVariables false
attribute [local go_sem] frombits_call tobits_call run_neg
theorem top_word {x : Nat} (hx : x < 18446744073709551616) (h : Fl.ltF 9218868437227405311 x = true) : x = 9218868437227405312 := by
  unfold Fl.ltF at h
  rw [Bool.and_eq_true, Bool.and_eq_true, decide_eq_true_eq] at h
  obtain ⟨⟨_, hn⟩, hk⟩ := h
  have hl := Fl.nan_le (x := x) (by simpa using hn)
  rw [show Fl.key 9218868437227405311 = 9218868437227405311 by decide] at hk
  have a1 := Fl.wd_self hx
  unfold Fl.key at hk
  cases e1 : Fl.sg x <;> rw [e1] at hk a1 <;> simp at hk
  · rw [← a1, show Fl.rg x = 9218868437227405312 by omega]; rfl
  · omega
theorem minus_rg {x : Nat} (hx : x < 18446744073709551616) (h : Fl.nan x = false) : Fl.rg x = if Fl.minusB x = true then Fl.ng x else x := by
  have e := Fl.wd_self hx
  have hs := Fl.sg_lt hx
  have hr : Fl.rg x = x % 9223372036854775808 := rfl
  unfold Fl.minusB Fl.ng
  rw [h, hs]
  by_cases c : 9223372036854775808 ≤ x
  · rw [decide_eq_true c, if_pos (by decide), if_neg (by omega)]; omega
  · rw [decide_eq_false c, if_neg (by decide)]; omega
end Go.Proofs.YtlbikopancleoaaDoor
