/-
  OWN TEXT: package angle's wrapped angles (eddy/angle.wrapped, Wrap), for every float.
-/
import Derived.Test.YtpfaaimfembhdaaJApAToApC
namespace Go.Proofs.Ytpfaaimfembhdaa
open Go.ChangeShapes Go.WideShapes Go.ChangeAt Go.RowKit
set_option linter.unusedVariables false
attribute [local go_sem] frombits_call tobits_call run_neg
/-- above -H and at most H -/
def wrB (x : Nat) : Bool := Fl.ltF 13837628693406821656 x && Fl.leF x 4614256656552045848
theorem last_wr {u z : Nat} (h : z = if wrB u = true then u else 4614256656552045848) : lastR u z := by
  unfold lastR
  unfold wrB at h
  cases hn : Fl.nan u
  · rw [le_lt (by decide) hn] at h
    cases a : Fl.ltF 13837628693406821656 u <;> cases b : Fl.ltF 4614256656552045848 u <;> rw [a, b] at h <;> simp at h ⊢ <;> exact h
  · have e1 : Fl.ltF 13837628693406821656 u = false := by unfold Fl.ltF; rw [hn]; simp
    have e2 : Fl.ltF 4614256656552045848 u = false := by unfold Fl.ltF; rw [hn]; simp
    rw [e1] at h
    rw [e1, e2]
    simp at h ⊢
    exact h
/-- what the program's one circle to or fro comes to -/
theorem once_up {y u : Nat} (c : Fl.ltF 4614256656552045848 y = true) (h : ∃ d, opR .sub y 4618760256179416344 d ∧ opR .sub d 4373459396149402631 u) : onceR y u := by
  unfold onceR; rw [if_pos c]; exact h
theorem once_down {y u : Nat} (c1 : Fl.ltF 4614256656552045848 y = false) (c : Fl.leF y 13837628693406821656 = true) (h : ∃ d, opR .add y 4618760256179416344 d ∧ opR .add d 4373459396149402631 u) : onceR y u := by
  have hn : Fl.nan y = false := by
    unfold Fl.leF at c
    rw [Bool.and_eq_true, Bool.and_eq_true] at c
    simpa using c.1.1
  rw [le_lt (by decide) hn] at c
  unfold onceR; rw [if_neg (by rw [c1]; decide), if_neg (by rw [Bool.not_eq_true'] at c; rw [c]; decide)]; exact h
theorem once_stay {y z : Nat} (w : World) (c1 : Fl.ltF 4614256656552045848 y = false) (c : Fl.leF y 13837628693406821656 = false) (h : z = if wrB y = true then y else 4614256656552045848) : ∃ u, onceR y u ∧ lastR u z := by
  cases hn : Fl.nan y
  · rw [le_lt (by decide) hn] at c
    refine ⟨y, ?_, last_wr h⟩
    unfold onceR; rw [if_neg (by rw [c1]; decide), if_pos (by simpa using c)]
  · obtain ⟨d, _, hd, _, _⟩ := op_run .add isAdd y 4618760256179416344 w
    obtain ⟨u, _, hu, _, _⟩ := op_run .add isAdd d 4373459396149402631 w
    have nu := hu.nan (nan_left _ isAdd (hd.nan (nan_left _ isAdd hn)))
    have e0 : Fl.ltF 13837628693406821656 y = false := by unfold Fl.ltF; rw [hn]; simp
    refine ⟨u, ?_, ?_⟩
    · unfold onceR; rw [if_neg (by rw [c1]; decide), if_neg (by rw [e0]; decide)]; exact ⟨d, hd, hu⟩
    · unfold wrB at h
      rw [e0] at h
      have e1 : Fl.ltF 13837628693406821656 u = false := by unfold Fl.ltF; rw [nu]; simp
      have e2 : Fl.ltF 4614256656552045848 u = false := by unfold Fl.ltF; rw [nu]; simp
      unfold lastR
      rw [e1, e2]
      simp at h ⊢
      exact h
end Go.Proofs.Ytpfaaimfembhdaa
