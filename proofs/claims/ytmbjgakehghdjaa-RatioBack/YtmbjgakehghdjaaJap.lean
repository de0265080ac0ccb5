/-
  OWN TEXT: package angle's angles (eddy/angle.arc, slope, first, across, Of, Tan), for every float.
-/
import Derived.Test.YtmbjgakehghdjaaJao
import Derived.Test.YtmbjgakehghdjaaJak
import Derived.Test.YtmbjgakehghdjaaJal
import Derived.Test.YtmbjgakehghdjaaJaf
namespace Go.Proofs.Ytmbjgakehghdjaa
open Go.ChangeShapes Go.WideShapes Go.ChangeAt Go.RowKit
set_option linter.unusedVariables false
attribute [local go_sem] frombits_call tobits_call run_neg
/-- the angle's steps of a number: at most 0.4140625, or above -/
theorem le_lt {a t : Nat} (ha : Fl.nan a = false) (ht : Fl.nan t = false) : Fl.leF t a = !Fl.ltF a t := by
  rw [Fl.leF_of ht ha, Fl.ltF_of ha ht]
  by_cases c : Fl.key t ≤ Fl.key a
  · rw [decide_eq_true c, decide_eq_false (by omega)]; rfl
  · rw [decide_eq_false c, decide_eq_true (by omega)]; rfl
theorem h4 (ty : TypeId) (w : World) : (binOp .quo ty (.float .f64 4614256656552045848) (.float .f64 4616189618054758400)).run Try.prog w = .ok (.float .f64 4605249457297304856) w := run_float_arith w .quo ty .f64 _ _ _ (by decide +kernel)
theorem l4 (ty : TypeId) (w : World) : (binOp .quo ty (.float .f64 4368955796522032135) (.float .f64 4616189618054758400)).run Try.prog w = .ok (.float .f64 4359948597267291143) w := run_float_arith w .quo ty .f64 _ _ _ (by decide +kernel)
theorem h2 (ty : TypeId) (w : World) : (binOp .quo ty (.float .f64 4614256656552045848) (.float .f64 4611686018427387904)).run Try.prog w = .ok (.float .f64 4609753056924675352) w := run_float_arith w .quo ty .f64 _ _ _ (by decide +kernel)
theorem l2 (ty : TypeId) (w : World) : (binOp .quo ty (.float .f64 4368955796522032135) (.float .f64 4611686018427387904)).run Try.prog w = .ok (.float .f64 4364452196894661639) w := run_float_arith w .quo ty .f64 _ _ _ (by decide +kernel)
theorem angQ_ex (z : Nat) (w : World) : ∀ i, ∃ s, angQ z i s
  | 0 => ⟨0, rfl⟩
  | i + 1 => by
    obtain ⟨s, hs⟩ := angQ_ex z w i
    obtain ⟨d, _, hd, _, _⟩ := op_run .quo isQuo 4607182418800017408 (floatOfInt .f64 (2 * (24 - (i : Int)) + 1)) w
    obtain ⟨p, _, hp, _, _⟩ := op_run .mul isMul z s w
    obtain ⟨t, _, ht, _, _⟩ := op_run .sub isSub d p w
    exact ⟨t, s, d, p, hs, hd, hp, ht⟩
theorem angU_nan {t v : Nat} (w : World) (ht : Fl.nan t = true) (hv : Fl.nan v = true) (hl : v < 18446744073709551616) : angU t v := by
  obtain ⟨z, _, hz, _, _⟩ := op_run .mul isMul t t w
  obtain ⟨s, hs⟩ := angQ_ex z w 25
  exact ⟨z, s, hz, hs, hl, Or.inr ⟨nan_left _ isMul ht, hv⟩⟩
theorem slope_up {t v : Nat} (w : World) (hc : Fl.leF t 4601130706800738304 = false) (hl : v < 18446744073709551616) (h : ∃ a b u w x, opR .sub t 4607182418800017408 a ∧ opR .add t 4607182418800017408 b ∧ opR .quo a b u ∧ angU u w ∧ opR .add w 4359948597267291143 x ∧ opR .add 4605249457297304856 x v) : angR t v := by
  unfold angR
  cases hn : Fl.nan t
  · rw [le_lt (by decide) hn] at hc
    rw [if_pos (by simpa using hc)]; exact h
  · rw [if_neg (by unfold Fl.ltF; rw [hn]; simp)]
    obtain ⟨a, b, u, y, x, h1, h2, h3, ⟨z, s, h4, h5, h6⟩, h7, h8⟩ := h
    have na := h1.nan (nan_left _ isSub hn)
    have nu := h3.nan (nan_left _ isQuo na)
    have ny := h6.nan (nan_left _ isMul nu)
    have nx := h7.nan (nan_left _ isAdd ny)
    exact angU_nan w hn (h8.nan (nan_right _ isAdd nx)) hl
end Go.Proofs.Ytmbjgakehghdjaa
/-
  OWN TEXT: package angle's wrapped angles (eddy/angle.wrapped, Wrap), for every float.
-/
namespace Go.Proofs.Ytmbjgakehghdjaa
open Go.ChangeShapes Go.WideShapes Go.ChangeAt Go.RowKit
set_option linter.unusedVariables false
attribute [local go_sem] frombits_call tobits_call run_neg
/-- above -H and at most H -/
def wrB (x : Nat) : Bool := Fl.ltF 13837628693406821656 x && Fl.leF x 4614256656552045848
theorem last_wr {u z : Nat} (h : z = if wrB u = true then u else 4614256656552045848) : lastR u z := by
  unfold lastR
  unfold wrB at h
  cases hn : Fl.nan u
  · rw [le_lt (by decide) hn] at h
    cases a : Fl.ltF 13837628693406821656 u <;> cases b : Fl.ltF 4614256656552045848 u <;> rw [a, b] at h <;> simp at h ⊢ <;> exact h
  · have e1 : Fl.ltF 13837628693406821656 u = false := by unfold Fl.ltF; rw [hn]; simp
    have e2 : Fl.ltF 4614256656552045848 u = false := by unfold Fl.ltF; rw [hn]; simp
    rw [e1] at h
    rw [e1, e2]
    simp at h ⊢
    exact h
/-- what the program's one circle to or fro comes to -/
theorem once_up {y u : Nat} (c : Fl.ltF 4614256656552045848 y = true) (h : ∃ d, opR .sub y 4618760256179416344 d ∧ opR .sub d 4373459396149402631 u) : onceR y u := by
  unfold onceR; rw [if_pos c]; exact h
theorem once_down {y u : Nat} (c1 : Fl.ltF 4614256656552045848 y = false) (c : Fl.leF y 13837628693406821656 = true) (h : ∃ d, opR .add y 4618760256179416344 d ∧ opR .add d 4373459396149402631 u) : onceR y u := by
  have hn : Fl.nan y = false := by
    unfold Fl.leF at c
    rw [Bool.and_eq_true, Bool.and_eq_true] at c
    simpa using c.1.1
  rw [le_lt (by decide) hn] at c
  unfold onceR; rw [if_neg (by rw [c1]; decide), if_neg (by rw [Bool.not_eq_true'] at c; rw [c]; decide)]; exact h
theorem once_stay {y z : Nat} (w : World) (c1 : Fl.ltF 4614256656552045848 y = false) (c : Fl.leF y 13837628693406821656 = false) (h : z = if wrB y = true then y else 4614256656552045848) : ∃ u, onceR y u ∧ lastR u z := by
  cases hn : Fl.nan y
  · rw [le_lt (by decide) hn] at c
    refine ⟨y, ?_, last_wr h⟩
    unfold onceR; rw [if_neg (by rw [c1]; decide), if_pos (by simpa using c)]
  · obtain ⟨d, _, hd, _, _⟩ := op_run .add isAdd y 4618760256179416344 w
    obtain ⟨u, _, hu, _, _⟩ := op_run .add isAdd d 4373459396149402631 w
    have nu := hu.nan (nan_left _ isAdd (hd.nan (nan_left _ isAdd hn)))
    have e0 : Fl.ltF 13837628693406821656 y = false := by unfold Fl.ltF; rw [hn]; simp
    refine ⟨u, ?_, ?_⟩
    · unfold onceR; rw [if_neg (by rw [c1]; decide), if_neg (by rw [e0]; decide)]; exact ⟨d, hd, hu⟩
    · unfold wrB at h
      rw [e0] at h
      have e1 : Fl.ltF 13837628693406821656 u = false := by unfold Fl.ltF; rw [nu]; simp
      have e2 : Fl.ltF 4614256656552045848 u = false := by unfold Fl.ltF; rw [nu]; simp
      unfold lastR
      rw [e1, e2]
      simp at h ⊢
      exact h
end Go.Proofs.Ytmbjgakehghdjaa
/-
  OWN TEXT: package roots, as it landed: squares, orders, lengths, for every number.
-/
namespace Go.Proofs.Ytmbjgakehghdjaa
open Go.ChangeShapes Go.WideShapes Go.ChangeAt Go.RowKit
set_option linter.unusedVariables false
attribute [local go_sem] frombits_call tobits_call run_neg
theorem max_big {a b : Nat} (na : Fl.nan a = false) (nb : Fl.nan b = false) (P : Program) (w : World) (ts : Array TypeId) (t : TypeId) : (Builtin.max_ ts t #[.float .f64 (Fl.rg a), .float .f64 (Fl.rg b)]).run P w = .ok (.float .f64 (bigF a b)) w := by
  have e : FloatKind.f64.format.order (Fl.rg a) (Fl.rg b) = some (compare (Fl.key (Fl.rg a)) (Fl.key (Fl.rg b))) := by
    have k := Fl.order_all (Fl.rg a) (Fl.rg b)
    rw [Fl.nan_rg, Fl.nan_rg, na, nb] at k
    exact k
  have k1 : Fl.key (Fl.rg a) = (Fl.rg a : Nat) := key_rg6 a
  have k2 : Fl.key (Fl.rg b) = (Fl.rg b : Nat) := key_rg6 b
  have l : Fl.ltF (Fl.rg a) (Fl.rg b) = decide (Fl.rg a < Fl.rg b) := by
    unfold Fl.ltF
    rw [Fl.nan_rg, Fl.nan_rg, na, nb, k1, k2]
    simp
  rw [k1, k2] at e
  have hm : bigF a b = if Fl.rg a < Fl.rg b then Fl.rg b else Fl.rg a := by
    unfold bigF
    rw [l]
    by_cases c : Fl.rg a < Fl.rg b
    · rw [decide_eq_true c, if_pos rfl, if_pos c]
    · rw [decide_eq_false c, if_neg (by decide), if_neg c]
  rw [hm]
  generalize Fl.rg a = p at *
  generalize Fl.rg b = q at *
  simp only [Builtin.max_, Builtin.max2, List.foldlM]
  rw [e]
  by_cases c : p < q
  · rw [show compare (p : Int) (q : Int) = .lt from Int.compare_eq_lt.mpr (by omega), if_pos c]; rfl
  · rw [if_neg c]
    by_cases d : p = q
    · subst d
      rw [show compare (p : Int) (p : Int) = .eq from Int.compare_eq_eq.mpr rfl]
      dsimp only
      rw [ite_self]
      rfl
    · rw [show compare (p : Int) (q : Int) = .gt from Int.compare_eq_gt.mpr (by omega)]; rfl
end Go.Proofs.Ytmbjgakehghdjaa
