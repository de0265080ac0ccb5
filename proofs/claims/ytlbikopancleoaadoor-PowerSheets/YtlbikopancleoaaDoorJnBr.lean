/-
  OWN TEXT: the reference's polar forms, places, units, nearness (eddyref06), for every number.
-/
import Derived.Test.YtlbikopancleoaaDoorJnBq
import Derived.Test.YtlbikopancleoaaDoorJnAt
import Derived.Test.YtlbikopancleoaaDoorJnAj
import Derived.Test.YtlbikopancleoaaDoorJnAv
namespace Go.Proofs.YtlbikopancleoaaDoor
open Go.ChangeShapes Go.WideShapes Go.ChangeAt Go.RowKit
open Bg
set_option linter.unusedVariables false
attribute [local go_sem] frombits_call tobits_call run_neg
theorem rfinite2_any (a b : Nat) (w : World) : Calls Tryd.prog 13 #[.complex .f64 a b] w fun e w' => e = .returned (.bool (Fl.finB a && Fl.finB b)) ∧ w' = w := by
  have FA : Hid (∀ wz, Calls Tryd.prog 25 #[.float .f64 a] wz fun e w' => e = .returned (.bool (Fl.finB a)) ∧ w' = wz) := fun wz => rfinite_any a wz
  have FB : Hid (∀ wz, Calls Tryd.prog 25 #[.float .f64 b] wz fun e w' => e = .returned (.bool (Fl.finB b)) ∧ w' = wz) := fun wz => rfinite_any b wz
  generalize Fl.finB a = x at *
  generalize Fl.finB b = y at *
  cases x
  · go_enter Tryd.func13, Tryd.ntmps13
    go_wp2_with fail
    refine (FA.out _).mono ?_
    rintro e' w ⟨rfl, rfl⟩
    go_wp2
    go_ret
    exact ⟨rfl, rfl⟩
  · go_enter Tryd.func13, Tryd.ntmps13
    go_wp2_with fail
    refine (FA.out _).mono ?_
    rintro e' w ⟨rfl, rfl⟩
    go_wp2_with fail
    refine (FB.out _).mono ?_
    rintro e' w ⟨rfl, rfl⟩
    go_wp2
    go_ret
    exact ⟨by cases y <;> rfl, rfl⟩
theorem len_sim {a b a' b' r r' : Nat} (h : lenR a b r) (k : lenR a' b' r') (e1 : simR a a') (e2 : simR b b') : simR r r' := by
  have nn : ∀ a b r : Nat, (Fl.nan a = true ∧ ¬ Fl.rg b = 9218868437227405312) ∨ (Fl.nan b = true ∧ ¬ Fl.rg a = 9218868437227405312) → lenR a b r → Fl.nan r = true := by
    intro a b r hn h
    obtain ⟨_, h⟩ := h
    have hl : ∀ x : Nat, Fl.nan x = true → ¬ Fl.rg x = 9218868437227405312 := fun x hx => by have := Fl.nan_lt hx; omega
    rcases hn with ⟨n1, n2⟩ | ⟨n1, n2⟩
    · rw [if_neg (by rintro (e | e); exact hl a n1 e; exact n2 e), if_pos (Or.inl n1)] at h; exact h
    · rw [if_neg (by rintro (e | e); exact n2 e; exact hl b n1 e), if_pos (Or.inr n1)] at h; exact h
  have ii : ∀ a b r : Nat, (Fl.rg a = 9218868437227405312 ∨ Fl.rg b = 9218868437227405312) → lenR a b r → r = 9218868437227405312 := by
    intro a b r hi h
    obtain ⟨_, h⟩ := h
    rw [if_pos hi] at h; exact h
  have hl : ∀ x : Nat, Fl.nan x = true → ¬ Fl.rg x = 9218868437227405312 := fun x hx => by have := Fl.nan_lt hx; omega
  rcases e1 with e1 | ⟨x1, x2⟩
  · subst e1
    rcases e2 with e2 | ⟨y1, y2⟩
    · subst e2; exact h.sim k
    · by_cases c : Fl.rg a = 9218868437227405312
      · exact Or.inl ((ii _ _ _ (Or.inl c) h).trans (ii _ _ _ (Or.inl c) k).symm)
      · exact Or.inr ⟨nn _ _ _ (Or.inr ⟨y1, c⟩) h, nn _ _ _ (Or.inr ⟨y2, c⟩) k⟩
  · rcases e2 with e2 | ⟨y1, y2⟩
    · subst e2
      by_cases c : Fl.rg b = 9218868437227405312
      · exact Or.inl ((ii _ _ _ (Or.inr c) h).trans (ii _ _ _ (Or.inr c) k).symm)
      · exact Or.inr ⟨nn _ _ _ (Or.inl ⟨x1, c⟩) h, nn _ _ _ (Or.inl ⟨x2, c⟩) k⟩
    · exact Or.inr ⟨nn _ _ _ (Or.inl ⟨x1, hl _ y1⟩) h, nn _ _ _ (Or.inl ⟨x2, hl _ y2⟩) k⟩
theorem neaR.sim {a b c d m : Nat} {r r' : Bool} (h : neaR a b c d m r) (k : neaR a b c d m r') : r = r' := by
  obtain ⟨x, y, l, h1, h2, h3, h4⟩ := h
  obtain ⟨x', y', l', k1, k2, k3, k4⟩ := k
  have el := len_sim h3 k3 (h1.sim isSub k1 (simR.refl _) (simR.refl _)) (h2.sim isSub k2 (simR.refl _) (simR.refl _))
  rw [h4, k4]
  rcases el with e | ⟨e1, e2⟩
  · rw [e]
  · unfold Fl.leF; rw [e1, e2]; simp
end Go.Proofs.YtlbikopancleoaaDoor
/-
  OWN TEXT: the reference's exponential, and that less 1 (eddyref04.Rest, Exp, Less), for every float.
-/
namespace Go.Proofs.YtlbikopancleoaaDoor
open Go.ChangeShapes Go.WideShapes Go.ChangeAt Go.RowKit
open Bg
set_option linter.unusedVariables false
attribute [local go_sem] frombits_call tobits_call run_neg
theorem fr_bw {w w' : World} (h : Fr w w') : Bw w w' := h.1
theorem Tab.bw {w w' : World} (h : Tab w) (hs : 2 ≤ w.heap.size) (f : Bw w w') : Tab w' := fun j hj => (Below.cell f (p := ⟨1, j, none⟩) hs).trans (h j hj)
end Go.Proofs.YtlbikopancleoaaDoor
