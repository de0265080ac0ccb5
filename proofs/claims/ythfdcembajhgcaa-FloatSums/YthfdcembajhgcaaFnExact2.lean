/-
  OWN TEXT: what Exact of package float returns, for every two floats: their sum, and the word of just what the sum lost.
-/
import Derived.Test.YthfdcembajhgcaaFnExact
import Derived.Test.YthfdcembajhgcaaFlG
namespace Go.Proofs.Ythfdcembajhgcaa
open Go.ChangeShapes Go.WideShapes Go.ChangeAt Go.RowKit
/-- a sum and its loss -/
def ExO (x y s l : Nat) : Prop :=
  (Ieee.double.add x y = none ∧ Fl.nan s = true ∧ s < 18446744073709551616 ∧ l = 0) ∨
  (Ieee.double.add x y = some s ∧ Fl.finB s = false ∧ l = 0) ∨
  (Fl.rg x < 9218868437227405312 ∧ Fl.rg y < 9218868437227405312 ∧ s = Fl.aw x y ∧ Fl.finB s = true ∧ l = Fl.lw (Fl.val x + Fl.val y - Fl.val s) ∧ Fl.Rep (Fl.val x + Fl.val y - Fl.val s) ∧ (Fl.val x + Fl.val y - Fl.val s).natAbs.log2 < 2098)
theorem ExO_lt {x y s l : Nat} (h : ExO x y s l) : s < 18446744073709551616 ∧ l < 18446744073709551616 := by
  rcases h with ⟨_, _, h1, h2⟩ | ⟨h1, _, h2⟩ | ⟨_, _, h1, _, h2, _⟩
  · subst h2; exact ⟨h1, by omega⟩
  · subst h2; exact ⟨floatBits_lt (op := .add) (x := x) (y := y) h1, by omega⟩
  · rw [h1, h2]; exact ⟨Fl.aw_lt _ _, Fl.lw_lt _⟩
theorem exact_any (x y : Nat) (w : World) (hx : x < 18446744073709551616) (hy : y < 18446744073709551616) :
    Calls Try.prog 9 #[.float .f64 x, .float .f64 y] w fun e w' => ∃ s l, e = .returned (.tuple #[.float .f64 s, .float .f64 l]) ∧ ExO x y s l ∧ Grown w w' := by
  by_cases c : Fl.rg x < 9218868437227405312 ∧ Fl.rg y < 9218868437227405312
  · obtain ⟨fx, fy⟩ := c
    have ha : Ieee.double.add x y = some (Fl.aw x y) := Fl.add_fin fx fy
    cases hf : Fl.finB (Fl.aw x y)
    · refine (exact_far x y (Fl.aw x y) w ha hf).mono ?_
      rintro e w' ⟨rfl, rfl⟩
      exact ⟨_, _, rfl, Or.inr (Or.inl ⟨ha, hf, rfl⟩), Grown.refl _⟩
    · have hf' := of_decide_eq_true hf
      have hq : Fl.rq (Fl.val x + Fl.val y).natAbs 0 < 9218868437227405312 := by rw [← Fl.rg_aw]; exact hf'
      have nx : Fl.nan x = false := by unfold Fl.nan; exact decide_eq_false (by omega)
      have ny : Fl.nan y = false := by unfold Fl.nan; exact decide_eq_false (by omega)
      by_cases k : Fl.rg x < Fl.rg y
      · have e1 : hi x y = y := if_pos k
        have e2 : lo x y = x := if_pos k
        obtain ⟨d, m, h1, h2, h3, h4, h5, h6⟩ := Fl.loss_steps (a := y) (b := x) (s := Fl.aw x y) fy fx hy (by omega) hf' (by rw [Int.add_comm (Fl.val y)]; exact Fl.val_aw x y) (by rw [Int.add_comm (Fl.val y)]; exact hq)
        rw [Int.add_comm (Fl.val y)] at h4 h5 h6
        refine (exact_fin x y (Fl.aw x y) d m w hx hy nx ny ha hf (by rw [e1]; exact h1) (by rw [e2]; exact h2) h3).mono ?_
        rintro e w' ⟨rfl, rfl⟩
        exact ⟨_, _, rfl, Or.inr (Or.inr ⟨fx, fy, rfl, hf, h4, h5, h6⟩), Grown.refl _⟩
      · have e1 : hi x y = x := if_neg k
        have e2 : lo x y = y := if_neg k
        obtain ⟨d, m, h1, h2, h3, h4, h5, h6⟩ := Fl.loss_steps (a := x) (b := y) (s := Fl.aw x y) fx fy hx (by omega) hf' (Fl.val_aw x y) hq
        refine (exact_fin x y (Fl.aw x y) d m w hx hy nx ny ha hf (by rw [e1]; exact h1) (by rw [e2]; exact h2) h3).mono ?_
        rintro e w' ⟨rfl, rfl⟩
        exact ⟨_, _, rfl, Or.inr (Or.inr ⟨fx, fy, rfl, hf, h4, h5, h6⟩), Grown.refl _⟩
  · rcases Fl.add_ng_far hx hy (by omega) with ⟨h1, _⟩ | ⟨b, h1, _⟩
    · refine (exact_none x y w h1).mono ?_
      rintro e w' ⟨z, rfl, nz, hz, hg⟩
      exact ⟨_, _, rfl, Or.inl ⟨h1, nz, hz, rfl⟩, hg⟩
    · have hf : Fl.finB (Fl.wd b 9218868437227405312) = false := by unfold Fl.finB; rw [Fl.rg_wd _ _ (by omega)]; decide
      refine (exact_far x y _ w h1 hf).mono ?_
      rintro e w' ⟨rfl, rfl⟩
      exact ⟨_, _, rfl, Or.inr (Or.inl ⟨h1, hf, rfl⟩), Grown.refl _⟩
/-- with all signs turned -/
theorem ExO_turn {x y s l t g : Nat} (hx : x < 18446744073709551616) (hy : y < 18446744073709551616) (h : ExO x y s l) (k : ExO (Fl.ng x) (Fl.ng y) t g) :
    ((Fl.key s = -Fl.key t ∧ Fl.nan s = false ∧ Fl.nan t = false) ∨ (Fl.nan s = true ∧ Fl.nan t = true)) ∧ Fl.key l = -Fl.key g ∧ Fl.nan l = false ∧ Fl.nan g = false := by
  have z0 : Fl.key 0 = 0 := by decide
  have n0 : Fl.nan 0 = false := by decide
  by_cases c : Fl.rg x < 9218868437227405312 ∧ Fl.rg y < 9218868437227405312
  · have h1 : Ieee.double.add x y = some (Fl.aw x y) := Fl.add_fin c.1 c.2
    have h2 : Ieee.double.add (Fl.ng x) (Fl.ng y) = some (Fl.aw (Fl.ng x) (Fl.ng y)) := Fl.add_fin (by rw [Fl.rg_ng]; exact c.1) (by rw [Fl.rg_ng]; exact c.2)
    obtain ⟨kk, vv, rr⟩ := Fl.aw_ng hx hy
    have fr : Fl.finB (Fl.aw (Fl.ng x) (Fl.ng y)) = Fl.finB (Fl.aw x y) := by unfold Fl.finB; rw [rr]
    have es : s = Fl.aw x y := by
      rcases h with ⟨h3, _⟩ | ⟨h3, _⟩ | ⟨_, _, h3, _⟩
      · rw [h1] at h3; cases h3
      · rw [h1] at h3; exact (Option.some.inj h3).symm
      · exact h3
    have et : t = Fl.aw (Fl.ng x) (Fl.ng y) := by
      rcases k with ⟨h3, _⟩ | ⟨h3, _⟩ | ⟨_, _, h3, _⟩
      · rw [h2] at h3; cases h3
      · rw [h2] at h3; exact (Option.some.inj h3).symm
      · exact h3
    subst es et
    refine ⟨Or.inl ⟨by omega, Fl.nan_aw _ _, Fl.nan_aw _ _⟩, ?_⟩
    cases hf : Fl.finB (Fl.aw x y)
    · rw [hf] at fr
      have el : l = 0 := by
        rcases h with ⟨_, _, _, h3⟩ | ⟨_, _, h3⟩ | ⟨_, _, _, h3, _⟩
        · exact h3
        · exact h3
        · rw [hf] at h3; cases h3
      have eg : g = 0 := by
        rcases k with ⟨_, _, _, h3⟩ | ⟨_, _, h3⟩ | ⟨_, _, _, h3, _⟩
        · exact h3
        · exact h3
        · rw [fr] at h3; cases h3
      subst el eg
      exact ⟨by omega, n0, n0⟩
    · rw [hf] at fr
      have el : l = Fl.lw (Fl.val x + Fl.val y - Fl.val (Fl.aw x y)) := by
        rcases h with ⟨h3, _⟩ | ⟨_, h3, _⟩ | ⟨_, _, _, _, h3, _⟩
        · rw [h1] at h3; cases h3
        · rw [hf] at h3; cases h3
        · exact h3
      have eg : g = Fl.lw (-(Fl.val x + Fl.val y - Fl.val (Fl.aw x y))) := by
        rcases k with ⟨h3, _⟩ | ⟨_, h3, _⟩ | ⟨_, _, _, _, h3, _⟩
        · rw [h2] at h3; cases h3
        · rw [fr] at h3; cases h3
        · rw [h3, Fl.val_ng hx, Fl.val_ng hy, vv]; congr 1; omega
      rw [el, eg, Fl.key_lw_neg]
      exact ⟨by omega, Fl.nan_lw _, Fl.nan_lw _⟩
  · rcases Fl.add_ng_far hx hy (by omega) with ⟨h1, h2⟩ | ⟨b, h1, h2⟩
    · have : Fl.nan s = true ∧ l = 0 := by
        rcases h with ⟨_, h3, _, h4⟩ | ⟨h3, _⟩ | ⟨h3, h4, _⟩
        · exact ⟨h3, h4⟩
        · rw [h1] at h3; cases h3
        · exact absurd ⟨h3, h4⟩ c
      have k2 : Fl.nan t = true ∧ g = 0 := by
        rcases k with ⟨_, h3, _, h4⟩ | ⟨h3, _⟩ | ⟨h3, h4, _⟩
        · exact ⟨h3, h4⟩
        · rw [h2] at h3; cases h3
        · rw [Fl.rg_ng] at h3 h4; exact absurd ⟨h3, h4⟩ c
      rw [this.2, k2.2]
      exact ⟨Or.inr ⟨this.1, k2.1⟩, by omega, n0, n0⟩
    · have : s = Fl.wd b 9218868437227405312 ∧ l = 0 := by
        rcases h with ⟨h3, _⟩ | ⟨h3, _, h4⟩ | ⟨h3, h4, _⟩
        · rw [h1] at h3; cases h3
        · rw [h1] at h3; exact ⟨(Option.some.inj h3).symm, h4⟩
        · exact absurd ⟨h3, h4⟩ c
      have k2 : t = Fl.wd (!b) 9218868437227405312 ∧ g = 0 := by
        rcases k with ⟨h3, _⟩ | ⟨h3, _, h4⟩ | ⟨h3, h4, _⟩
        · rw [h2] at h3; cases h3
        · rw [h2] at h3; exact ⟨(Option.some.inj h3).symm, h4⟩
        · rw [Fl.rg_ng] at h3 h4; exact absurd ⟨h3, h4⟩ c
      rw [this.2, k2.2, this.1, k2.1]
      refine ⟨Or.inl ⟨?_, Fl.nan_wd _ _ (by omega), Fl.nan_wd _ _ (by omega)⟩, by omega, n0, n0⟩
      rw [Fl.key_wd _ _ (by omega), Fl.key_wd _ _ (by omega)]
      cases b <;> rfl
end Go.Proofs.Ythfdcembajhgcaa
