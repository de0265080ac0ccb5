/-
  OWN TEXT: a sum's loss is at most half a unit of the sum's last place: in words of floats.
-/
import Derived.Test.YthfdcembajhgcaaLsB
import Derived.Test.YthfdcembajhgcaaFnExact2
namespace Go.Proofs.Ythfdcembajhgcaa
open Go.ChangeShapes Go.WideShapes Go.ChangeAt Go.RowKit
set_option linter.unusedVariables false
theorem rg_small {r : Nat} (h : r < 9223372036854775808) : Fl.rg r = r := Nat.mod_eq_of_lt h
theorem nx_parts {s : Nat} (hs : s < 18446744073709551616) (fs : Fl.rg s < 9218868437227405312) (z : Fl.rg s ≠ 0) : nx s < 18446744073709551616 ∧ Fl.rg (nx s) = Fl.rg s + 1 ∧ Fl.sg (nx s) = Fl.sg s := by
  have e : nx s = s + 1 := if_neg z
  have hr : Fl.rg s = s % 9223372036854775808 := rfl
  rw [e]
  refine ⟨by omega, ?_, ?_⟩
  · show (s + 1) % 9223372036854775808 = _; omega
  · unfold Fl.sg
    have : (s + 1) / 9223372036854775808 = s / 9223372036854775808 := by omega
    rw [this]
theorem sub_top : Ieee.double.sub 9218868437227405312 9218868437227405311 = some 9218868437227405312 ∧ Ieee.double.sub 18442240474082181120 18442240474082181119 = some 18442240474082181120 := by decide +kernel
/-- what lies between a finite float and its neighbour away from nought: no float that is finite, or nought, or a power of two -/
theorem unit_word {s : Nat} (hs : s < 18446744073709551616) (fs : Fl.rg s < 9218868437227405312) : ∃ d, Ieee.double.sub (nx s) s = some d ∧ d < 18446744073709551616 ∧
    ((Fl.rg s = 0 ∧ Fl.rg d = 0) ∨ (Fl.rg s + 1 = 9218868437227405312 ∧ Fl.rg d = 9218868437227405312) ∨ (∃ k, k ≤ 2045 ∧ Fl.vl (Fl.rg s + 1) = Fl.vl (Fl.rg s) + 2 ^ k ∧ Fl.rg d = Fl.r2 k ∧ ∀ n, n ≠ 0 → Fl.rq n 0 = Fl.rg s → 2 * n ≤ 2 * Fl.vl (Fl.rg s) + 2 ^ k ∧ 2 * Fl.vl (Fl.rg s) ≤ 2 * n + 2 ^ k)) := by
  by_cases z : Fl.rg s = 0
  · have e : nx s = s := if_pos z
    refine ⟨_, by rw [e]; exact Fl.sub_fin hs fs fs, Fl.wd_lt _ _ (by have := Fl.rq_le (Fl.val s - Fl.val s).natAbs 0; omega), Or.inl ⟨z, ?_⟩⟩
    rw [Fl.rg_wd _ _ (by have := Fl.rq_le (Fl.val s - Fl.val s).natAbs 0; omega), Int.sub_self]
    decide
  · obtain ⟨h1, h2, h3⟩ := nx_parts hs fs z
    by_cases c : Fl.rg s + 1 = 9218868437227405312
    · have e : nx s = s + 1 := if_neg z
      have hr : Fl.rg s = s % 9223372036854775808 := rfl
      have : s = 9218868437227405311 ∨ s = 18442240474082181119 := by omega
      rcases this with rfl | rfl
      · exact ⟨_, by rw [e]; exact sub_top.1, by omega, Or.inr (Or.inl ⟨c, by decide⟩)⟩
      · exact ⟨_, by rw [e]; exact sub_top.2, by omega, Or.inr (Or.inl ⟨c, by decide⟩)⟩
    · obtain ⟨k, hk, g1, g2⟩ := Fl.gap (Fl.rg s) fs
      have hb := fun n => Fl.rq_le n 0
      refine ⟨_, Fl.sub_fin hs (by rw [h2]; omega) fs, Fl.wd_lt _ _ (by have := hb (Fl.val (nx s) - Fl.val s).natAbs; omega), Or.inr (Or.inr ⟨k, hk, g1, ?_, g2⟩)⟩
      rw [Fl.rg_wd _ _ (by have := hb (Fl.val (nx s) - Fl.val s).natAbs; omega)]
      have e : (Fl.val (nx s) - Fl.val s).natAbs = 2 ^ k := by
        unfold Fl.val
        rw [h3, h2, g1]
        generalize Fl.vl (Fl.rg s) = v
        generalize 2 ^ k = p
        cases Fl.sg s
        · simp only [Bool.false_eq_true, if_false]; omega
        · simp only [if_true]; omega
      obtain ⟨r1, r3, _⟩ := Fl.r2_all ⟨k, by omega⟩
      simp only at r1 r3
      rw [e, ← r1, Fl.rq_vl _ (Nat.le_of_lt r3)]
theorem lost_bound {x y s : Nat} (e : s = Fl.aw x y) (k : Nat) (h : ∀ n, n ≠ 0 → Fl.rq n 0 = Fl.rg s → 2 * n ≤ 2 * Fl.vl (Fl.rg s) + 2 ^ k ∧ 2 * Fl.vl (Fl.rg s) ≤ 2 * n + 2 ^ k) : 2 * (Fl.val x + Fl.val y - Fl.val s).natAbs ≤ 2 ^ k := by
  have hv := Fl.val_aw x y
  have hr := Fl.rg_aw x y
  rw [← e] at hv hr
  rw [hv]
  generalize Fl.val x + Fl.val y = T at *
  by_cases z : T = 0
  · subst z
    have : Fl.vl (Fl.rq (0 : Int).natAbs 0) = 0 := by decide
    rw [this]
    simp
  · have := h T.natAbs (by omega) hr.symm
    rw [hr] at this
    generalize Fl.vl (Fl.rq T.natAbs 0) = v at *
    generalize 2 ^ k = p at *
    split <;> omega
/-- the last test of the loss -/
theorem lost_facts {x y s l : Nat} (hs : s < 18446744073709551616) (fs : Fl.rg s < 9218868437227405312) (e : s = Fl.aw x y) (hl : l = Fl.lw (Fl.val x + Fl.val y - Fl.val s)) (hR : Fl.Rep (Fl.val x + Fl.val y - Fl.val s)) (hg : (Fl.val x + Fl.val y - Fl.val s).natAbs.log2 < 2098) :
    ∃ d, Ieee.double.sub (nx s) s = some d ∧ d < 18446744073709551616 ∧ (Fl.eqF l 0 = true ∨ (Fl.eqF l 0 = false ∧ Fl.finB (Fl.rg d) = false) ∨ (Fl.eqF l 0 = false ∧ Fl.finB (Fl.rg d) = true ∧ ∃ h, Ieee.double.div (Fl.rg d) 4611686018427387904 = some h ∧ Fl.leF (Fl.rg l) h = true)) := by
  obtain ⟨d, h1, h2, h3⟩ := unit_word hs fs
  refine ⟨d, h1, h2, ?_⟩
  cases hz : Fl.eqF l 0
  · right
    obtain ⟨v1, v2⟩ := Fl.val_lw _ hR hg
    rw [← hl] at v1 v2
    have nl : Fl.nan l = false := by rw [hl]; exact Fl.nan_lw _
    have hrl : Fl.rg l ≠ 0 := by
      intro c
      rw [Fl.eqF_of nl (by decide), show Fl.key 0 = 0 by decide] at hz
      have : Fl.key l = 0 := by unfold Fl.key; rw [c]; split <;> rfl
      rw [this] at hz
      simp at hz
    have hab : (Fl.val x + Fl.val y - Fl.val s).natAbs = Fl.vl (Fl.rg l) := by rw [← v1, Fl.val_abs]
    have hLp := Fl.vl_pos hrl
    rcases h3 with ⟨z1, z2⟩ | ⟨z1, z2⟩ | ⟨k, hk, g1, g2, g3⟩
    · -- the sum is nought: nothing is lost
      exfalso
      have hr := Fl.rg_aw x y
      rw [← e, z1] at hr
      have hT : Fl.val x + Fl.val y = 0 := by
        rcases Nat.eq_zero_or_pos (Fl.val x + Fl.val y).natAbs with c | c
        · omega
        · exfalso
          have f := Fl.vl_rq _ (Nat.ne_of_gt c) (by omega)
          have f2 := (Fl.rq_fit _ (Nat.ne_of_gt c))
          have f3 := Fl.rq_form _ (Nat.ne_of_gt c) (by omega)
          rw [← hr] at f3
          have f4 := (Fl.rne_bounds (Fl.val x + Fl.val y).natAbs ((Fl.val x + Fl.val y).natAbs.log2 - 52)).2
          have f5 : (Fl.val x + Fl.val y).natAbs.log2 - 52 = 0 := by omega
          have f6 : Fl.rne (Fl.val x + Fl.val y).natAbs ((Fl.val x + Fl.val y).natAbs.log2 - 52) = 0 := by omega
          rw [f6, f5] at f4
          omega
      have hvs : Fl.val s = 0 := by
        unfold Fl.val
        rw [z1, show Fl.vl 0 = 0 by decide]; split <;> rfl
      rw [hT, hvs] at hab
      simp at hab
      omega
    · left
      refine ⟨rfl, ?_⟩
      rw [z2]; decide
    · right
      obtain ⟨r1, r2', r3⟩ := Fl.r2_all ⟨k, by omega⟩
      simp only at r1 r2' r3
      have hb := lost_bound e k g3
      rw [hab] at hb
      have hk0 : k ≠ 0 := by
        intro c; subst c
        omega
      rw [if_neg hk0] at r3
      obtain ⟨q1, q2, _⟩ := Fl.r2_all ⟨k - 1, by omega⟩
      simp only at q1 q2
      refine ⟨rfl, ?_, Fl.r2 (k - 1), by rw [g2]; exact r3, ?_⟩
      · rw [g2]
        unfold Fl.finB
        rw [rg_small (by omega)]
        exact decide_eq_true r2'
      · have hle : Fl.rg l ≤ Fl.r2 (k - 1) := by
          rw [← Fl.vl_le_iff, q1]
          have : 2 ^ k = 2 ^ (k - 1) * 2 := by rw [← Nat.pow_succ]; congr 1; omega
          omega
        have s1 : ∀ r, r < 9218868437227405312 → Fl.key r = (r : Int) := fun r hr => by
          have := Fl.key_wd false r (by omega)
          exact this
        rw [Fl.leF_of (nan_rg (by rw [rg_small (by omega)]; omega)) (nan_rg (by rw [rg_small (by omega)]; exact q2)), s1 _ v2, s1 _ q2]
        exact decide_eq_true (by omega)
  · exact Or.inl rfl
end Go.Proofs.Ythfdcembajhgcaa
