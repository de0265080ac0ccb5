/-
  OWN TEXT: the program's logarithm of 1 and x (elem.More), for every float.
-/
import Derived.Test.YtdbfhbpillgacaaEpB
import Derived.Test.YtdbfhbpillgacaaEoD
namespace Go.Proofs.Ytdbfhbpillgacaa
open Go.ChangeShapes Go.WideShapes Go.ChangeAt Go.RowKit
set_option linter.unusedVariables false
attribute [local go_sem] frombits_call tobits_call run_neg
theorem rq_pos (n : Nat) (h : n ≠ 0) : 1 ≤ Fl.rq n 0 := by
  have hf := (Fl.rq_fit n h).1
  unfold Fl.rq
  rw [if_neg h]
  simp only [Nat.add_zero]
  rcases hf with e | e
  · rw [e, Fl.rne_zero]; omega
  · omega
/-- 1 and what is below -1: below nought -/
theorem one_less {x : Nat} (hx : x < 18446744073709551616) (h : Fl.ltF x 13830554455654793216 = true) : ∃ s, floatBits .add .f64 4607182418800017408 x = some s ∧ Fl.ltF s 0 = true := by
  unfold Fl.ltF at h
  rw [Bool.and_eq_true, Bool.and_eq_true, decide_eq_true_eq] at h
  obtain ⟨⟨hn, _⟩, hk⟩ := h
  have hn' : Fl.nan x = false := by simpa using hn
  have hl := Fl.nan_le hn'
  rw [show Fl.key 13830554455654793216 = -4607182418800017408 by decide] at hk
  have hsg : Fl.sg x = true := by
    cases e : Fl.sg x
    · unfold Fl.key at hk; rw [e, if_neg (by decide)] at hk; omega
    · rfl
  have hr : 4607182418800017408 < Fl.rg x := by
    unfold Fl.key at hk; rw [hsg, if_pos rfl] at hk; omega
  by_cases hf : Fl.rg x < 9218868437227405312
  · refine ⟨Fl.aw 4607182418800017408 x, Fl.add_fin (by decide) hf, ?_⟩
    have v1 : Fl.val 4607182418800017408 = (Fl.vl 4607182418800017408 : Int) := by
      unfold Fl.val; rw [show Fl.sg 4607182418800017408 = false by decide, if_neg (by decide), show Fl.rg 4607182418800017408 = 4607182418800017408 by decide]
    have v2 : Fl.val x = -(Fl.vl (Fl.rg x) : Int) := by unfold Fl.val; rw [hsg, if_pos rfl]
    have v3 := Fl.vl_mono hr
    have neg : Fl.val 4607182418800017408 + Fl.val x < 0 := by rw [v1, v2]; omega
    have e : Fl.aw 4607182418800017408 x = Fl.wd true (Fl.rq (Fl.val 4607182418800017408 + Fl.val x).natAbs 0) := by
      unfold Fl.aw; rw [if_neg (by omega), decide_eq_true neg]
    have p := rq_pos (Fl.val 4607182418800017408 + Fl.val x).natAbs (by omega)
    have q := Fl.rq_le (Fl.val 4607182418800017408 + Fl.val x).natAbs 0
    rw [e]
    generalize Fl.rq (Fl.val 4607182418800017408 + Fl.val x).natAbs 0 = r at *
    unfold Fl.ltF
    rw [Fl.nan_wd _ _ q, Fl.key_wd _ _ (by omega), show Fl.nan 0 = false by decide, show Fl.key 0 = 0 by decide, if_pos rfl]
    simp only [Bool.not_false, Bool.true_and, decide_eq_true_eq]
    omega
  · have e := Fl.wd_self hx
    rw [hsg, show Fl.rg x = 9218868437227405312 by omega] at e
    subst e
    exact ⟨18442240474082181120, by decide +kernel, by decide⟩
theorem opR.word {op : BinOp} {a b x z : Nat} (h : opR op a b x) (e : floatBits op .f64 a b = some z) : x = z := by
  rcases h.2 with k | k
  · rw [e] at k; exact (Option.some.inj k).symm
  · rw [e] at k; cases k.1
theorem logR.nan {s y : Nat} (hs : Fl.nan s = true) (hl : logR s y) : Fl.nan y = true := by
  rcases hl with ⟨_, h⟩ | ⟨h, _⟩ | ⟨h, _⟩ | ⟨h, _⟩
  · exact h
  · rw [hs] at h; cases h
  · subst h; exact absurd hs (by decide)
  · have := Fl.nan_lt hs; omega
theorem logR.low {s y : Nat} (hs : Fl.ltF s 0 = true) (hl : logR s y) : Fl.nan y = true := by
  rcases hl with ⟨_, h⟩ | ⟨h, h2, _⟩ | ⟨h, _⟩ | ⟨h1, h2, h3, _⟩
  · exact h
  · unfold Fl.ltF Fl.key at hs
    rw [h2] at hs
    rw [show (if Fl.sg s = true then -((0 : Nat) : Int) else ((0 : Nat) : Int)) = 0 by split <;> rfl] at hs
    rw [Bool.and_eq_true, decide_eq_true_eq] at hs
    exact absurd hs.2 (by decide)
  · subst h; exact absurd hs (by decide)
  · unfold Fl.ltF Fl.key at hs
    rw [h3, if_neg (by decide), Bool.and_eq_true, decide_eq_true_eq] at hs
    exact absurd hs.2 (by rw [show Fl.sg 0 = false by decide, if_neg (by decide), show Fl.rg 0 = 0 by decide]; omega)
theorem word_eq {x y : Nat} (hx : x < 18446744073709551616) (hy : y < 18446744073709551616) (h : Fl.eqF x y = true) (h0 : ¬ Fl.rg y = 0) : x = y := by
  unfold Fl.eqF at h
  rw [Bool.and_eq_true, decide_eq_true_eq] at h
  have hk := h.2
  have a1 := Fl.wd_self hx
  have a2 := Fl.wd_self hy
  unfold Fl.key at hk
  cases e1 : Fl.sg x <;> cases e2 : Fl.sg y <;> rw [e1, e2] at hk <;> simp at hk
  · rw [← a1, ← a2, e1, e2, show Fl.rg x = Fl.rg y by omega]
  · omega
  · omega
  · rw [← a1, ← a2, e1, e2, show Fl.rg x = Fl.rg y by omega]
theorem top_word {x : Nat} (hx : x < 18446744073709551616) (h : Fl.ltF 9218868437227405311 x = true) : x = 9218868437227405312 := by
  unfold Fl.ltF at h
  rw [Bool.and_eq_true, Bool.and_eq_true, decide_eq_true_eq] at h
  obtain ⟨⟨_, hn⟩, hk⟩ := h
  have hl := Fl.nan_le (x := x) (by simpa using hn)
  rw [show Fl.key 9218868437227405311 = 9218868437227405311 by decide] at hk
  have a1 := Fl.wd_self hx
  unfold Fl.key at hk
  cases e1 : Fl.sg x <;> rw [e1] at hk a1 <;> simp at hk
  · rw [← a1, show Fl.rg x = 9218868437227405312 by omega]; rfl
  · omega
/-- the logarithm of 1 + x is that of 1 and x, outside the middle -/
theorem more_of {x s y : Nat} (hx : x < 18446744073709551616) (c : ¬ (Fl.leF 13821547256400052224 x && Fl.leF x 4600427019358961664) = true) (hs : opR .add 4607182418800017408 x s) (hl : logR s y) : moreR x y := by
  unfold moreR
  by_cases c1 : (Fl.nan x || Fl.ltF x 13830554455654793216) = true
  · rw [if_pos c1]
    rw [Bool.or_eq_true] at c1
    rcases c1 with h | h
    · exact logR.nan (hs.nan (nan_right .add (Or.inl rfl) h)) hl
    · obtain ⟨z, e1, e2⟩ := one_less hx h
      rw [← hs.word e1] at e2
      exact logR.low e2 hl
  · rw [if_neg c1]
    by_cases c2 : Fl.eqF x 13830554455654793216 = true
    · rw [if_pos c2]
      have e := word_eq hx (by decide) c2 (by decide)
      subst e
      have e2 := hs.word (z := 0) (by decide +kernel)
      subst e2
      have k : logR 0 18442240474082181120 := Or.inr (Or.inl ⟨by decide, by decide, rfl⟩)
      rcases hl.sim k with e | ⟨_, e⟩
      · exact e
      · exact absurd e (by decide)
    · rw [if_neg c2]
      by_cases c3 : Fl.ltF 9218868437227405311 x = true
      · rw [if_pos c3]
        have e := top_word hx c3
        subst e
        have e2 := hs.word (z := 9218868437227405312) (by decide +kernel)
        subst e2
        have k : logR 9218868437227405312 9218868437227405312 := Or.inr (Or.inr (Or.inl ⟨rfl, rfl⟩))
        rcases hl.sim k with e | ⟨_, e⟩
        · exact e
        · exact absurd e (by decide)
      · rw [if_neg c3, if_neg c]
        exact ⟨s, hs, hl⟩
theorem more_mid {x b f y : Nat} (hx : x < 18446744073709551616) (c : (Fl.leF 13821547256400052224 x && Fl.leF x 4600427019358961664) = true) (hb : opR .add 4611686018427387904 x b) (hf : opR .quo x b f) (ho : oddR f y) : moreR x y := by
  have c' := c
  rw [Bool.and_eq_true] at c'
  obtain ⟨h1, h2⟩ := c'
  unfold Fl.leF at h1 h2
  rw [Bool.and_eq_true, Bool.and_eq_true, decide_eq_true_eq] at h1 h2
  obtain ⟨⟨_, hn⟩, k1⟩ := h1
  obtain ⟨_, k2⟩ := h2
  have hn' : Fl.nan x = false := by simpa using hn
  rw [show Fl.key 13821547256400052224 = -4598175219545276416 by decide] at k1
  rw [show Fl.key 4600427019358961664 = 4600427019358961664 by decide] at k2
  have n1 : Fl.ltF x 13830554455654793216 = false := by
    unfold Fl.ltF
    rw [decide_eq_false (by rw [show Fl.key 13830554455654793216 = -4607182418800017408 by decide]; omega), Bool.and_false]
  have n2 : Fl.eqF x 13830554455654793216 = false := by
    unfold Fl.eqF
    rw [decide_eq_false (by rw [show Fl.key 13830554455654793216 = -4607182418800017408 by decide]; omega), Bool.and_false]
  have n3 : Fl.ltF 9218868437227405311 x = false := by
    unfold Fl.ltF
    rw [decide_eq_false (by rw [show Fl.key 9218868437227405311 = 9218868437227405311 by decide]; omega), Bool.and_false]
  unfold moreR
  rw [hn', n1, n2, n3, if_neg (by decide), if_neg (by decide), if_neg (by decide), if_pos c]
  exact ⟨b, f, hb, hf, ho⟩
end Go.Proofs.Ytdbfhbpillgacaa
