/-
  OWN TEXT: the reference's logarithm of 1 and x (eddyref04.More), for every float.
-/
import Derived.Test.YthcohikeomkmeaaEoC
namespace Go.Proofs.Ythcohikeomkmeaa
open Go.ChangeShapes Go.WideShapes Go.ChangeAt Go.RowKit
set_option linter.unusedVariables false
attribute [local go_sem] frombits_call tobits_call run_neg
/-- what the logarithm of 1 and x is: y -/
def moreR (x y : Nat) : Prop :=
  if (Fl.nan x || Fl.ltF x 13830554455654793216) = true then Fl.nan y = true
  else if Fl.eqF x 13830554455654793216 = true then y = 18442240474082181120
  else if Fl.ltF 9218868437227405311 x = true then y = x
  else if (Fl.leF 13821547256400052224 x && Fl.leF x 4600427019358961664) = true then ∃ b f, opR .add 4611686018427387904 x b ∧ opR .quo x b f ∧ oddR f y
  else ∃ s, opR .add 4607182418800017408 x s ∧ logR s y
theorem moreR.sim {x y y' : Nat} (h : moreR x y) (k : moreR x y') : simR y y' := by
  unfold moreR at h k
  by_cases c1 : (Fl.nan x || Fl.ltF x 13830554455654793216) = true
  · rw [if_pos c1] at h k
    exact Or.inr ⟨h, k⟩
  · rw [if_neg c1] at h k
    by_cases c2 : Fl.eqF x 13830554455654793216 = true
    · rw [if_pos c2] at h k
      exact Or.inl (h.trans k.symm)
    · rw [if_neg c2] at h k
      by_cases c3 : Fl.ltF 9218868437227405311 x = true
      · rw [if_pos c3] at h k
        exact Or.inl (h.trans k.symm)
      · rw [if_neg c3] at h k
        by_cases c4 : (Fl.leF 13821547256400052224 x && Fl.leF x 4600427019358961664) = true
        · rw [if_pos c4] at h k
          obtain ⟨b, f, h1, h2, h3⟩ := h
          obtain ⟨b', f', k1, k2, k3⟩ := k
          exact h3.sim k3 (h2.sim (Or.inr (Or.inr (Or.inr rfl))) k2 (simR.refl _) (h1.sim (Or.inl rfl) k1 (simR.refl _) (simR.refl _)))
        · rw [if_neg c4] at h k
          obtain ⟨s, h1, h2⟩ := h
          obtain ⟨s', k1, k2⟩ := k
          rcases h1.sim (Or.inl rfl) k1 (simR.refl _) (simR.refl _) with e | ⟨e1, e2⟩
          · subst e; exact h2.sim k2
          · have n1 : ∀ s y, Fl.nan s = true → logR s y → Fl.nan y = true := by
              intro s y hs hl
              rcases hl with ⟨_, h⟩ | ⟨h, _⟩ | ⟨h, _⟩ | ⟨h, _⟩
              · exact h
              · rw [hs] at h; cases h
              · subst h; exact absurd hs (by decide)
              · have := Fl.nan_lt hs; omega
            exact Or.inr ⟨n1 s y e1 h2, n1 s' y' e2 k2⟩
set_option maxHeartbeats 4000000 in
theorem rmore_any (x : Nat) (w : World) (hx : x < 18446744073709551616) : Calls Try.prog 23 #[.float .f64 x] w fun e w' => ∃ y, e = .returned (.float .f64 y) ∧ moreR x y ∧ Bw w w' := by
  have g0 := Fl.o_ne x x
  rw [Fl.eqF_self, Bool.not_not] at g0
  have g1 := Fl.o_lt x 13830554455654793216
  have g2 := Fl.o_eq x 13830554455654793216
  have g3 := Fl.o_gt x 9218868437227405311
  have g4 := Fl.o_ge x 13821547256400052224
  have g5 := Fl.o_le x 4600427019358961664
  have MR : Hid (∀ y, moreR x y → moreR x y) := fun y h => h
  by_cases c1 : (Fl.nan x || Fl.ltF x 13830554455654793216) = true
  · have HL : Hid (moreR x 9221120237041090561) := by show moreR _ _; unfold moreR; rw [if_pos c1]; decide
    cases hn : Fl.nan x
    · rw [hn, Bool.false_or] at c1
      rw [hn] at g0
      rw [c1] at g1
      clear g2 g3 g4 g5 MR
      go_enter Try.func23, Try.ntmps23
      go_wp2_with (go_at_call 7; refine (nan_ret _).mono ?_; rintro e w ⟨rfl, rfl⟩)
      go_ret
      exact ⟨_, rfl, HL.out, Bw.refl _⟩
    · rw [hn] at g0
      clear g1 g2 g3 g4 g5 MR c1
      go_enter Try.func23, Try.ntmps23
      go_wp2_with (go_at_call 7; refine (nan_ret _).mono ?_; rintro e w ⟨rfl, rfl⟩)
      go_ret
      exact ⟨_, rfl, HL.out, Bw.refl _⟩
  · have hc := Bool.eq_false_iff.2 c1
    rw [Bool.or_eq_false_iff] at hc
    rw [hc.1] at g0
    rw [hc.2] at g1
    by_cases c2 : Fl.eqF x 13830554455654793216 = true
    · have HL : Hid (moreR x 18442240474082181120) := by show moreR _ _; unfold moreR; rw [if_neg c1, if_pos c2]
      rw [c2] at g2
      clear g3 g4 g5 MR c1 c2 hc
      go_enter Try.func23, Try.ntmps23
      go_wp2_with (go_at_call 6; refine (inf_ret _).mono ?_; rintro e w ⟨rfl, rfl⟩)
      go_ret
      exact ⟨_, rfl, HL.out, Bw.refl _⟩
    · rw [Bool.eq_false_iff.2 c2] at g2
      by_cases c3 : Fl.ltF 9218868437227405311 x = true
      · have HL : Hid (moreR x x) := by show moreR _ _; unfold moreR; rw [if_neg c1, if_neg c2, if_pos c3]
        rw [c3] at g3
        clear g4 g5 MR c1 c2 c3 hc
        go_enter Try.func23, Try.ntmps23
        go_wp2
        go_ret
        exact ⟨_, rfl, HL.out, Bw.refl _⟩
      · rw [Bool.eq_false_iff.2 c3] at g3
        by_cases c4 : (Fl.leF 13821547256400052224 x && Fl.leF x 4600427019358961664) = true
        · obtain ⟨b, w1, hb, e1, g11⟩ := op_run .add (Or.inl rfl) 4611686018427387904 x w
          obtain ⟨f, w2, hf, e2, g12⟩ := op_run .quo (Or.inr (Or.inr (Or.inr rfl))) x b w1
          have HL : Hid (∀ y, oddR f y → moreR x y) := by
            intro y hy
            unfold moreR
            rw [if_neg c1, if_neg c2, if_neg c3, if_pos c4]
            exact ⟨b, f, hb, hf, hy⟩
          have hc4 := c4
          rw [Bool.and_eq_true] at hc4
          rw [hc4.1] at g4
          rw [hc4.2] at g5
          have G := bw_trans g11 g12
          clear MR c1 c2 c3 c4 hc hc4 hb hf g11 g12
          go_enter Try.func23, Try.ntmps23
          go_wp2_with fail
          refine (rodd_any f _).mono ?_
          rintro e w3 ⟨y, rfl, hy, g13⟩
          have HF : Hid (moreR x y) := HL.out y hy
          have G2 := bw_trans G g13
          clear HL hy g13 G
          go_wp2
          go_ret
          exact ⟨y, rfl, HF.out, G2⟩
        · obtain ⟨s, w1, hs, e1, g11⟩ := op_run .add (Or.inl rfl) 4607182418800017408 x w
          have HL : Hid (∀ y, logR s y → moreR x y) := by
            intro y hy
            unfold moreR
            rw [if_neg c1, if_neg c2, if_neg c3, if_neg c4]
            exact ⟨s, hs, hy⟩
          have hs1 := hs.1
          have hc4 := Bool.eq_false_iff.2 c4
          have fin : Calls Try.prog 22 #[.float .f64 s] w1 fun e w' => ∃ y, e = .returned (.float .f64 y) ∧ logR s y ∧ Bw w1 w' := rlog_any s w1 hs1
          have FN : Hid (Calls Try.prog 22 #[.float .f64 s] w1 fun e w' => ∃ y, e = .returned (.float .f64 y) ∧ logR s y ∧ Bw w1 w') := fin
          clear MR c1 c2 c3 c4 hc hs fin
          cases h4 : Fl.leF 13821547256400052224 x
          · rw [h4] at g4
            clear g5 hc4
            go_enter Try.func23, Try.ntmps23
            go_wp2_with fail
            refine FN.out.mono ?_
            rintro e w3 ⟨y, rfl, hy, g13⟩
            have HF : Hid (moreR x y) := HL.out y hy
            have G2 := bw_trans g11 g13
            clear HL hy g13 g11 FN
            go_wp2
            go_ret
            exact ⟨y, rfl, HF.out, G2⟩
          · rw [h4, Bool.true_and] at hc4
            rw [h4] at g4
            rw [hc4] at g5
            go_enter Try.func23, Try.ntmps23
            go_wp2_with fail
            refine FN.out.mono ?_
            rintro e w3 ⟨y, rfl, hy, g13⟩
            have HF : Hid (moreR x y) := HL.out y hy
            have G2 := bw_trans g11 g13
            clear HL hy g13 g11 FN
            go_wp2
            go_ret
            exact ⟨y, rfl, HF.out, G2⟩
end Go.Proofs.Ythcohikeomkmeaa
