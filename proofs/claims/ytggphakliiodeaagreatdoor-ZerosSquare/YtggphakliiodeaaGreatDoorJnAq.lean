/-
  OWN TEXT: package roots, as it landed: roots, polar forms, places, units, nearness, for every number.
-/
import Derived.Test.YtggphakliiodeaaGreatDoorJnAp
import Derived.Test.YtggphakliiodeaaGreatDoorJnAe
import Derived.Test.YtggphakliiodeaaGreatDoorJnAb
import Derived.Test.YtggphakliiodeaaGreatDoorJnAj
namespace Go.Proofs.YtggphakliiodeaaGreatDoor
open Go.ChangeShapes Go.WideShapes Go.ChangeAt Go.RowKit
set_option linter.unusedVariables false
attribute [local go_sem] frombits_call tobits_call run_neg
theorem rq_nought : Fl.rq 0 1074 = 0 := by decide +kernel
theorem mul_nought {b p : Nat} (fb : Fl.rg b < 9218868437227405312) (h : opR .mul b 0 p) : p = Fl.wd (Fl.sg b) 0 := by
  have hr : Fl.rg 0 = 0 := by decide
  have hv : Fl.vl 0 = 0 := by decide
  have hs : Fl.sg 0 = false := by decide
  have e : ∀ c v, v = 0 → c = 1074 → Fl.rq v c = 0 := by rintro _ _ rfl rfl; exact rq_nought
  obtain ⟨c, hc⟩ : ∃ c, c = 1074 := ⟨_, rfl⟩
  have m := Fl.mul_fin fb (show Fl.rg 0 < 9218868437227405312 by decide)
  rw [← hc, e c _ (by rw [hr, hv, Nat.mul_zero]) hc, hs, Bool.xor_false] at m
  have m' : floatBits .mul .f64 b 0 = some (Fl.wd (Fl.sg b) 0) := m
  rcases h.2 with q | q
  · rw [m'] at q; exact (Option.some.inj q).symm
  · rw [m'] at q; cases q.1
theorem signed_wd {s b : Nat} (nb : Fl.nan b = false) : signedF s b = Fl.wd (Fl.sg b) (Fl.rg s) := by
  unfold signedF Fl.minusB
  rw [nb]
  have k := Fl.ng_wd false (Fl.rg s) (Fl.rg_lt s)
  generalize Fl.rg s = r at *
  cases Fl.sg b
  · rw [Bool.and_false, if_neg (by decide), wd_false6]
  · rw [Bool.not_false, Bool.and_true, if_pos rfl]
    rw [wd_false6, Bool.not_false] at k
    exact k.symm
theorem far_any (a b : Nat) (w : World) (ha : a < 18446744073709551616) (hb : b < 18446744073709551616) (c1 : ¬ Fl.rg b = 9218868437227405312) (c2 : Fl.rg a = 9218868437227405312) : Calls Tryz.prog 87 #[.float .f64 a, .float .f64 b] w fun e w' => ∃ re im, e = .returned (.complex .f64 re im) ∧ rooR a b re im ∧ Bw w w' := by
  have og := Fl.o_lt a 0
  have og' : Fl.ltF a 0 = Fl.sg a := by
    unfold Fl.ltF
    rw [show Fl.nan 0 = false by decide, show Fl.key 0 = 0 by decide, show Fl.nan a = false by unfold Fl.nan; rw [c2]; decide]
    unfold Fl.key
    cases Fl.sg a
    · rw [if_neg (by decide), c2]; decide
    · rw [if_pos rfl, c2]; decide
  rw [og'] at og
  clear og'
  obtain ⟨p, w1, hp, e1, G⟩ := op_run .mul isMul b 0 w
  have hpl := hp.1
  cases s : Fl.sg a
  · rw [s] at og
    have HL : Hid (rooR a b 9218868437227405312 p) := by
      show rooR _ _ _ _
      unfold rooR
      rw [if_neg c1]
      by_cases n2 : Fl.nan b = true
      · rw [if_pos ⟨c2, n2⟩, if_pos s]; exact ⟨rfl, hp.nan (nan_left .mul isMul n2)⟩
      · rw [if_neg (fun h => n2 h.2), if_pos c2, if_pos s]
        exact ⟨rfl, mul_nought (by have := Fl.nan_le (Bool.eq_false_iff.mpr n2); omega) hp⟩
    clear hp c1 c2 s
    go_enter Tryz.func87, Tryz.ntmps87
    go_wp2_with fail
    refine (infp6 _).mono ?_
    rintro e' w9 ⟨rfl, hw9⟩
    subst hw9
    go_wp2
    go_ret
    exact ⟨_, _, rfl, HL.out, G⟩
  · rw [s] at og
    have HL : Hid (rooR a b (Fl.rg p) (signedF 9218868437227405312 b)) := by
      show rooR _ _ _ _
      unfold rooR
      rw [if_neg c1]
      by_cases n2 : Fl.nan b = true
      · rw [if_pos ⟨c2, n2⟩, if_neg (by rw [s]; decide)]
        refine ⟨by rw [Fl.nan_rg]; exact hp.nan (nan_left .mul isMul n2), ?_⟩
        unfold signedF Fl.minusB
        rw [n2, Bool.not_true, Bool.false_and, if_neg (by decide)]
        decide
      · rw [if_neg (fun h => n2 h.2), if_pos c2, if_neg (by rw [s]; decide)]
        refine ⟨?_, signed_wd (Bool.eq_false_iff.mpr n2)⟩
        rw [mul_nought (by have := Fl.nan_le (Bool.eq_false_iff.mpr n2); omega) hp]
        exact Fl.rg_wd _ 0 (by decide)
    clear hp c1 c2 s
    have AP : Hid (∀ wz, Calls Tryz.prog 53 #[.float .f64 p] wz fun e w' => e = .returned (.float .f64 (Fl.rg p)) ∧ w' = wz) := fun wz => abs_any p wz hpl
    have SG : Hid (∀ wz, Calls Tryz.prog 89 #[.float .f64 9218868437227405312, .float .f64 b] wz fun e w' => e = .returned (.float .f64 (signedF 9218868437227405312 b)) ∧ w' = wz) := fun wz => signed_any 9218868437227405312 b wz (by decide) hb
    generalize Fl.rg p = rp at *
    generalize signedF 9218868437227405312 b = si at *
    go_enter Tryz.func87, Tryz.ntmps87
    go_wp2_with fail
    refine (AP.out _).mono ?_
    rintro e' w9 ⟨rfl, hw9⟩
    subst hw9
    go_wp2_with fail
    refine (infp6 _).mono ?_
    rintro e' w9 ⟨rfl, hw9⟩
    subst hw9
    go_wp2_with fail
    refine (SG.out _).mono ?_
    rintro e' w9 ⟨rfl, hw9⟩
    subst hw9
    go_wp2
    go_ret
    exact ⟨_, _, rfl, HL.out, G⟩
/-- what greaterPart tells: s -/
def graR (a b s : Nat) : Prop := ∃ l s0 h t, togR (scF (Fl.rg a) (-(2 * (paE (bigF a b) / 2)))) (scF (Fl.rg b) (-(2 * (paE (bigF a b) / 2)))) l ∧
  opR .add (scF (Fl.rg a) (-(2 * (paE (bigF a b) / 2)))) l s0 ∧ opR .quo s0 4611686018427387904 h ∧ sqtR h t ∧ s = scF t (paE (bigF a b) / 2)
theorem gra_lt {a b s : Nat} (h : graR a b s) : s < 18446744073709551616 := by
  obtain ⟨l, s0, q, t, _, _, _, h4, h5⟩ := h
  rw [h5]; exact scF_lt h4.1 _
set_option maxHeartbeats 4000000 in
theorem greater_any (a b : Nat) (w : World) (ha : a < 18446744073709551616) (hb : b < 18446744073709551616) (fa : Fl.rg a < 9218868437227405312) (fb : Fl.rg b < 9218868437227405312) : Calls Tryz.prog 88 #[.complex .f64 a b] w fun e w' => ∃ s, e = .returned (.float .f64 s) ∧ graR a b s ∧ Bw w w' := by
  have n1 : Fl.nan a = false := by unfold Fl.nan; exact decide_eq_false (by omega)
  have n2 : Fl.nan b = false := by unfold Fl.nan; exact decide_eq_false (by omega)
  have OR : Hid (∀ wz, Calls Tryz.prog 60 #[.complex .f64 a b] wz fun e w' => e = .returned (.int .i64 (paE (bigF a b))) ∧ w' = wz) := fun wz => order_any6 a b wz ha hb n1 n2
  obtain ⟨k1, k2⟩ := paE_small (bigF a b) (by have := big_lt a b; omega)
  have HG : Hid (∀ l s0 h t, togR (scF a (-(2 * (paE (bigF a b) / 2)))) (scF b (-(2 * (paE (bigF a b) / 2)))) l → opR .add (Fl.rg (scF a (-(2 * (paE (bigF a b) / 2))))) l s0 → opR .quo s0 4611686018427387904 h → sqtR h t → graR a b (scF t (paE (bigF a b) / 2))) := by
    show ∀ l s0 h t, _
    intro l s0 h t h1 h2 h3 h4
    rw [rg_sc ha fa] at h2
    exact ⟨l, s0, h, t, tog_two ha hb fa fb h1, h2, h3, h4, rfl⟩
  clear n1 n2 fa fb
  generalize paE (bigF a b) = k at *
  have e2 : -2 * (k / 2) = -(2 * (k / 2)) := by omega
  have SC : Hid (∀ wz, Calls Tryz.prog 63 #[.complex .f64 a b, .int .i64 (-(2 * (k / 2)))] wz fun e w' => e = .returned (.complex .f64 (scF a (-(2 * (k / 2)))) (scF b (-(2 * (k / 2))))) ∧ w' = wz) := fun wz => scaled_any a b (-(2 * (k / 2))) wz ha hb (by omega) (by omega)
  have l1 := scF_lt ha (-(2 * (k / 2)))
  generalize scF a (-(2 * (k / 2))) = u at *
  generalize scF b (-(2 * (k / 2))) = v at *
  have AU : Hid (∀ wz, Calls Tryz.prog 53 #[.float .f64 u] wz fun e w' => e = .returned (.float .f64 (Fl.rg u)) ∧ w' = wz) := fun wz => abs_any u wz l1
  generalize Fl.rg u = ru at *
  rw [← e2] at SC
  clear e2
  go_enter Tryz.func88, Tryz.ntmps88
  go_wp2_with fail
  refine (OR.out _).mono ?_
  rintro e' w9 ⟨rfl, hw9⟩
  subst hw9
  go_wp2_with fail
  refine (SC.out _).mono ?_
  rintro e' w9 ⟨rfl, hw9⟩
  subst hw9
  go_wp2_with fail
  refine (AU.out _).mono ?_
  rintro e' w9 ⟨rfl, hw9⟩
  subst hw9
  go_wp2_with fail
  refine (plain_any6 u v _).mono ?_
  rintro e w1 ⟨l, rfl, hl, b1⟩
  obtain ⟨s0, w2, h2, e2, b2⟩ := op_run .add isAdd ru l w1
  obtain ⟨h, w3, h3, e3, b3⟩ := op_run .quo isQuo s0 4611686018427387904 w2
  have G := bw_trans (bw_trans b1 b2) b3
  have HH : Hid (∀ t, sqtR h t → graR a b (scF t (k / 2))) := fun t ht => HG.out l s0 h t hl h2 h3 ht
  clear HG hl h2 h3 b1 b2 b3
  go_wp2_with fail
  refine (sqrt_any h _).mono ?_
  rintro e w4 ⟨t, rfl, ht, b4⟩
  replace G := bw_trans G b4
  have htl := ht.1
  have HF : Hid (graR a b (scF t (k / 2))) := HH.out t ht
  clear HH ht b4
  go_wp2_with fail
  refine (scale_any t (k / 2) _ htl (by omega) (by omega)).mono ?_
  rintro e' w9 ⟨rfl, hw9⟩
  subst hw9
  generalize scF t (k / 2) = s at *
  go_wp2
  go_ret
  exact ⟨s, rfl, HF.out, G⟩
theorem lt_le6 {a : Nat} (na : Fl.nan a = false) : Fl.ltF a 0 = !Fl.leF 0 a := by
  unfold Fl.ltF Fl.leF
  rw [na, show Fl.nan 0 = false by decide, show Fl.key 0 = 0 by decide]
  simp only [Bool.not_false, Bool.true_and]
  rw [← decide_not]
  exact decide_eq_decide.mpr (by omega)
set_option maxHeartbeats 8000000 in
set_option maxRecDepth 100000 in
theorem root_any6 (a b : Nat) (w : World) (ha : a < 18446744073709551616) (hb : b < 18446744073709551616) : Calls Tryz.prog 49 #[.complex .f64 a b] w fun e w' => ∃ re im, e = .returned (.complex .f64 re im) ∧ rooR a b re im ∧ Bw w w' := by
  have EA : Hid (∀ wz, Calls Tryz.prog 42 #[.float .f64 a, .int .i64 0] wz fun e w' => e = .returned (.bool (decide (Fl.rg a = 9218868437227405312))) ∧ w' = wz) := fun wz => isInf_any a 0 wz ha (Or.inl rfl)
  have EB : Hid (∀ wz, Calls Tryz.prog 42 #[.float .f64 b, .int .i64 0] wz fun e w' => e = .returned (.bool (decide (Fl.rg b = 9218868437227405312))) ∧ w' = wz) := fun wz => isInf_any b 0 wz hb (Or.inl rfl)
  have NN : Hid (∀ wz, Calls Tryz.prog 57 #[.complex .f64 a b] wz fun e w' => e = .returned (.bool (Fl.nan a || Fl.nan b)) ∧ w' = wz) := fun wz => hasNone_any a b wz
  by_cases c1 : Fl.rg b = 9218868437227405312
  · have HL : Hid (rooR a b 9218868437227405312 b) := by show rooR _ _ _ _; unfold rooR; rw [if_pos c1]; exact ⟨rfl, rfl⟩
    rw [decide_eq_true c1] at EB
    clear c1
    go_enter Tryz.func49, Tryz.ntmps49
    go_wp2_with fail
    refine (EB.out _).mono ?_
    rintro e' w9 ⟨rfl, hw9⟩
    subst hw9
    go_wp2_with fail
    refine (infp6 _).mono ?_
    rintro e' w9 ⟨rfl, hw9⟩
    subst hw9
    go_wp2
    go_ret
    exact ⟨_, _, rfl, HL.out, Bw.refl _⟩
  · rw [decide_eq_false c1] at EB
    by_cases c2 : Fl.rg a = 9218868437227405312
    · have FR : Hid (∀ wz, Calls Tryz.prog 87 #[.float .f64 a, .float .f64 b] wz fun e w' => ∃ re im, e = .returned (.complex .f64 re im) ∧ rooR a b re im ∧ Bw wz w') := fun wz => far_any a b wz ha hb c1 c2
      rw [decide_eq_true c2] at EA
      clear c1 c2
      go_enter Tryz.func49, Tryz.ntmps49
      go_wp2_with fail
      refine (EB.out _).mono ?_
      rintro e' w9 ⟨rfl, hw9⟩
      subst hw9
      go_wp2_with fail
      refine (EA.out _).mono ?_
      rintro e' w9 ⟨rfl, hw9⟩
      subst hw9
      go_wp2_with fail
      refine (FR.out _).mono ?_
      rintro e' w1 ⟨re, im, rfl, h, G⟩
      have HL : Hid (rooR a b re im) := h
      clear h FR
      go_wp2
      go_ret
      exact ⟨_, _, rfl, HL.out, G⟩
    · rw [decide_eq_false c2] at EA
      have n2' : ¬ (Fl.rg a = 9218868437227405312 ∧ Fl.nan b = true) := fun h => c2 h.1
      cases n : (Fl.nan a || Fl.nan b)
      · rw [n] at NN
        obtain ⟨n1, n2⟩ := Bool.or_eq_false_iff.mp n
        have c34 : ¬ (Fl.nan a = true ∨ Fl.nan b = true) := by rw [n1, n2]; simp
        have Z : Hid (∀ wz, Calls Tryz.prog 59 #[.complex .f64 a b] wz fun e w' => e = .returned (.bool (decide (bigF a b = 0))) ∧ w' = wz) := fun wz => isNought_any a b wz ha hb n1 n2
        have hz := big_zero6 n1 n2
        by_cases z : bigF a b = 0
        · rw [decide_eq_true z] at Z
          have HL : Hid (rooR a b 0 b) := by show rooR _ _ _ _; unfold rooR; rw [if_neg c1, if_neg n2', if_neg c2, if_neg c34, if_pos (hz.mp z)]; exact ⟨rfl, rfl⟩
          clear c1 c2 c34 n n1 n2 n2' z hz
          go_enter Tryz.func49, Tryz.ntmps49
          go_wp2_with fail
          refine (EB.out _).mono ?_
          rintro e' w9 ⟨rfl, hw9⟩
          subst hw9
          go_wp2_with fail
          refine (EA.out _).mono ?_
          rintro e' w9 ⟨rfl, hw9⟩
          subst hw9
          go_wp2_with fail
          refine (NN.out _).mono ?_
          rintro e' w9 ⟨rfl, hw9⟩
          subst hw9
          go_wp2_with fail
          refine (Z.out _).mono ?_
          rintro e' w9 ⟨rfl, hw9⟩
          subst hw9
          go_wp2
          go_ret
          exact ⟨_, _, rfl, HL.out, Bw.refl _⟩
        · rw [decide_eq_false z] at Z
          have fa : Fl.rg a < 9218868437227405312 := by have := Fl.nan_le n1; omega
          have fb : Fl.rg b < 9218868437227405312 := by have := Fl.nan_le n2; omega
          have GP : Hid (∀ wz, Calls Tryz.prog 88 #[.complex .f64 a b] wz fun e w' => ∃ s, e = .returned (.float .f64 s) ∧ graR a b s ∧ Bw wz w') := fun wz => greater_any a b wz ha hb fa fb
          have HR : Hid (∀ s d re im, graR a b s → opR .mul 4611686018427387904 s d → (if Fl.leF 0 a = true then re = s ∧ opR .quo b d im else opR .quo (Fl.rg b) d re ∧ im = signedF s b) → rooR a b re im) := by
            show ∀ s d re im, _
            rintro s d re im ⟨l, s0, h, t, h1, h2, h3, h4, h5⟩ hd k
            unfold rooR
            rw [if_neg c1, if_neg n2', if_neg c2, if_neg c34, if_neg (fun h => z (hz.mpr h))]
            rw [h5] at hd
            refine ⟨l, s0, h, t, d, h1, h2, h3, h4, hd, ?_⟩
            by_cases c : Fl.leF 0 a = true
            · rw [if_pos c] at k ⊢; rw [h5] at k; exact k
            · rw [if_neg c] at k ⊢; rw [h5, signed_wd n2] at k; exact k
          have o := Fl.o_lt a 0
          rw [lt_le6 n1] at o
          clear c1 c2 c34 n n1 n2 n2' z hz fa fb
          cases c : Fl.leF 0 a
          · rw [c] at o HR
            have AB : Hid (∀ wz, Calls Tryz.prog 53 #[.float .f64 b] wz fun e w' => e = .returned (.float .f64 (Fl.rg b)) ∧ w' = wz) := fun wz => abs_any b wz hb
            have SG : Hid (∀ s wz, s < 18446744073709551616 → Calls Tryz.prog 89 #[.float .f64 s, .float .f64 b] wz fun e w' => e = .returned (.float .f64 (signedF s b)) ∧ w' = wz) := fun s wz hs => signed_any s b wz hs hb
            clear c
            generalize Fl.rg b = rb at *
            go_enter Tryz.func49, Tryz.ntmps49
            go_wp2_with fail
            refine (EB.out _).mono ?_
            rintro e' w9 ⟨rfl, hw9⟩
            subst hw9
            go_wp2_with fail
            refine (EA.out _).mono ?_
            rintro e' w9 ⟨rfl, hw9⟩
            subst hw9
            go_wp2_with fail
            refine (NN.out _).mono ?_
            rintro e' w9 ⟨rfl, hw9⟩
            subst hw9
            go_wp2_with fail
            refine (Z.out _).mono ?_
            rintro e' w9 ⟨rfl, hw9⟩
            subst hw9
            go_wp2_with fail
            refine (GP.out _).mono ?_
            rintro e' w1 ⟨s, rfl, hs, b1⟩
            have hsl := gra_lt hs
            obtain ⟨d, w2, hd, e2, b2⟩ := op_run .mul isMul 4611686018427387904 s w1
            obtain ⟨re, w3, hre, e3, b3⟩ := op_run .quo isQuo rb d w2
            have HF : Hid (rooR a b re (signedF s b)) := HR.out s d re _ hs hd (by rw [if_neg (by decide)]; exact ⟨hre, rfl⟩)
            have G := bw_trans (bw_trans b1 b2) b3
            clear HR hs hd hre b1 b2 b3
            have SS : Hid (∀ wz, Calls Tryz.prog 89 #[.float .f64 s, .float .f64 b] wz fun e w' => e = .returned (.float .f64 (signedF s b)) ∧ w' = wz) := fun wz => SG.out s wz hsl
            generalize signedF s b = im at *
            go_wp2_with fail
            refine (AB.out _).mono ?_
            rintro e' w9 ⟨rfl, hw9⟩
            subst hw9
            go_wp2_with fail
            refine (SS.out _).mono ?_
            rintro e' w9 ⟨rfl, hw9⟩
            subst hw9
            go_wp2
            go_ret
            exact ⟨_, _, rfl, HF.out, G⟩
          · rw [c] at o HR
            clear c
            go_enter Tryz.func49, Tryz.ntmps49
            go_wp2_with fail
            refine (EB.out _).mono ?_
            rintro e' w9 ⟨rfl, hw9⟩
            subst hw9
            go_wp2_with fail
            refine (EA.out _).mono ?_
            rintro e' w9 ⟨rfl, hw9⟩
            subst hw9
            go_wp2_with fail
            refine (NN.out _).mono ?_
            rintro e' w9 ⟨rfl, hw9⟩
            subst hw9
            go_wp2_with fail
            refine (Z.out _).mono ?_
            rintro e' w9 ⟨rfl, hw9⟩
            subst hw9
            go_wp2_with fail
            refine (GP.out _).mono ?_
            rintro e' w1 ⟨s, rfl, hs, b1⟩
            obtain ⟨d, w2, hd, e2, b2⟩ := op_run .mul isMul 4611686018427387904 s w1
            obtain ⟨im, w3, him, e3, b3⟩ := op_run .quo isQuo b d w2
            have HF : Hid (rooR a b s im) := HR.out s d _ im hs hd (by rw [if_pos trivial]; exact ⟨rfl, him⟩)
            have G := bw_trans (bw_trans b1 b2) b3
            clear HR hs hd him b1 b2 b3
            go_wp2
            go_ret
            exact ⟨_, _, rfl, HF.out, G⟩
      · rw [n] at NN
        have HL : Hid (rooR a b 9221120237041090561 9221120237041090561) := by
          show rooR _ _ _ _; unfold rooR
          rw [if_neg c1, if_neg n2', if_neg c2, if_pos (by rcases Bool.or_eq_true_iff.mp n with h | h; exact Or.inl h; exact Or.inr h)]
          exact ⟨by decide, by decide⟩
        clear c1 c2 n n2'
        go_enter Tryz.func49, Tryz.ntmps49
        go_wp2_with fail
        refine (EB.out _).mono ?_
        rintro e' w9 ⟨rfl, hw9⟩
        subst hw9
        go_wp2_with fail
        refine (EA.out _).mono ?_
        rintro e' w9 ⟨rfl, hw9⟩
        subst hw9
        go_wp2_with fail
        refine (NN.out _).mono ?_
        rintro e' w9 ⟨rfl, hw9⟩
        subst hw9
        go_wp2_with fail
        refine (nan6 _).mono ?_
        rintro e' w9 ⟨rfl, hw9⟩
        subst hw9
        go_wp2_with fail
        refine (nan6 _).mono ?_
        rintro e' w9 ⟨rfl, hw9⟩
        subst hw9
        go_wp2
        go_ret
        exact ⟨_, _, rfl, HL.out, Bw.refl _⟩
theorem wayOf_any (t : Nat) (w : World) (ht : t < 18446744073709551616) : Calls Tryz.prog 101 #[.float .f64 t] w fun e w' => ∃ s c, e = .returned (.complex .f64 c s) ∧ turR t s c ∧ Bw w w' := by
  go_enter Tryz.func101, Tryz.ntmps101
  go_wp2_with fail
  refine (turn_any t _ ht).mono ?_
  rintro e' w1 ⟨s, c, rfl, h, G⟩
  have HT : Hid (turR t s c) := h
  clear h
  go_wp2
  go_ret
  exact ⟨_, _, rfl, HT.out, G⟩
theorem place_any (l t : Nat) (w : World) (ht : t < 18446744073709551616) : Calls Tryz.prog 66 #[.float .f64 l, .float .f64 t] w fun e w' => ∃ re im, e = .returned (.complex .f64 re im) ∧ plaR l t re im ∧ Bw w w' := by
  go_enter Tryz.func66, Tryz.ntmps66
  go_wp2_with fail
  refine (wayOf_any t _ ht).mono ?_
  rintro e' w1 ⟨s, c, rfl, h, b1⟩
  obtain ⟨re, w2, h2, e2, b2⟩ := op_run .mul isMul l c w1
  obtain ⟨im, w3, h3, e3, b3⟩ := op_run .mul isMul l s w2
  have HF : Hid (plaR l t re im) := ⟨s, c, h, h2, h3⟩
  have G := bw_trans (bw_trans b1 b2) b3
  clear h h2 h3 b1 b2 b3
  go_wp2
  go_ret
  exact ⟨_, _, rfl, HF.out, G⟩
theorem pfinite_any (a b : Nat) (w : World) (ha : a < 18446744073709551616) (hb : b < 18446744073709551616) : Calls Tryz.prog 21 #[.complex .f64 a b] w fun e w' => e = .returned (.bool (Fl.finB a && Fl.finB b)) ∧ w' = w := by
  have NA : Hid (∀ wz, Calls Tryz.prog 54 #[.float .f64 a] wz fun e w' => e = .returned (.bool (Fl.finB a)) ∧ w' = wz) := fun wz => finite_any a wz ha
  have NB : Hid (∀ wz, Calls Tryz.prog 54 #[.float .f64 b] wz fun e w' => e = .returned (.bool (Fl.finB b)) ∧ w' = wz) := fun wz => finite_any b wz hb
  generalize Fl.finB a = x at *
  generalize Fl.finB b = y at *
  cases x
  · go_enter Tryz.func21, Tryz.ntmps21
    go_wp2_with fail
    refine (NA.out _).mono ?_
    rintro e' w ⟨rfl, rfl⟩
    go_wp2
    go_ret
    exact ⟨rfl, rfl⟩
  · go_enter Tryz.func21, Tryz.ntmps21
    go_wp2_with fail
    refine (NA.out _).mono ?_
    rintro e' w ⟨rfl, rfl⟩
    go_wp2_with fail
    refine (NB.out _).mono ?_
    rintro e' w ⟨rfl, rfl⟩
    go_wp2
    go_ret
    exact ⟨by cases y <;> rfl, rfl⟩
theorem csum_run {op : BinOp} (hop : op = .add ∨ op = .sub) {a b c d x y : Nat} {P : Program} {w w1 w2 : World} (e1 : ∀ t, (binOp op t (.float .f64 a) (.float .f64 c)).run P w = .ok (.float .f64 x) w1) (e2 : ∀ t, (binOp op t (.float .f64 b) (.float .f64 d)).run P w1 = .ok (.float .f64 y) w2) (t : TypeId) : (binOp op t (.complex .f64 a b) (.complex .f64 c d)).run P w = .ok (.complex .f64 x y) w2 := by
  rcases hop with rfl | rfl
  · have k1 : (Op.floatArith .add .f64 a c).run P w = .ok (.float .f64 x) w1 := e1 0
    have k2 : (Op.floatArith .add .f64 b d).run P w1 = .ok (.float .f64 y) w2 := e2 0
    simp [binOp, Op.complexOp, Op.Complex.arith, k1, k2]
  · have k1 : (Op.floatArith .sub .f64 a c).run P w = .ok (.float .f64 x) w1 := e1 0
    have k2 : (Op.floatArith .sub .f64 b d).run P w1 = .ok (.float .f64 y) w2 := e2 0
    simp [binOp, Op.complexOp, Op.Complex.arith, k1, k2]
theorem psub_any (a b c d : Nat) (w : World) : Calls Tryz.prog 24 #[.complex .f64 a b, .complex .f64 c d] w fun e w' => ∃ x y, e = .returned (.complex .f64 x y) ∧ opR .sub a c x ∧ opR .sub b d y ∧ Bw w w' := by
  obtain ⟨x, w1, hx, e1, b1⟩ := op_run .sub isSub a c w
  obtain ⟨y, w2, hy, e2, b2⟩ := op_run .sub isSub b d w1
  have B := bw_trans b1 b2
  have HX : Hid (opR .sub a c x) := hx
  have HY : Hid (opR .sub b d y) := hy
  have k := csum_run (Or.inr rfl) e1 e2
  clear hx hy b1 b2 e1 e2
  go_enter Tryz.func24, Tryz.ntmps24
  go_wp2
  go_ret
  exact ⟨x, y, rfl, HX.out, HY.out, B⟩
theorem near_any6 (a b c d m : Nat) (w : World) (ha : a < 18446744073709551616) (hb : b < 18446744073709551616) (hc : c < 18446744073709551616) (hd : d < 18446744073709551616) : Calls Tryz.prog 9 #[.complex .f64 a b, .complex .f64 c d, .float .f64 m] w fun e w' => ∃ r, e = .returned (.bool r) ∧ neaR a b c d m r ∧ Bw w w' := by
  go_enter Tryz.func9, Tryz.ntmps9
  go_wp2_with fail
  refine (psub_any a b c d _).mono ?_
  rintro e w1 ⟨x, y, rfl, hx, hy, b1⟩
  have hxl := hx.1
  have hyl := hy.1
  have HN : Hid (∀ l r, lenR x y l → r = Fl.leF l m → neaR a b c d m r) := fun l r h1 h2 => ⟨x, y, l, hx, hy, h1, h2⟩
  clear hx hy
  go_wp2_with fail
  refine (length_any x y _ hxl hyl).mono ?_
  rintro e w2 ⟨l, rfl, hl, b2⟩
  have B := bw_trans b1 b2
  have o := Fl.o_le l m
  have HF : Hid (neaR a b c d m (Fl.leF l m)) := HN.out l _ hl rfl
  clear HN hl b1 b2
  generalize Fl.leF l m = r at *
  go_wp2
  go_ret
  exact ⟨r, rfl, HF.out, B⟩
end Go.Proofs.YtggphakliiodeaaGreatDoor
/-
  OWN TEXT: floats that are whole numbers: their sums, differences, products are exact.
-/
namespace Go.Proofs.YtggphakliiodeaaGreatDoor
set_option linter.unusedVariables false
/-- the word x is the whole number n (a nought of either sign); c: the units of 1 -/
def wI (c x : Nat) (n : Int) : Prop := x < 18446744073709551616 ∧ Fl.rg x < 9218868437227405312 ∧ Fl.val x = n * ((2 ^ c : Nat) : Int)
theorem wI.lt {c x : Nat} {n : Int} (h : wI c x n) : x < 18446744073709551616 := h.1
theorem val_natAbs (x : Nat) : (Fl.val x).natAbs = Fl.vl (Fl.rg x) := by
  unfold Fl.val
  split <;> omega
theorem wI.vl {c x : Nat} {n : Int} (h : wI c x n) : Fl.vl (Fl.rg x) = n.natAbs * 2 ^ c := by
  rw [← val_natAbs, h.2.2, Int.natAbs_mul, Int.natAbs_natCast]
theorem small_log {k c : Nat} (hc : c = 1074) (hk : k ≤ 9007199254740992) : (k * 2 ^ c).log2 < 2098 := by
  by_cases z : k = 0
  · subst z; rw [Nat.zero_mul]; decide
  · rw [Fl.log2_mul k c z]
    have : k.log2 < 54 := (Nat.log2_lt z).2 (by omega)
    omega
/-- a rounded whole number is that number -/
theorem wI_of {c : Nat} (hc : c = 1074) {s : Bool} {n : Int} (hn : n.natAbs ≤ 9007199254740992) (hs : n ≠ 0 → s = decide (n < 0)) : wI c (Fl.wd s (Fl.rq (n.natAbs * 2 ^ c) 0)) n := by
  obtain ⟨h1, h2⟩ := Fl.rq_rep (n.natAbs * 2 ^ c) ⟨n.natAbs, c, rfl, hn⟩ (small_log hc hn)
  have hl : Fl.rq (n.natAbs * 2 ^ c) 0 < 9223372036854775808 := by omega
  refine ⟨Fl.wd_lt _ _ hl, by rw [Fl.rg_wd _ _ hl]; exact h2, ?_⟩
  rw [Fl.val_wd _ _ hl, h1]
  by_cases z : n = 0
  · subst z; simp
  · rw [hs z]
    by_cases q : n < 0
    · rw [decide_eq_true q, if_pos rfl, Int.natCast_mul, ← Int.neg_mul]
      congr 1
      omega
    · rw [decide_eq_false q, if_neg (by decide), Int.natCast_mul]
      congr 1
      omega
theorem op_some {op : BinOp} {a b x y : Nat} (h : opR op a b x) (e : floatBits op .f64 a b = some y) : x = y := by
  rcases h.2 with q | q
  · rw [e] at q; exact (Option.some.inj q).symm
  · rw [e] at q; cases q.1
theorem mul_sign {n : Int} {p : Nat} (hp : 0 < p) : (n * (p : Int) = 0 ↔ n = 0) ∧ (n * (p : Int) < 0 ↔ n < 0) := by
  have hp' : (0 : Int) < (p : Int) := by omega
  constructor
  · exact ⟨fun h => (Int.mul_eq_zero.1 h).resolve_right (by omega), fun h => by rw [h]; simp⟩
  · constructor
    · intro h
      by_cases c : n < 0
      · exact c
      · have := Int.mul_nonneg (show 0 ≤ n by omega) (Int.le_of_lt hp')
        omega
    · intro h; exact Int.mul_neg_of_neg_of_pos h hp'
theorem wI.add {c a b r : Nat} {m n : Int} (hc : c = 1074) (ha : wI c a m) (hb : wI c b n) (hs : (m + n).natAbs ≤ 9007199254740992) (h : opR .add a b r) : wI c r (m + n) := by
  have e := Fl.add_fin ha.2.1 hb.2.1
  have hr := op_some h e
  rw [ha.2.2, hb.2.2, ← Int.add_mul, Int.natAbs_mul, Int.natAbs_natCast] at hr
  obtain ⟨k1, k2⟩ := mul_sign (n := m + n) (Nat.two_pow_pos c)
  rw [hr]
  refine wI_of hc hs fun z => ?_
  rw [if_neg (fun q => z (k1.1 q))]
  exact decide_eq_decide.2 k2
theorem wI.sub {c a b r : Nat} {m n : Int} (hc : c = 1074) (ha : wI c a m) (hb : wI c b n) (hs : (m - n).natAbs ≤ 9007199254740992) (h : opR .sub a b r) : wI c r (m - n) := by
  have e := Fl.sub_fin hb.1 ha.2.1 hb.2.1
  have hr := op_some h e
  rw [ha.2.2, hb.2.2, ← Int.sub_mul, Int.natAbs_mul, Int.natAbs_natCast] at hr
  obtain ⟨k1, k2⟩ := mul_sign (n := m - n) (Nat.two_pow_pos c)
  rw [hr]
  refine wI_of hc hs fun z => ?_
  rw [if_neg (fun q => z (k1.1 q))]
  exact decide_eq_decide.2 k2
theorem wI.sign {c a : Nat} {m : Int} (ha : wI c a m) (z : m ≠ 0) : Fl.sg a = decide (m < 0) := by
  have h := ha.2.2
  obtain ⟨k1, k2⟩ := mul_sign (n := m) (Nat.two_pow_pos c)
  unfold Fl.val at h
  cases q : Fl.sg a
  · rw [q, if_neg (by decide)] at h
    have : ¬ m < 0 := by rw [← k2]; omega
    rw [decide_eq_false this]
  · rw [q, if_pos rfl] at h
    have h0 : ¬ m * ((2 ^ c : Nat) : Int) = 0 := fun x => z (k1.1 x)
    have : m < 0 := by rw [← k2]; omega
    rw [decide_eq_true this]
theorem wI.mul {c a b r : Nat} {m n : Int} (hc : c = 1074) (ha : wI c a m) (hb : wI c b n) (hs : (m * n).natAbs ≤ 9007199254740992) (h : opR .mul a b r) : wI c r (m * n) := by
  have e := Fl.mul_fin ha.2.1 hb.2.1
  rw [← hc] at e
  have hr := op_some h e
  have hv : Fl.vl (Fl.rg a) * Fl.vl (Fl.rg b) = (m * n).natAbs * 2 ^ c * 2 ^ c := by
    rw [ha.vl, hb.vl, Int.natAbs_mul, Nat.mul_mul_mul_comm, Nat.mul_assoc (m.natAbs * n.natAbs)]
  have hq := Fl.rq_mul ((m * n).natAbs * 2 ^ c) c 0
  rw [Nat.zero_add] at hq
  rw [hv, hq] at hr
  rw [hr]
  refine wI_of hc hs fun z => ?_
  have zm : m ≠ 0 := fun q => z (by rw [q]; simp)
  have zn : n ≠ 0 := fun q => z (by rw [q]; simp)
  rw [ha.sign zm, hb.sign zn]
  by_cases q1 : m < 0 <;> by_cases q2 : n < 0
  · rw [decide_eq_true q1, decide_eq_true q2, decide_eq_false (by have := Int.mul_pos_of_neg_of_neg q1 q2; omega)]; rfl
  · rw [decide_eq_true q1, decide_eq_false q2, decide_eq_true (Int.mul_neg_of_neg_of_pos q1 (by omega))]; rfl
  · rw [decide_eq_false q1, decide_eq_true q2, decide_eq_true (Int.mul_neg_of_pos_of_neg (by omega) q2)]; rfl
  · rw [decide_eq_false q1, decide_eq_false q2, decide_eq_false (by have := Int.mul_pos (show 0 < m by omega) (show 0 < n by omega); omega)]; rfl
/-- whole numbers are equal where their floats are -/
theorem wI.eq {c a b : Nat} {m n : Int} (ha : wI c a m) (hb : wI c b n) : Fl.eqF a b = decide (m = n) := by
  have na : Fl.nan a = false := by unfold Fl.nan; exact decide_eq_false (by have := ha.2.1; omega)
  have nb : Fl.nan b = false := by unfold Fl.nan; exact decide_eq_false (by have := hb.2.1; omega)
  rw [Fl.eqF_of na nb]
  refine decide_eq_decide.2 ?_
  have hp : (0 : Int) < ((2 ^ c : Nat) : Int) := by have := Nat.two_pow_pos c; omega
  have hv : m = n ↔ Fl.val a = Fl.val b := by
    rw [ha.2.2, hb.2.2]
    exact ⟨fun h => by rw [h], fun h => Int.eq_of_mul_eq_mul_right (by omega) h⟩
  rw [hv]
  have vi := @Fl.vl_inj (Fl.rg a) (Fl.rg b)
  have z1 : Fl.vl (Fl.rg a) = 0 ↔ Fl.rg a = 0 := by
    have := @Fl.vl_inj (Fl.rg a) 0
    rwa [show Fl.vl 0 = 0 by decide] at this
  have z2 : Fl.vl (Fl.rg b) = 0 ↔ Fl.rg b = 0 := by
    have := @Fl.vl_inj (Fl.rg b) 0
    rwa [show Fl.vl 0 = 0 by decide] at this
  unfold Fl.key Fl.val
  generalize Fl.vl (Fl.rg a) = va at *
  generalize Fl.vl (Fl.rg b) = vb at *
  cases Fl.sg a <;> cases Fl.sg b <;> simp <;> omega
end Go.Proofs.YtggphakliiodeaaGreatDoor
/-
  OWN TEXT: numbers that are exact: so many units of a power of two, none below nought.
-/
namespace Go.Proofs.YtggphakliiodeaaGreatDoor
set_option linter.unusedVariables false
/-- the word x is n units of 2^c (in units of the least place) -/
def uJ (c x n : Nat) : Prop := Fl.sg x = false ∧ Fl.rg x < 9218868437227405312 ∧ x < 18446744073709551616 ∧ Fl.vl (Fl.rg x) = n * 2 ^ c
theorem uJ.self {c x n : Nat} (h : uJ c x n) : Fl.rg x = x := by
  have h1 := h.1
  have h3 := h.2.2.1
  have := Fl.wd_self h3
  rw [h1, wd_false] at this
  exact this
theorem fit_log {k c : Nat} (hc : c ≤ 2000) (hk : k ≤ 9007199254740992) : (k * 2 ^ c).log2 < 2098 := by
  by_cases z : k = 0
  · subst z; rw [Nat.zero_mul]; decide
  · rw [Fl.log2_mul k c z]
    have : k.log2 < 54 := (Nat.log2_lt z).2 (by omega)
    omega
/-- rounded, it is itself -/
theorem uJ_rq {c n x : Nat} (hc : c ≤ 2000) (hn : n ≤ 9007199254740992) (hx : x = Fl.rq (n * 2 ^ c) 0) : uJ c x n := by
  obtain ⟨h1, h2⟩ := Fl.rq_rep (n * 2 ^ c) ⟨n, c, rfl, hn⟩ (fit_log hc hn)
  obtain ⟨r1, r2⟩ := rg_rung (r := Fl.rq (n * 2 ^ c) 0) (by omega)
  subst hx
  exact ⟨r2, by rw [r1]; exact h2, by omega, by rw [r1]; exact h1⟩
theorem uJ.mul {c d e a b r m n : Nat} (ha : uJ c a m) (hb : uJ d b n) (he : c + d = e + 1074) (he2 : e ≤ 2000) (hs : m * n ≤ 9007199254740992) (h : opR .mul a b r) : uJ e r (m * n) := by
  have hw := mul_word ha.2.1 hb.2.1 h
  rw [ha.1, hb.1, Bool.xor_self, wd_false, ha.2.2.2, hb.2.2.2, Nat.mul_mul_mul_comm, ← Nat.pow_add, he, Nat.pow_add, ← Nat.mul_assoc] at hw
  have k := Fl.rq_mul (m * n * 2 ^ e) 1074 0
  rw [Nat.zero_add] at k
  rw [k] at hw
  exact uJ_rq he2 hs hw
theorem uJ.add {c a b r m n : Nat} (ha : uJ c a m) (hb : uJ c b n) (he2 : c ≤ 2000) (hs : m + n ≤ 9007199254740992) (h : opR .add a b r) : uJ c r (m + n) := by
  have hw := add_word ha.1 hb.1 ha.2.1 hb.2.1 h
  rw [ha.2.2.2, hb.2.2.2, ← Nat.add_mul] at hw
  exact uJ_rq he2 hs hw
theorem uJ.half {c a r n : Nat} (ha : uJ c a (2 * n)) (he2 : c ≤ 2000) (hs : n ≤ 9007199254740992) (h : opR .quo a 4611686018427387904 r) : uJ c r n := by
  have hm := Fl.div_two (x := a) ha.2.1
  have e : r = Fl.wd (Fl.sg a) (Fl.rq (Fl.vl (Fl.rg a)) 1) := by
    rcases h.2 with k | k
    · exact (Option.some.inj (hm.symm.trans k)).symm
    · exact absurd (hm.symm.trans k.1) (by intro c; cases c)
  rw [ha.1, wd_false, ha.2.2.2, show 2 * n * 2 ^ c = n * 2 ^ c * 2 ^ 1 by rw [Nat.pow_one, Nat.mul_comm 2 n, Nat.mul_assoc, Nat.mul_comm 2 (2 ^ c), ← Nat.mul_assoc]] at e
  have k := Fl.rq_mul (n * 2 ^ c) 1 0
  rw [Nat.zero_add] at k
  rw [k] at e
  exact uJ_rq he2 hs e
/-- powers of two taken out, or put in -/
theorem uJ.scale {c d x n : Nat} {k : Int} (hx : uJ c x n) (hk : (d : Int) = c + k) (hc : c ≤ 2000) (hd : d ≤ 2000) (hs : n ≤ 9007199254740992) : uJ d (scF x k) n := by
  by_cases z : Fl.rg x = 0
  · have hv := hx.2.2.2
    rw [z] at hv
    have hz : n = 0 := by
      have : Fl.vl 0 = 0 := rfl
      rw [this] at hv
      rcases Nat.mul_eq_zero.1 hv.symm with q | q
      · exact q
      · exact absurd q (by have := Nat.two_pow_pos c; omega)
    subst hz
    have e : scF x k = x := by
      unfold scF
      rw [decide_eq_true z]
      simp
    rw [e]
    exact ⟨hx.1, hx.2.1, hx.2.2.1, by rw [z]; simp; rfl⟩
  · have e : scF x k = Fl.wd (Fl.sg x) (Fl.rz (Fl.vl (Fl.rg x)) k) := by
      unfold scF
      have hfin : Fl.finB x = true := decide_eq_true hx.2.1
      rw [hfin, decide_eq_false z]
      rfl
    rw [hx.1, wd_false, hx.2.2.2] at e
    have e2 : Fl.rz (n * 2 ^ c) k = Fl.rq (n * 2 ^ d) 0 := by
      unfold Fl.rz
      rcases Int.lt_or_le k 0 with q | q
      · obtain ⟨j, hj⟩ : ∃ j : Nat, k = -(j : Int) := ⟨k.natAbs, by omega⟩
        subst hj
        rw [show (-(j : Int)).toNat = 0 by omega, show (-(-(j : Int))).toNat = j by omega, Nat.pow_zero, Nat.mul_one, show c = d + j by omega, Nat.pow_add, ← Nat.mul_assoc]
        have k := Fl.rq_mul (n * 2 ^ d) j 0
        rw [Nat.zero_add] at k
        exact k
      · obtain ⟨j, hj⟩ : ∃ j : Nat, k = (j : Int) := ⟨k.natAbs, by omega⟩
        subst hj
        rw [show ((j : Int)).toNat = j by omega, show (-(j : Int)).toNat = 0 by omega, Nat.mul_assoc, ← Nat.pow_add, show c + j = d by omega]
    rw [e2] at e
    exact uJ_rq hd hs e
theorem norm_pow (n : Nat) (h1 : 1 ≤ n) (h2 : n < 9007199254740992) : ∃ j, j ≤ 52 ∧ 4503599627370496 ≤ n * 2 ^ j ∧ n * 2 ^ j < 9007199254740992 := by
  have hz : n ≠ 0 := by omega
  have k1 := Fl.log2_le n hz
  have k2 := Fl.log2_lt n hz
  have k3 : n.log2 < 53 := (Nat.log2_lt hz).2 (by omega)
  refine ⟨52 - n.log2, by omega, ?_, ?_⟩
  · have : 2 ^ n.log2 * 2 ^ (52 - n.log2) = 4503599627370496 := by rw [← Nat.pow_add, show n.log2 + (52 - n.log2) = 52 by omega]
    have := Nat.mul_le_mul_right (2 ^ (52 - n.log2)) k1
    omega
  · have : 2 ^ (n.log2 + 1) * 2 ^ (52 - n.log2) = 9007199254740992 := by rw [← Nat.pow_add, show n.log2 + 1 + (52 - n.log2) = 53 by omega]
    have := Nat.mul_lt_mul_of_pos_right k2 (Nat.two_pow_pos (52 - n.log2))
    omega
/-- the root of a square -/
theorem uJ.root {c f x y n : Nat} (hx : uJ c x (n * n)) (hf : c + 1074 = 2 * f) (hc : c ≤ 2000) (hf0 : 600 ≤ f) (hn : n * n ≤ 9007199254740992) (h : sqtR x y) : uJ f y n := by
  by_cases z : n = 0
  · subst z
    have hv := hx.2.2.2
    rw [Nat.mul_zero, Nat.zero_mul] at hv
    have hr : Fl.rg x = 0 := by
      by_cases q : Fl.rg x = 0
      · exact q
      · exact absurd hv (Fl.vl_pos q)
    have hx0 : x = 0 := by rw [← hx.self]; exact hr
    subst hx0
    have e : Ieee.double.sqrt 0 = some 0 := by decide +kernel
    have hy : y = 0 := by
      rcases h.2 with q | q
      · rw [e] at q; exact (Option.some.inj q).symm
      · rw [e] at q; cases q.1
    subst hy
    exact ⟨by decide, by decide, by decide, by rw [Nat.zero_mul]; decide⟩
  · have hn1 : n ≤ n * n := Nat.le_mul_of_pos_right n (by omega)
    have hnl : n < 9007199254740992 := by
      rcases Nat.lt_or_ge n 9007199254740992 with q | q
      · exact q
      · exfalso
        have : 9007199254740992 * 2 ≤ n * n := Nat.mul_le_mul q (by omega)
        omega
    obtain ⟨j, j1, j2, j3⟩ := norm_pow n (by omega) hnl
    obtain ⟨g, hg⟩ : ∃ g, g + j = f := ⟨f - j, by omega⟩
    have hb : n * 2 ^ j * 2 ^ g = n * 2 ^ f := by rw [Nat.mul_assoc, ← Nat.pow_add, Nat.add_comm j g, hg]
    obtain ⟨G, hG⟩ : ∃ G, g + g = G + 1074 ∨ (g + g < 1074 ∧ G = 0) := by
      rcases Nat.lt_or_ge (g + g) 1074 with q | q
      · exact ⟨0, Or.inr ⟨q, rfl⟩⟩
      · exact ⟨g + g - 1074, Or.inl (by omega)⟩
    have hself := hx.self
    have hsq : Fl.rq ((n * 2 ^ j * 2 ^ g) * (n * 2 ^ j * 2 ^ g)) 1074 = Fl.rg x := by
      rw [hb, Nat.mul_mul_mul_comm, ← Nat.pow_add, show f + f = c + 1074 by omega, Nat.pow_add, ← Nat.mul_assoc]
      have k := Fl.rq_mul (n * n * 2 ^ c) 1074 0
      rw [Nat.zero_add] at k
      rw [k]
      have := (uJ_rq hc hn rfl).self
      have hv := hx.2.2.2
      rw [← hv, Fl.rq_vl _ (by have := hx.2.1; omega)]
    have hz : ¬ Fl.rg x = 0 := by
      intro q
      have hv := hx.2.2.2
      rw [q] at hv
      have : Fl.vl 0 = 0 := rfl
      rw [this] at hv
      have := Nat.mul_pos (Nat.mul_pos (show 0 < n by omega) (show 0 < n by omega)) (Nat.two_pow_pos c)
      omega
    rcases hG with hG | ⟨hG, _⟩
    · obtain ⟨r, s1, s2, s3⟩ := Fl.sqrt_ge (x := x) 1074 rfl hG (by omega) j2 j3 hx.2.1 hx.1 (by rw [hsq]; exact Nat.le_refl _)
      obtain ⟨r', t1, t2⟩ := Fl.sqrt_le (x := x) 1074 rfl hG (by omega) j2 j3 hx.1 hz (by rw [hsq]; exact hx.2.1) (by rw [hsq]; exact Nat.le_refl _)
      rw [s1] at t1
      have : r = r' := by have := Option.some.inj t1; rw [wd_false, wd_false] at this; exact this
      subst this
      have hr : r = Fl.rq (n * 2 ^ j * 2 ^ g) 0 := by omega
      have hy := sqt_word h s1
      rw [hy, hr, hb]
      exact uJ_rq (by omega) (by omega) rfl
    · exfalso
      omega
end Go.Proofs.YtggphakliiodeaaGreatDoor
