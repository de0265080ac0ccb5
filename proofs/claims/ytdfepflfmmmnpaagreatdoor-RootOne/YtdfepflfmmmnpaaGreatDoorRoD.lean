/-
  OWN TEXT: the reference's root of a complex number (eddyref06.Root), for every number.
-/
import Derived.Test.YtdfepflfmmmnpaaGreatDoorRoC
namespace Go.Proofs.YtdfepflfmmmnpaaGreatDoor
open Go.ChangeShapes Go.WideShapes Go.ChangeAt Go.RowKit
open Bg
set_option linter.unusedVariables false
attribute [local go_sem] frombits_call tobits_call run_neg
theorem rhalved_any (k : Int) (w : World) (h1 : -2000 < k) (h2 : k < 2000) : Calls Tryz.prog 51 #[.int .i64 k] w fun e w' => e = .returned (.int .i64 (k / 2)) ∧ w' = w := by
  by_cases c : k < 0
  · have e1 : (1 - k).tdiv 2 = (1 - k) / 2 := Int.tdiv_eq_ediv_of_nonneg (by omega)
    have H : Hid (-((1 - k) / 2) = k / 2) := by show -((1 - k) / 2) = k / 2; omega
    have b1 : 0 ≤ (1 - k).tdiv 2 := by rw [e1]; omega
    have b2 : (1 - k).tdiv 2 ≤ 2000 := by rw [e1]; omega
    have E1 : Hid ((1 - k).tdiv 2 = (1 - k) / 2) := e1
    clear e1
    go_enter Tryz.func51, Tryz.ntmps51
    go_wp2
    go_ret
    exact ⟨by rw [← H.out, ← E1.out]; rfl, rfl⟩
  · have e1 : k.tdiv 2 = k / 2 := Int.tdiv_eq_ediv_of_nonneg (by omega)
    have E1 : Hid (k.tdiv 2 = k / 2) := e1
    clear e1
    go_enter Tryz.func51, Tryz.ntmps51
    go_wp2
    go_ret
    exact ⟨by rw [← E1.out]; rfl, rfl⟩
set_option maxHeartbeats 8000000 in
set_option maxRecDepth 100000 in
theorem rroot_any (a b : Nat) (w : World) (ha : a < 18446744073709551616) (hb : b < 18446744073709551616) (hT : Tab w) (hw : 2 ≤ w.heap.size) : Calls Tryz.prog 18 #[.complex .f64 a b] w fun e w' => ∃ re im, e = .returned (.complex .f64 re im) ∧ rooR a b re im ∧ Bw w w' := by
  have EA : Hid (∀ wz, Calls Tryz.prog 44 #[.float .f64 a] wz fun e w' => e = .returned (.bool (decide (Fl.rg a = 9218868437227405312))) ∧ w' = wz) := fun wz => rendless_any a wz ha
  have EB : Hid (∀ wz, Calls Tryz.prog 44 #[.float .f64 b] wz fun e w' => e = .returned (.bool (decide (Fl.rg b = 9218868437227405312))) ∧ w' = wz) := fun wz => rendless_any b wz hb
  have NA : Hid (∀ wz, Calls Tryz.prog 45 #[.float .f64 a] wz fun e w' => e = .returned (.bool (Fl.nan a)) ∧ w' = wz) := fun wz => rnone6_any a wz
  have NB : Hid (∀ wz, Calls Tryz.prog 45 #[.float .f64 b] wz fun e w' => e = .returned (.bool (Fl.nan b)) ∧ w' = wz) := fun wz => rnone6_any b wz
  have T : Hid (Tab w) := hT
  clear hT
  by_cases c1 : Fl.rg b = 9218868437227405312
  · have HL : Hid (rooR a b 9218868437227405312 b) := by show rooR _ _ _ _; unfold rooR; rw [if_pos c1]; exact ⟨rfl, rfl⟩
    rw [decide_eq_true c1] at EB
    clear c1
    go_enter Tryz.func18, Tryz.ntmps18
    go_wp2_with fail
    refine (infp6 _).mono ?_
    rintro e' w ⟨rfl, rfl⟩
    go_wp2_with fail
    refine (EB.out _).mono ?_
    rintro e' w ⟨rfl, rfl⟩
    go_wp2
    go_ret
    exact ⟨_, _, rfl, HL.out, Bw.refl _⟩
  · rw [decide_eq_false c1] at EB
    by_cases c2 : Fl.rg a = 9218868437227405312
    · rw [decide_eq_true c2] at EA
      have og := Fl.o_gt a 0
      have og' : Fl.ltF 0 a = !Fl.sg a := by
        unfold Fl.ltF
        rw [show Fl.nan 0 = false by decide, show Fl.key 0 = 0 by decide, show Fl.nan a = false by unfold Fl.nan; rw [c2]; decide]
        unfold Fl.key
        cases Fl.sg a
        · rw [if_neg (by decide), c2]; decide
        · rw [if_pos rfl, c2]; decide
      rw [og'] at og
      clear og'
      cases n2 : Fl.nan b
      · rw [n2] at NB
        have CP : Hid (∀ s wz, s < 18446744073709551616 → Calls Tryz.prog 24 #[.float .f64 s, .float .f64 b] wz fun e w' => e = .returned (.float .f64 (Fl.wd (Fl.sg b) (Fl.rg s))) ∧ w' = wz) := fun s wz hs => copysign_any s b wz hs hb
        have n2' : ¬ (Fl.rg a = 9218868437227405312 ∧ Fl.nan b = true) := by rw [n2]; simp
        cases s : Fl.sg a
        · rw [s] at og
          have HL : Hid (rooR a b 9218868437227405312 (Fl.wd (Fl.sg b) 0)) := by show rooR _ _ _ _; unfold rooR; rw [if_neg c1, if_neg n2', if_pos c2, if_pos s]; exact ⟨rfl, rfl⟩
          clear c1 c2 n2 n2' s
          go_enter Tryz.func18, Tryz.ntmps18
          go_wp2_with fail
          refine (infp6 _).mono ?_
          rintro e' w ⟨rfl, rfl⟩
          go_wp2_with fail
          refine (EB.out _).mono ?_
          rintro e' w ⟨rfl, rfl⟩
          go_wp2_with fail
          refine (EA.out _).mono ?_
          rintro e' w ⟨rfl, rfl⟩
          go_wp2_with fail
          refine (NB.out _).mono ?_
          rintro e' w ⟨rfl, rfl⟩
          go_wp2_with fail
          refine (EA.out _).mono ?_
          rintro e' w ⟨rfl, rfl⟩
          go_wp2_with fail
          refine (NB.out _).mono ?_
          rintro e' w ⟨rfl, rfl⟩
          go_wp2_with fail
          refine (EA.out _).mono ?_
          rintro e' w ⟨rfl, rfl⟩
          go_wp2_with fail
          refine (CP.out 0 _ (by decide)).mono ?_
          rintro e' w ⟨rfl, rfl⟩
          go_wp2
          go_ret
          exact ⟨_, _, rfl, HL.out, Bw.refl _⟩
        · rw [s] at og
          have HL : Hid (rooR a b 0 (Fl.wd (Fl.sg b) 9218868437227405312)) := by show rooR _ _ _ _; unfold rooR; rw [if_neg c1, if_neg n2', if_pos c2, if_neg (by rw [s]; decide)]; exact ⟨rfl, rfl⟩
          clear c1 c2 n2 n2' s
          go_enter Tryz.func18, Tryz.ntmps18
          go_wp2_with fail
          refine (infp6 _).mono ?_
          rintro e' w ⟨rfl, rfl⟩
          go_wp2_with fail
          refine (EB.out _).mono ?_
          rintro e' w ⟨rfl, rfl⟩
          go_wp2_with fail
          refine (EA.out _).mono ?_
          rintro e' w ⟨rfl, rfl⟩
          go_wp2_with fail
          refine (NB.out _).mono ?_
          rintro e' w ⟨rfl, rfl⟩
          go_wp2_with fail
          refine (EA.out _).mono ?_
          rintro e' w ⟨rfl, rfl⟩
          go_wp2_with fail
          refine (NB.out _).mono ?_
          rintro e' w ⟨rfl, rfl⟩
          go_wp2_with fail
          refine (EA.out _).mono ?_
          rintro e' w ⟨rfl, rfl⟩
          go_wp2_with fail
          refine (EA.out _).mono ?_
          rintro e' w ⟨rfl, rfl⟩
          go_wp2_with fail
          refine (CP.out 9218868437227405312 _ (by decide)).mono ?_
          rintro e' w ⟨rfl, rfl⟩
          go_wp2
          go_ret
          exact ⟨_, _, rfl, HL.out, Bw.refl _⟩
      · rw [n2] at NB
        cases s : Fl.sg a
        · rw [s] at og
          have HL : Hid (rooR a b 9218868437227405312 b) := by show rooR _ _ _ _; unfold rooR; rw [if_neg c1, if_pos ⟨c2, n2⟩, if_pos s]; exact ⟨rfl, n2⟩
          clear c1 c2 n2 s
          go_enter Tryz.func18, Tryz.ntmps18
          go_wp2_with fail
          refine (infp6 _).mono ?_
          rintro e' w ⟨rfl, rfl⟩
          go_wp2_with fail
          refine (EB.out _).mono ?_
          rintro e' w ⟨rfl, rfl⟩
          go_wp2_with fail
          refine (EA.out _).mono ?_
          rintro e' w ⟨rfl, rfl⟩
          go_wp2_with fail
          refine (NB.out _).mono ?_
          rintro e' w ⟨rfl, rfl⟩
          go_wp2
          go_ret
          exact ⟨_, _, rfl, HL.out, Bw.refl _⟩
        · rw [s] at og
          have HL : Hid (rooR a b b 9218868437227405312) := by show rooR _ _ _ _; unfold rooR; rw [if_neg c1, if_pos ⟨c2, n2⟩, if_neg (by rw [s]; decide)]; exact ⟨n2, rfl⟩
          clear c1 c2 n2 s
          go_enter Tryz.func18, Tryz.ntmps18
          go_wp2_with fail
          refine (infp6 _).mono ?_
          rintro e' w ⟨rfl, rfl⟩
          go_wp2_with fail
          refine (EB.out _).mono ?_
          rintro e' w ⟨rfl, rfl⟩
          go_wp2_with fail
          refine (EA.out _).mono ?_
          rintro e' w ⟨rfl, rfl⟩
          go_wp2_with fail
          refine (NB.out _).mono ?_
          rintro e' w ⟨rfl, rfl⟩
          go_wp2_with fail
          refine (EA.out _).mono ?_
          rintro e' w ⟨rfl, rfl⟩
          go_wp2_with fail
          refine (NB.out _).mono ?_
          rintro e' w ⟨rfl, rfl⟩
          go_wp2
          go_ret
          exact ⟨_, _, rfl, HL.out, Bw.refl _⟩
    · rw [decide_eq_false c2] at EA
      have n2' : ¬ (Fl.rg a = 9218868437227405312 ∧ Fl.nan b = true) := fun h => c2 h.1
      cases n1 : Fl.nan a
      · rw [n1] at NA
        cases n2 : Fl.nan b
        · rw [n2] at NB
          have c34 : ¬ (Fl.nan a = true ∨ Fl.nan b = true) := by rw [n1, n2]; simp
          have oa := Fl.o_eq a 0
          have ob := Fl.o_eq b 0
          rw [(up_tests ha n1).2.1] at oa
          rw [(up_tests hb n2).2.1] at ob
          by_cases z : Fl.rg a = 0 ∧ Fl.rg b = 0
          · rw [decide_eq_true z.1] at oa
            rw [decide_eq_true z.2] at ob
            have HL : Hid (rooR a b 0 b) := by show rooR _ _ _ _; unfold rooR; rw [if_neg c1, if_neg n2', if_neg c2, if_neg c34, if_pos z]; exact ⟨rfl, rfl⟩
            clear c1 c2 c34 n1 n2 n2' z
            go_enter Tryz.func18, Tryz.ntmps18
            go_wp2_with fail
            refine (infp6 _).mono ?_
            rintro e' w ⟨rfl, rfl⟩
            go_wp2_with fail
            refine (EB.out _).mono ?_
            rintro e' w ⟨rfl, rfl⟩
            go_wp2_with fail
            refine (EA.out _).mono ?_
            rintro e' w ⟨rfl, rfl⟩
            go_wp2_with fail
            refine (EA.out _).mono ?_
            rintro e' w ⟨rfl, rfl⟩
            go_wp2_with fail
            refine (EA.out _).mono ?_
            rintro e' w ⟨rfl, rfl⟩
            go_wp2_with fail
            refine (EA.out _).mono ?_
            rintro e' w ⟨rfl, rfl⟩
            go_wp2_with fail
            refine (NA.out _).mono ?_
            rintro e' w ⟨rfl, rfl⟩
            go_wp2_with fail
            refine (NB.out _).mono ?_
            rintro e' w ⟨rfl, rfl⟩
            go_wp2
            go_ret
            exact ⟨_, _, rfl, HL.out, Bw.refl _⟩
          · have HLL : Hid (∀ re im, rooP a b re im → rooR a b re im) := by
              intro re im h
              unfold rooR
              rw [if_neg c1, if_neg n2', if_neg c2, if_neg c34, if_neg z]
              exact h
            have GR : Hid (∀ wz, Calls Tryz.prog 32 #[.complex .f64 a b] wz fun e w' => e = .returned (.tuple #[.float .f64 (bigF a b), .float .f64 (smaF a b)]) ∧ w' = wz) := fun wz => rgreater_any a b wz ha hb
            have hbl := big_lt a b
            have PA : Hid (∀ wz, Calls Tryz.prog 34 #[.float .f64 (bigF a b)] wz fun e w' => e = .returned (.tuple #[.float .f64 (paF (bigF a b)), .int .i64 (paE (bigF a b))]) ∧ w' = wz) := fun wz => rparts_any (bigF a b) wz (by omega)
            obtain ⟨k1, k2⟩ := paE_small (bigF a b) (by omega)
            have HV : Hid (∀ wz, Calls Tryz.prog 51 #[.int .i64 (paE (bigF a b))] wz fun e w' => e = .returned (.int .i64 (paE (bigF a b) / 2)) ∧ w' = wz) := fun wz => rhalved_any _ wz k1 k2
            have AA : Hid (∀ wz, Calls Tryz.prog 49 #[.float .f64 a] wz fun e w' => e = .returned (.float .f64 (Fl.rg a)) ∧ w' = wz) := fun wz => abs_any a wz ha
            have AB : Hid (∀ wz, Calls Tryz.prog 49 #[.float .f64 b] wz fun e w' => e = .returned (.float .f64 (Fl.rg b)) ∧ w' = wz) := fun wz => abs_any b wz hb
            have og := Fl.o_ge a 0
            have CP : Hid (∀ s wz, s < 18446744073709551616 → Calls Tryz.prog 24 #[.float .f64 s, .float .f64 b] wz fun e w' => e = .returned (.float .f64 (Fl.wd (Fl.sg b) (Fl.rg s))) ∧ w' = wz) := fun s wz hs => copysign_any s b wz hs hb
            have HP : Hid (∀ l s0 h t d re im, togR (scF (Fl.rg a) (-2 * (paE (bigF a b) / 2))) (scF (Fl.rg b) (-2 * (paE (bigF a b) / 2))) l → opR .add (scF (Fl.rg a) (-2 * (paE (bigF a b) / 2))) l s0 → opR .quo s0 4611686018427387904 h → sqtR h t → opR .mul 4611686018427387904 (scF t (paE (bigF a b) / 2)) d →
                (if Fl.leF 0 a = true then re = scF t (paE (bigF a b) / 2) ∧ opR .quo b d im else opR .quo (Fl.rg b) d re ∧ im = Fl.wd (Fl.sg b) (Fl.rg (scF t (paE (bigF a b) / 2)))) → rooR a b re im) := by
              intro l s0 h t d re im h1 h2 h3 h4 h5 h6
              rw [show -2 * (paE (bigF a b) / 2) = -(2 * (paE (bigF a b) / 2)) by omega] at h1 h2
              exact HLL.out re im ⟨l, s0, h, t, d, h1, h2, h3, h4, h5, h6⟩
            have ways : ((FloatKind.f64.format.order a 0 == some .eq) = false) ∨ ((FloatKind.f64.format.order a 0 == some .eq) = true ∧ (FloatKind.f64.format.order b 0 == some .eq) = false) := by
              rw [oa, ob]
              by_cases y : Fl.rg a = 0
              · exact Or.inr ⟨decide_eq_true y, decide_eq_false (fun q => z ⟨y, q⟩)⟩
              · exact Or.inl (decide_eq_false y)
            have kb1 : -1001 < paE (bigF a b) / 2 := by omega
            have kb2 : paE (bigF a b) / 2 < 1001 := by omega
            have ral := Fl.rg_lt a
            have rbl := Fl.rg_lt b
            clear HLL c1 c2 c34 n1 n2 n2' z oa ob
            generalize paE (bigF a b) / 2 = k at *
            generalize paE (bigF a b) = ke at *
            generalize paF (bigF a b) = f at *
            generalize bigF a b = big at *
            generalize smaF a b = small at *
            generalize Fl.rg a = ra at *
            generalize hrb : Fl.rg b = rb at *
            rcases ways with oa | ⟨oa, ob⟩
            · rw [oa, Bool.or_false] at og
              go_enter Tryz.func18, Tryz.ntmps18
              go_wp2_with fail
              refine (infp6 _).mono ?_
              rintro e' w ⟨rfl, rfl⟩
              go_wp2_with fail
              refine (EB.out _).mono ?_
              rintro e' w ⟨rfl, rfl⟩
              go_wp2_with fail
              refine (EA.out _).mono ?_
              rintro e' w ⟨rfl, rfl⟩
              go_wp2_with fail
              refine (EA.out _).mono ?_
              rintro e' w ⟨rfl, rfl⟩
              go_wp2_with fail
              refine (EA.out _).mono ?_
              rintro e' w ⟨rfl, rfl⟩
              go_wp2_with fail
              refine (EA.out _).mono ?_
              rintro e' w ⟨rfl, rfl⟩
              go_wp2_with fail
              refine (NA.out _).mono ?_
              rintro e' w ⟨rfl, rfl⟩
              go_wp2_with fail
              refine (NB.out _).mono ?_
              rintro e' w ⟨rfl, rfl⟩
              go_wp2_with fail
              refine (GR.out _).mono ?_
              rintro e' w ⟨rfl, rfl⟩
              go_wp2_with fail
              refine (PA.out _).mono ?_
              rintro e' w ⟨rfl, rfl⟩
              go_wp2_with fail
              refine (HV.out _).mono ?_
              rintro e' w ⟨rfl, rfl⟩
              go_wp2_with fail
              refine (AA.out _).mono ?_
              rintro e' w ⟨rfl, rfl⟩
              go_wp2_with fail
              refine (rscale_any ra (-2 * k) _ (by omega) T.out hw).mono ?_
              rintro e w1 ⟨rfl, b1⟩
              have B1 : Bw w w1 := b1.1
              have s1 := Below.size B1
              clear b1
              go_wp2_with fail
              refine (AB.out _).mono ?_
              rintro e' w1 ⟨rfl, rfl⟩
              go_wp2_with fail
              refine (rscale_any rb (-2 * k) _ (by omega) (T.out.bw6 hw B1) (by omega)).mono ?_
              rintro e w2 ⟨rfl, b2⟩
              have B2 : Bw w w2 := bw_trans B1 b2.1
              have s2 := Below.size B2
              clear b2 B1 s1
              generalize scF ra (-2 * k) = u at *
              generalize scF rb (-2 * k) = v at *
              go_wp2_with fail
              refine (rtogether_any u v _).mono ?_
              rintro e w3 ⟨l, rfl, hl, b3⟩
              obtain ⟨s0, w4, hs0, e4, b4⟩ := op_run .add isAdd u l w3
              obtain ⟨h, w5, hh, e5, b5⟩ := op_run .quo isQuo s0 4611686018427387904 w4
              have B3 := bw_trans (bw_trans (bw_trans B2 b3) b4) b5
              have HP2 : Hid (∀ t d re im, sqtR h t → opR .mul 4611686018427387904 (scF t k) d → (if Fl.leF 0 a = true then re = scF t k ∧ opR .quo b d im else opR .quo rb d re ∧ im = Fl.wd (Fl.sg b) (Fl.rg (scF t k))) → rooR a b re im) := fun t d re im h4 h5 h6 => HP.out l s0 h t d re im hl hs0 hh h4 h5 h6
              clear HP hl hs0 hh b3 b4 b5 B2 s2
              go_wp2_with fail
              refine (sqrt_any h _).mono ?_
              rintro e w6 ⟨t, rfl, ht, b6⟩
              have B4 := bw_trans B3 b6
              have s4 := Below.size B4
              have htl := ht.1
              have HT : Hid (sqtR h t) := ht
              clear ht b6 B3
              go_wp2_with fail
              refine (rscale_any t k _ htl (T.out.bw6 hw B4) (by omega)).mono ?_
              rintro e w7 ⟨rfl, b7⟩
              have B5 : Bw w w7 := bw_trans B4 b7.1
              have hsl := scF_lt (x := t) htl k
              have HP3 : Hid (∀ d re im, opR .mul 4611686018427387904 (scF t k) d → (if Fl.leF 0 a = true then re = scF t k ∧ opR .quo b d im else opR .quo rb d re ∧ im = Fl.wd (Fl.sg b) (Fl.rg (scF t k))) → rooR a b re im) := fun d re im h5 h6 => HP2.out t d re im HT.out h5 h6
              clear HP2 HT b7 B4 s4 T
              generalize scF t k = s at *
              obtain ⟨d, w8, hd, e8, b8⟩ := op_run .mul isMul 4611686018427387904 s w7
              have B6 := bw_trans B5 b8
              cases c9 : Fl.leF 0 a
              · rw [c9] at og
                obtain ⟨re, w9, hre, e9, b9⟩ := op_run .quo isQuo rb d w8
                have B7 := bw_trans B6 b9
                have HF : Hid (rooR a b re (Fl.wd (Fl.sg b) (Fl.rg s))) := HP3.out d re _ hd (by rw [c9, if_neg (by decide)]; exact ⟨hre, rfl⟩)
                clear HP3 hd hre b8 b9 B5 B6 c9
                go_wp2_with fail
                refine (AB.out _).mono ?_
                rintro e' w8 ⟨rfl, rfl⟩
                go_wp2_with fail
                refine (CP.out s _ hsl).mono ?_
                rintro e' w9 ⟨rfl, rfl⟩
                go_wp2
                go_ret
                exact ⟨_, _, rfl, HF.out, B7⟩
              · rw [c9] at og
                obtain ⟨im, w9, him, e9, b9⟩ := op_run .quo isQuo b d w8
                have B7 := bw_trans B6 b9
                have HF : Hid (rooR a b s im) := HP3.out d s im hd (by rw [c9, if_pos rfl]; exact ⟨rfl, him⟩)
                clear HP3 hd him b8 b9 B5 B6 c9
                go_wp2
                go_ret
                exact ⟨_, _, rfl, HF.out, B7⟩
            · rw [oa, Bool.or_true] at og
              have c9 : Fl.leF 0 a = true := og.symm
              clear og
              go_enter Tryz.func18, Tryz.ntmps18
              go_wp2_with fail
              refine (infp6 _).mono ?_
              rintro e' w ⟨rfl, rfl⟩
              go_wp2_with fail
              refine (EB.out _).mono ?_
              rintro e' w ⟨rfl, rfl⟩
              go_wp2_with fail
              refine (EA.out _).mono ?_
              rintro e' w ⟨rfl, rfl⟩
              go_wp2_with fail
              refine (EA.out _).mono ?_
              rintro e' w ⟨rfl, rfl⟩
              go_wp2_with fail
              refine (EA.out _).mono ?_
              rintro e' w ⟨rfl, rfl⟩
              go_wp2_with fail
              refine (EA.out _).mono ?_
              rintro e' w ⟨rfl, rfl⟩
              go_wp2_with fail
              refine (NA.out _).mono ?_
              rintro e' w ⟨rfl, rfl⟩
              go_wp2_with fail
              refine (NB.out _).mono ?_
              rintro e' w ⟨rfl, rfl⟩
              go_wp2_with fail
              refine (GR.out _).mono ?_
              rintro e' w ⟨rfl, rfl⟩
              go_wp2_with fail
              refine (PA.out _).mono ?_
              rintro e' w ⟨rfl, rfl⟩
              go_wp2_with fail
              refine (HV.out _).mono ?_
              rintro e' w ⟨rfl, rfl⟩
              go_wp2_with fail
              refine (AA.out _).mono ?_
              rintro e' w ⟨rfl, rfl⟩
              go_wp2_with fail
              refine (rscale_any ra (-2 * k) _ (by omega) T.out hw).mono ?_
              rintro e w1 ⟨rfl, b1⟩
              have B1 : Bw w w1 := b1.1
              have s1 := Below.size B1
              clear b1
              go_wp2_with fail
              refine (AB.out _).mono ?_
              rintro e' w1 ⟨rfl, rfl⟩
              go_wp2_with fail
              refine (rscale_any rb (-2 * k) _ (by omega) (T.out.bw6 hw B1) (by omega)).mono ?_
              rintro e w2 ⟨rfl, b2⟩
              have B2 : Bw w w2 := bw_trans B1 b2.1
              have s2 := Below.size B2
              clear b2 B1 s1
              generalize scF ra (-2 * k) = u at *
              generalize scF rb (-2 * k) = v at *
              go_wp2_with fail
              refine (rtogether_any u v _).mono ?_
              rintro e w3 ⟨l, rfl, hl, b3⟩
              obtain ⟨s0, w4, hs0, e4, b4⟩ := op_run .add isAdd u l w3
              obtain ⟨h, w5, hh, e5, b5⟩ := op_run .quo isQuo s0 4611686018427387904 w4
              have B3 := bw_trans (bw_trans (bw_trans B2 b3) b4) b5
              have HP2 : Hid (∀ t d re im, sqtR h t → opR .mul 4611686018427387904 (scF t k) d → (if Fl.leF 0 a = true then re = scF t k ∧ opR .quo b d im else opR .quo rb d re ∧ im = Fl.wd (Fl.sg b) (Fl.rg (scF t k))) → rooR a b re im) := fun t d re im h4 h5 h6 => HP.out l s0 h t d re im hl hs0 hh h4 h5 h6
              clear HP hl hs0 hh b3 b4 b5 B2 s2
              go_wp2_with fail
              refine (sqrt_any h _).mono ?_
              rintro e w6 ⟨t, rfl, ht, b6⟩
              have B4 := bw_trans B3 b6
              have s4 := Below.size B4
              have htl := ht.1
              have HT : Hid (sqtR h t) := ht
              clear ht b6 B3
              go_wp2_with fail
              refine (rscale_any t k _ htl (T.out.bw6 hw B4) (by omega)).mono ?_
              rintro e w7 ⟨rfl, b7⟩
              have B5 : Bw w w7 := bw_trans B4 b7.1
              have hsl := scF_lt (x := t) htl k
              have HP3 : Hid (∀ d re im, opR .mul 4611686018427387904 (scF t k) d → (if Fl.leF 0 a = true then re = scF t k ∧ opR .quo b d im else opR .quo rb d re ∧ im = Fl.wd (Fl.sg b) (Fl.rg (scF t k))) → rooR a b re im) := fun d re im h5 h6 => HP2.out t d re im HT.out h5 h6
              clear HP2 HT b7 B4 s4 T
              generalize scF t k = s at *
              obtain ⟨d, w8, hd, e8, b8⟩ := op_run .mul isMul 4611686018427387904 s w7
              have B6 := bw_trans B5 b8
              obtain ⟨im, w9, him, e9, b9⟩ := op_run .quo isQuo b d w8
              have B7 := bw_trans B6 b9
              have HF : Hid (rooR a b s im) := HP3.out d s im hd (by rw [c9, if_pos rfl]; exact ⟨rfl, him⟩)
              clear HP3 hd him b8 b9 B5 B6 c9
              go_wp2
              go_ret
              exact ⟨_, _, rfl, HF.out, B7⟩
        · rw [n2] at NB
          have HL : Hid (rooR a b 9221120237041090561 9221120237041090561) := by show rooR _ _ _ _; unfold rooR; rw [if_neg c1, if_neg n2', if_neg c2, if_pos (Or.inr n2)]; exact ⟨by decide, by decide⟩
          clear c1 c2 n1 n2 n2'
          go_enter Tryz.func18, Tryz.ntmps18
          go_wp2_with fail
          refine (infp6 _).mono ?_
          rintro e' w ⟨rfl, rfl⟩
          go_wp2_with fail
          refine (EB.out _).mono ?_
          rintro e' w ⟨rfl, rfl⟩
          go_wp2_with fail
          refine (EA.out _).mono ?_
          rintro e' w ⟨rfl, rfl⟩
          go_wp2_with fail
          refine (EA.out _).mono ?_
          rintro e' w ⟨rfl, rfl⟩
          go_wp2_with fail
          refine (EA.out _).mono ?_
          rintro e' w ⟨rfl, rfl⟩
          go_wp2_with fail
          refine (EA.out _).mono ?_
          rintro e' w ⟨rfl, rfl⟩
          go_wp2_with fail
          refine (NA.out _).mono ?_
          rintro e' w ⟨rfl, rfl⟩
          go_wp2_with fail
          refine (NB.out _).mono ?_
          rintro e' w ⟨rfl, rfl⟩
          go_wp2_with fail
          refine (nan6 _).mono ?_
          rintro e' w ⟨rfl, rfl⟩
          go_wp2_with fail
          refine (nan6 _).mono ?_
          rintro e' w ⟨rfl, rfl⟩
          go_wp2
          go_ret
          exact ⟨_, _, rfl, HL.out, Bw.refl _⟩
      · rw [n1] at NA
        have HL : Hid (rooR a b 9221120237041090561 9221120237041090561) := by show rooR _ _ _ _; unfold rooR; rw [if_neg c1, if_neg n2', if_neg c2, if_pos (Or.inl n1)]; exact ⟨by decide, by decide⟩
        clear c1 c2 n1 n2'
        go_enter Tryz.func18, Tryz.ntmps18
        go_wp2_with fail
        refine (infp6 _).mono ?_
        rintro e' w ⟨rfl, rfl⟩
        go_wp2_with fail
        refine (EB.out _).mono ?_
        rintro e' w ⟨rfl, rfl⟩
        go_wp2_with fail
        refine (EA.out _).mono ?_
        rintro e' w ⟨rfl, rfl⟩
        go_wp2_with fail
        refine (EA.out _).mono ?_
        rintro e' w ⟨rfl, rfl⟩
        go_wp2_with fail
        refine (EA.out _).mono ?_
        rintro e' w ⟨rfl, rfl⟩
        go_wp2_with fail
        refine (EA.out _).mono ?_
        rintro e' w ⟨rfl, rfl⟩
        go_wp2_with fail
        refine (NA.out _).mono ?_
        rintro e' w ⟨rfl, rfl⟩
        go_wp2_with fail
        refine (nan6 _).mono ?_
        rintro e' w ⟨rfl, rfl⟩
        go_wp2_with fail
        refine (nan6 _).mono ?_
        rintro e' w ⟨rfl, rfl⟩
        go_wp2
        go_ret
        exact ⟨_, _, rfl, HL.out, Bw.refl _⟩
end Go.Proofs.YtdfepflfmmmnpaaGreatDoor
