/-
  OWN TEXT: the reference's wrapped angles (eddyref05.Wrap), for every float.
-/
import Derived.Test.YtdpkhcijkepdiaaAnC
namespace Go.Proofs.Ytdpkhcijkepdiaa
open Go.ChangeShapes Go.WideShapes Go.ChangeAt Go.RowKit
set_option linter.unusedVariables false
attribute [local go_sem] frombits_call tobits_call run_neg
set_option maxHeartbeats 8000000 in
theorem rwrap_any (x : Nat) (w : World) (hx : x < 18446744073709551616) : Calls Try.prog 14 #[.float .f64 x] w fun e w' => ∃ z, e = .returned (.float .f64 z) ∧ wraR x z ∧ Bw w w' := by
  have FI : Hid (∀ wz, Calls Try.prog 24 #[.float .f64 x] wz fun e w' => e = .returned (.bool (fitB x)) ∧ w' = wz) := fun wz => rfit_any x wz hx
  have hn : Op.negFloat .f64 4614256656552045848 = 13837628693406821656 := by decide
  have o1 := Fl.o_gt x 13837628693406821656
  have o2 := Fl.o_le x 4614256656552045848
  cases c : fitB x
  · rw [c] at FI
    have HF : Hid (wraR x 9221120237041090561) := by show wraR _ _; unfold wraR; rw [if_neg (by rw [c]; decide)]; decide
    clear c o1 o2
    go_enter Try.func14, Try.ntmps14
    go_wp2_with (first | (go_at_call 24; refine (FI.out _).mono ?_; rintro e' w ⟨rfl, rfl⟩) | (go_at_call 25; refine (rnone_any _).mono ?_; rintro e' w ⟨rfl, rfl⟩))
    go_ret
    exact ⟨_, rfl, HF.out, Bw.refl _⟩
  · rw [c] at FI
    by_cases c1 : (Fl.ltF 13837628693406821656 x && Fl.leF x 4614256656552045848) = true
    · have HF : Hid (wraR x x) := by show wraR _ _; unfold wraR; rw [if_pos c, if_pos c1]
      rw [Bool.and_eq_true] at c1
      rw [c1.1] at o1
      rw [c1.2] at o2
      clear c c1
      go_enter Try.func14, Try.ntmps14
      go_wp2_with (first | (go_at_call 24; refine (FI.out _).mono ?_; rintro e' w ⟨rfl, rfl⟩) | (go_at_call 15; refine (rhigh_any _).mono ?_; rintro e' w ⟨rfl, rfl⟩))
      go_ret
      exact ⟨_, rfl, HF.out, Bw.refl _⟩
    · obtain ⟨p, w1, hp, e1, b1⟩ := op_run .mul isMul x 4594902181429758083 w
      have hwh : whR p (if Fl.nan p = true then p else Fl.whF p) := whR_of0 p hp.1
      have WH : Hid (∀ wz, Calls Try.prog 33 #[.float .f64 p] wz fun e w' => e = .returned (.float .f64 (if Fl.nan p = true then p else Fl.whF p)) ∧ w' = wz) := fun wz => rwhole_any p wz hp.1
      generalize (if Fl.nan p = true then p else Fl.whF p) = m at *
      have LS : Hid (∀ wz, Calls Try.prog 35 #[.float .f64 x, .float .f64 m, .float .f64 4616189618054758400] wz fun e w' => ∃ y, e = .returned (.float .f64 y) ∧ lesR x m 4618760256179142656 4463265559871488000 4306313749964259328 y ∧ Bw wz w') := fun wz => rles_any x m 4616189618054758400 4618760256179142656 4463265559871488000 4306313749964259328 wz (by decide +kernel) (by decide +kernel) (by decide +kernel)
      have HW : Hid (∀ y u z, lesR x m 4618760256179142656 4463265559871488000 4306313749964259328 y → onceR y u → lastR u z → wraR x z) := by
        intro y u z h1 h2 h3
        unfold wraR
        rw [if_pos c, if_neg c1]
        exact ⟨m, y, u, ⟨p, hp, hwh⟩, h1, h2, h3⟩
      have hc1 := Bool.eq_false_iff.2 c1
      have ways : ((FloatKind.f64.format.order x 13837628693406821656 == some .gt) = false) ∨ ((FloatKind.f64.format.order x 13837628693406821656 == some .gt) = true ∧ (FloatKind.f64.format.order x 4614256656552045848 == some .lt || FloatKind.f64.format.order x 4614256656552045848 == some .eq) = false) := by
        rw [o1, o2]
        cases h1 : Fl.ltF 13837628693406821656 x
        · exact Or.inl rfl
        · rw [h1, Bool.true_and] at hc1; exact Or.inr ⟨rfl, hc1⟩
      have rhh := fun (ty : TypeId) w => run_float_arith (P := Try.prog) w .mul ty .f64 4611686018427387904 4614256656552045848 4618760256179416344 (by decide +kernel)
      have rll := fun (ty : TypeId) w => run_float_arith (P := Try.prog) w .mul ty .f64 4611686018427387904 4368955796522032135 4373459396149402631 (by decide +kernel)
      clear c c1 hc1 o1 o2 hp hwh
      rcases ways with o1 | ⟨o1, o2⟩
      · go_enter Try.func14, Try.ntmps14
        go_wp2_with (first | (go_at_call 24; refine (FI.out _).mono ?_; rintro e' w ⟨rfl, rfl⟩) | (go_at_call 15; refine (rhigh_any _).mono ?_; rintro e' w ⟨rfl, rfl⟩) | (go_at_call 34; refine (rbits_t 4594902181429758083 _).mono ?_; rintro e' w ⟨rfl, rfl⟩) | (go_at_call 33; refine (WH.out _).mono ?_; rintro e' w1 ⟨rfl, rfl⟩) | fail)
        refine (LS.out _).mono ?_
        rintro e w2 ⟨y, rfl, hy, b2⟩
        have B := bw_trans b1 b2
        have HU : Hid (∀ u z, onceR y u → lastR u z → wraR x z) := fun u z h1 h2 => HW.out y u z hy h1 h2
        clear HW hy b1 b2 LS WH FI
        have o3 := Fl.o_gt y 4614256656552045848
        have o4 := Fl.o_gt y 13837628693406821656
        cases k1 : Fl.ltF 4614256656552045848 y
        · rw [k1] at o3
          cases k2 : Fl.ltF 13837628693406821656 y
          · rw [k2] at o4
            obtain ⟨d, w3, hd, e3, b3⟩ := op_run .add isAdd y 4618760256179416344 w2
            obtain ⟨u, w4, hu, e4, b4⟩ := op_run .add isAdd d 4373459396149402631 w3
            have B2 := bw_trans (bw_trans B b3) b4
            have ON : onceR y u := by unfold onceR; rw [k1, k2, if_neg (by decide), if_neg (by decide)]; exact ⟨d, hd, hu⟩
            have HO : Hid (onceR y u) := ON
            clear ON hd hu b3 b4 k1 k2
            have o5 := Fl.o_gt u 4614256656552045848
            have o6 := Fl.o_gt u 13837628693406821656
            cases d1 : Fl.ltF 4614256656552045848 u
            · rw [d1] at o5
              cases d2 : Fl.ltF 13837628693406821656 u
              · rw [d2] at o6
                have HF : Hid (wraR x 4614256656552045848) := HU.out u 4614256656552045848 HO.out (by unfold lastR; rw [d1, d2, if_pos (by decide)])
                clear HU d1 d2
                go_wp2_with (go_at_call 16; refine (rlow_any _).mono ?_; rintro e' w9 ⟨rfl, hw9⟩; subst hw9)
                go_ret
                exact ⟨_, rfl, HF.out, B2⟩
              · rw [d2] at o6
                have HF : Hid (wraR x u) := HU.out u u HO.out (by unfold lastR; rw [d1, d2, if_neg (by decide)])
                clear HU d1 d2
                go_wp2_with (go_at_call 16; refine (rlow_any _).mono ?_; rintro e' w9 ⟨rfl, hw9⟩; subst hw9)
                go_ret
                exact ⟨_, rfl, HF.out, B2⟩
            · rw [d1] at o5
              have HF : Hid (wraR x 4614256656552045848) := HU.out u 4614256656552045848 HO.out (by unfold lastR; rw [d1, if_pos (by simp)])
              clear HU d1 o6
              go_wp2_with (go_at_call 16; refine (rlow_any _).mono ?_; rintro e' w9 ⟨rfl, hw9⟩; subst hw9)
              go_ret
              exact ⟨_, rfl, HF.out, B2⟩
          · rw [k2] at o4
            have ON : onceR y y := by unfold onceR; rw [k1, k2, if_neg (by decide), if_pos rfl]
            have HO : Hid (onceR y y) := ON
            have HF : Hid (wraR x y) := HU.out y y HO.out (by unfold lastR; rw [k1, k2, if_neg (by decide)])
            clear HU HO ON k1 k2
            go_wp2
            go_ret
            exact ⟨_, rfl, HF.out, B⟩
        · rw [k1] at o3
          clear o4
          obtain ⟨d, w3, hd, e3, b3⟩ := op_run .sub isSub y 4618760256179416344 w2
          obtain ⟨u, w4, hu, e4, b4⟩ := op_run .sub isSub d 4373459396149402631 w3
          have B2 := bw_trans (bw_trans B b3) b4
          have ON : onceR y u := by unfold onceR; rw [k1, if_pos rfl]; exact ⟨d, hd, hu⟩
          have HO : Hid (onceR y u) := ON
          clear ON hd hu b3 b4 k1
          have o5 := Fl.o_gt u 4614256656552045848
          have o6 := Fl.o_gt u 13837628693406821656
          cases d1 : Fl.ltF 4614256656552045848 u
          · rw [d1] at o5
            cases d2 : Fl.ltF 13837628693406821656 u
            · rw [d2] at o6
              have HF : Hid (wraR x 4614256656552045848) := HU.out u 4614256656552045848 HO.out (by unfold lastR; rw [d1, d2, if_pos (by decide)])
              clear HU d1 d2
              go_wp2_with (go_at_call 16; refine (rlow_any _).mono ?_; rintro e' w9 ⟨rfl, hw9⟩; subst hw9)
              go_ret
              exact ⟨_, rfl, HF.out, B2⟩
            · rw [d2] at o6
              have HF : Hid (wraR x u) := HU.out u u HO.out (by unfold lastR; rw [d1, d2, if_neg (by decide)])
              clear HU d1 d2
              go_wp2_with (go_at_call 16; refine (rlow_any _).mono ?_; rintro e' w9 ⟨rfl, hw9⟩; subst hw9)
              go_ret
              exact ⟨_, rfl, HF.out, B2⟩
          · rw [d1] at o5
            have HF : Hid (wraR x 4614256656552045848) := HU.out u 4614256656552045848 HO.out (by unfold lastR; rw [d1, if_pos (by simp)])
            clear HU d1 o6
            go_wp2_with (go_at_call 16; refine (rlow_any _).mono ?_; rintro e' w9 ⟨rfl, hw9⟩; subst hw9)
            go_ret
            exact ⟨_, rfl, HF.out, B2⟩
      · go_enter Try.func14, Try.ntmps14
        go_wp2_with (first | (go_at_call 24; refine (FI.out _).mono ?_; rintro e' w ⟨rfl, rfl⟩) | (go_at_call 15; refine (rhigh_any _).mono ?_; rintro e' w ⟨rfl, rfl⟩) | (go_at_call 34; refine (rbits_t 4594902181429758083 _).mono ?_; rintro e' w ⟨rfl, rfl⟩) | (go_at_call 33; refine (WH.out _).mono ?_; rintro e' w1 ⟨rfl, rfl⟩) | fail)
        refine (LS.out _).mono ?_
        rintro e w2 ⟨y, rfl, hy, b2⟩
        have B := bw_trans b1 b2
        have HU : Hid (∀ u z, onceR y u → lastR u z → wraR x z) := fun u z h1 h2 => HW.out y u z hy h1 h2
        clear HW hy b1 b2 LS WH FI
        have o3 := Fl.o_gt y 4614256656552045848
        have o4 := Fl.o_gt y 13837628693406821656
        cases k1 : Fl.ltF 4614256656552045848 y
        · rw [k1] at o3
          cases k2 : Fl.ltF 13837628693406821656 y
          · rw [k2] at o4
            obtain ⟨d, w3, hd, e3, b3⟩ := op_run .add isAdd y 4618760256179416344 w2
            obtain ⟨u, w4, hu, e4, b4⟩ := op_run .add isAdd d 4373459396149402631 w3
            have B2 := bw_trans (bw_trans B b3) b4
            have ON : onceR y u := by unfold onceR; rw [k1, k2, if_neg (by decide), if_neg (by decide)]; exact ⟨d, hd, hu⟩
            have HO : Hid (onceR y u) := ON
            clear ON hd hu b3 b4 k1 k2
            have o5 := Fl.o_gt u 4614256656552045848
            have o6 := Fl.o_gt u 13837628693406821656
            cases d1 : Fl.ltF 4614256656552045848 u
            · rw [d1] at o5
              cases d2 : Fl.ltF 13837628693406821656 u
              · rw [d2] at o6
                have HF : Hid (wraR x 4614256656552045848) := HU.out u 4614256656552045848 HO.out (by unfold lastR; rw [d1, d2, if_pos (by decide)])
                clear HU d1 d2
                go_wp2_with (go_at_call 16; refine (rlow_any _).mono ?_; rintro e' w9 ⟨rfl, hw9⟩; subst hw9)
                go_ret
                exact ⟨_, rfl, HF.out, B2⟩
              · rw [d2] at o6
                have HF : Hid (wraR x u) := HU.out u u HO.out (by unfold lastR; rw [d1, d2, if_neg (by decide)])
                clear HU d1 d2
                go_wp2_with (go_at_call 16; refine (rlow_any _).mono ?_; rintro e' w9 ⟨rfl, hw9⟩; subst hw9)
                go_ret
                exact ⟨_, rfl, HF.out, B2⟩
            · rw [d1] at o5
              have HF : Hid (wraR x 4614256656552045848) := HU.out u 4614256656552045848 HO.out (by unfold lastR; rw [d1, if_pos (by simp)])
              clear HU d1 o6
              go_wp2_with (go_at_call 16; refine (rlow_any _).mono ?_; rintro e' w9 ⟨rfl, hw9⟩; subst hw9)
              go_ret
              exact ⟨_, rfl, HF.out, B2⟩
          · rw [k2] at o4
            have ON : onceR y y := by unfold onceR; rw [k1, k2, if_neg (by decide), if_pos rfl]
            have HO : Hid (onceR y y) := ON
            have HF : Hid (wraR x y) := HU.out y y HO.out (by unfold lastR; rw [k1, k2, if_neg (by decide)])
            clear HU HO ON k1 k2
            go_wp2
            go_ret
            exact ⟨_, rfl, HF.out, B⟩
        · rw [k1] at o3
          clear o4
          obtain ⟨d, w3, hd, e3, b3⟩ := op_run .sub isSub y 4618760256179416344 w2
          obtain ⟨u, w4, hu, e4, b4⟩ := op_run .sub isSub d 4373459396149402631 w3
          have B2 := bw_trans (bw_trans B b3) b4
          have ON : onceR y u := by unfold onceR; rw [k1, if_pos rfl]; exact ⟨d, hd, hu⟩
          have HO : Hid (onceR y u) := ON
          clear ON hd hu b3 b4 k1
          have o5 := Fl.o_gt u 4614256656552045848
          have o6 := Fl.o_gt u 13837628693406821656
          cases d1 : Fl.ltF 4614256656552045848 u
          · rw [d1] at o5
            cases d2 : Fl.ltF 13837628693406821656 u
            · rw [d2] at o6
              have HF : Hid (wraR x 4614256656552045848) := HU.out u 4614256656552045848 HO.out (by unfold lastR; rw [d1, d2, if_pos (by decide)])
              clear HU d1 d2
              go_wp2_with (go_at_call 16; refine (rlow_any _).mono ?_; rintro e' w9 ⟨rfl, hw9⟩; subst hw9)
              go_ret
              exact ⟨_, rfl, HF.out, B2⟩
            · rw [d2] at o6
              have HF : Hid (wraR x u) := HU.out u u HO.out (by unfold lastR; rw [d1, d2, if_neg (by decide)])
              clear HU d1 d2
              go_wp2_with (go_at_call 16; refine (rlow_any _).mono ?_; rintro e' w9 ⟨rfl, hw9⟩; subst hw9)
              go_ret
              exact ⟨_, rfl, HF.out, B2⟩
          · rw [d1] at o5
            have HF : Hid (wraR x 4614256656552045848) := HU.out u 4614256656552045848 HO.out (by unfold lastR; rw [d1, if_pos (by simp)])
            clear HU d1 o6
            go_wp2_with (go_at_call 16; refine (rlow_any _).mono ?_; rintro e' w9 ⟨rfl, hw9⟩; subst hw9)
            go_ret
            exact ⟨_, rfl, HF.out, B2⟩
end Go.Proofs.Ytdpkhcijkepdiaa
