/-
  OWN TEXT: package angle's wrapped angles (eddy/angle.wrapped, Wrap), for every float.
-/
import Derived.Test.YtdpkhcijkepdiaaApB
import Derived.Test.YtdpkhcijkepdiaaApC
namespace Go.Proofs.Ytdpkhcijkepdiaa
open Go.ChangeShapes Go.WideShapes Go.ChangeAt Go.RowKit
set_option linter.unusedVariables false
attribute [local go_sem] frombits_call tobits_call run_neg
/-- above -H and at most H -/
def wrB (x : Nat) : Bool := Fl.ltF 13837628693406821656 x && Fl.leF x 4614256656552045848
theorem wrapped_any (x : Nat) (w : World) : Calls Try.prog 37 #[.float .f64 x] w fun e w' => e = .returned (.bool (wrB x)) ∧ w' = w := by
  have hn : Op.negFloat .f64 4614256656552045848 = 13837628693406821656 := by decide
  have o1 := Fl.o_gt x 13837628693406821656
  have o2 := Fl.o_le x 4614256656552045848
  unfold wrB
  cases c : Fl.ltF 13837628693406821656 x
  · rw [c] at o1
    clear c o2
    go_enter Try.func37, Try.ntmps37
    go_wp2_with (go_at_call 11; refine (pi_any _).mono ?_; rintro e' w ⟨rfl, rfl⟩)
    go_ret
    exact ⟨rfl, rfl⟩
  · rw [c] at o1
    clear c
    generalize Fl.leF x 4614256656552045848 = b at *
    go_enter Try.func37, Try.ntmps37
    go_wp2_with (go_at_call 11; refine (pi_any _).mono ?_; rintro e' w ⟨rfl, rfl⟩)
    go_ret
    exact ⟨by cases b <;> rfl, rfl⟩
theorem last_wr {u z : Nat} (h : z = if wrB u = true then u else 4614256656552045848) : lastR u z := by
  unfold lastR
  unfold wrB at h
  cases hn : Fl.nan u
  · rw [le_lt (by decide) hn] at h
    cases a : Fl.ltF 13837628693406821656 u <;> cases b : Fl.ltF 4614256656552045848 u <;> rw [a, b] at h <;> simp at h ⊢ <;> exact h
  · have e1 : Fl.ltF 13837628693406821656 u = false := by unfold Fl.ltF; rw [hn]; simp
    have e2 : Fl.ltF 4614256656552045848 u = false := by unfold Fl.ltF; rw [hn]; simp
    rw [e1] at h
    rw [e1, e2]
    simp at h ⊢
    exact h
/-- what the program's one circle to or fro comes to -/
theorem once_up {y u : Nat} (c : Fl.ltF 4614256656552045848 y = true) (h : ∃ d, opR .sub y 4618760256179416344 d ∧ opR .sub d 4373459396149402631 u) : onceR y u := by
  unfold onceR; rw [if_pos c]; exact h
theorem once_down {y u : Nat} (c1 : Fl.ltF 4614256656552045848 y = false) (c : Fl.leF y 13837628693406821656 = true) (h : ∃ d, opR .add y 4618760256179416344 d ∧ opR .add d 4373459396149402631 u) : onceR y u := by
  have hn : Fl.nan y = false := by
    unfold Fl.leF at c
    rw [Bool.and_eq_true, Bool.and_eq_true] at c
    simpa using c.1.1
  rw [le_lt (by decide) hn] at c
  unfold onceR; rw [if_neg (by rw [c1]; decide), if_neg (by rw [Bool.not_eq_true'] at c; rw [c]; decide)]; exact h
theorem once_stay {y z : Nat} (w : World) (c1 : Fl.ltF 4614256656552045848 y = false) (c : Fl.leF y 13837628693406821656 = false) (h : z = if wrB y = true then y else 4614256656552045848) : ∃ u, onceR y u ∧ lastR u z := by
  cases hn : Fl.nan y
  · rw [le_lt (by decide) hn] at c
    refine ⟨y, ?_, last_wr h⟩
    unfold onceR; rw [if_neg (by rw [c1]; decide), if_pos (by simpa using c)]
  · obtain ⟨d, _, hd, _, _⟩ := op_run .add isAdd y 4618760256179416344 w
    obtain ⟨u, _, hu, _, _⟩ := op_run .add isAdd d 4373459396149402631 w
    have nu := hu.nan (nan_left _ isAdd (hd.nan (nan_left _ isAdd hn)))
    have e0 : Fl.ltF 13837628693406821656 y = false := by unfold Fl.ltF; rw [hn]; simp
    refine ⟨u, ?_, ?_⟩
    · unfold onceR; rw [if_neg (by rw [c1]; decide), if_neg (by rw [e0]; decide)]; exact ⟨d, hd, hu⟩
    · unfold wrB at h
      rw [e0] at h
      have e1 : Fl.ltF 13837628693406821656 u = false := by unfold Fl.ltF; rw [nu]; simp
      have e2 : Fl.ltF 4614256656552045848 u = false := by unfold Fl.ltF; rw [nu]; simp
      unfold lastR
      rw [e1, e2]
      simp at h ⊢
      exact h
set_option maxHeartbeats 8000000 in
theorem wrap_any (x : Nat) (w : World) (hx : x < 18446744073709551616) : Calls Try.prog 13 #[.float .f64 x] w fun e w' => ∃ z, e = .returned (.float .f64 z) ∧ wraR x z ∧ Bw w w' := by
  have FI : Hid (∀ wz, Calls Try.prog 28 #[.float .f64 x] wz fun e w' => e = .returned (.bool (fitB x)) ∧ w' = wz) := fun wz => fit5_any x wz hx
  have WX : Hid (∀ wz, Calls Try.prog 37 #[.float .f64 x] wz fun e w' => e = .returned (.bool (wrB x)) ∧ w' = wz) := fun wz => wrapped_any x wz
  have hn : Op.negFloat .f64 4614256656552045848 = 13837628693406821656 := by decide
  cases c : fitB x
  · rw [c] at FI
    have HF : Hid (wraR x 9221120237041090561) := by show wraR _ _; unfold wraR; rw [if_neg (by rw [c]; decide)]; decide
    clear c WX
    go_enter Try.func13, Try.ntmps13
    go_wp2_with (first | (go_at_call 28; refine (FI.out _).mono ?_; rintro e' w ⟨rfl, rfl⟩) | (go_at_call 29; refine (nan5_any _).mono ?_; rintro e' w ⟨rfl, rfl⟩))
    go_ret
    exact ⟨_, rfl, HF.out, Bw.refl _⟩
  · rw [c] at FI
    cases c1 : wrB x
    · obtain ⟨p, w1, hp, e1, b1⟩ := op_run .mul isMul x 4594902181429758083 w
      have np := fol_p (by decide) (fit_rg hx c).2 hp
      have hwh := whR_num p hp.1 np
      have WH : Hid (∀ wz, Calls Try.prog 30 #[.float .f64 p] wz fun e w' => e = .returned (.float .f64 (Fl.whF p)) ∧ w' = wz) := fun wz => whole_num p wz np
      generalize Fl.whF p = m at *
      have LS : Hid (∀ wz, Calls Try.prog 32 #[.float .f64 x, .float .f64 m, .float .f64 4616189618054758400] wz fun e w' => ∃ y, e = .returned (.float .f64 y) ∧ lesR x m 4618760256179142656 4463265559871488000 4306313749964259328 y ∧ Bw wz w') := fun wz => les5_any x m 4616189618054758400 4618760256179142656 4463265559871488000 4306313749964259328 wz (by decide +kernel) (by decide +kernel) (by decide +kernel)
      have HW : Hid (∀ y u z, lesR x m 4618760256179142656 4463265559871488000 4306313749964259328 y → onceR y u → lastR u z → wraR x z) := by
        intro y u z h1 h2 h3
        unfold wraR
        rw [if_pos c, if_neg (by unfold wrB at c1; rw [c1]; decide)]
        exact ⟨m, y, u, ⟨p, hp, hwh⟩, h1, h2, h3⟩
      rw [c1] at WX
      have rhh := fun (ty : TypeId) w => run_float_arith (P := Try.prog) w .mul ty .f64 4611686018427387904 4614256656552045848 4618760256179416344 (by decide +kernel)
      have rll := fun (ty : TypeId) w => run_float_arith (P := Try.prog) w .mul ty .f64 4611686018427387904 4368955796522032135 4373459396149402631 (by decide +kernel)
      clear c c1 hp hwh np
      go_enter Try.func13, Try.ntmps13
      go_wp2_with (first | (go_at_call 28; refine (FI.out _).mono ?_; rintro e' w ⟨rfl, rfl⟩) | (go_at_call 37; refine (WX.out _).mono ?_; rintro e' w ⟨rfl, rfl⟩) | (go_at_call 11; refine (pi_any _).mono ?_; rintro e' w ⟨rfl, rfl⟩) | (go_at_call 31; refine (from_any 4594902181429758083 _).mono ?_; rintro e' w ⟨rfl, rfl⟩) | (go_at_call 30; refine (WH.out _).mono ?_; rintro e' w1 ⟨rfl, rfl⟩) | fail)
      refine (LS.out _).mono ?_
      rintro e w2 ⟨y, rfl, hy, b2⟩
      have B := bw_trans b1 b2
      have HU : Hid (∀ u z, onceR y u → lastR u z → wraR x z) := fun u z h1 h2 => HW.out y u z hy h1 h2
      clear HW hy b1 b2 LS WH FI WX
      have o3 := Fl.o_gt y 4614256656552045848
      have o4 := Fl.o_le y 13837628693406821656
      cases k1 : Fl.ltF 4614256656552045848 y
      · rw [k1] at o3
        cases k2 : Fl.leF y 13837628693406821656
        · rw [k2] at o4
          have HV : Hid (∀ z, z = (if wrB y = true then y else 4614256656552045848) → wraR x z) := fun z hz => by
            obtain ⟨u, h1, h2⟩ := once_stay w2 k1 k2 hz
            exact HU.out u z h1 h2
          clear HU k1 k2
          go_wp2_with fail
          refine (wrapped_any y _).mono ?_
          rintro e' w2 ⟨rfl, rfl⟩
          cases k3 : wrB y
          · have HF : Hid (wraR x 4614256656552045848) := HV.out _ (by rw [k3]; rfl)
            clear HV k3
            go_wp2
            go_ret
            exact ⟨_, rfl, HF.out, B⟩
          · have HF : Hid (wraR x y) := HV.out _ (by rw [k3]; rfl)
            clear HV k3
            go_wp2
            go_ret
            exact ⟨_, rfl, HF.out, B⟩
        · rw [k2] at o4
          obtain ⟨d, w3, hd, e3, b3⟩ := op_run .add isAdd y 4618760256179416344 w2
          obtain ⟨u, w4, hu, e4, b4⟩ := op_run .add isAdd d 4373459396149402631 w3
          have B2 := bw_trans (bw_trans B b3) b4
          have HV : Hid (∀ z, z = (if wrB u = true then u else 4614256656552045848) → wraR x z) := fun z hz => HU.out u z (once_down k1 k2 ⟨d, hd, hu⟩) (last_wr hz)
          clear HU k1 k2 hd hu b3 b4 B
          go_wp2_with fail
          refine (wrapped_any u _).mono ?_
          rintro e' w4 ⟨rfl, rfl⟩
          cases k3 : wrB u
          · have HF : Hid (wraR x 4614256656552045848) := HV.out _ (by rw [k3]; rfl)
            clear HV k3
            go_wp2
            go_ret
            exact ⟨_, rfl, HF.out, B2⟩
          · have HF : Hid (wraR x u) := HV.out _ (by rw [k3]; rfl)
            clear HV k3
            go_wp2
            go_ret
            exact ⟨_, rfl, HF.out, B2⟩
      · rw [k1] at o3
        obtain ⟨d, w3, hd, e3, b3⟩ := op_run .sub isSub y 4618760256179416344 w2
        obtain ⟨u, w4, hu, e4, b4⟩ := op_run .sub isSub d 4373459396149402631 w3
        have B2 := bw_trans (bw_trans B b3) b4
        have HV : Hid (∀ z, z = (if wrB u = true then u else 4614256656552045848) → wraR x z) := fun z hz => HU.out u z (once_up k1 ⟨d, hd, hu⟩) (last_wr hz)
        clear HU k1 hd hu b3 b4 B o4
        go_wp2_with fail
        refine (wrapped_any u _).mono ?_
        rintro e' w4 ⟨rfl, rfl⟩
        cases k3 : wrB u
        · have HF : Hid (wraR x 4614256656552045848) := HV.out _ (by rw [k3]; rfl)
          clear HV k3
          go_wp2
          go_ret
          exact ⟨_, rfl, HF.out, B2⟩
        · have HF : Hid (wraR x u) := HV.out _ (by rw [k3]; rfl)
          clear HV k3
          go_wp2
          go_ret
          exact ⟨_, rfl, HF.out, B2⟩
    · rw [c1] at WX
      have HF : Hid (wraR x x) := by show wraR _ _; unfold wraR; rw [if_pos c, if_pos (by unfold wrB at c1; exact c1)]
      clear c c1
      go_enter Try.func13, Try.ntmps13
      go_wp2_with (first | (go_at_call 28; refine (FI.out _).mono ?_; rintro e' w ⟨rfl, rfl⟩) | (go_at_call 37; refine (WX.out _).mono ?_; rintro e' w ⟨rfl, rfl⟩))
      go_ret
      exact ⟨_, rfl, HF.out, Bw.refl _⟩
end Go.Proofs.Ytdpkhcijkepdiaa
