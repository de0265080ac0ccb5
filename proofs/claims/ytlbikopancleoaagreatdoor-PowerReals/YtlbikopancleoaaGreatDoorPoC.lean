/-
  OWN TEXT: the reference's powers and sheets of complex numbers (eddyref07), for every number.
-/
import Derived.Test.YtlbikopancleoaaGreatDoorPoB
namespace Go.Proofs.YtlbikopancleoaaGreatDoor
open Go.ChangeShapes Go.WideShapes Go.ChangeAt Go.RowKit
open Bg
set_option linter.unusedVariables false
attribute [local go_sem] frombits_call tobits_call run_neg
theorem rscale2_any (a b p : Nat) (w : World) : Calls Tryz.prog 38 #[.complex .f64 a b, .float .f64 p] w fun e w' => ∃ x y, e = .returned (.complex .f64 x y) ∧ opR .mul a p x ∧ opR .mul b p y ∧ Bw w w' := by
  obtain ⟨x, w1, hx, e1, b1⟩ := op_run .mul isMul a p w
  obtain ⟨y, w2, hy, e2, b2⟩ := op_run .mul isMul b p w1
  have B := bw_trans b1 b2
  have HX : Hid (opR .mul a p x) := hx
  have HY : Hid (opR .mul b p y) := hy
  clear hx hy b1 b2
  go_enter Tryz.func38, Tryz.ntmps38
  go_wp2_with (go_at_call 29; refine (rof2_any _ _ _).mono ?_; rintro e' w9 ⟨rfl, hw9⟩; subst hw9)
  go_ret
  exact ⟨x, y, rfl, HX.out, HY.out, B⟩
theorem rmul2_any (p q r s : Nat) (w : World) : Calls Tryz.prog 40 #[.complex .f64 p q, .complex .f64 r s] w fun e w' => ∃ x y, e = .returned (.complex .f64 x y) ∧ cmuR p q r s x y ∧ Bw w w' := by
  obtain ⟨a, w1, ha, e1, b1⟩ := op_run .mul isMul p r w
  obtain ⟨b, w2, hb, e2, b2⟩ := op_run .mul isMul q s w1
  obtain ⟨x, w3, hx, e3, b3⟩ := op_run .sub isSub a b w2
  obtain ⟨c, w4, hc, e4, b4⟩ := op_run .mul isMul p s w3
  obtain ⟨d, w5, hd, e5, b5⟩ := op_run .mul isMul q r w4
  obtain ⟨y, w6, hy, e6, b6⟩ := op_run .add isAdd c d w5
  have B := bw_trans (bw_trans (bw_trans (bw_trans (bw_trans b1 b2) b3) b4) b5) b6
  have HM : Hid (cmuR p q r s x y) := ⟨a, b, c, d, ha, hb, hx, hc, hd, hy⟩
  clear ha hb hx hc hd hy b1 b2 b3 b4 b5 b6
  go_enter Tryz.func40, Tryz.ntmps40
  go_wp2_with (go_at_call 29; refine (rof2_any _ _ _).mono ?_; rintro e' w9 ⟨rfl, hw9⟩; subst hw9)
  go_ret
  exact ⟨x, y, rfl, HM.out, B⟩
set_option maxHeartbeats 4000000 in
theorem rcreal_any (a b p : Nat) (w : World) (ha : a < 18446744073709551616) (hb : b < 18446744073709551616) (hT : Tab w) (hw : 2 ≤ w.heap.size) : Calls Tryz.prog 13 #[.complex .f64 a b, .float .f64 p] w fun e w' => ∃ re im, e = .returned (.complex .f64 re im) ∧ creR a b p re im ∧ Bw w w' := by
  have T : Hid (Tab w) := hT
  clear hT
  have o := Fl.o_eq p 0
  cases c : Fl.eqF p 0
  · rw [c] at o
    go_enter Tryz.func13, Tryz.ntmps13
    go_wp2_with fail
    refine (rclog_any a b _ ha hb T.out hw).mono ?_
    rintro e w1 ⟨x, y, rfl, h1, b1⟩
    have H1 : Hid (cloR a b x y) := h1
    clear h1
    go_wp2_with fail
    refine (rscale2_any x y p _).mono ?_
    rintro e w2 ⟨u, v, rfl, h2, h3, b2⟩
    have B := bw_trans b1 b2
    have s := Below.size B
    have HC : Hid (∀ re im, cexR u v re im → creR a b p re im) := by
      intro re im h
      unfold creR
      rw [c, if_neg (by decide)]
      exact ⟨x, y, u, v, H1.out, h2, h3, h⟩
    have l1 := h2.1
    have l2 := h3.1
    clear h2 h3 b1 b2 H1 c
    go_wp2_with fail
    refine (rcexp_any u v _ l1 l2 (T.out.bw6 hw B) (by omega)).mono ?_
    rintro e w3 ⟨re, im, rfl, h4, _, _, b3⟩
    have B2 := bw_trans B b3
    have HF : Hid (creR a b p re im) := HC.out re im h4
    clear h4 HC b3 B T
    go_wp2
    go_ret
    exact ⟨re, im, rfl, HF.out, B2⟩
  · rw [c] at o
    have HF : Hid (creR a b p 4607182418800017408 0) := by show creR _ _ _ _ _; unfold creR; rw [if_pos c]; exact ⟨rfl, rfl⟩
    clear c
    go_enter Tryz.func13, Tryz.ntmps13
    go_wp2
    go_ret
    exact ⟨_, _, rfl, HF.out, Bw.refl _⟩
set_option maxHeartbeats 4000000 in
theorem rcpower_any (a b p q : Nat) (w : World) (ha : a < 18446744073709551616) (hb : b < 18446744073709551616) (hT : Tab w) (hw : 2 ≤ w.heap.size) : Calls Tryz.prog 15 #[.complex .f64 a b, .complex .f64 p q] w fun e w' => ∃ re im, e = .returned (.complex .f64 re im) ∧ cpoR a b p q re im ∧ Bw w w' := by
  have T : Hid (Tab w) := hT
  clear hT
  have o1 := Fl.o_eq p 0
  have o2 := Fl.o_eq q 0
  by_cases c : (Fl.eqF p 0 && Fl.eqF q 0) = true
  · have HF : Hid (cpoR a b p q 4607182418800017408 0) := by show cpoR _ _ _ _ _ _; unfold cpoR; rw [if_pos c]; exact ⟨rfl, rfl⟩
    rw [Bool.and_eq_true] at c
    rw [c.1] at o1
    rw [c.2] at o2
    clear c
    go_enter Tryz.func15, Tryz.ntmps15
    go_wp2
    go_ret
    exact ⟨_, _, rfl, HF.out, Bw.refl _⟩
  · have HC : Hid (∀ x y u v re im, cloR a b x y → cmuR p q x y u v → cexR u v re im → cpoR a b p q re im) := by
      intro x y u v re im h1 h2 h3
      unfold cpoR
      rw [if_neg c]
      exact ⟨x, y, u, v, h1, h2, h3⟩
    have ways : (FloatKind.f64.format.order p 0 == some .eq) = false ∨ ((FloatKind.f64.format.order p 0 == some .eq) = true ∧ (FloatKind.f64.format.order q 0 == some .eq) = false) := by
      rw [o1, o2]
      cases h1 : Fl.eqF p 0
      · exact Or.inl rfl
      · have h2 := Bool.eq_false_iff.2 c
        rw [h1, Bool.true_and] at h2
        exact Or.inr ⟨rfl, h2⟩
    clear c o1 o2
    rcases ways with o1 | ⟨o1, o2⟩
    · go_enter Tryz.func15, Tryz.ntmps15
      go_wp2_with fail
      refine (rclog_any a b _ ha hb T.out hw).mono ?_
      rintro e w1 ⟨x, y, rfl, h1, b1⟩
      have H1 : Hid (cloR a b x y) := h1
      clear h1
      go_wp2_with fail
      refine (rmul2_any p q x y _).mono ?_
      rintro e w2 ⟨u, v, rfl, h2, b2⟩
      have B := bw_trans b1 b2
      have s := Below.size B
      obtain ⟨l1, l2⟩ := cmu_lt h2
      have H2 : Hid (cmuR p q x y u v) := h2
      clear h2 b1 b2
      go_wp2_with fail
      refine (rcexp_any u v _ l1 l2 (T.out.bw6 hw B) (by omega)).mono ?_
      rintro e w3 ⟨re, im, rfl, h4, _, _, b3⟩
      have B2 := bw_trans B b3
      have HF : Hid (cpoR a b p q re im) := HC.out x y u v re im H1.out H2.out h4
      clear h4 HC H1 H2 b3 B T
      go_wp2
      go_ret
      exact ⟨re, im, rfl, HF.out, B2⟩
    · go_enter Tryz.func15, Tryz.ntmps15
      go_wp2_with fail
      refine (rclog_any a b _ ha hb T.out hw).mono ?_
      rintro e w1 ⟨x, y, rfl, h1, b1⟩
      have H1 : Hid (cloR a b x y) := h1
      clear h1
      go_wp2_with fail
      refine (rmul2_any p q x y _).mono ?_
      rintro e w2 ⟨u, v, rfl, h2, b2⟩
      have B := bw_trans b1 b2
      have s := Below.size B
      obtain ⟨l1, l2⟩ := cmu_lt h2
      have H2 : Hid (cmuR p q x y u v) := h2
      clear h2 b1 b2
      go_wp2_with fail
      refine (rcexp_any u v _ l1 l2 (T.out.bw6 hw B) (by omega)).mono ?_
      rintro e w3 ⟨re, im, rfl, h4, _, _, b3⟩
      have B2 := bw_trans B b3
      have HF : Hid (cpoR a b p q re im) := HC.out x y u v re im H1.out H2.out h4
      clear h4 HC H1 H2 b3 B T
      go_wp2
      go_ret
      exact ⟨re, im, rfl, HF.out, B2⟩
theorem rsame7_any {a b c d : Nat} (h1 : simR a c) (h2 : simR b d) (w : World) : Calls Tryz.prog 7 #[.complex .f64 a b, .complex .f64 c d] w fun e w' => e = .returned (.bool true) ∧ w' = w := by
  have FA : Hid (∀ wz, Calls Tryz.prog 25 #[.float .f64 a, .float .f64 c] wz fun e w' => e = .returned (.bool true) ∧ w' = wz) := fun wz => by have k := rsame_any a c wz; rw [h1.same] at k; exact k
  have FB : Hid (∀ wz, Calls Tryz.prog 25 #[.float .f64 b, .float .f64 d] wz fun e w' => e = .returned (.bool true) ∧ w' = wz) := fun wz => by have k := rsame_any b d wz; rw [h2.same] at k; exact k
  go_enter Tryz.func7, Tryz.ntmps7
  go_wp2_with fail
  refine (FA.out _).mono ?_
  rintro e' w ⟨rfl, rfl⟩
  go_wp2_with fail
  refine (FB.out _).mono ?_
  rintro e' w ⟨rfl, rfl⟩
  go_wp2
  go_ret
  exact ⟨rfl, rfl⟩
end Go.Proofs.YtlbikopancleoaaGreatDoor
