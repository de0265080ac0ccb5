/-
  OWN TEXT: package elem is alive (eddylaw04.alive); the chapter's examples (the law ElemNames).
-/
import Derived.Test.YthcohikeomkmeaaEvA
namespace Go.Proofs.Ythcohikeomkmeaa
open Go.ChangeShapes Go.WideShapes Go.ChangeAt Go.RowKit
set_option linter.unusedVariables false
attribute [local go_sem] frombits_call tobits_call run_neg
theorem exp_0 : expV 9223372036854775808 = some 4607182418800017408 := by decide +kernel
theorem exp_c0 (w : World) : Calls Try.prog 10 #[.float .f64 9223372036854775808] w fun e w' => e = .returned (.float .f64 4607182418800017408) ∧ Bw w w' := exp_at _ _ exp_0 w (by decide)
theorem exp_1 : expV 4649456441864749056 = some 9218868437227405312 := by decide +kernel
theorem exp_c1 (w : World) : Calls Try.prog 10 #[.float .f64 4649456441864749056] w fun e w' => e = .returned (.float .f64 9218868437227405312) ∧ Bw w w' := exp_at _ _ exp_1 w (by decide)
theorem exp_2 : expV 13873145138068324352 = some 0 := by decide +kernel
theorem exp_c2 (w : World) : Calls Try.prog 10 #[.float .f64 13873145138068324352] w fun e w' => e = .returned (.float .f64 0) ∧ Bw w w' := exp_at _ _ exp_2 w (by decide)
theorem exp_3 : expV 18442240474082181120 = some 0 := by decide +kernel
theorem exp_c3 (w : World) : Calls Try.prog 10 #[.float .f64 18442240474082181120] w fun e w' => e = .returned (.float .f64 0) ∧ Bw w w' := exp_at _ _ exp_3 w (by decide)
theorem exp_4 : expV 9218868437227405312 = some 9218868437227405312 := by decide +kernel
theorem exp_c4 (w : World) : Calls Try.prog 10 #[.float .f64 9218868437227405312] w fun e w' => e = .returned (.float .f64 9218868437227405312) ∧ Bw w w' := exp_at _ _ exp_4 w (by decide)
theorem exp_5 : expV 0 = some 4607182418800017408 := by decide +kernel
theorem exp_c5 (w : World) : Calls Try.prog 10 #[.float .f64 0] w fun e w' => e = .returned (.float .f64 4607182418800017408) ∧ Bw w w' := exp_at _ _ exp_5 w (by decide)
theorem exp_6 : expV 4607182418800017408 = some 4613303445314885482 := by decide +kernel
theorem exp_c6 (w : World) : Calls Try.prog 10 #[.float .f64 4607182418800017408] w fun e w' => e = .returned (.float .f64 4613303445314885482) ∧ Bw w w' := exp_at _ _ exp_6 w (by decide)
theorem log_0 : logV 4607182418800017408 = some 0 := by decide +kernel
theorem log_c0 (w : World) : Calls Try.prog 13 #[.float .f64 4607182418800017408] w fun e w' => e = .returned (.float .f64 0) ∧ Bw w w' := log_at _ _ log_0 w (by decide)
theorem log_1 : logV 0 = some 18442240474082181120 := by decide +kernel
theorem log_c1 (w : World) : Calls Try.prog 13 #[.float .f64 0] w fun e w' => e = .returned (.float .f64 18442240474082181120) ∧ Bw w w' := log_at _ _ log_1 w (by decide)
theorem log_2 : logV 9223372036854775808 = some 18442240474082181120 := by decide +kernel
theorem log_c2 (w : World) : Calls Try.prog 13 #[.float .f64 9223372036854775808] w fun e w' => e = .returned (.float .f64 18442240474082181120) ∧ Bw w w' := log_at _ _ log_2 w (by decide)
theorem log_3 : logV 4611686018427387904 = some 4604418534313441775 := by decide +kernel
theorem log_c3 (w : World) : Calls Try.prog 13 #[.float .f64 4611686018427387904] w fun e w' => e = .returned (.float .f64 4604418534313441775) ∧ Bw w w' := log_at _ _ log_3 w (by decide)
theorem log_4 : logV 4602678819172646912 = some 13827790571168217583 := by decide +kernel
theorem log_c4 (w : World) : Calls Try.prog 13 #[.float .f64 4602678819172646912] w fun e w' => e = .returned (.float .f64 13827790571168217583) ∧ Bw w w' := log_at _ _ log_4 w (by decide)
theorem log_5 : logV 9218868437227405312 = some 9218868437227405312 := by decide +kernel
theorem log_c5 (w : World) : Calls Try.prog 13 #[.float .f64 9218868437227405312] w fun e w' => e = .returned (.float .f64 9218868437227405312) ∧ Bw w w' := log_at _ _ log_5 w (by decide)
theorem log_6 : logV 4621819117588971520 = some 4612367379483415830 := by decide +kernel
theorem log_c6 (w : World) : Calls Try.prog 13 #[.float .f64 4621819117588971520] w fun e w' => e = .returned (.float .f64 4612367379483415830) ∧ Bw w w' := log_at _ _ log_6 w (by decide)
theorem less_0 : lessV 0 = some 0 := by decide +kernel
theorem less_c0 (w : World) : Calls Try.prog 14 #[.float .f64 0] w fun e w' => e = .returned (.float .f64 0) ∧ Bw w w' := less_at _ _ less_0 w (by decide)
theorem less_1 : lessV 9223372036854775808 = some 9223372036854775808 := by decide +kernel
theorem less_c1 (w : World) : Calls Try.prog 14 #[.float .f64 9223372036854775808] w fun e w' => e = .returned (.float .f64 9223372036854775808) ∧ Bw w w' := less_at _ _ less_1 w (by decide)
theorem less_2 : lessV 18442240474082181120 = some 13830554455654793216 := by decide +kernel
theorem less_c2 (w : World) : Calls Try.prog 14 #[.float .f64 18442240474082181120] w fun e w' => e = .returned (.float .f64 13830554455654793216) ∧ Bw w w' := less_at _ _ less_2 w (by decide)
theorem more_0 : moreV 9223372036854775808 = some 9223372036854775808 := by decide +kernel
theorem more_c0 (w : World) : Calls Try.prog 15 #[.float .f64 9223372036854775808] w fun e w' => e = .returned (.float .f64 9223372036854775808) ∧ Bw w w' := more_at _ _ more_0 w (by decide)
theorem more_1 : moreV 13830554455654793216 = some 18442240474082181120 := by decide +kernel
theorem more_c1 (w : World) : Calls Try.prog 15 #[.float .f64 13830554455654793216] w fun e w' => e = .returned (.float .f64 18442240474082181120) ∧ Bw w w' := more_at _ _ more_1 w (by decide)
theorem more_2 : moreV 9218868437227405312 = some 9218868437227405312 := by decide +kernel
theorem more_c2 (w : World) : Calls Try.prog 15 #[.float .f64 9218868437227405312] w fun e w' => e = .returned (.float .f64 9218868437227405312) ∧ Bw w w' := more_at _ _ more_2 w (by decide)
theorem cosh_0 : coshV 0 = some 4607182418800017408 := by decide +kernel
theorem cosh_c0 (w : World) : Calls Try.prog 16 #[.float .f64 0] w fun e w' => e = .returned (.float .f64 4607182418800017408) ∧ Bw w w' := cosh_at _ _ cosh_0 w (by decide)
theorem cosh_1 : coshV 18442240474082181120 = some 9218868437227405312 := by decide +kernel
theorem cosh_c1 (w : World) : Calls Try.prog 16 #[.float .f64 18442240474082181120] w fun e w' => e = .returned (.float .f64 9218868437227405312) ∧ Bw w w' := cosh_at _ _ cosh_1 w (by decide)
theorem sinh_0 : sinhV 9223372036854775808 = some 9223372036854775808 := by decide +kernel
theorem sinh_c0 (w : World) : Calls Try.prog 17 #[.float .f64 9223372036854775808] w fun e w' => e = .returned (.float .f64 9223372036854775808) ∧ Bw w w' := sinh_at _ _ sinh_0 w (by decide)
theorem sinh_1 : sinhV 18442240474082181120 = some 18442240474082181120 := by decide +kernel
theorem sinh_c1 (w : World) : Calls Try.prog 17 #[.float .f64 18442240474082181120] w fun e w' => e = .returned (.float .f64 18442240474082181120) ∧ Bw w w' := sinh_at _ _ sinh_1 w (by decide)
theorem exp_none (w : World) : Calls Try.prog 10 #[.float .f64 9221120237041090561] w fun e w' => ∃ y, e = .returned (.float .f64 y) ∧ Fl.nan y = true ∧ Bw w w' :=
  (exp_any _ w (by decide)).mono fun e w' ⟨y, h1, h2, h3⟩ => ⟨y, h1, by have := h2.2; rw [if_pos (by decide)] at this; exact this, h3⟩
theorem log_none1 (w : World) : Calls Try.prog 13 #[.float .f64 13830554455654793216] w fun e w' => ∃ y, e = .returned (.float .f64 y) ∧ Fl.nan y = true ∧ Bw w w' :=
  (log_any _ w (by decide)).mono fun e w' ⟨y, h1, h2, h3⟩ => ⟨y, h1, logR.low (by decide) h2, h3⟩
theorem log_none2 (w : World) : Calls Try.prog 13 #[.float .f64 18442240474082181120] w fun e w' => ∃ y, e = .returned (.float .f64 y) ∧ Fl.nan y = true ∧ Bw w w' :=
  (log_any _ w (by decide)).mono fun e w' ⟨y, h1, h2, h3⟩ => ⟨y, h1, logR.low (by decide) h2, h3⟩
theorem more_none (w : World) : Calls Try.prog 15 #[.float .f64 13835058055282163712] w fun e w' => ∃ y, e = .returned (.float .f64 y) ∧ Fl.nan y = true ∧ Bw w w' :=
  (more_any _ w (by decide)).mono fun e w' ⟨y, h1, h2, h3⟩ => ⟨y, h1, by unfold moreR at h2; rw [if_pos (by decide)] at h2; exact h2, h3⟩
theorem sinh_none (w : World) : Calls Try.prog 17 #[.float .f64 9221120237041090561] w fun e w' => ∃ y, e = .returned (.float .f64 y) ∧ Fl.nan y = true ∧ Bw w w' :=
  (sinh_any _ w (by decide)).mono fun e w' ⟨y, h1, h2, h3⟩ => ⟨y, h1, by unfold sinhR at h2; rw [if_pos (by decide)] at h2; exact h2, h3⟩
theorem cosh_none (w : World) : Calls Try.prog 16 #[.float .f64 9221120237041090561] w fun e w' => ∃ y, e = .returned (.float .f64 y) ∧ Fl.nan y = true ∧ Bw w w' :=
  (cosh_any _ w (by decide)).mono fun e w' ⟨y, h1, h2, h3⟩ => ⟨y, h1, by
    obtain ⟨a, b, s, k1, _, k3, k4⟩ := h2
    have ka := k1.2
    rw [if_pos (by decide)] at ka
    exact k4.nan (nan_left .mul (Or.inr (Or.inr (Or.inl rfl))) (k3.nan (nan_left .add (Or.inl rfl) ka))), h3⟩
theorem isnan_yes {y : Nat} (h : Fl.nan y = true) (w : World) : Calls Try.prog 12 #[.float .f64 y] w fun e w' => e = .returned (.bool true) ∧ w' = w := by
  have k := isNaN_any y w
  rw [h] at k
  exact k
set_option maxHeartbeats 4000000 in
theorem alive4_any (w : World) : Calls Try.prog 18 #[] w fun e w' => e = .returned (.bool true) ∧ Bw w w' := by
  have G : Bw w w := Bw.refl w
  have q1 : (FloatKind.f64.format.order 4607182418800017408 4607182418800017408 == some .eq) = true := by decide
  have q2 : (FloatKind.f64.format.order 0 0 == some .eq) = true := by decide
  have q3 : (FloatKind.f64.format.order 4613303445314885482 4613302810693613912 == some .gt) = true := by decide
  have q4 : (FloatKind.f64.format.order 4613303445314885482 4613305062493427597 == some .lt) = true := by decide
  have q5 : (FloatKind.f64.format.order 4612367379483415830 4612366061971120849 == some .gt) = true := by decide
  have q6 : (FloatKind.f64.format.order 4612367379483415830 4612368313770934534 == some .lt) = true := by decide
  go_enter Try.func18, Try.ntmps18
  go_wp2_with fail
  refine (exp_c5 _).mono ?_
  rintro e' w9 ⟨rfl, b9⟩
  replace G := bw_trans G b9
  clear b9
  go_wp2_with fail
  refine (log_c0 _).mono ?_
  rintro e' w9 ⟨rfl, b9⟩
  replace G := bw_trans G b9
  clear b9
  go_wp2_with fail
  refine (exp_c6 _).mono ?_
  rintro e' w9 ⟨rfl, b9⟩
  replace G := bw_trans G b9
  clear b9
  go_wp2_with fail
  refine (exp_c6 _).mono ?_
  rintro e' w9 ⟨rfl, b9⟩
  replace G := bw_trans G b9
  clear b9
  go_wp2_with fail
  refine (log_c6 _).mono ?_
  rintro e' w9 ⟨rfl, b9⟩
  replace G := bw_trans G b9
  clear b9
  go_wp2_with fail
  refine (log_c6 _).mono ?_
  rintro e' w9 ⟨rfl, b9⟩
  replace G := bw_trans G b9
  clear b9
  go_wp2
  go_ret
  exact ⟨rfl, G⟩
end Go.Proofs.Ythcohikeomkmeaa
