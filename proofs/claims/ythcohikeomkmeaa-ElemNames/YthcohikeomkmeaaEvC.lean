/-
  OWN TEXT: the chapter's examples (the law ElemNames).
-/
import Derived.Test.YthcohikeomkmeaaEvB
import Derived.Test.YthcohikeomkmeaaFnEq
namespace Go.Proofs.Ythcohikeomkmeaa
open Go.ChangeShapes Go.WideShapes Go.ChangeAt Go.RowKit
set_option linter.unusedVariables false
attribute [local go_sem] frombits_call tobits_call run_neg
theorem copy_mz (w : World) : Calls Try.prog 8 #[.float .f64 0, .float .f64 13830554455654793216] w fun e w' => e = .returned (.float .f64 9223372036854775808) ∧ w' = w := copysign_any 0 13830554455654793216 w (by decide) (by decide)
theorem nought_plus (w : World) : Calls Try.prog 11 #[.float .f64 0, .bool false] w fun e w' => e = .returned (.bool true) ∧ w' = w := by
  have q : (FloatKind.f64.format.order 0 0 == some .eq) = true := by decide
  have S : Hid (∀ wz, Calls Try.prog 33 #[.float .f64 0] wz fun e w' => e = .returned (.bool false) ∧ w' = wz) := fun wz => signbit_any 0 wz (by decide)
  go_enter Try.func11, Try.ntmps11
  go_wp2_with (go_at_call 33; refine (S.out _).mono ?_; rintro e w ⟨rfl, rfl⟩)
  go_ret
  exact ⟨rfl, rfl⟩
theorem nought_minus (w : World) : Calls Try.prog 11 #[.float .f64 9223372036854775808, .bool true] w fun e w' => e = .returned (.bool true) ∧ w' = w := by
  have q : (FloatKind.f64.format.order 9223372036854775808 0 == some .eq) = true := by decide
  have S : Hid (∀ wz, Calls Try.prog 33 #[.float .f64 9223372036854775808] wz fun e w' => e = .returned (.bool true) ∧ w' = wz) := fun wz => signbit_any 9223372036854775808 wz (by decide)
  go_enter Try.func11, Try.ntmps11
  go_wp2_with (go_at_call 33; refine (S.out _).mono ?_; rintro e w ⟨rfl, rfl⟩)
  go_ret
  exact ⟨rfl, rfl⟩
set_option maxHeartbeats 8000000 in
set_option maxRecDepth 100000 in
theorem elemnames_any (w0 : World) : Calls Try.prog 3 #[] w0 fun e w' => e = .returned (.bool true) ∧ Below w0.heap.size w0 w' := by
  have G : Bw w0 w0 := Bw.refl w0
  have q0 : (FloatKind.f64.format.order 4607182418800017408 4607182418800017408 == some .eq) = true := by decide
  have q1 : (FloatKind.f64.format.order 9218868437227405312 9218868437227405312 == some .eq) = true := by decide
  have q2 : (FloatKind.f64.format.order 18442240474082181120 18442240474082181120 == some .eq) = true := by decide
  have q3 : (FloatKind.f64.format.order 4604418534313441775 4604418534313441775 == some .eq) = true := by decide
  have q4 : (FloatKind.f64.format.order 13827790571168217583 13827790571168217583 == some .eq) = true := by decide
  have q5 : (FloatKind.f64.format.order 13830554455654793216 13830554455654793216 == some .eq) = true := by decide
  have h1 : Op.negFloat .f64 9218868437227405312 = 18442240474082181120 := by decide
  have h2 : Op.negFloat .f64 4604418534311723008 = 13827790571166498816 := by decide
  have h3 : Op.negFloat .f64 4461442080421002358 = 13684814117275778166 := by decide
  have a1 := fun (t : TypeId) w => run_float_arith (P := Try.prog) w .add t .f64 4604418534311723008 4461442080421002358 4604418534313441775 (by decide +kernel)
  have a2 := fun (t : TypeId) w => run_float_arith (P := Try.prog) w .add t .f64 13827790571166498816 13684814117275778166 13827790571168217583 (by decide +kernel)
  go_enter Try.func3, Try.ntmps3
  go_wp2_with fail
  refine (infp_ret _).mono ?_
  rintro e' w9 ⟨rfl, hw9⟩
  subst hw9
  go_wp2_with fail
  refine (nan_ret _).mono ?_
  rintro e' w9 ⟨rfl, hw9⟩
  subst hw9
  go_wp2_with fail
  refine (copy_mz _).mono ?_
  rintro e' w9 ⟨rfl, hw9⟩
  subst hw9
  go_wp2_with fail
  refine (two_any _).mono ?_
  rintro e' w9 ⟨rfl, hw9⟩
  subst hw9
  go_wp2_with fail
  refine (exp_c0 _).mono ?_
  rintro e' w9 ⟨rfl, b9⟩
  replace G := bw_trans G b9
  clear b9
  go_wp2_with fail
  refine (exp_c1 _).mono ?_
  rintro e' w9 ⟨rfl, b9⟩
  replace G := bw_trans G b9
  clear b9
  go_wp2_with fail
  refine (exp_c2 _).mono ?_
  rintro e' w9 ⟨rfl, b9⟩
  replace G := bw_trans G b9
  clear b9
  go_wp2_with fail
  refine (nought_plus _).mono ?_
  rintro e' w9 ⟨rfl, hw9⟩
  subst hw9
  go_wp2_with fail
  refine (exp_c3 _).mono ?_
  rintro e' w9 ⟨rfl, b9⟩
  replace G := bw_trans G b9
  clear b9
  go_wp2_with fail
  refine (nought_plus _).mono ?_
  rintro e' w9 ⟨rfl, hw9⟩
  subst hw9
  go_wp2_with fail
  refine (exp_none _).mono ?_
  rintro e' w9 ⟨y1, rfl, n1, b9⟩
  replace G := bw_trans G b9
  clear b9
  go_wp2_with fail
  refine (isnan_yes n1 _).mono ?_
  rintro e' w9 ⟨rfl, hw9⟩
  subst hw9
  clear n1
  go_wp2_with fail
  refine (exp_c4 _).mono ?_
  rintro e' w9 ⟨rfl, b9⟩
  replace G := bw_trans G b9
  clear b9
  go_wp2_with fail
  refine (log_c0 _).mono ?_
  rintro e' w9 ⟨rfl, b9⟩
  replace G := bw_trans G b9
  clear b9
  go_wp2_with fail
  refine (nought_plus _).mono ?_
  rintro e' w9 ⟨rfl, hw9⟩
  subst hw9
  go_wp2_with fail
  refine (log_c1 _).mono ?_
  rintro e' w9 ⟨rfl, b9⟩
  replace G := bw_trans G b9
  clear b9
  go_wp2_with fail
  refine (log_c2 _).mono ?_
  rintro e' w9 ⟨rfl, b9⟩
  replace G := bw_trans G b9
  clear b9
  go_wp2_with fail
  refine (log_none1 _).mono ?_
  rintro e' w9 ⟨y2, rfl, n2, b9⟩
  replace G := bw_trans G b9
  clear b9
  go_wp2_with fail
  refine (isnan_yes n2 _).mono ?_
  rintro e' w9 ⟨rfl, hw9⟩
  subst hw9
  clear n2
  go_wp2_with fail
  refine (log_c3 _).mono ?_
  rintro e' w9 ⟨rfl, b9⟩
  replace G := bw_trans G b9
  clear b9
  go_wp2_with fail
  refine (log_c4 _).mono ?_
  rintro e' w9 ⟨rfl, b9⟩
  replace G := bw_trans G b9
  clear b9
  go_wp2_with fail
  refine (log_c5 _).mono ?_
  rintro e' w9 ⟨rfl, b9⟩
  replace G := bw_trans G b9
  clear b9
  go_wp2_with fail
  refine (log_none2 _).mono ?_
  rintro e' w9 ⟨y3, rfl, n3, b9⟩
  replace G := bw_trans G b9
  clear b9
  go_wp2_with fail
  refine (isnan_yes n3 _).mono ?_
  rintro e' w9 ⟨rfl, hw9⟩
  subst hw9
  clear n3
  go_wp2_with fail
  refine (less_c0 _).mono ?_
  rintro e' w9 ⟨rfl, b9⟩
  replace G := bw_trans G b9
  clear b9
  go_wp2_with fail
  refine (nought_plus _).mono ?_
  rintro e' w9 ⟨rfl, hw9⟩
  subst hw9
  go_wp2_with fail
  refine (less_c1 _).mono ?_
  rintro e' w9 ⟨rfl, b9⟩
  replace G := bw_trans G b9
  clear b9
  go_wp2_with fail
  refine (nought_minus _).mono ?_
  rintro e' w9 ⟨rfl, hw9⟩
  subst hw9
  go_wp2_with fail
  refine (less_c2 _).mono ?_
  rintro e' w9 ⟨rfl, b9⟩
  replace G := bw_trans G b9
  clear b9
  go_wp2_with fail
  refine (more_c0 _).mono ?_
  rintro e' w9 ⟨rfl, b9⟩
  replace G := bw_trans G b9
  clear b9
  go_wp2_with fail
  refine (nought_minus _).mono ?_
  rintro e' w9 ⟨rfl, hw9⟩
  subst hw9
  go_wp2_with fail
  refine (more_c1 _).mono ?_
  rintro e' w9 ⟨rfl, b9⟩
  replace G := bw_trans G b9
  clear b9
  go_wp2_with fail
  refine (more_none _).mono ?_
  rintro e' w9 ⟨y4, rfl, n4, b9⟩
  replace G := bw_trans G b9
  clear b9
  go_wp2_with fail
  refine (isnan_yes n4 _).mono ?_
  rintro e' w9 ⟨rfl, hw9⟩
  subst hw9
  clear n4
  go_wp2_with fail
  refine (more_c2 _).mono ?_
  rintro e' w9 ⟨rfl, b9⟩
  replace G := bw_trans G b9
  clear b9
  go_wp2_with fail
  refine (cosh_c0 _).mono ?_
  rintro e' w9 ⟨rfl, b9⟩
  replace G := bw_trans G b9
  clear b9
  go_wp2_with fail
  refine (sinh_c0 _).mono ?_
  rintro e' w9 ⟨rfl, b9⟩
  replace G := bw_trans G b9
  clear b9
  go_wp2_with fail
  refine (nought_minus _).mono ?_
  rintro e' w9 ⟨rfl, hw9⟩
  subst hw9
  go_wp2_with fail
  refine (sinh_c1 _).mono ?_
  rintro e' w9 ⟨rfl, b9⟩
  replace G := bw_trans G b9
  clear b9
  go_wp2_with fail
  refine (cosh_c1 _).mono ?_
  rintro e' w9 ⟨rfl, b9⟩
  replace G := bw_trans G b9
  clear b9
  go_wp2_with fail
  refine (sinh_none _).mono ?_
  rintro e' w9 ⟨y5, rfl, n5, b9⟩
  replace G := bw_trans G b9
  clear b9
  go_wp2_with fail
  refine (isnan_yes n5 _).mono ?_
  rintro e' w9 ⟨rfl, hw9⟩
  subst hw9
  clear n5
  go_wp2_with fail
  refine (cosh_none _).mono ?_
  rintro e' w9 ⟨y6, rfl, n6, b9⟩
  replace G := bw_trans G b9
  clear b9
  go_wp2_with fail
  refine (isnan_yes n6 _).mono ?_
  rintro e' w9 ⟨rfl, hw9⟩
  subst hw9
  clear n6
  go_wp2_with fail
  refine (alive4_any _).mono ?_
  rintro e' w9 ⟨rfl, b9⟩
  replace G := bw_trans G b9
  clear b9
  go_wp2
  go_ret
  exact ⟨rfl, G⟩
end Go.Proofs.Ythcohikeomkmeaa
