/-
  OWN TEXT: package power at the chapter's examples; it is alive (eddylaw07.alive); the law PowerNames.
-/
import Derived.Test.YtdbfhbpillgacaaPoQ
import Derived.Test.YtdbfhbpillgacaaPnV
import Derived.Test.YtdbfhbpillgacaaJnAm
namespace Go.Proofs.Ytdbfhbpillgacaa
open Go.ChangeShapes Go.WideShapes Go.ChangeAt Go.RowKit
set_option linter.unusedVariables false
attribute [local go_sem] frombits_call tobits_call run_neg
theorem cea_v : cexV 0 0 = some (4607182418800017408, 0) := by decide +kernel
theorem cea (w : World) : Calls Try.prog 12 #[.complex .f64 0 0] w fun e w' => e = .returned (.complex .f64 4607182418800017408 0) ∧ Bw w w' :=
  (cexp_any 0 0 w (by decide) (by decide)).mono fun e w' ⟨re, im, h1, h2, _, _, h3⟩ => ⟨by have k := cex_val h2 cea_v; rw [Prod.mk.injEq] at k; rw [h1, k.1, k.2], h3⟩
theorem ceb_v : cexV 0 9223372036854775808 = some (4607182418800017408, 9223372036854775808) := by decide +kernel
theorem ceb (w : World) : Calls Try.prog 12 #[.complex .f64 0 9223372036854775808] w fun e w' => e = .returned (.complex .f64 4607182418800017408 9223372036854775808) ∧ Bw w w' :=
  (cexp_any 0 9223372036854775808 w (by decide) (by decide)).mono fun e w' ⟨re, im, h1, h2, _, _, h3⟩ => ⟨by have k := cex_val h2 ceb_v; rw [Prod.mk.injEq] at k; rw [h1, k.1, k.2], h3⟩
theorem cec_v : cexV 4650248090236747776 0 = some (9218868437227405312, 0) := by decide +kernel
theorem cec (w : World) : Calls Try.prog 12 #[.complex .f64 4650248090236747776 0] w fun e w' => e = .returned (.complex .f64 9218868437227405312 0) ∧ Bw w w' :=
  (cexp_any 4650248090236747776 0 w (by decide) (by decide)).mono fun e w' ⟨re, im, h1, h2, _, _, h3⟩ => ⟨by have k := cex_val h2 cec_v; rw [Prod.mk.injEq] at k; rw [h1, k.1, k.2], h3⟩
theorem ced_v : cexV 18442240474082181120 4617315517961601024 = some (0, 9223372036854775808) := by decide +kernel
theorem ced (w : World) : Calls Try.prog 12 #[.complex .f64 18442240474082181120 4617315517961601024] w fun e w' => e = .returned (.complex .f64 0 9223372036854775808) ∧ Bw w w' :=
  (cexp_any 18442240474082181120 4617315517961601024 w (by decide) (by decide)).mono fun e w' ⟨re, im, h1, h2, _, _, h3⟩ => ⟨by have k := cex_val h2 ced_v; rw [Prod.mk.injEq] at k; rw [h1, k.1, k.2], h3⟩
theorem cee_v : cexV 4607182418800017408 0 = some (4613303445314885482, 0) := by decide +kernel
theorem cee (w : World) : Calls Try.prog 12 #[.complex .f64 4607182418800017408 0] w fun e w' => e = .returned (.complex .f64 4613303445314885482 0) ∧ Bw w w' :=
  (cexp_any 4607182418800017408 0 w (by decide) (by decide)).mono fun e w' ⟨re, im, h1, h2, _, _, h3⟩ => ⟨by have k := cex_val h2 cee_v; rw [Prod.mk.injEq] at k; rw [h1, k.1, k.2], h3⟩
theorem cla_v : cloV 4607182418800017408 0 = some (0, 0) := by decide +kernel
theorem cla (w : World) : Calls Try.prog 13 #[.complex .f64 4607182418800017408 0] w fun e w' => e = .returned (.complex .f64 0 0) ∧ Bw w w' :=
  (clog_any 4607182418800017408 0 w (by decide) (by decide)).mono fun e w' ⟨re, im, h1, h2, _, h3⟩ => ⟨by have k := clo_val h2 cla_v; rw [Prod.mk.injEq] at k; rw [h1, k.1, k.2], h3⟩
theorem clb_v : cloV 13830554455654793216 9223372036854775808 = some (0, 13837628693406821656) := by decide +kernel
theorem clb (w : World) : Calls Try.prog 13 #[.complex .f64 13830554455654793216 9223372036854775808] w fun e w' => e = .returned (.complex .f64 0 13837628693406821656) ∧ Bw w w' :=
  (clog_any 13830554455654793216 9223372036854775808 w (by decide) (by decide)).mono fun e w' ⟨re, im, h1, h2, _, h3⟩ => ⟨by have k := clo_val h2 clb_v; rw [Prod.mk.injEq] at k; rw [h1, k.1, k.2], h3⟩
theorem clc_v : cloV 0 0 = some (18442240474082181120, 0) := by decide +kernel
theorem clc (w : World) : Calls Try.prog 13 #[.complex .f64 0 0] w fun e w' => e = .returned (.complex .f64 18442240474082181120 0) ∧ Bw w w' :=
  (clog_any 0 0 w (by decide) (by decide)).mono fun e w' ⟨re, im, h1, h2, _, h3⟩ => ⟨by have k := clo_val h2 clc_v; rw [Prod.mk.injEq] at k; rw [h1, k.1, k.2], h3⟩
theorem cld_v : cloV 0 4611686018427387904 = some (4604418534313441775, 4609753056924675352) := by decide +kernel
theorem cld (w : World) : Calls Try.prog 13 #[.complex .f64 0 4611686018427387904] w fun e w' => e = .returned (.complex .f64 4604418534313441775 4609753056924675352) ∧ Bw w w' :=
  (clog_any 0 4611686018427387904 w (by decide) (by decide)).mono fun e w' ⟨re, im, h1, h2, _, h3⟩ => ⟨by have k := clo_val h2 cld_v; rw [Prod.mk.injEq] at k; rw [h1, k.1, k.2], h3⟩
theorem cle_v : cloV 13830554455654793216 0 = some (0, 4614256656552045848) := by decide +kernel
theorem cle (w : World) : Calls Try.prog 13 #[.complex .f64 13830554455654793216 0] w fun e w' => e = .returned (.complex .f64 0 4614256656552045848) ∧ Bw w w' :=
  (clog_any 13830554455654793216 0 w (by decide) (by decide)).mono fun e w' ⟨re, im, h1, h2, _, h3⟩ => ⟨by have k := clo_val h2 cle_v; rw [Prod.mk.injEq] at k; rw [h1, k.1, k.2], h3⟩
theorem cra_v : creV 9221120237041090561 0 0 = some (4607182418800017408, 0) := by decide +kernel
theorem cra (w : World) : Calls Try.prog 16 #[.complex .f64 9221120237041090561 0, .float .f64 0] w fun e w' => e = .returned (.complex .f64 4607182418800017408 0) ∧ Bw w w' :=
  (creal_any 9221120237041090561 0 0 w (by decide) (by decide)).mono fun e w' ⟨re, im, h1, h2, h3⟩ => ⟨by have k := cre_val h2 cra_v; rw [Prod.mk.injEq] at k; rw [h1, k.1, k.2], h3⟩
theorem crb_v : creV 0 0 4611686018427387904 = some (0, 0) := by decide +kernel
theorem crb (w : World) : Calls Try.prog 16 #[.complex .f64 0 0, .float .f64 4611686018427387904] w fun e w' => e = .returned (.complex .f64 0 0) ∧ Bw w w' :=
  (creal_any 0 0 4611686018427387904 w (by decide) (by decide)).mono fun e w' ⟨re, im, h1, h2, h3⟩ => ⟨by have k := cre_val h2 crb_v; rw [Prod.mk.injEq] at k; rw [h1, k.1, k.2], h3⟩
theorem crc_v : creV 0 4607182418800017408 4602678819172646912 = some (4604544271217802189, 4604544271217802188) := by decide +kernel
theorem crc (w : World) : Calls Try.prog 16 #[.complex .f64 0 4607182418800017408, .float .f64 4602678819172646912] w fun e w' => e = .returned (.complex .f64 4604544271217802189 4604544271217802188) ∧ Bw w w' :=
  (creal_any 0 4607182418800017408 4602678819172646912 w (by decide) (by decide)).mono fun e w' ⟨re, im, h1, h2, h3⟩ => ⟨by have k := cre_val h2 crc_v; rw [Prod.mk.injEq] at k; rw [h1, k.1, k.2], h3⟩
theorem csa_v : csiV 0 0 = some (0, 0) := by decide +kernel
theorem csa (w : World) : Calls Try.prog 18 #[.complex .f64 0 0] w fun e w' => e = .returned (.complex .f64 0 0) ∧ Bw w w' :=
  (csin_any 0 0 w (by decide) (by decide)).mono fun e w' ⟨re, im, h1, h2, h3⟩ => ⟨by have k := csi_val h2 csa_v; rw [Prod.mk.injEq] at k; rw [h1, k.1, k.2], h3⟩
theorem csb_v : ccoV 0 0 = some (4607182418800017408, 9223372036854775808) := by decide +kernel
theorem csb (w : World) : Calls Try.prog 15 #[.complex .f64 0 0] w fun e w' => e = .returned (.complex .f64 4607182418800017408 9223372036854775808) ∧ Bw w w' :=
  (ccos_any 0 0 w (by decide) (by decide)).mono fun e w' ⟨re, im, h1, h2, h3⟩ => ⟨by have k := cco_val h2 csb_v; rw [Prod.mk.injEq] at k; rw [h1, k.1, k.2], h3⟩
theorem csc_v : cshV 0 9223372036854775808 = some (0, 9223372036854775808) := by decide +kernel
theorem csc (w : World) : Calls Try.prog 19 #[.complex .f64 0 9223372036854775808] w fun e w' => e = .returned (.complex .f64 0 9223372036854775808) ∧ Bw w w' :=
  (csinh_any 0 9223372036854775808 w (by decide) (by decide)).mono fun e w' ⟨re, im, h1, h2, h3⟩ => ⟨by have k := csh_val h2 csc_v; rw [Prod.mk.injEq] at k; rw [h1, k.1, k.2], h3⟩
theorem csd_v : cchV 0 0 = some (4607182418800017408, 0) := by decide +kernel
theorem csd (w : World) : Calls Try.prog 20 #[.complex .f64 0 0] w fun e w' => e = .returned (.complex .f64 4607182418800017408 0) ∧ Bw w w' :=
  (ccosh_any 0 0 w (by decide) (by decide)).mono fun e w' ⟨re, im, h1, h2, h3⟩ => ⟨by have k := cch_val h2 csd_v; rw [Prod.mk.injEq] at k; rw [h1, k.1, k.2], h3⟩
theorem cpa (w : World) : Calls Try.prog 17 #[.complex .f64 4611686018427387904 0, .complex .f64 0 0] w fun e w' => e = .returned (.complex .f64 4607182418800017408 0) ∧ Bw w w' :=
  (cpower_any 4611686018427387904 0 0 0 w (by decide) (by decide)).mono fun e w' ⟨re, im, h1, h2, h3⟩ => ⟨by unfold cpoR at h2; rw [if_pos (by decide)] at h2; rw [h1, h2.1, h2.2], h3⟩
theorem cha_v : sheV 4607182418800017408 0 1 = some (0, 4618760256179416344, true) := by decide +kernel
theorem cha (w : World) : Calls Try.prog 21 #[.complex .f64 4607182418800017408 0, .int .i64 1] w fun e w' => e = .returned (.tuple #[.complex .f64 0 4618760256179416344, .bool true]) ∧ Bw w w' :=
  (csheet_any 4607182418800017408 0 1 w (by decide) (by decide) (by decide) (by decide)).mono fun e w' ⟨re, im, o, h1, h2, h3⟩ => ⟨by have k := she_val h2 cha_v; rw [Prod.mk.injEq, Prod.mk.injEq] at k; rw [h1, k.1, k.2.1, k.2.2], h3⟩
theorem chb_v : sheV 0 0 1 = some (0, 0, false) := by decide +kernel
theorem chb (w : World) : Calls Try.prog 21 #[.complex .f64 0 0, .int .i64 1] w fun e w' => e = .returned (.tuple #[.complex .f64 0 0, .bool false]) ∧ Bw w w' :=
  (csheet_any 0 0 1 w (by decide) (by decide) (by decide) (by decide)).mono fun e w' ⟨re, im, o, h1, h2, h3⟩ => ⟨by have k := she_val h2 chb_v; rw [Prod.mk.injEq, Prod.mk.injEq] at k; rw [h1, k.1, k.2.1, k.2.2], h3⟩
theorem chc_v : sheV 4607182418800017408 0 1048577 = some (0, 0, false) := by decide +kernel
theorem chc (w : World) : Calls Try.prog 21 #[.complex .f64 4607182418800017408 0, .int .i64 1048577] w fun e w' => e = .returned (.tuple #[.complex .f64 0 0, .bool false]) ∧ Bw w w' :=
  (csheet_any 4607182418800017408 0 1048577 w (by decide) (by decide) (by decide) (by decide)).mono fun e w' ⟨re, im, o, h1, h2, h3⟩ => ⟨by have k := she_val h2 chc_v; rw [Prod.mk.injEq, Prod.mk.injEq] at k; rw [h1, k.1, k.2.1, k.2.2], h3⟩
theorem is7_yes (r i : Nat) (hr : r < 18446744073709551616) (hi : i < 18446744073709551616) (n1 : Fl.nan r = false) (n2 : Fl.nan i = false) (w : World) : Calls Try.prog 11 #[.complex .f64 r i, .float .f64 r, .float .f64 i] w fun e w' => e = .returned (.bool true) ∧ w' = w := by
  have g1 := Fl.o_eq r r
  have g2 := Fl.o_eq i i
  rw [Fl.eqF_self, n1] at g1
  rw [Fl.eqF_self, n2] at g2
  have SR : Hid (∀ wz, Calls Try.prog 36 #[.float .f64 r] wz fun e w' => e = .returned (.bool (Fl.sg r)) ∧ w' = wz) := fun wz => signbit_any r wz hr
  have SI : Hid (∀ wz, Calls Try.prog 36 #[.float .f64 i] wz fun e w' => e = .returned (.bool (Fl.sg i)) ∧ w' = wz) := fun wz => signbit_any i wz hi
  generalize Fl.sg r = a at *
  generalize Fl.sg i = b at *
  clear n1 n2
  go_enter Try.func11, Try.ntmps11
  go_wp2_with fail
  refine (SR.out _).mono ?_
  rintro e' w ⟨rfl, rfl⟩
  go_wp2_with fail
  refine (SR.out _).mono ?_
  rintro e' w ⟨rfl, rfl⟩
  cases a <;> (
    go_wp2_with fail
    refine (SI.out _).mono ?_
    rintro e' w ⟨rfl, rfl⟩
    go_wp2_with fail
    refine (SI.out _).mono ?_
    rintro e' w ⟨rfl, rfl⟩
    cases b <;> (
      go_wp2
      go_ret
      exact ⟨rfl, rfl⟩))
theorem inf7_any (w : World) : Calls Try.prog 10 #[.int .i64 1] w fun e w' => e = .returned (.float .f64 9218868437227405312) ∧ w' = w := by
  go_enter Try.func10, Try.ntmps10
  go_wp2
  go_ret
  exact ⟨rfl, rfl⟩
theorem nan7_any (w : World) : Calls Try.prog 9 #[] w fun e w' => e = .returned (.float .f64 9221120237041090561) ∧ w' = w := by
  go_enter Try.func9, Try.ntmps9
  go_wp2_with go_in
  go_ret
  exact ⟨rfl, rfl⟩
theorem copy7 (w : World) : Calls Try.prog 8 #[.float .f64 0, .float .f64 13830554455654793216] w fun e w' => e = .returned (.float .f64 9223372036854775808) ∧ w' = w := copysign_any 0 13830554455654793216 w (by decide) (by decide)
theorem exp_one : expV 4607182418800017408 = some 4613303445314885482 := by decide +kernel
theorem log_two : logV 4611686018427387904 = some 4604418534313441775 := by decide +kernel
set_option maxHeartbeats 8000000 in
set_option maxRecDepth 100000 in
theorem alive7_any (w : World) : Calls Try.prog 22 #[] w fun e w' => e = .returned (.bool true) ∧ Bw w w' := by
  have G : Bw w w := Bw.refl w
  have q1 : (FloatKind.f64.format.order 4614256656552045848 4613937818241073152 == some .gt) = true := by decide
  have q2 : (FloatKind.f64.format.order 4604544271217802188 4604480259023595110 == some .gt) = true := by decide
  go_enter Try.func22, Try.ntmps22
  go_wp2_with fail
  refine (pi_any _).mono ?_
  rintro e' w9 ⟨rfl, hw9⟩
  subst hw9
  go_wp2_with fail
  refine (cee _).mono ?_
  rintro e' w9 ⟨rfl, b9⟩
  replace G := bw_trans G b9
  clear b9
  go_wp2_with fail
  refine (exp_at 4607182418800017408 4613303445314885482 exp_one _ (by decide)).mono ?_
  rintro e' w9 ⟨rfl, b9⟩
  replace G := bw_trans G b9
  clear b9
  go_wp2_with fail
  refine (is7_yes 4613303445314885482 0 (by decide) (by decide) (by decide) (by decide) _).mono ?_
  rintro e' w9 ⟨rfl, hw9⟩
  subst hw9
  go_wp2_with fail
  refine (cle _).mono ?_
  rintro e' w9 ⟨rfl, b9⟩
  replace G := bw_trans G b9
  clear b9
  go_wp2_with fail
  refine (is7_yes 0 4614256656552045848 (by decide) (by decide) (by decide) (by decide) _).mono ?_
  rintro e' w9 ⟨rfl, hw9⟩
  subst hw9
  go_wp2_with fail
  refine (crc _).mono ?_
  rintro e' w9 ⟨rfl, b9⟩
  replace G := bw_trans G b9
  clear b9
  go_wp2
  go_ret
  exact ⟨rfl, G⟩
set_option maxHeartbeats 8000000 in
set_option maxRecDepth 100000 in
theorem powernames_any (w : World) : Calls Try.prog 3 #[] w fun e w' => e = .returned (.bool true) ∧ Below w.heap.size w w' := by
  have G : Bw w w := Bw.refl w
  have q1 : (FloatKind.f64.format.order 0 0 == some .eq) = true := by decide
  have q2 : (FloatKind.f64.format.order 9223372036854775808 0 == some .eq) = true := by decide
  have n1 : Op.negFloat .f64 9218868437227405312 = 18442240474082181120 := by decide
  have n2 : Op.negFloat .f64 4614256656552045848 = 13837628693406821656 := by decide
  have r1 := fun (ty : TypeId) w => run_float_arith (P := Try.prog) w .quo ty .f64 4614256656552045848 4611686018427387904 4609753056924675352 (by decide +kernel)
  have r2 := fun (ty : TypeId) w => run_float_arith (P := Try.prog) w .mul ty .f64 4611686018427387904 4614256656552045848 4618760256179416344 (by decide +kernel)
  go_enter Try.func3, Try.ntmps3
  go_wp2_with fail
  refine (pi_any _).mono ?_
  rintro e' w9 ⟨rfl, hw9⟩
  subst hw9
  go_wp2_with fail
  refine (copy7 _).mono ?_
  rintro e' w9 ⟨rfl, hw9⟩
  subst hw9
  go_wp2_with fail
  refine (nan7_any _).mono ?_
  rintro e' w9 ⟨rfl, hw9⟩
  subst hw9
  go_wp2_with fail
  refine (inf7_any _).mono ?_
  rintro e' w9 ⟨rfl, hw9⟩
  subst hw9
  go_wp2_with fail
  refine (cea _).mono ?_
  rintro e' w9 ⟨rfl, b9⟩
  replace G := bw_trans G b9
  clear b9
  go_wp2_with fail
  refine (is7_yes 4607182418800017408 0 (by decide) (by decide) (by decide) (by decide) _).mono ?_
  rintro e' w9 ⟨rfl, hw9⟩
  subst hw9
  go_wp2_with fail
  refine (ceb _).mono ?_
  rintro e' w9 ⟨rfl, b9⟩
  replace G := bw_trans G b9
  clear b9
  go_wp2_with fail
  refine (is7_yes 4607182418800017408 9223372036854775808 (by decide) (by decide) (by decide) (by decide) _).mono ?_
  rintro e' w9 ⟨rfl, hw9⟩
  subst hw9
  go_wp2_with fail
  refine (cec _).mono ?_
  rintro e' w9 ⟨rfl, b9⟩
  replace G := bw_trans G b9
  clear b9
  go_wp2_with fail
  refine (is7_yes 9218868437227405312 0 (by decide) (by decide) (by decide) (by decide) _).mono ?_
  rintro e' w9 ⟨rfl, hw9⟩
  subst hw9
  go_wp2_with fail
  refine (ced _).mono ?_
  rintro e' w9 ⟨rfl, b9⟩
  replace G := bw_trans G b9
  clear b9
  go_wp2_with fail
  refine (ced _).mono ?_
  rintro e' w9 ⟨rfl, b9⟩
  replace G := bw_trans G b9
  clear b9
  go_wp2_with fail
  refine (cla _).mono ?_
  rintro e' w9 ⟨rfl, b9⟩
  replace G := bw_trans G b9
  clear b9
  go_wp2_with fail
  refine (is7_yes 0 0 (by decide) (by decide) (by decide) (by decide) _).mono ?_
  rintro e' w9 ⟨rfl, hw9⟩
  subst hw9
  go_wp2_with fail
  refine (clb _).mono ?_
  rintro e' w9 ⟨rfl, b9⟩
  replace G := bw_trans G b9
  clear b9
  go_wp2_with fail
  refine (is7_yes 0 13837628693406821656 (by decide) (by decide) (by decide) (by decide) _).mono ?_
  rintro e' w9 ⟨rfl, hw9⟩
  subst hw9
  go_wp2_with fail
  refine (clc _).mono ?_
  rintro e' w9 ⟨rfl, b9⟩
  replace G := bw_trans G b9
  clear b9
  go_wp2_with fail
  refine (is7_yes 18442240474082181120 0 (by decide) (by decide) (by decide) (by decide) _).mono ?_
  rintro e' w9 ⟨rfl, hw9⟩
  subst hw9
  go_wp2_with fail
  refine (cld _).mono ?_
  rintro e' w9 ⟨rfl, b9⟩
  replace G := bw_trans G b9
  clear b9
  go_wp2_with fail
  refine (log_at 4611686018427387904 4604418534313441775 log_two _ (by decide)).mono ?_
  rintro e' w9 ⟨rfl, b9⟩
  replace G := bw_trans G b9
  clear b9
  go_wp2_with fail
  refine (is7_yes 4604418534313441775 4609753056924675352 (by decide) (by decide) (by decide) (by decide) _).mono ?_
  rintro e' w9 ⟨rfl, hw9⟩
  subst hw9
  go_wp2_with fail
  refine (csb _).mono ?_
  rintro e' w9 ⟨rfl, b9⟩
  replace G := bw_trans G b9
  clear b9
  go_wp2_with fail
  refine (cra _).mono ?_
  rintro e' w9 ⟨rfl, b9⟩
  replace G := bw_trans G b9
  clear b9
  go_wp2_with fail
  refine (is7_yes 4607182418800017408 0 (by decide) (by decide) (by decide) (by decide) _).mono ?_
  rintro e' w9 ⟨rfl, hw9⟩
  subst hw9
  go_wp2_with fail
  refine (crb _).mono ?_
  rintro e' w9 ⟨rfl, b9⟩
  replace G := bw_trans G b9
  clear b9
  go_wp2_with fail
  refine (is7_yes 0 0 (by decide) (by decide) (by decide) (by decide) _).mono ?_
  rintro e' w9 ⟨rfl, hw9⟩
  subst hw9
  go_wp2_with fail
  refine (cpa _).mono ?_
  rintro e' w9 ⟨rfl, b9⟩
  replace G := bw_trans G b9
  clear b9
  go_wp2_with fail
  refine (is7_yes 4607182418800017408 0 (by decide) (by decide) (by decide) (by decide) _).mono ?_
  rintro e' w9 ⟨rfl, hw9⟩
  subst hw9
  go_wp2_with fail
  refine (csa _).mono ?_
  rintro e' w9 ⟨rfl, b9⟩
  replace G := bw_trans G b9
  clear b9
  go_wp2_with fail
  refine (is7_yes 0 0 (by decide) (by decide) (by decide) (by decide) _).mono ?_
  rintro e' w9 ⟨rfl, hw9⟩
  subst hw9
  go_wp2_with fail
  refine (is7_yes 4607182418800017408 9223372036854775808 (by decide) (by decide) (by decide) (by decide) _).mono ?_
  rintro e' w9 ⟨rfl, hw9⟩
  subst hw9
  go_wp2_with fail
  refine (csc _).mono ?_
  rintro e' w9 ⟨rfl, b9⟩
  replace G := bw_trans G b9
  clear b9
  go_wp2_with fail
  refine (is7_yes 0 9223372036854775808 (by decide) (by decide) (by decide) (by decide) _).mono ?_
  rintro e' w9 ⟨rfl, hw9⟩
  subst hw9
  go_wp2_with fail
  refine (csd _).mono ?_
  rintro e' w9 ⟨rfl, b9⟩
  replace G := bw_trans G b9
  clear b9
  go_wp2_with fail
  refine (is7_yes 4607182418800017408 0 (by decide) (by decide) (by decide) (by decide) _).mono ?_
  rintro e' w9 ⟨rfl, hw9⟩
  subst hw9
  go_wp2_with fail
  refine (cha _).mono ?_
  rintro e' w9 ⟨rfl, b9⟩
  replace G := bw_trans G b9
  clear b9
  go_wp2_with fail
  refine (chb _).mono ?_
  rintro e' w9 ⟨rfl, b9⟩
  replace G := bw_trans G b9
  clear b9
  go_wp2_with fail
  refine (chc _).mono ?_
  rintro e' w9 ⟨rfl, b9⟩
  replace G := bw_trans G b9
  clear b9
  go_wp2_with fail
  refine (alive7_any _).mono ?_
  rintro e' w9 ⟨rfl, b9⟩
  replace G := bw_trans G b9
  clear b9
  go_wp2_with fail
  refine (is7_yes 0 4618760256179416344 (by decide) (by decide) (by decide) (by decide) _).mono ?_
  rintro e' w9 ⟨rfl, hw9⟩
  subst hw9
  go_wp2
  go_ret
  exact ⟨rfl, G⟩
end Go.Proofs.Ytdbfhbpillgacaa
