/-
  OWN TEXT: package angle is alive (eddylaw05.alive).
-/
import Derived.Test.YtdpkhcijkepdiaaAnP
import Derived.Test.YtdpkhcijkepdiaaAnV
import Derived.Test.YtdpkhcijkepdiaaFnSame
import Derived.Test.YtdpkhcijkepdiaaFnLdexp
namespace Go.Proofs.Ytdpkhcijkepdiaa
open Go.ChangeShapes Go.WideShapes Go.ChangeAt Go.RowKit
set_option linter.unusedVariables false
attribute [local go_sem] frombits_call tobits_call run_neg
theorem is5_any (a b : Nat) (w : World) : Calls Try.prog 12 #[.float .f64 a, .float .f64 b] w fun e w' => e = .returned (.bool (Fl.sameB a b)) ∧ w' = w := by
  have RS : Hid (∀ wz, Calls Try.prog 36 #[.float .f64 a, .float .f64 b] wz fun e w' => e = .returned (.bool (Fl.sameB a b)) ∧ w' = wz) := fun wz => rsame_any a b wz
  generalize Fl.sameB a b = r at *
  go_enter Try.func12, Try.ntmps12
  go_wp2_with (go_at_call 36; refine (RS.out _).mono ?_; rintro e w ⟨rfl, rfl⟩)
  go_ret
  exact ⟨rfl, rfl⟩
theorem is5_yes {a b : Nat} (h : simR a b) (w : World) : Calls Try.prog 12 #[.float .f64 a, .float .f64 b] w fun e w' => e = .returned (.bool true) ∧ w' = w := by
  have k := is5_any a b w
  rw [h.same] at k
  exact k
theorem copy5 (w : World) : Calls Try.prog 21 #[.float .f64 0, .float .f64 13830554455654793216] w fun e w' => e = .returned (.float .f64 9223372036854775808) ∧ w' = w := copysign_any 0 13830554455654793216 w (by decide) (by decide)
theorem tur_t1 : turV 4607182418800017408 = some (4605754516372524270, 4603041830072026764) := by decide +kernel
theorem turc_t1 (w : World) : Calls Try.prog 7 #[.float .f64 4607182418800017408] w fun e w' => e = .returned (.tuple #[.float .f64 4605754516372524270, .float .f64 4603041830072026764]) ∧ Bw w w' :=
  (turn_any 4607182418800017408 w (by decide)).mono fun e w' ⟨a, b, h1, h2, h3⟩ => ⟨by have k := tur_val h2 tur_t1; rw [Prod.mk.injEq] at k; rw [h1, k.1, k.2], h3⟩
theorem tur_t100 : turV 4636737291354636288 = some (13826108192625282488, 4605942297449095136) := by decide +kernel
theorem turc_t100 (w : World) : Calls Try.prog 7 #[.float .f64 4636737291354636288] w fun e w' => e = .returned (.tuple #[.float .f64 13826108192625282488, .float .f64 4605942297449095136]) ∧ Bw w w' :=
  (turn_any 4636737291354636288 w (by decide)).mono fun e w' ⟨a, b, h1, h2, h3⟩ => ⟨by have k := tur_val h2 tur_t100; rw [Prod.mk.injEq] at k; rw [h1, k.1, k.2], h3⟩
theorem tur_tz : turV 9223372036854775808 = some (9223372036854775808, 4607182418800017408) := by decide +kernel
theorem turc_tz (w : World) : Calls Try.prog 7 #[.float .f64 9223372036854775808] w fun e w' => e = .returned (.tuple #[.float .f64 9223372036854775808, .float .f64 4607182418800017408]) ∧ Bw w w' :=
  (turn_any 9223372036854775808 w (by decide)).mono fun e w' ⟨a, b, h1, h2, h3⟩ => ⟨by have k := tur_val h2 tur_tz; rw [Prod.mk.injEq] at k; rw [h1, k.1, k.2], h3⟩
theorem turc_none (w : World) : Calls Try.prog 7 #[.float .f64 4697254415642394624] w fun e w' => ∃ a b, e = .returned (.tuple #[.float .f64 a, .float .f64 b]) ∧ Fl.nan a = true ∧ Fl.nan b = true ∧ Bw w w' :=
  (turn_any 4697254415642394624 w (by decide)).mono fun e w' ⟨a, b, h1, h2, h3⟩ => ⟨a, b, h1, by have h4 := h2.2.2; rw [if_neg (by decide)] at h4; exact h4.1, by have h4 := h2.2.2; rw [if_neg (by decide)] at h4; exact h4.2, h3⟩
theorem qua_m2 : quaV 13835058055282163712 = some (13824775502783531935, 3) := by decide +kernel
theorem quac_m2 (w : World) : Calls Try.prog 9 #[.float .f64 13835058055282163712] w fun e w' => e = .returned (.tuple #[.float .f64 13824775502783531935, .int .i64 3]) ∧ Bw w w' :=
  (quarter_any 13835058055282163712 w (by decide)).mono fun e w' ⟨a, b, h1, h2, h3⟩ => ⟨by have k := qua_val h2 qua_m2; rw [Prod.mk.injEq] at k; rw [h1, k.1, k.2], h3⟩
theorem off_o1 : offV 0 13830554455654793216 = some 4614256656552045848 := by decide +kernel
theorem offc_o1 (w : World) : Calls Try.prog 17 #[.float .f64 0, .float .f64 13830554455654793216] w fun e w' => e = .returned (.float .f64 4614256656552045848) ∧ Bw w w' :=
  (of_any 0 13830554455654793216 w (by decide) (by decide)).mono fun e w' ⟨r, h1, h2, _, h3⟩ => ⟨by rw [h1, off_val h2 off_o1], h3⟩
theorem off_o2 : offV 9223372036854775808 13830554455654793216 = some 13837628693406821656 := by decide +kernel
theorem offc_o2 (w : World) : Calls Try.prog 17 #[.float .f64 9223372036854775808, .float .f64 13830554455654793216] w fun e w' => e = .returned (.float .f64 13837628693406821656) ∧ Bw w w' :=
  (of_any 9223372036854775808 13830554455654793216 w (by decide) (by decide)).mono fun e w' ⟨r, h1, h2, _, h3⟩ => ⟨by rw [h1, off_val h2 off_o2], h3⟩
theorem off_o3 : offV 0 0 = some 0 := by decide +kernel
theorem offc_o3 (w : World) : Calls Try.prog 17 #[.float .f64 0, .float .f64 0] w fun e w' => e = .returned (.float .f64 0) ∧ Bw w w' :=
  (of_any 0 0 w (by decide) (by decide)).mono fun e w' ⟨r, h1, h2, _, h3⟩ => ⟨by rw [h1, off_val h2 off_o3], h3⟩
theorem off_o4 : offV 9223372036854775808 0 = some 9223372036854775808 := by decide +kernel
theorem offc_o4 (w : World) : Calls Try.prog 17 #[.float .f64 9223372036854775808, .float .f64 0] w fun e w' => e = .returned (.float .f64 9223372036854775808) ∧ Bw w w' :=
  (of_any 9223372036854775808 0 w (by decide) (by decide)).mono fun e w' ⟨r, h1, h2, _, h3⟩ => ⟨by rw [h1, off_val h2 off_o4], h3⟩
theorem off_o5 : offV 4607182418800017408 4611686018427387904 = some 4602023952714414928 := by decide +kernel
theorem offc_o5 (w : World) : Calls Try.prog 17 #[.float .f64 4607182418800017408, .float .f64 4611686018427387904] w fun e w' => e = .returned (.float .f64 4602023952714414928) ∧ Bw w w' :=
  (of_any 4607182418800017408 4611686018427387904 w (by decide) (by decide)).mono fun e w' ⟨r, h1, h2, _, h3⟩ => ⟨by rw [h1, off_val h2 off_o5], h3⟩
theorem tan_1 : offV 4607182418800017408 4607182418800017408 = some 4605249457297304856 := by decide +kernel
theorem tanc_1 (w : World) : Calls Try.prog 19 #[.float .f64 4607182418800017408] w fun e w' => e = .returned (.float .f64 4605249457297304856) ∧ Bw w w' :=
  (tan_any 4607182418800017408 w (by decide)).mono fun e w' ⟨r, h1, h2, _, h3⟩ => ⟨by rw [h1, off_val h2 tan_1], h3⟩
theorem wra_4 : wraV 4616189618054758400 = some 13835695731904109105 := by decide +kernel
theorem wrac_4 (w : World) : Calls Try.prog 13 #[.float .f64 4616189618054758400] w fun e w' => e = .returned (.float .f64 13835695731904109105) ∧ Bw w w' :=
  (wrap_any 4616189618054758400 w (by decide)).mono fun e w' ⟨r, h1, h2, h3⟩ => ⟨by rw [h1, wra_val h2 wra_4], h3⟩
theorem wra_h : wraV 13837628693406821656 = some 4614256656552045848 := by decide +kernel
theorem wrac_h (w : World) : Calls Try.prog 13 #[.float .f64 13837628693406821656] w fun e w' => e = .returned (.float .f64 4614256656552045848) ∧ Bw w w' :=
  (wrap_any 13837628693406821656 w (by decide)).mono fun e w' ⟨r, h1, h2, h3⟩ => ⟨by rw [h1, wra_val h2 wra_h], h3⟩
set_option maxHeartbeats 8000000 in
set_option maxRecDepth 100000 in
theorem alive5_any (w : World) : Calls Try.prog 6 #[] w fun e w' => e = .returned (.bool true) ∧ Bw w w' := by
  have G : Bw w w := Bw.refl w
  have q0 : (FloatKind.f64.format.order 4605754516372524270 4605754516372524270 == some .eq) = true := by decide
  have q1 : (FloatKind.f64.format.order 4603041830072026764 4603041830072026764 == some .eq) = true := by decide
  have q2 : (FloatKind.f64.format.order 13826108192625282488 13826108192625282488 == some .eq) = true := by decide
  have q3 : (FloatKind.f64.format.order 4605942297449095136 4605942297449095136 == some .eq) = true := by decide
  have q4 : (FloatKind.f64.format.order 13824775502783531935 13824775502783531935 == some .eq) = true := by decide
  have q5 : (FloatKind.f64.format.order 4607182418800017408 4607182418800017408 == some .eq) = true := by decide
  have q6 : (FloatKind.f64.format.order 4614256656552045848 4614256656552045848 == some .eq) = true := by decide
  have q7 : (FloatKind.f64.format.order 13837628693406821656 13837628693406821656 == some .eq) = true := by decide
  have q8 : (FloatKind.f64.format.order 4602023952714414928 4602023952714414928 == some .eq) = true := by decide
  have q9 : (FloatKind.f64.format.order 4605249457297304856 4605249457297304856 == some .eq) = true := by decide
  have q10 : (FloatKind.f64.format.order 13835695731904109105 13835695731904109105 == some .eq) = true := by decide
  have p1 : (FloatKind.f64.format.order 4368955796522032135 0 == some .gt) = true := by decide
  have hn : Op.negFloat .f64 4614256656552045848 = 13837628693406821656 := by decide
  go_enter Try.func6, Try.ntmps6
  go_wp2_with fail
  refine (turc_t1 _).mono ?_
  rintro e' w9 ⟨rfl, b9⟩
  replace G := bw_trans G b9
  clear b9
  go_wp2_with fail
  refine (turc_t100 _).mono ?_
  rintro e' w9 ⟨rfl, b9⟩
  replace G := bw_trans G b9
  clear b9
  go_wp2_with fail
  refine (quac_m2 _).mono ?_
  rintro e' w9 ⟨rfl, b9⟩
  replace G := bw_trans G b9
  clear b9
  go_wp2_with fail
  refine (copy5 _).mono ?_
  rintro e' w9 ⟨rfl, hw9⟩
  subst hw9
  go_wp2_with fail
  refine (turc_tz _).mono ?_
  rintro e' w9 ⟨rfl, b9⟩
  replace G := bw_trans G b9
  clear b9
  go_wp2_with fail
  refine (pi_any _).mono ?_
  rintro e' w9 ⟨rfl, hw9⟩
  subst hw9
  go_wp2_with fail
  refine (turc_none _).mono ?_
  rintro e' w9 ⟨a, b, rfl, na, nb, b9⟩
  replace G := bw_trans G b9
  clear b9
  have oa := Fl.o_ne a a
  have ob := Fl.o_ne b b
  rw [Fl.eqF_self, na] at oa
  rw [Fl.eqF_self, nb] at ob
  clear na nb
  go_wp2_with fail
  refine (is5_yes (simR.refl 9223372036854775808) _).mono ?_
  rintro e' w9 ⟨rfl, hw9⟩
  subst hw9
  go_wp2_with fail
  refine (offc_o1 _).mono ?_
  rintro e' w9 ⟨rfl, b9⟩
  replace G := bw_trans G b9
  clear b9
  go_wp2_with fail
  refine (offc_o2 _).mono ?_
  rintro e' w9 ⟨rfl, b9⟩
  replace G := bw_trans G b9
  clear b9
  go_wp2_with fail
  refine (offc_o3 _).mono ?_
  rintro e' w9 ⟨rfl, b9⟩
  replace G := bw_trans G b9
  clear b9
  go_wp2_with fail
  refine (is5_yes (simR.refl 0) _).mono ?_
  rintro e' w9 ⟨rfl, hw9⟩
  subst hw9
  go_wp2_with fail
  refine (offc_o4 _).mono ?_
  rintro e' w9 ⟨rfl, b9⟩
  replace G := bw_trans G b9
  clear b9
  go_wp2_with fail
  refine (is5_yes (simR.refl 9223372036854775808) _).mono ?_
  rintro e' w9 ⟨rfl, hw9⟩
  subst hw9
  go_wp2_with fail
  refine (offc_o5 _).mono ?_
  rintro e' w9 ⟨rfl, b9⟩
  replace G := bw_trans G b9
  clear b9
  go_wp2_with fail
  refine (tanc_1 _).mono ?_
  rintro e' w9 ⟨rfl, b9⟩
  replace G := bw_trans G b9
  clear b9
  go_wp2_with fail
  refine (wrac_4 _).mono ?_
  rintro e' w9 ⟨rfl, b9⟩
  replace G := bw_trans G b9
  clear b9
  go_wp2_with fail
  refine (wrac_h _).mono ?_
  rintro e' w9 ⟨rfl, b9⟩
  replace G := bw_trans G b9
  clear b9
  go_wp2
  go_ret
  exact ⟨rfl, G⟩
end Go.Proofs.Ytdpkhcijkepdiaa
