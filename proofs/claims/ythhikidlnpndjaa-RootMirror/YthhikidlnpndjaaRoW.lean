/-
  OWN TEXT: package roots is awake (eddylaw06.awake).
-/
import Derived.Test.YthhikidlnpndjaaRoP
namespace Go.Proofs.Ythhikidlnpndjaa
open Go.ChangeShapes Go.WideShapes Go.ChangeAt Go.RowKit
set_option linter.unusedVariables false
attribute [local go_sem] frombits_call tobits_call run_neg
theorem copy6 (w : World) : Calls Try.prog 18 #[.float .f64 0, .float .f64 13830554455654793216] w fun e w' => e = .returned (.float .f64 9223372036854775808) ∧ w' = w := copysign_any 0 13830554455654793216 w (by decide) (by decide)
theorem uni_a : uniV 4613937818241073152 13839561654909534208 = some (4603579539098121011, 13828753015803845018, true) := by decide +kernel
theorem unic_a (w : World) : Calls Try.prog 19 #[.complex .f64 4613937818241073152 13839561654909534208] w fun e w' => e = .returned (.tuple #[.complex .f64 4603579539098121011 13828753015803845018, .bool true]) ∧ Bw w w' :=
  (unit_any 4613937818241073152 13839561654909534208 w (by decide) (by decide)).mono fun e w' ⟨re, im, o, h1, h2, h3⟩ => ⟨by have k := uni_val h2 uni_a; rw [Prod.mk.injEq, Prod.mk.injEq] at k; rw [h1, k.1, k.2.1, k.2.2], h3⟩
theorem uni_b : uniV 0 0 = some (0, 0, false) := by decide +kernel
theorem unic_b (w : World) : Calls Try.prog 19 #[.complex .f64 0 0] w fun e w' => e = .returned (.tuple #[.complex .f64 0 0, .bool false]) ∧ Bw w w' :=
  (unit_any 0 0 w (by decide) (by decide)).mono fun e w' ⟨re, im, o, h1, h2, h3⟩ => ⟨by have k := uni_val h2 uni_b; rw [Prod.mk.injEq, Prod.mk.injEq] at k; rw [h1, k.1, k.2.1, k.2.2], h3⟩
theorem len_a : lenV 4613937818241073152 4616189618054758400 = some 4617315517961601024 := by decide +kernel
theorem lenc_a (w : World) : Calls Try.prog 6 #[.complex .f64 4613937818241073152 4616189618054758400] w fun e w' => e = .returned (.float .f64 4617315517961601024) ∧ Bw w w' :=
  (length_any 4613937818241073152 4616189618054758400 w (by decide) (by decide)).mono fun e w' ⟨r, h1, h2, h3⟩ => ⟨by rw [h1, len_val h2 len_a], h3⟩
theorem len_b : lenV 0 1 = some 1 := by decide +kernel
theorem lenc_b (w : World) : Calls Try.prog 6 #[.complex .f64 0 1] w fun e w' => e = .returned (.float .f64 1) ∧ Bw w w' :=
  (length_any 0 1 w (by decide) (by decide)).mono fun e w' ⟨r, h1, h2, h3⟩ => ⟨by rw [h1, len_val h2 len_b], h3⟩
theorem roo_a : rooV 4613937818241073152 4616189618054758400 = some (4611686018427387904, 4607182418800017408) := by decide +kernel
theorem rooc_a (w : World) : Calls Try.prog 12 #[.complex .f64 4613937818241073152 4616189618054758400] w fun e w' => e = .returned (.complex .f64 4611686018427387904 4607182418800017408) ∧ Bw w w' :=
  (root_any6 4613937818241073152 4616189618054758400 w (by decide) (by decide)).mono fun e w' ⟨re, im, h1, h2, h3⟩ => ⟨by have k := roo_val h2 roo_a; rw [Prod.mk.injEq] at k; rw [h1, k.1, k.2], h3⟩
theorem roo_b : rooV 13839561654909534208 0 = some (0, 4611686018427387904) := by decide +kernel
theorem rooc_b (w : World) : Calls Try.prog 12 #[.complex .f64 13839561654909534208 0] w fun e w' => e = .returned (.complex .f64 0 4611686018427387904) ∧ Bw w w' :=
  (root_any6 13839561654909534208 0 w (by decide) (by decide)).mono fun e w' ⟨re, im, h1, h2, h3⟩ => ⟨by have k := roo_val h2 roo_b; rw [Prod.mk.injEq] at k; rw [h1, k.1, k.2], h3⟩
theorem roo_c : rooV 13839561654909534208 9223372036854775808 = some (0, 13835058055282163712) := by decide +kernel
theorem rooc_c (w : World) : Calls Try.prog 12 #[.complex .f64 13839561654909534208 9223372036854775808] w fun e w' => e = .returned (.complex .f64 0 13835058055282163712) ∧ Bw w w' :=
  (root_any6 13839561654909534208 9223372036854775808 w (by decide) (by decide)).mono fun e w' ⟨re, im, h1, h2, h3⟩ => ⟨by have k := roo_val h2 roo_c; rw [Prod.mk.injEq] at k; rw [h1, k.1, k.2], h3⟩
theorem roo_d : rooV 0 9223372036854775808 = some (0, 9223372036854775808) := by decide +kernel
theorem rooc_d (w : World) : Calls Try.prog 12 #[.complex .f64 0 9223372036854775808] w fun e w' => e = .returned (.complex .f64 0 9223372036854775808) ∧ Bw w w' :=
  (root_any6 0 9223372036854775808 w (by decide) (by decide)).mono fun e w' ⟨re, im, h1, h2, h3⟩ => ⟨by have k := roo_val h2 roo_d; rw [Prod.mk.injEq] at k; rw [h1, k.1, k.2], h3⟩
theorem nea_a : neaV 4607182418800017408 0 4607182418800017408 4607182418800017408 4607182418800017408 = some true := by decide +kernel
theorem neac_a (w : World) : Calls Try.prog 20 #[.complex .f64 4607182418800017408 0, .complex .f64 4607182418800017408 4607182418800017408, .float .f64 4607182418800017408] w fun e w' => e = .returned (.bool true) ∧ Bw w w' :=
  (near_any6 4607182418800017408 0 4607182418800017408 4607182418800017408 4607182418800017408 w (by decide) (by decide) (by decide) (by decide)).mono fun e w' ⟨r, h1, h2, h3⟩ => ⟨by rw [h1, nea_val h2 nea_a], h3⟩
theorem sqa_a : sqaV 4607182418800017408 4611686018427387904 = some 4617315517961601024 := by decide +kernel
theorem sqac_a (w : World) : Calls Try.prog 21 #[.complex .f64 4607182418800017408 4611686018427387904] w fun e w' => e = .returned (.float .f64 4617315517961601024) ∧ Bw w w' :=
  (square_any 4607182418800017408 4611686018427387904 w).mono fun e w' ⟨r, h1, h2, h3⟩ => ⟨by rw [h1, sqa_val h2 sqa_a], h3⟩
set_option maxHeartbeats 8000000 in
set_option maxRecDepth 100000 in
theorem awake6_any (w : World) : Calls Try.prog 4 #[] w fun e w' => e = .returned (.bool true) ∧ Bw w w' := by
  have G : Bw w w := Bw.refl w
  have q0 : (FloatKind.f64.format.order 4617315517961601024 4617315517961601024 == some .eq) = true := by decide
  have q1 : (FloatKind.f64.format.order 1 1 == some .eq) = true := by decide
  have q2 : (FloatKind.f64.format.order 4603579539098121011 4603579539098121011 == some .eq) = true := by decide
  have q3 : (FloatKind.f64.format.order 13828753015803845018 13828753015803845018 == some .eq) = true := by decide
  go_enter Try.func4, Try.ntmps4
  go_wp2_with fail
  refine (copy6 _).mono ?_
  rintro e' w9 ⟨rfl, hw9⟩
  subst hw9
  go_wp2_with fail
  refine (unic_a _).mono ?_
  rintro e' w9 ⟨rfl, b9⟩
  replace G := bw_trans G b9
  clear b9
  go_wp2_with fail
  refine (unic_b _).mono ?_
  rintro e' w9 ⟨rfl, b9⟩
  replace G := bw_trans G b9
  clear b9
  go_wp2_with fail
  refine (lenc_a _).mono ?_
  rintro e' w9 ⟨rfl, b9⟩
  replace G := bw_trans G b9
  clear b9
  go_wp2_with fail
  refine (lenc_b _).mono ?_
  rintro e' w9 ⟨rfl, b9⟩
  replace G := bw_trans G b9
  clear b9
  go_wp2_with fail
  refine (rooc_a _).mono ?_
  rintro e' w9 ⟨rfl, b9⟩
  replace G := bw_trans G b9
  clear b9
  go_wp2_with fail
  refine (same6_yes (simR.refl 4611686018427387904) (simR.refl 4607182418800017408) _).mono ?_
  rintro e' w9 ⟨rfl, hw9⟩
  subst hw9
  go_wp2_with fail
  refine (rooc_b _).mono ?_
  rintro e' w9 ⟨rfl, b9⟩
  replace G := bw_trans G b9
  clear b9
  go_wp2_with fail
  refine (same6_yes (simR.refl 0) (simR.refl 4611686018427387904) _).mono ?_
  rintro e' w9 ⟨rfl, hw9⟩
  subst hw9
  go_wp2_with fail
  refine (rooc_c _).mono ?_
  rintro e' w9 ⟨rfl, b9⟩
  replace G := bw_trans G b9
  clear b9
  go_wp2_with fail
  refine (same6_yes (simR.refl 0) (simR.refl 13835058055282163712) _).mono ?_
  rintro e' w9 ⟨rfl, hw9⟩
  subst hw9
  go_wp2_with fail
  refine (rooc_d _).mono ?_
  rintro e' w9 ⟨rfl, b9⟩
  replace G := bw_trans G b9
  clear b9
  go_wp2_with fail
  refine (same6_yes (simR.refl 0) (simR.refl 9223372036854775808) _).mono ?_
  rintro e' w9 ⟨rfl, hw9⟩
  subst hw9
  go_wp2_with fail
  refine (neac_a _).mono ?_
  rintro e' w9 ⟨rfl, b9⟩
  replace G := bw_trans G b9
  clear b9
  go_wp2_with fail
  refine (sqac_a _).mono ?_
  rintro e' w9 ⟨rfl, b9⟩
  replace G := bw_trans G b9
  clear b9
  go_wp2
  go_ret
  exact ⟨rfl, G⟩
end Go.Proofs.Ythhikidlnpndjaa
