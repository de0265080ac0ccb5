/-
  PROVED HERE: eddylaw01.FloatNames, a closed sentence, answers true: the examples of the chapter on floats come out as the chapter has them; there is no condition.
-/
import Derived.Test.YtkbmgjaplmmpeaaRows
import Derived.Test.YtkbmgjaplmmpeaaFnSame
import Derived.Test.YtkbmgjaplmmpeaaFnExact
import Derived.Test.YtkbmgjaplmmpeaaFnLdexp
import Derived.Test.YtkbmgjaplmmpeaaFnParts
import Derived.Test.YtkbmgjaplmmpeaaFnWhole
import Derived.WalkKit
import Derived.ProofKit
import Derived.OpenShut
namespace Go.Proofs.Ytkbmgjaplmmpeaa.floatNames
open Go.ChangeShapes Go.WideShapes Go.ChangeAt Go.RowKit
set_option linter.unusedVariables false      -- a walk need not use every 'w<i>' (that an integer argument fits its kind)

theorem own : ownKnob Try.prog.godebug = none := by kernel_rfl

attribute [local go_sem] frombits_call tobits_call run_neg
theorem nan_call (w : World) : Calls Try.prog 8 #[] w fun e w' => e = .returned (.float .f64 9221120237041090561) ∧ w' = w := by
  go_enter Try.func8, Try.ntmps8
  go_wp2
  go_ret
  exact ⟨rfl, rfl⟩
theorem sum_nil (w : World) : Calls Try.prog 24 #[.slice none 0 0] w fun e w' => e = .returned (.float .f64 0) ∧ w' = w := by
  go_enter Try.func24, Try.ntmps24
  go_wp2
  go_ret
  exact ⟨rfl, rfl⟩

/-! ### STEP 1: THE WALK: the Go text returns true. 'Grown w w'': the world has at most new blocks (Derived/RowKit3.lean). Part the cases AHEAD of 'go_enter' where a test parts the walk; take each callee by a contract of your own. -/
set_option maxRecDepth 100000 in
set_option maxHeartbeats 8000000 in
theorem walk  (w : World) :
    Calls Try.prog 3 #[] w fun e w' => e = .returned (.bool true) ∧ Grown w w' := by
  have c0 : Fl.wd (Fl.sg 13830554455654793216) (Fl.rg 0) = 9223372036854775808 := by decide
  have c1 : Fl.wd (decide ((1 : Int) < 0)) 9218868437227405312 = 9218868437227405312 := by decide
  have c1' : Fl.wd false 9218868437227405312 = 9218868437227405312 := by decide
  have s1 : Fl.sameB 0 9223372036854775808 = false := by decide
  have s2 : Fl.sameB 9221120237041090561 18444492273895866369 = true := by decide
  have s3 : Fl.finB 9214364837600034816 = true := by decide
  have s4 : Fl.finB 9218868437227405312 = false := by decide
  have s5 : Fl.withinB 13837309855095848960 4613937818241073152 = true := by decide
  have s6 : Fl.withinB 9221120237041090561 9218868437227405312 = false := by decide
  have s7 : Fl.withinB 4607182418800017408 9221120237041090561 = false := by decide
  have s8 : Fl.withinB 9218868437227405312 9218868437227405312 = true := by decide
  have b1 : Fl.bitsF 9221120237041090561 = 9221120237041090560 := by decide
  have b2 : Fl.bitsF 18444492273895866369 = 9221120237041090560 := by decide
  have b3 : Fl.bitsF 9223372036854775808 = 9223372036854775808 := by decide
  have u1 : upF 0 = 1 := by decide
  have u2 : upF 9223372036854775808 = 1 := by decide
  have u3 : upF 9223372036854775809 = 9223372036854775808 := by decide
  have u4 : upF 9218868437227405311 = 9218868437227405312 := by decide
  have u5 : upF 9218868437227405312 = 9218868437227405312 := by decide
  have u6 : upF 18442240474082181120 = 18442240474082181119 := by decide
  have u7 : downF 4607182418800017408 = 4607182418800017407 := by decide
  have n1 : Op.negFloat .f64 9218868437227405312 = 18442240474082181120 := by decide
  have o1 : (FloatKind.f64.format.order 1 1 == some .eq) = true := by decide +kernel
  have o2 : (FloatKind.f64.format.order 9223372036854775808 0 == some .eq) = true := by decide +kernel
  have o3 : (FloatKind.f64.format.order 9218868437227405312 9218868437227405312 == some .eq) = true := by decide +kernel
  have o4 : (FloatKind.f64.format.order 4607182418800017407 4607182418800017407 == some .eq) = true := by decide +kernel
  have o5 : (FloatKind.f64.format.order 18442240474082181119 18442240474082181119 == some .eq) = true := by decide +kernel
  have o6 : (FloatKind.f64.format.order 2 2 == some .eq) = true := by decide +kernel
  have o7 : (FloatKind.f64.format.order 4602678819172646912 4602678819172646912 == some .eq) = true := by decide +kernel
  have o8 : (FloatKind.f64.format.order 13837309855095848960 13837309855095848960 == some .eq) = true := by decide +kernel
  have o9 : (FloatKind.f64.format.order 4613937818241073152 4613937818241073152 == some .eq) = true := by decide +kernel
  have o10 : (FloatKind.f64.format.order 0 0 == some .eq) = true := by decide +kernel
  have o11 : (FloatKind.f64.format.order 4607182418800017408 4607182418800017408 == some .eq) = true := by decide +kernel
  have o12 : (FloatKind.f64.format.order 4611686018427387904 4611686018427387904 == some .eq) = true := by decide +kernel
  have o13 : (FloatKind.f64.format.order 4616189618054758400 4616189618054758400 == some .eq) = true := by decide +kernel
  have g1 : Fl.sg 9223372036854775808 = true := by decide
  have g2 : Fl.sg 0 = false := by decide
  have x1 : scF 13830554455654793216 (-2000) = 9223372036854775808 := by decide +kernel
  have x2 : scF 4613937818241073152 (-1075) = 2 := by decide +kernel
  have x3 : scF 4607182418800017408 1024 = 9218868437227405312 := by decide +kernel
  have p1 : paF 1 = 4602678819172646912 := by decide +kernel
  have p2 : paE 1 = -1073 := by decide +kernel
  have p3 : paF 9223372036854775808 = 9223372036854775808 := by decide +kernel
  have p4 : paE 9223372036854775808 = 0 := by decide +kernel
  have m1 : Fl.minusB 9223372036854775808 = true := by decide
  have m2 : Fl.minusB 18444492273895866369 = false := by decide
  have m3 : signedF 4613937818241073152 9223372036854775808 = 13837309855095848960 := by decide
  have m4 : signedF 13837309855095848960 18444492273895866369 = 4613937818241073152 := by decide
  have h1 : Fl.whF 13826050856027422720 = 9223372036854775808 := by decide +kernel
  have h2 : Fl.whF 4612811918334230528 = 4611686018427387904 := by decide +kernel
  have h3 : Fl.whF 4615063718147915776 = 4616189618054758400 := by decide +kernel
  go_enter Try.func3, Try.ntmps3
  go_wp2_with (first
    | (go_at_call 8; refine (nan_call _).mono ?_; rintro e w' ⟨rfl, rfl⟩)
    | (go_at_call 9; refine (copysign_any _ _ _ (by decide) (by decide)).mono ?_; rintro e w' ⟨rfl, rfl⟩)
    | (go_at_call 10; refine (inf_any _ _ (by decide)).mono ?_; rintro e w' ⟨rfl, rfl⟩)
    | (go_at_call 12; refine (same_any _ _ _).mono ?_; rintro e w' ⟨rfl, rfl⟩)
    | (go_at_call 13; refine (finite_any _ _ (by decide)).mono ?_; rintro e w' ⟨rfl, rfl⟩)
    | (go_at_call 14; refine (within_any _ _ _ (by decide)).mono ?_; rintro e w' ⟨rfl, rfl⟩)
    | (go_at_call 15; refine (bits_any _ _).mono ?_; rintro e w' ⟨rfl, rfl⟩)
    | (go_at_call 16; refine (from_any _ _).mono ?_; rintro e w' ⟨rfl, rfl⟩)
    | (go_at_call 17; refine (up_any _ _ (by decide)).mono ?_; rintro e w' ⟨rfl, rfl⟩)
    | (go_at_call 19; refine (down_any _ _ (by decide)).mono ?_; rintro e w' ⟨rfl, rfl⟩)
    | (go_at_call 18; refine (signbit_any _ _ (by decide)).mono ?_; rintro e w' ⟨rfl, rfl⟩)
    | (go_at_call 20; refine (scale_any _ _ _ (by decide) (by decide) (by decide)).mono ?_; rintro e w' ⟨rfl, rfl⟩)
    | (go_at_call 21; refine (parts_any _ _ (by decide)).mono ?_; rintro e w' ⟨rfl, rfl⟩)
    | (go_at_call 22; refine (minus_any _ _ (by decide)).mono ?_; rintro e w' ⟨rfl, rfl⟩)
    | (go_at_call 23; refine (signed_any _ _ _ (by decide) (by decide)).mono ?_; rintro e w' ⟨rfl, rfl⟩))
  refine (sum_nil _).mono ?_
  rintro e w' ⟨rfl, rfl⟩
  clear s1 s2 s3 s5 s6 s7 s8 b1 b2 b3 u1 u2 u3 u4 u5 u6 u7 n1 o1 o4 o5 o6 o7 o8 o9 x1 x2 x3 p1 p2 p3 p4 m1 m2 m3 m4
  go_wp2_with fail
  refine (exact_far 9214364837600034816 9214364837600034816 9218868437227405312 _ (by decide +kernel) s4).mono ?_
  rintro e w' ⟨rfl, rfl⟩
  go_wp2_with fail
  refine (exact_fin 4607182418800017408 9223372036854775808 4607182418800017408 0 9223372036854775808 _ (by decide) (by decide) (by decide) (by decide) (by decide +kernel) (by decide) (by decide +kernel) (by decide +kernel) (by decide)).mono ?_
  rintro e w' ⟨rfl, rfl⟩
  have k1 : lostF 9223372036854775808 = 0 := by decide
  go_wp2_with (first
    | (go_at_call 18; refine (signbit_any _ _ (by decide)).mono ?_; rintro e w' ⟨rfl, rfl⟩))
  refine (sum_three 4607182418800017408 4845873199050653696 14069245235905429504 4845873199050653696 0 _ _ (by simp) (by simp) (by simp) (by decide +kernel) (by decide +kernel)).mono ?_
  rintro e w2 ⟨rfl, rfl⟩
  go_wp2_with (first
    | (go_at_call 18; refine (signbit_any _ _ (by decide)).mono ?_; rintro e w' ⟨rfl, rfl⟩)
    | (go_at_call 26; refine (whole_num _ _ (by decide)).mono ?_; rintro e w' ⟨rfl, rfl⟩)
    | (go_at_call 27; refine (alive_any _).mono ?_; rintro e w3 ⟨rfl, hg3⟩))
  go_ret
  exact ⟨rfl, grown_trans ((Grown.refl _).alloc _ _) hg3⟩

/-! ### THE ROW's STEP: WRITTEN OUT: LEAVE IT -/
set_option maxRecDepth 100000 in
theorem lifted (os : Os) (started : os.Started) (H : Type) (enc : TypeId × Value → H) :
    ReturnsInHanded {} Try.checked os 3 .any (Rows.floatNamesSpec.pre6 enc Try.prog Try.f3 Rows.floatNamesRow.domain false) (Rows.floatNamesSpec.post enc Try.prog Try.f3 false true false false) := by
  refine returnsInHanded_of_change (C := Try.checked) own started (by kernel_rfl) Try.func3
    (ChangeSpec.witness6 (enc := enc) (C := Try.checked) false ⟨#[], #[], []⟩ 8 (by kernel_rfl) (by kernel_rfl) (by kernel_rfl) (by kernel_rfl)) ?_
  intro W base args ds gs before hval0 hW hcnd _
  have hval : ∀ (j : Nat) t v, Try.f3.params[j]? = some t → args[j]? = some v → Value.okWide Try.prog W .any base t v := hval0
  have hW' := hW
  obtain ⟨p, q, hA0, hV, rfl, hfz, hnd⟩ := hW
  have hA : DataW.TrodAll enc Try.prog W 0 (fun _ => true) true Try.f3.params.toList args.toList ds p := hA0
  rw [Try.params3] at hA hval
  obtain ⟨rfl, rfl, rfl⟩ := trodAll_none hA
  obtain ⟨rfl, rfl⟩ := trodVars_none hV
  clear hA0 hval0
  simp only [List.append_nil] at hW'
  refine (walk  W).mono fun e W' ⟨he, hg⟩ => ?_
  subst he
  exact ⟨_, rfl, post_of_same (pa := []) (pv := []) hW' (fun _ _ _ => (trodAll_cons_mk (shut_bool Try.underlying4 _) trodAll_mk0)) (fun sp _ => rfl) (fun _ _ => rfl) rfl
    (hg.frame _) hg.2.1 (ok_one (by kernel_rfl) rfl (okWide_bool_mk Try.underlying4 _))⟩

theorem over : Rows.floatNamesRow.holds Try.pinned (OpenSpec.ofChange Rows.floatNamesSpec) :=
  OpenClaim.holds_of_wide 3 Try.f3 rfl rfl rfl rfl rfl rfl rfl ⟨rfl, rfl, rfl, rfl, rfl⟩ rfl rfl rfl rfl rfl (by kernel_rfl) Try.func3 (by kernel_rfl)
    (of_decide_eq_true (by kernel_rfl)) (by unfold Func.isWrapper; first | (rw [if_pos (by decide +kernel)]; kernel_rfl) | (rw [if_neg (by decide +kernel)]; exact ⟨rfl, rfl⟩))
    (fun os started H enc _ => lifted os started H enc)

/-- ████ THE STATEMENT ████ -/
theorem proved : Rows.FloatNamesSaid :=
  over
end Go.Proofs.Ytkbmgjaplmmpeaa.floatNames
namespace Go.Proofs.Ytkbmgjaplmmpeaa
theorem floatNames_proved : Rows.FloatNamesSaid := floatNames.proved
#print axioms floatNames_proved
end Go.Proofs.Ytkbmgjaplmmpeaa
