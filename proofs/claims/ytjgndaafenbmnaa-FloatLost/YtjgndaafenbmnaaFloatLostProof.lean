/-
  Proved: FloatLost answers true for every two words of 64 bits: a sum and what it lost are both numbers together, exactly (by fractions of whole numbers), and the loss is at most half a unit of the sum's last place. No condition.
-/
import Derived.Test.YtjgndaafenbmnaaRows
import Derived.Test.YtjgndaafenbmnaaLsC
import Derived.Test.YtjgndaafenbmnaaFnEq
import Derived.WalkKit
import Derived.ProofKit
import Derived.OpenShut
namespace Go.Proofs.Ytjgndaafenbmnaa.floatLost
open Go.ChangeShapes Go.WideShapes Go.ChangeAt Go.RowKit
set_option linter.unusedVariables false      -- a walk need not use every 'w<i>' (that an integer argument fits its kind)

theorem own : ownKnob Try.prog.godebug = none := by kernel_rfl

open Bg
attribute [local go_sem] frombits_call tobits_call run_neg

/-! ### STEP 1: THE WALK: the Go text returns true. 'Grown w w'': the world has at most new blocks (Derived/RowKit3.lean). Part the cases AHEAD of 'go_enter' where a test parts the walk; take each callee by a contract of your own. -/
set_option maxRecDepth 100000 in
set_option maxHeartbeats 8000000 in
theorem walk (a0 : Int) (a1 : Int) (w0 : (Lit.int .u64 a0).wf = true) (w1 : (Lit.int .u64 a1).wf = true) (w : World) :
    Calls Try.prog 5 #[.int .u64 a0, .int .u64 a1] w fun e w' => e = .returned (.bool true) ∧ Grown w w' := by
  obtain ⟨x, rfl⟩ := Int.eq_ofNat_of_zero_le (a := a0) (by simp [Lit.wf, IntKind.min, IntKind.max, IntKind.signed, IntKind.bits] at w0; omega)
  obtain ⟨y, rfl⟩ := Int.eq_ofNat_of_zero_le (a := a1) (by simp [Lit.wf, IntKind.min, IntKind.max, IntKind.signed, IntKind.bits] at w1; omega)
  have hx : x < 18446744073709551616 := by simp [Lit.wf, IntKind.min, IntKind.max, IntKind.signed, IntKind.bits] at w0; omega
  have hy : y < 18446744073709551616 := by simp [Lit.wf, IntKind.min, IntKind.max, IntKind.signed, IntKind.bits] at w1; omega
  clear w0 w1
  go_enter Try.func5, Try.ntmps5
  go_wp2_with fail
  refine (exact_any _ _ _ hx hy).mono ?_
  rintro e w1 ⟨s, l, rfl, ho, hg1⟩
  obtain ⟨hs, hl⟩ := ExO_lt ho
  have hcase : (Fl.finB s = false ∧ l = 0) ∨ (Fl.rg x < 9218868437227405312 ∧ Fl.rg y < 9218868437227405312 ∧ s = Fl.aw x y ∧ Fl.finB s = true ∧ l = Fl.lw (Fl.val x + Fl.val y - Fl.val s) ∧ Fl.Rep (Fl.val x + Fl.val y - Fl.val s) ∧ (Fl.val x + Fl.val y - Fl.val s).natAbs.log2 < 2098) := by
    rcases ho with ⟨_, h1, _, h2⟩ | ⟨_, h1, h2⟩ | h
    · left
      refine ⟨?_, h2⟩
      unfold Fl.nan at h1
      unfold Fl.finB
      exact decide_eq_false (by have := of_decide_eq_true h1; omega)
    · exact Or.inl ⟨h1, h2⟩
    · exact Or.inr h
  clear ho
  rcases hcase with ⟨hfs, rfl⟩ | ⟨fx, fy, es, hfs, el, hR, hG⟩
  · have g0 : (FloatKind.f64.format.order 0 0 == some .eq) = true := by decide +kernel
    cases hfx : Fl.finB x <;> cases hfy : Fl.finB y
    all_goals
      go_wp2_with (first
        | (go_at_call_of 15 x; refine (finite_law _ _).mono ?_; rintro e w2 ⟨rfl, hg2⟩; rw [hfx]; have hg1 := grown_trans hg1 hg2; clear hg2)
        | (go_at_call_of 15 y; refine (finite_law _ _).mono ?_; rintro e w3 ⟨rfl, hg3⟩; rw [hfy]; have hg1 := grown_trans hg1 hg3; clear hg3)
        | (go_at_call_of 15 s; refine (finite_law _ _).mono ?_; rintro e w4 ⟨rfl, hg4⟩; rw [hfs]; have hg1 := grown_trans hg1 hg4; clear hg4)
        | (go_at_call 13; refine (alive_any _).mono ?_; rintro e w5 ⟨rfl, hg5⟩)
        | (go_at_call 19; refine (signbit_any _ _ (by decide)).mono ?_; rintro e w6 ⟨rfl, rfl⟩))
      go_ret
      exact ⟨rfl, grown_trans hg1 hg5⟩
  · have hfx : Fl.finB x = true := decide_eq_true fx
    have hfy : Fl.finB y = true := decide_eq_true fy
    have fs : Fl.rg s < 9218868437227405312 := of_decide_eq_true hfs
    obtain ⟨d, hd1, hd2, hd3⟩ := lost_facts hs fs es el hR hG
    obtain ⟨v1, fl⟩ := Fl.val_lw _ hR hG
    rw [← el] at v1 fl
    have hsum : Fl.val x + Fl.val y = Fl.val s + Fl.val l := by omega
    obtain ⟨c, hc⟩ : ∃ c, c = 1074 := ⟨_, rfl⟩
    have HC : Hid (c = 1074) := hc
    have HD : Hid _ := hd3
    have HS : Hid (Fl.val x + Fl.val y = Fl.val s + Fl.val l) := hsum
    clear hd3 hc hsum v1 el hR hG es
    go_wp2_with (first
      | (go_at_call_of 15 x; refine (finite_law _ _).mono ?_; rintro e w2 ⟨rfl, hg2⟩; rw [hfx]; have hg1 := grown_trans hg1 hg2; clear hg2)
      | (go_at_call_of 15 y; refine (finite_law _ _).mono ?_; rintro e w3 ⟨rfl, hg3⟩; rw [hfy]; have hg1 := grown_trans hg1 hg3; clear hg3)
      | (go_at_call_of 15 s; refine (finite_law _ _).mono ?_; rintro e w4 ⟨rfl, hg4⟩; rw [hfs]; have hg1 := grown_trans hg1 hg4; clear hg4)
      | fail)
    have hm1 := rt_made w4
    have hF1 : Fr w4 (w4.alloc (.cells #[.bool false, .slice none 0 0, .slice none 0 0] 46)) := (Fr.refl w4).alloc _ _
    obtain ⟨B1, hB1⟩ : ∃ B1, B1 = w4.heap.size := ⟨_, rfl⟩
    have HB1 : Hid (B1 = w4.heap.size) := hB1
    rw [← hB1] at hm1
    clear hB1
    generalize w4.alloc (.cells #[.bool false, .slice none 0 0, .slice none 0 0] 46) = wa1 at *
    refine (exact_rat x c _ hx fx HC.out).mono ?_
    rintro e wb1 ⟨Ba1, rfl, ra1, _, fa1⟩
    go_wp2_with fail
    refine (exact_rat y c _ hy fy HC.out).mono ?_
    rintro e wc1 ⟨Bb1, rfl, rb1, _, fb1⟩
    go_wp2_with fail
    try rw [← HB1.out]
    refine (radd_any B1 Ba1 Bb1 _ _ _ _ 2200 2200 _ false 0 0 (hm1.mono (fa1.trans fb1)) (ra1.mono fb1) rb1 (by omega)).mono ?_
    rintro e wd1 hsv1
    have hfr1 : Fr w4 wd1 := hsv1.fr ((hF1.trans fa1).trans fb1) (by have := HB1.out; omega)
    obtain ⟨rfl, rv1, _⟩ := hsv1
    clear ra1 rb1 fa1 fb1 hm1 hF1
    go_wp2_with fail
    have w7e : Hid (True) := trivial
    have hm2 := rt_made wd1
    have hF2 : Fr wd1 (wd1.alloc (.cells #[.bool false, .slice none 0 0, .slice none 0 0] 46)) := (Fr.refl wd1).alloc _ _
    obtain ⟨B2, hB2⟩ : ∃ B2, B2 = wd1.heap.size := ⟨_, rfl⟩
    have HB2 : Hid (B2 = wd1.heap.size) := hB2
    rw [← hB2] at hm2
    clear hB2
    generalize wd1.alloc (.cells #[.bool false, .slice none 0 0, .slice none 0 0] 46) = wa2 at *
    refine (exact_rat s c _ hs fs HC.out).mono ?_
    rintro e wb2 ⟨Ba2, rfl, ra2, _, fa2⟩
    go_wp2_with fail
    refine (exact_rat l c _ hl fl HC.out).mono ?_
    rintro e wc2 ⟨Bb2, rfl, rb2, _, fb2⟩
    go_wp2_with fail
    try rw [← HB2.out]
    refine (radd_any B2 Ba2 Bb2 _ _ _ _ 2200 2200 _ false 0 0 (hm2.mono (fa2.trans fb2)) (ra2.mono fb2) rb2 (by omega)).mono ?_
    rintro e wd2 hsv2
    have hfr2 : Fr wd1 wd2 := hsv2.fr ((hF2.trans fa2).trans fb2) (by have := HB2.out; omega)
    obtain ⟨rfl, rv2, _⟩ := hsv2
    clear ra2 rb2 fa2 fb2 hm2 hF2
    have rv1' := rv1.mono hfr2
    clear rv1
    have hg := grown_trans hg1 (hfr1.trans hfr2).grown
    clear hfr1 hfr2 hg1
    have r1 := fun (t : TypeId) w => run_float_arith (P := Try.prog) w .mul t .f64 _ _ _ (show floatBits .mul .f64 4611686018427387904 s = some (tw s) from Fl.mul_two fs)
    have r2 := fun (t : TypeId) w => run_float_arith (P := Try.prog) w .sub t .f64 _ _ _ (show floatBits .sub .f64 (nx s) s = some d from hd1)
    go_wp2_with (first
      | (go_at_call 28; refine (next_any s _ hs fs).mono ?_; rintro e wq ⟨rfl, rfl⟩)
      | (go_at_call_of 17 d; refine (abs_any d _ hd2).mono ?_; rintro e wq ⟨rfl, rfl⟩)
      | fail)
    refine (alive_any _).mono ?_
    rintro e w5 ⟨rfl, hg5⟩
    have rv1 := rv1'.grown hg5
    have rv2 := rv2.grown hg5
    have hg := grown_trans hg hg5
    clear rv1' hg5
    go_wp2_with fail
    refine (rcmp_any B1 B2 _ _ _ _ 4402 _ rv1 rv2 (Nat.mul_pos (Nat.pow_pos (by omega)) (Nat.pow_pos (by omega))) (Nat.mul_pos (Nat.pow_pos (by omega)) (Nat.pow_pos (by omega))) (by omega)).mono ?_
    rintro e w6 ⟨rfl, hf6⟩
    have hcr : crI ((Fl.val x * ((2 ^ c : Nat) : Int) + Fl.val y * ((2 ^ c : Nat) : Int)) * ((2 ^ c * 2 ^ c : Nat) : Int)) ((Fl.val s * ((2 ^ c : Nat) : Int) + Fl.val l * ((2 ^ c : Nat) : Int)) * ((2 ^ c * 2 ^ c : Nat) : Int)) = 0 := by
      rw [← Int.add_mul, ← Int.add_mul, HS.out]
      unfold crI
      rw [if_neg (Int.lt_irrefl _), if_pos rfl]
    rw [hcr]
    have hg := grown_trans hg hf6.grown
    clear hf6 rv1 rv2 hcr r1 r2
    rcases HD.out with h1 | ⟨h1, h2⟩ | ⟨h1, h2, h, h3, h4⟩
    · have g1 : (FloatKind.f64.format.order l 0 == some .eq) = true := by rw [Fl.o_eq]; exact h1
      go_wp2
      go_ret
      exact ⟨rfl, hg⟩
    · have g1 : (FloatKind.f64.format.order l 0 == some .eq) = false := by rw [Fl.o_eq]; exact h1
      generalize Fl.rg d = u at *
      go_wp2_with (first
        | (go_at_call_of 15 u; refine (finite_law _ _).mono ?_; rintro e w7 ⟨rfl, hg7⟩; rw [h2]; have hg := grown_trans hg hg7; clear hg7))
      go_ret
      exact ⟨rfl, hg⟩
    · have g1 : (FloatKind.f64.format.order l 0 == some .eq) = false := by rw [Fl.o_eq]; exact h1
      have g2 : (FloatKind.f64.format.order (Fl.rg l) h == some .lt || FloatKind.f64.format.order (Fl.rg l) h == some .eq) = true := by rw [Fl.o_le]; exact h4
      have r3 := fun (t : TypeId) w => run_float_arith (P := Try.prog) w .quo t .f64 _ _ _ (show floatBits .quo .f64 (Fl.rg d) 4611686018427387904 = some h from h3)
      generalize Fl.rg d = u at *
      go_wp2_with (first
        | (go_at_call_of 15 u; refine (finite_law _ _).mono ?_; rintro e w7 ⟨rfl, hg7⟩; rw [h2]; have hg := grown_trans hg hg7; clear hg7)
        | (go_at_call_of 17 l; refine (abs_any l _ hl).mono ?_; rintro e wq ⟨rfl, rfl⟩))
      go_ret
      exact ⟨rfl, hg⟩

/-! ### THE ROW's STEP: WRITTEN OUT: LEAVE IT -/
set_option maxRecDepth 100000 in
theorem lifted (os : Os) (started : os.Started) (H : Type) (enc : TypeId × Value → H) :
    ReturnsInHanded {} Try.checked os 5 .any (Rows.floatLostSpec.pre6 enc Try.prog Try.f5 Rows.floatLostRow.domain false) (Rows.floatLostSpec.post enc Try.prog Try.f5 false true false false) := by
  refine returnsInHanded_of_change (C := Try.checked) own started (by kernel_rfl) Try.func5
    (ChangeSpec.witness6 (enc := enc) (C := Try.checked) false ⟨#[], #[.int .u64 0, .int .u64 0], []⟩ 8 (by kernel_rfl) (by kernel_rfl) (by kernel_rfl) (by kernel_rfl)) ?_
  intro W base args ds gs before hval0 hW hcnd _
  have hval : ∀ (j : Nat) t v, Try.f5.params[j]? = some t → args[j]? = some v → Value.okWide Try.prog W .any base t v := hval0
  have hW' := hW
  obtain ⟨p, q, hA0, hV, rfl, hfz, hnd⟩ := hW
  have hA : DataW.TrodAll enc Try.prog W 0 (fun _ => true) true Try.f5.params.toList args.toList ds p := hA0
  rw [Try.params5] at hA hval
  obtain ⟨v0, vs0, d0, ds0, p0, q0, hargs, rfl, rfl, h0, r0⟩ := trodAll_cons hA
  obtain ⟨v1, vs1, d1, ds1, p1, q1, rfl, rfl, rfl, h1, r1⟩ := trodAll_cons r0
  obtain ⟨rfl, rfl, rfl⟩ := trodAll_nil r1
  obtain rfl : args = #[v0, v1] := by cases args; simp_all
  obtain ⟨rfl, rfl⟩ := trodVars_none hV
  obtain ⟨a0, rfl, rfl, rfl, w0⟩ := open_int Try.underlying23 (hval 0 23 v0 rfl rfl) h0
  obtain ⟨a1, rfl, rfl, rfl, w1⟩ := open_int Try.underlying23 (hval 1 23 v1 rfl rfl) h1
  clear hA0 hval0
  simp only [List.append_nil] at hW'
  refine (walk a0 a1 w0 w1 W).mono fun e W' ⟨he, hg⟩ => ?_
  subst he
  exact ⟨_, rfl, post_of_same (pa := []) (pv := []) hW' (fun _ _ _ => (trodAll_cons_mk (shut_bool Try.underlying4 _) trodAll_mk0)) (fun sp _ => (trodAll_cons_mk (shut_int Try.underlying23 w0) (trodAll_cons_mk (shut_int Try.underlying23 w1) trodAll_mk0))) (fun _ _ => rfl) rfl
    (hg.frame _) hg.2.1 (ok_one (by kernel_rfl) rfl (okWide_bool_mk Try.underlying4 _))⟩

theorem over : Rows.floatLostRow.holds Try.pinned (OpenSpec.ofChange Rows.floatLostSpec) :=
  OpenClaim.holds_of_wide 5 Try.f5 rfl rfl rfl rfl rfl rfl rfl ⟨rfl, rfl, rfl, rfl, rfl⟩ rfl rfl rfl rfl rfl (by kernel_rfl) Try.func5 (by kernel_rfl)
    (of_decide_eq_true (by kernel_rfl)) (by unfold Func.isWrapper; first | (rw [if_pos (by decide +kernel)]; kernel_rfl) | (rw [if_neg (by decide +kernel)]; exact ⟨rfl, rfl⟩))
    (fun os started H enc _ => lifted os started H enc)

/-- ████ THE STATEMENT ████ -/
theorem proved : Rows.FloatLostSaid :=
  over
end Go.Proofs.Ytjgndaafenbmnaa.floatLost
namespace Go.Proofs.Ytjgndaafenbmnaa
theorem floatLost_proved : Rows.FloatLostSaid := floatLost.proved
#print axioms floatLost_proved
end Go.Proofs.Ytjgndaafenbmnaa
