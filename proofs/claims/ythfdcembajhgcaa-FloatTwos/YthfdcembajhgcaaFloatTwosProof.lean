/-
  Proved: FloatTwos answers true for every word of 64 bits and every whole number of 16 bits: parts times their power are the float, and a float times a power of two is that, exactly (by fractions of whole numbers), as long as it is neither too great nor too small. No condition.
-/
import Derived.Test.YthfdcembajhgcaaRows
import Derived.Test.YthfdcembajhgcaaBhB
import Derived.Test.YthfdcembajhgcaaTwA
import Derived.Test.YthfdcembajhgcaaFnEq
import Derived.Test.YthfdcembajhgcaaLsC
import Derived.WalkKit
import Derived.ProofKit
import Derived.OpenShut
namespace Go.Proofs.Ythfdcembajhgcaa.floatTwos
open Go.ChangeShapes Go.WideShapes Go.ChangeAt Go.RowKit
set_option linter.unusedVariables false      -- a walk need not use every 'w<i>' (that an integer argument fits its kind)

theorem own : ownKnob Try.prog.godebug = none := by kernel_rfl

open Bg
attribute [local go_sem] frombits_call tobits_call run_neg
theorem rv_up {w : World} {B : Nat} {p : Int} {q k k' : Nat} (h : Rv w B p q k) (hk : k ≤ k') : Rv w B p q k' := by
  obtain ⟨s, A, D, h1, h2, h3, h4⟩ := h
  exact ⟨s, A, D, h1, h2, by omega, by omega⟩
theorem rt_si {w : World} {B C : Nat} {s t : Bool} {A D E : Nat} (h : Rt w B s A D) (k : Iv w C t E) (hne : B ≠ C) (s' : Bool) {x : Value} {X : Nat} (hx : Nm w x X) : Rt (siW w C s' x) B s A D := by
  obtain ⟨v, h1, h2⟩ := h.c1
  obtain ⟨u, h3, h4⟩ := h.c2
  have i := (Iv.mk h.nw h.c0 ⟨v, h1, h2⟩).other k hne s' hx
  exact ⟨i.nw, i.c0, ⟨v, (si_other w C B 1 hne s' x).trans h1, h2.si k s' hx⟩, ⟨u, (si_other w C B 2 hne s' x).trans h3, h4.si k s' hx⟩⟩
theorem crI_same {x y : Int} (h : x = y) : crI x y = 0 := by
  subst h; unfold crI; rw [if_neg (Int.lt_irrefl _), if_pos rfl]
theorem log2_two (m : Nat) (h : m ≤ 32768) : (1 * 2 ^ m).log2 < 40000 := by
  have := log2_shift 1 m 32768 (by omega) h
  omega

/-! ### STEP 1: THE WALK: the Go text returns true. 'Grown w w'': the world has at most new blocks (Derived/RowKit3.lean). Part the cases AHEAD of 'go_enter' where a test parts the walk; take each callee by a contract of your own. -/
set_option maxRecDepth 100000 in
set_option maxHeartbeats 8000000 in
theorem walk (a0 : Int) (a1 : Int) (w0 : (Lit.int .u64 a0).wf = true) (w1 : (Lit.int .i16 a1).wf = true) (w : World) :
    Calls Try.prog 4 #[.int .u64 a0, .int .i16 a1] w fun e w' => e = .returned (.bool true) ∧ Grown w w' := by
  obtain ⟨x, rfl⟩ := Int.eq_ofNat_of_zero_le (a := a0) (by simp [Lit.wf, IntKind.min, IntKind.max, IntKind.signed, IntKind.bits] at w0; omega)
  have hx : x < 18446744073709551616 := by simp [Lit.wf, IntKind.min, IntKind.max, IntKind.signed, IntKind.bits] at w0; omega
  have k1 : -32768 ≤ a1 := by simp [Lit.wf, IntKind.min, IntKind.max, IntKind.signed, IntKind.bits] at w1; omega
  have k2 : a1 ≤ 32767 := by simp [Lit.wf, IntKind.min, IntKind.max, IntKind.signed, IntKind.bits] at w1; omega
  clear w0 w1
  go_enter Try.func4, Try.ntmps4
  go_wp2_with fail
  refine (alive_any _).mono ?_
  rintro e w1 ⟨rfl, hg1⟩
  by_cases c0 : Fl.rg x = 0 ∨ 9218868437227405312 ≤ Fl.rg x
  · have e1 : paF x = x := if_pos c0
    have e2 : paE x = 0 := if_pos c0
    have hz : Fl.finB x = false ∨ (FloatKind.f64.format.order x 0 == some .eq) = true := by
      rcases c0 with h | h
      · right
        rw [Fl.o_eq, Fl.eqF_of (nan_rg (by omega)) (by decide), show Fl.key 0 = 0 by decide]
        apply decide_eq_true
        unfold Fl.key; rw [h]; split <;> rfl
      · left; exact decide_eq_false (by omega)
    cases hfx : Fl.finB x
    · clear hz c0
      go_wp2_with (first
        | (go_at_call 14; refine (parts_any x _ hx).mono ?_; rintro e w2 ⟨rfl, rfl⟩; rw [e1, e2])
        | (go_at_call_of 15 x; refine (finite_law _ _).mono ?_; rintro e w3 ⟨rfl, hg3⟩; rw [hfx]; have hg1 := grown_trans hg1 hg3; clear hg3))
      go_ret
      exact ⟨rfl, hg1⟩
    · rw [hfx] at hz
      have g1 := hz.resolve_left (by simp)
      clear hz c0
      go_wp2_with (first
        | (go_at_call 14; refine (parts_any x _ hx).mono ?_; rintro e w2 ⟨rfl, rfl⟩; rw [e1, e2])
        | (go_at_call_of 15 x; refine (finite_law _ _).mono ?_; rintro e w3 ⟨rfl, hg3⟩; rw [hfx]; have hg1 := grown_trans hg1 hg3; clear hg3))
      go_ret
      exact ⟨rfl, hg1⟩
  · have hf : Fl.rg x < 9218868437227405312 := by omega
    have hz : ¬ Fl.rg x = 0 := by omega
    have e1 : paF x = ptF x := if_neg c0
    have e2 : paE x = ptE x := if_neg c0
    obtain ⟨p1, p2, p3, p4, p5⟩ := pt_form hx hf hz
    have pb := parts_back hx hf hz
    have hfx : Fl.finB x = true := decide_eq_true hf
    have nx : Fl.nan x = false := nan_rg hf
    have hkx : Fl.key x ≠ 0 := by unfold Fl.key; split <;> omega
    have g1 : (FloatKind.f64.format.order x 0 == some .eq) = false := by
      rw [Fl.o_eq, Fl.eqF_of nx (by decide), show Fl.key 0 = 0 by decide]
      exact decide_eq_false hkx
    have g2 : (FloatKind.f64.format.order (Fl.rg (ptF x)) 4602678819172646912 == some .lt) = false := by
      rw [Fl.o_lt, Fl.ltF_of (nan_rg (by rw [rg_small (by omega)]; omega)) (by decide), show Fl.key 4602678819172646912 = 4602678819172646912 by decide]
      apply decide_eq_false
      have := Fl.key_wd false (Fl.rg (ptF x)) (by omega)
      simp only [Fl.wd, Bool.false_eq_true, if_false] at this
      omega
    have g3 : (FloatKind.f64.format.order (Fl.rg (ptF x)) 4607182418800017408 == some .gt || FloatKind.f64.format.order (Fl.rg (ptF x)) 4607182418800017408 == some .eq) = false := by
      rw [Fl.o_ge, Fl.leF_of (by decide) (nan_rg (by rw [rg_small (by omega)]; omega)), show Fl.key 4607182418800017408 = 4607182418800017408 by decide]
      apply decide_eq_false
      have := Fl.key_wd false (Fl.rg (ptF x)) (by omega)
      simp only [Fl.wd, Bool.false_eq_true, if_false] at this
      omega
    have g4 : (FloatKind.f64.format.order x x != some .eq) = false := by rw [Fl.o_ne, Fl.eqF_self, nx]; rfl
    have hpe : -9223372036854775808 ≤ ptE x ∧ ptE x ≤ 9223372036854775807 := by
      obtain ⟨y1, y2, y3, y4, c1, c2, v1⟩ := nm_facts hx hf hz
      unfold ptE; omega
    obtain ⟨q1, q2⟩ := hpe
    have sx := scF_lt hx a1
    clear c0 p2 p3 p4 p5 hkx
    go_wp2_with (first
      | (go_at_call 14; refine (parts_any x _ hx).mono ?_; rintro e w2 ⟨rfl, rfl⟩; rw [e1, e2])
      | (go_at_call_of 15 x; refine (finite_law _ _).mono ?_; rintro e w3 ⟨rfl, hg3⟩; rw [hfx]; have hg1 := grown_trans hg1 hg3; clear hg3)
      | (go_at_call 17; refine (abs_any (ptF x) _ p1).mono ?_; rintro e w4 ⟨rfl, rfl⟩)
      | (go_at_call_of 18 (ptF x); refine (scale_any (ptF x) (ptE x) _ p1 q1 q2).mono ?_; rintro e w5 ⟨rfl, rfl⟩; rw [pb])
      | (go_at_call_of 18 a1; refine (scale_any x a1 _ hx (by omega) (by omega)).mono ?_; rintro e w6 ⟨rfl, rfl⟩)
      | fail)
    have hsg := scF_sg a1 hf hz
    have HEX : Hid _ := scale_exact a1 hf hz
    generalize scF x a1 = s at *
    clear pb p1 q1 q2 g2 g3 e1 e2
    cases hfs : Fl.finB s
    · go_wp2_with (first
        | (go_at_call_of 15 s; refine (finite_law _ _).mono ?_; rintro e w7 ⟨rfl, hg7⟩; rw [hfs]; have hg1 := grown_trans hg1 hg7; clear hg7)
        | (go_at_call_of 19 s; refine (signbit_any s _ sx).mono ?_; rintro e w8 ⟨rfl, rfl⟩; rw [hsg])
        | (go_at_call_of 19 x; refine (signbit_any x _ hx).mono ?_; rintro e w9 ⟨rfl, rfl⟩))
      go_ret
      exact ⟨by simp, hg1⟩
    · have fs : Fl.rg s < 9218868437227405312 := of_decide_eq_true hfs
      have hkr : Fl.key (Fl.rg s) = (Fl.rg s : Int) := Fl.key_wd false (Fl.rg s) (by omega)
      by_cases hle : Fl.rg s ≤ 4503599627370496
      · have g5 : (FloatKind.f64.format.order (Fl.rg s) 4503599627370496 == some .lt || FloatKind.f64.format.order (Fl.rg s) 4503599627370496 == some .eq) = true := by
          rw [Fl.o_le, Fl.leF_of (nan_rg (by rw [rg_small (by omega)]; omega)) (by decide), hkr, show Fl.key 4503599627370496 = 4503599627370496 by decide]
          exact decide_eq_true (by omega)
        clear HEX hkr hle
        go_wp2_with (first
          | (go_at_call_of 15 s; refine (finite_law _ _).mono ?_; rintro e w7 ⟨rfl, hg7⟩; rw [hfs]; have hg1 := grown_trans hg1 hg7; clear hg7)
          | (go_at_call_of 17 s; refine (abs_any s _ sx).mono ?_; rintro e w10 ⟨rfl, rfl⟩)
          | (go_at_call_of 19 s; refine (signbit_any s _ sx).mono ?_; rintro e w8 ⟨rfl, rfl⟩; rw [hsg])
          | (go_at_call_of 19 x; refine (signbit_any x _ hx).mono ?_; rintro e w9 ⟨rfl, rfl⟩))
        go_ret
        exact ⟨by simp, hg1⟩
      · have g5 : (FloatKind.f64.format.order (Fl.rg s) 4503599627370496 == some .lt || FloatKind.f64.format.order (Fl.rg s) 4503599627370496 == some .eq) = false := by
          rw [Fl.o_le, Fl.leF_of (nan_rg (by rw [rg_small (by omega)]; omega)) (by decide), hkr, show Fl.key 4503599627370496 = 4503599627370496 by decide]
          exact decide_eq_false (by omega)
        have HE : Hid _ := HEX.out fs (by omega)
        clear HEX hkr hle
        go_wp2_with (first
          | (go_at_call_of 15 s; refine (finite_law _ _).mono ?_; rintro e w7 ⟨rfl, hg7⟩; rw [hfs]; have hg1 := grown_trans hg1 hg7; clear hg7)
          | (go_at_call_of 17 s; refine (abs_any s _ sx).mono ?_; rintro e w10 ⟨rfl, rfl⟩)
          | fail)
        obtain ⟨c, hc⟩ : ∃ c, c = 1074 := ⟨_, rfl⟩
        have HC : Hid (c = 1074) := hc
        clear hc
        obtain ⟨m, hm⟩ : ∃ m : Nat, m = a1.natAbs := ⟨_, rfl⟩
        have HM : Hid (m = a1.natAbs) := hm
        have hmb : m ≤ 32768 := by omega
        clear hm
        have hm1 := (rt_made w10).mono ((Fr.refl _).alloc #[.bool false, .slice none 0 0] 44)
        have hF : Fr w10 ((w10.alloc (.cells #[.bool false, .slice none 0 0, .slice none 0 0] 46)).alloc (.cells #[.bool false, .slice none 0 0] 44)) := ((Fr.refl _).alloc _ _).alloc _ _
        obtain ⟨B1, hB1⟩ : ∃ B1, B1 = w10.heap.size := ⟨_, rfl⟩
        obtain ⟨B2, hB2⟩ : ∃ B2, B2 = w10.heap.size + 1 := ⟨_, rfl⟩
        have hm2 := iv_made (w10.alloc (.cells #[.bool false, .slice none 0 0, .slice none 0 0] 46)) B2 (by rw [hB2]; simp) _ rfl
        have HB1 : Hid (B1 = w10.heap.size) := hB1
        have HB2 : Hid (B2 = w10.heap.size + 1) := hB2
        rw [← hB1] at hm1
        clear hB1 hB2
        generalize (w10.alloc (.cells #[.bool false, .slice none 0 0, .slice none 0 0] 46)).alloc (.cells #[.bool false, .slice none 0 0] 44) = wa at *
        refine (newint_one _).mono ?_
        rintro e wb ⟨B3, rfl, i3, hB3, f3⟩
        go_wp2_with fail
        have hmx : max a1 (-a1) = (m : Int) := by have := HM.out; omega
        rw [← HB2.out, hmx]
        refine (lsh_any B2 B3 1 m false false 0 _ (hm2.mono f3) i3 (by have := hm2.nw.1; omega) (by decide) (by omega)).mono ?_
        rintro e wc ⟨wc', xv, rfl, q1, q2, rfl⟩
        have i2 : Iv (siW wc' B2 (false && decide (1 * 2 ^ m ≠ 0)) xv) B2 (false && decide (1 * 2 ^ m ≠ 0)) (1 * 2 ^ m) := ((hm2.mono f3).mono q1).si q2 _
        have r1 : Rt (siW wc' B2 (false && decide (1 * 2 ^ m ≠ 0)) xv) B1 false 0 0 := rt_si ((hm1.mono f3).mono q1) ((hm2.mono f3).mono q1) (by have := HB1.out; have := HB2.out; omega) _ q2
        have fc : Fr w10 (siW wc' B2 (false && decide (1 * 2 ^ m ≠ 0)) xv) := ((hF.trans f3).trans q1).si (by have := HB2.out; omega) _ _
        have hls := log2_two m hmb
        have HPW : Hid (sv (false && decide (1 * 2 ^ m ≠ 0)) (1 * 2 ^ m) = ((2 ^ m : Nat) : Int)) := by
          show _ = _
          rw [Bool.false_and, Nat.one_mul]; rfl
        have hpw : 0 < 2 ^ m := Nat.pow_pos (by omega)
        generalize siW wc' B2 (false && decide (1 * 2 ^ m ≠ 0)) xv = wc at *
        generalize (false && decide (1 * 2 ^ m ≠ 0)) = sb at *
        generalize 1 * 2 ^ m = tm at *
        clear q1 q2 hm1 hm2 i3 hF f3
        go_wp2_with fail
        try rw [← HB1.out]
        refine (setint_any B1 B2 tm 40000 sb false 0 0 _ r1 i2 (by have := HB1.out; have := HB2.out; omega) hls (by omega) (by omega)).mono ?_
        rintro e wd hsv
        have fd : Fr w10 wd := hsv.fr fc (by have := HB1.out; omega)
        obtain ⟨rfl, rv2, _⟩ := hsv
        rw [HPW.out] at rv2
        clear r1 i2 fc
        go_wp2_with fail
        refine (exact_rat x c _ hx hf HC.out).mono ?_
        rintro e we ⟨B4, rfl, rv4, hB4, fe⟩
        have hlt : B1 < wd.heap.size := by obtain ⟨_, _, _, h, _⟩ := rv2; exact h.nw.1
        have rv2' := rv2.mono fe
        have fE := fd.trans fe
        have hge4 : w10.heap.size ≤ B4 := Nat.le_trans fd.1.size hB4
        obtain ⟨s4, A4, D4, hR4, hq4⟩ := rv4
        have rv4 : Rv we B4 (Fl.val x) (2 ^ c) 2200 := ⟨s4, A4, D4, hR4, hq4⟩
        clear hq4 rv2 fd fe
        by_cases hn0 : 0 ≤ a1
        · go_wp2_with fail
          refine (rmul_any B4 B4 B1 _ _ _ _ 2200 40000 _ _ _ _ hR4 rv4 rv2' (by omega) (by omega)).mono ?_
          rintro e wf hsv
          have ff : Fr w10 wf := hsv.fr fE hge4
          obtain ⟨rfl, rv5, _⟩ := hsv
          clear rv4 rv2' hR4 fE
          go_wp2_with fail
          refine (exact_rat s c _ sx fs HC.out).mono ?_
          rintro e wg ⟨B5, rfl, rv6, _, fg⟩
          go_wp2_with fail
          refine (rcmp_any B5 B4 _ _ _ _ 42202 _ (rv_up rv6 (by omega)) (rv5.mono fg) (Nat.pow_pos (by omega)) (Nat.mul_pos (Nat.pow_pos (by omega)) (by omega)) (by omega)).mono ?_
          rintro e wh ⟨rfl, fh⟩
          have hcr : crI (Fl.val s * ((2 ^ c * 1 : Nat) : Int)) (Fl.val x * ((2 ^ m : Nat) : Int) * ((2 ^ c : Nat) : Int)) = 0 := by
            apply crI_same
            have h := HE.out
            rw [show (-a1).toNat = 0 by omega, show a1.toNat = m by have := HM.out; omega, Nat.pow_zero] at h
            rw [Nat.mul_one, ← h]; simp
          rw [hcr]
          have hg := grown_trans hg1 ((ff.trans fg).trans fh).grown
          clear fh fg ff rv5 rv6
          go_wp2
          go_ret
          exact ⟨rfl, hg⟩
        · go_wp2_with fail
          refine (rquo_any B4 B4 B1 _ _ _ _ 2200 40000 _ _ _ _ hR4 rv4 rv2' hpw (by omega) (by omega) (by omega)).mono ?_
          rintro e wf hsv
          have ff : Fr w10 wf := hsv.fr fE hge4
          obtain ⟨rfl, rv5, _⟩ := hsv
          clear rv4 rv2' hR4 fE
          go_wp2_with fail
          refine (exact_rat s c _ sx fs HC.out).mono ?_
          rintro e wg ⟨B5, rfl, rv6, _, fg⟩
          go_wp2_with fail
          refine (rcmp_any B5 B4 _ _ _ _ 42202 _ (rv_up rv6 (by omega)) (rv5.mono fg) (Nat.pow_pos (by omega)) (Nat.mul_pos (Nat.pow_pos (by omega)) hpw) (by omega)).mono ?_
          rintro e wh ⟨rfl, fh⟩
          have hcr : crI (Fl.val s * ((2 ^ c * 2 ^ m : Nat) : Int)) (Fl.val x * ((1 : Nat) : Int) * ((2 ^ c : Nat) : Int)) = 0 := by
            apply crI_same
            have h := HE.out
            rw [show a1.toNat = 0 by omega, show (-a1).toNat = m by have := HM.out; omega, Nat.pow_zero] at h
            rw [← h, Int.natCast_mul, Int.mul_comm ((2 ^ c : Nat) : Int), ← Int.mul_assoc]
          rw [hcr]
          have hg := grown_trans hg1 ((ff.trans fg).trans fh).grown
          clear fh fg ff rv5 rv6
          go_wp2
          go_ret
          exact ⟨rfl, hg⟩

/-! ### THE ROW's STEP: WRITTEN OUT: LEAVE IT -/
set_option maxRecDepth 100000 in
theorem lifted (os : Os) (started : os.Started) (H : Type) (enc : TypeId × Value → H) :
    ReturnsInHanded {} Try.checked os 4 .any (Rows.floatTwosSpec.pre6 enc Try.prog Try.f4 Rows.floatTwosRow.domain false) (Rows.floatTwosSpec.post enc Try.prog Try.f4 false true false false) := by
  refine returnsInHanded_of_change (C := Try.checked) own started (by kernel_rfl) Try.func4
    (ChangeSpec.witness6 (enc := enc) (C := Try.checked) false ⟨#[], #[.int .u64 0, .int .i16 0], []⟩ 8 (by kernel_rfl) (by kernel_rfl) (by kernel_rfl) (by kernel_rfl)) ?_
  intro W base args ds gs before hval0 hW hcnd _
  have hval : ∀ (j : Nat) t v, Try.f4.params[j]? = some t → args[j]? = some v → Value.okWide Try.prog W .any base t v := hval0
  have hW' := hW
  obtain ⟨p, q, hA0, hV, rfl, hfz, hnd⟩ := hW
  have hA : DataW.TrodAll enc Try.prog W 0 (fun _ => true) true Try.f4.params.toList args.toList ds p := hA0
  rw [Try.params4] at hA hval
  obtain ⟨v0, vs0, d0, ds0, p0, q0, hargs, rfl, rfl, h0, r0⟩ := trodAll_cons hA
  obtain ⟨v1, vs1, d1, ds1, p1, q1, rfl, rfl, rfl, h1, r1⟩ := trodAll_cons r0
  obtain ⟨rfl, rfl, rfl⟩ := trodAll_nil r1
  obtain rfl : args = #[v0, v1] := by cases args; simp_all
  obtain ⟨rfl, rfl⟩ := trodVars_none hV
  obtain ⟨a0, rfl, rfl, rfl, w0⟩ := open_int Try.underlying23 (hval 0 23 v0 rfl rfl) h0
  obtain ⟨a1, rfl, rfl, rfl, w1⟩ := open_int Try.underlying33 (hval 1 33 v1 rfl rfl) h1
  clear hA0 hval0
  simp only [List.append_nil] at hW'
  refine (walk a0 a1 w0 w1 W).mono fun e W' ⟨he, hg⟩ => ?_
  subst he
  exact ⟨_, rfl, post_of_same (pa := []) (pv := []) hW' (fun _ _ _ => (trodAll_cons_mk (shut_bool Try.underlying4 _) trodAll_mk0)) (fun sp _ => (trodAll_cons_mk (shut_int Try.underlying23 w0) (trodAll_cons_mk (shut_int Try.underlying33 w1) trodAll_mk0))) (fun _ _ => rfl) rfl
    (hg.frame _) hg.2.1 (ok_one (by kernel_rfl) rfl (okWide_bool_mk Try.underlying4 _))⟩

theorem over : Rows.floatTwosRow.holds Try.pinned (OpenSpec.ofChange Rows.floatTwosSpec) :=
  OpenClaim.holds_of_wide 4 Try.f4 rfl rfl rfl rfl rfl rfl rfl ⟨rfl, rfl, rfl, rfl, rfl⟩ rfl rfl rfl rfl rfl (by kernel_rfl) Try.func4 (by kernel_rfl)
    (of_decide_eq_true (by kernel_rfl)) (by unfold Func.isWrapper; first | (rw [if_pos (by decide +kernel)]; kernel_rfl) | (rw [if_neg (by decide +kernel)]; exact ⟨rfl, rfl⟩))
    (fun os started H enc _ => lifted os started H enc)

/-- ████ THE STATEMENT ████ -/
theorem proved : Rows.FloatTwosSaid :=
  over
end Go.Proofs.Ythfdcembajhgcaa.floatTwos
namespace Go.Proofs.Ythfdcembajhgcaa
theorem floatTwos_proved : Rows.FloatTwosSaid := floatTwos.proved
#print axioms floatTwos_proved
end Go.Proofs.Ythfdcembajhgcaa
