/-
  PROVED HERE: eddylaw01.FloatTurned answers true for every two rows of 64 bits and every whole number: with all signs turned Up tells what Down does, Scale, Whole and Exact tell what they told with the sign turned, and From of Bits of a float is the float; there is no condition.
-/
import Derived.Test.YtkbmgjaplmmpeabRows
import Derived.Test.YtkbmgjaplmmpeabFnExact2
import Derived.Test.YtkbmgjaplmmpeabFnLdexp
import Derived.Test.YtkbmgjaplmmpeabFnWhole
import Derived.Test.YtkbmgjaplmmpeabFnEq
import Derived.WalkKit
import Derived.ProofKit
import Derived.OpenShut
namespace Go.Proofs.Ytkbmgjaplmmpeab.floatTurned
open Go.ChangeShapes Go.WideShapes Go.ChangeAt Go.RowKit
set_option linter.unusedVariables false      -- a walk need not use every 'w<i>' (that an integer argument fits its kind)

theorem own : ownKnob Try.prog.godebug = none := by kernel_rfl

attribute [local go_sem] frombits_call tobits_call run_neg
theorem same_self (x : Nat) : Fl.sameB x x = true := by simp [Fl.sameB]
theorem scF_ng {x : Nat} (hx : x < 18446744073709551616) (n : Int) : scF (Fl.ng x) n = Fl.ng (scF x n) := by
  unfold scF
  have e : Fl.finB (Fl.ng x) = Fl.finB x := by unfold Fl.finB; rw [Fl.rg_ng]
  rw [e, Fl.rg_ng, Fl.sg_ng hx]
  split
  · have := Fl.rz_le (Fl.vl (Fl.rg x)) n
    generalize Fl.rz (Fl.vl (Fl.rg x)) n = r at *
    unfold Fl.wd Fl.ng
    cases Fl.sg x
    · simp only [Bool.not_false, if_true, Bool.false_eq_true, if_false]; rw [if_pos (by omega)]; omega
    · simp only [Bool.not_true, if_true, Bool.false_eq_true, if_false]; rw [if_neg (by omega)]; omega
  · rfl
theorem last_tests {x y s l t g : Nat} (hx : x < 18446744073709551616) (hy : y < 18446744073709551616) (h : ExO x y s l) (k : ExO (Fl.ng x) (Fl.ng y) t g) :
    (FloatKind.f64.format.order l (Fl.ng g) == some .eq) = true ∧ Op.negFloat .f64 t = Fl.ng t ∧ Op.negFloat .f64 g = Fl.ng g ∧
    ((FloatKind.f64.format.order s (Fl.ng t) == some .eq) = true ∨ ((FloatKind.f64.format.order s (Fl.ng t) == some .eq) = false ∧ (FloatKind.f64.format.order s s != some .eq) = true ∧ (FloatKind.f64.format.order t t != some .eq) = true)) := by
  obtain ⟨ht, hg⟩ := ExO_lt k
  obtain ⟨h1, h2, h3, h4⟩ := ExO_turn hx hy h k
  refine ⟨?_, Fl.neg_eq ht, Fl.neg_eq hg, ?_⟩
  · rw [Fl.o_eq, Fl.eqF_of h3 (by rw [Fl.nan_ng]; exact h4), Fl.key_ng hg]; exact decide_eq_true h2
  · rcases h1 with ⟨h5, h6, h7⟩ | ⟨h6, h7⟩
    · left; rw [Fl.o_eq, Fl.eqF_of h6 (by rw [Fl.nan_ng]; exact h7), Fl.key_ng ht]; exact decide_eq_true h5
    · right
      refine ⟨by rw [Fl.o_eq]; simp [Fl.eqF, h6], by rw [Fl.o_ne, Fl.eqF_self, h6]; rfl, by rw [Fl.o_ne, Fl.eqF_self, h7]; rfl⟩

/-! ### STEP 1: THE WALK: the Go text returns true. 'Grown w w'': the world has at most new blocks (Derived/RowKit3.lean). Part the cases AHEAD of 'go_enter' where a test parts the walk; take each callee by a contract of your own. -/
set_option maxHeartbeats 4000000 in
theorem walk (a0 : Int) (a1 : Int) (a2 : Int) (w0 : (Lit.int .u64 a0).wf = true) (w1 : (Lit.int .u64 a1).wf = true) (w2 : (Lit.int .i64 a2).wf = true) (w : World) :
    Calls Try.prog 4 #[.int .u64 a0, .int .u64 a1, .int .i64 a2] w fun e w' => e = .returned (.bool true) ∧ Grown w w' := by
  obtain ⟨x, rfl⟩ := Int.eq_ofNat_of_zero_le (a := a0) (by simp [Lit.wf, IntKind.min, IntKind.max, IntKind.signed, IntKind.bits] at w0; omega)
  obtain ⟨y, rfl⟩ := Int.eq_ofNat_of_zero_le (a := a1) (by simp [Lit.wf, IntKind.min, IntKind.max, IntKind.signed, IntKind.bits] at w1; omega)
  have hx : x < 18446744073709551616 := by simp [Lit.wf, IntKind.min, IntKind.max, IntKind.signed, IntKind.bits] at w0; omega
  have hy : y < 18446744073709551616 := by simp [Lit.wf, IntKind.min, IntKind.max, IntKind.signed, IntKind.bits] at w1; omega
  have k1 : -9223372036854775808 ≤ a2 := by simp [Lit.wf, IntKind.min, IntKind.max, IntKind.signed, IntKind.bits] at w2; omega
  have k2 : a2 ≤ 9223372036854775807 := by simp [Lit.wf, IntKind.min, IntKind.max, IntKind.signed, IntKind.bits] at w2; omega
  clear w0 w1 w2
  have n1 := Fl.neg_eq hx
  have n2 := Fl.neg_eq hy
  have n3 := Fl.neg_eq (downF_lt hx)
  have n4 := Fl.neg_eq (scF_lt hx a2)
  have lx := Fl.ng_lt hx
  have ly := Fl.ng_lt hy
  have t1 : Fl.sameB (upF (Fl.ng x)) (Fl.ng (downF x)) = true := by unfold downF; rw [Fl.ng_ng (upF_lt lx)]; exact same_self _
  have t2 : Fl.sameB (scF (Fl.ng x) a2) (Fl.ng (scF x a2)) = true := by rw [scF_ng hx]; exact same_self _
  cases hn : Fl.nan x
  · obtain ⟨e1, e2, e3⟩ := Fl.whF_ng hx hn
    have n5 := Fl.neg_eq e2
    have t3 : Fl.sameB (Fl.whF (Fl.ng x)) (Fl.ng (Fl.whF x)) = true := by rw [e1]; exact same_self _
    have hn' : Fl.nan (Fl.ng x) = false := by rw [Fl.nan_ng]; exact hn
    have hb : Fl.bitsF x = x := by simp [Fl.bitsF, hn]
    have g1 : (FloatKind.f64.format.order x x == some .eq) = true := by rw [Fl.o_eq, Fl.eqF_self, hn]; rfl
    clear e1 e2 e3
    go_enter Try.func4, Try.ntmps4
    go_wp2_with (first
      | (go_at_call 16; refine (up_any _ _ (by assumption)).mono ?_; rintro e w' ⟨rfl, rfl⟩)
      | (go_at_call 17; refine (down_any _ _ (by assumption)).mono ?_; rintro e w' ⟨rfl, rfl⟩)
      | (go_at_call 18; refine (scale_any _ _ _ (by assumption) (by assumption) (by assumption)).mono ?_; rintro e w' ⟨rfl, rfl⟩)
      | (go_at_call 15; refine (same_any _ _ _).mono ?_; rintro e w' ⟨rfl, rfl⟩)
      | (go_at_call 19; refine (whole_num _ _ (by assumption)).mono ?_; rintro e w' ⟨rfl, rfl⟩))
    refine (exact_any _ _ _ hx hy).mono ?_
    rintro e w1 ⟨s, l, rfl, ho, hg1⟩
    go_wp2_with fail
    refine (exact_any _ _ _ lx ly).mono ?_
    rintro e w2 ⟨t, g, rfl, ho2, hg2⟩
    obtain ⟨f1, m1, m2, f2⟩ := last_tests hx hy ho ho2
    have hg := grown_trans hg1 hg2
    clear hg1 hg2 ho ho2
    rcases f2 with f2 | ⟨f2, f3, f4⟩
    all_goals
      go_wp2_with (first
        | (go_at_call 21; refine (bits_any _ _).mono ?_; rintro e w' ⟨rfl, rfl⟩)
        | (go_at_call 20; refine (from_any _ _).mono ?_; rintro e w' ⟨rfl, rfl⟩)
        | (go_at_call 9; refine (signbit_any _ _ (by assumption)).mono ?_; rintro e w' ⟨rfl, rfl⟩)
        | (go_at_call 8; refine (alive_any _).mono ?_; rintro e w3 ⟨rfl, hg3⟩))
      go_ret
      exact ⟨rfl, grown_trans hg hg3⟩
  · have hn' : Fl.nan (Fl.ng x) = true := by rw [Fl.nan_ng]; exact hn
    have hb : Fl.bitsF x = 9221120237041090560 := by simp [Fl.bitsF, hn]
    have g1 : (FloatKind.f64.format.order x x != some .eq) = true := by rw [Fl.o_ne, Fl.eqF_self, hn]; rfl
    have g2 : (FloatKind.f64.format.order 9221120237041090560 x == some .eq) = false := by rw [Fl.o_eq]; simp [Fl.eqF, hn]
    have g3 : (FloatKind.f64.format.order 9221120237041090560 9221120237041090560 != some .eq) = true := by decide +kernel
    go_enter Try.func4, Try.ntmps4
    go_wp2_with (first
      | (go_at_call 16; refine (up_any _ _ (by assumption)).mono ?_; rintro e w' ⟨rfl, rfl⟩)
      | (go_at_call 17; refine (down_any _ _ (by assumption)).mono ?_; rintro e w' ⟨rfl, rfl⟩)
      | (go_at_call 18; refine (scale_any _ _ _ (by assumption) (by assumption) (by assumption)).mono ?_; rintro e w' ⟨rfl, rfl⟩)
      | (go_at_call 15; refine (same_any _ _ _).mono ?_; rintro e w' ⟨rfl, rfl⟩))
    refine (whole_nan _ _ lx hn').mono ?_
    rintro e v1 ⟨z1, rfl, nz1, hz1, hv1⟩
    go_wp2_with fail
    refine (whole_nan _ _ hx hn).mono ?_
    rintro e v2 ⟨z2, rfl, nz2, hz2, hv2⟩
    have n5 := Fl.neg_eq hz2
    have t3 : Fl.sameB z1 (Fl.ng z2) = true := by unfold Fl.sameB; rw [Fl.nan_ng, nz1, nz2]; rfl
    have hv := grown_trans hv1 hv2
    clear nz1 nz2 hv1 hv2
    go_wp2_with (go_at_call 15; refine (same_any _ _ _).mono ?_; rintro e w' ⟨rfl, rfl⟩)
    refine (exact_any _ _ _ hx hy).mono ?_
    rintro e w1 ⟨s, l, rfl, ho, hg1⟩
    go_wp2_with fail
    refine (exact_any _ _ _ lx ly).mono ?_
    rintro e w2 ⟨t, g, rfl, ho2, hg2⟩
    obtain ⟨f1, m1, m2, f2⟩ := last_tests hx hy ho ho2
    have hg := grown_trans hv (grown_trans hg1 hg2)
    clear hg1 hg2 ho ho2
    rcases f2 with f2 | ⟨f2, f3, f4⟩
    all_goals
      go_wp2_with (first
        | (go_at_call 21; refine (bits_any _ _).mono ?_; rintro e w' ⟨rfl, rfl⟩)
        | (go_at_call 20; refine (from_any _ _).mono ?_; rintro e w' ⟨rfl, rfl⟩)
        | (go_at_call 9; refine (signbit_any _ _ (by assumption)).mono ?_; rintro e w' ⟨rfl, rfl⟩)
        | (go_at_call 8; refine (alive_any _).mono ?_; rintro e w3 ⟨rfl, hg3⟩))
      go_ret
      exact ⟨rfl, grown_trans hg hg3⟩

/-! ### THE ROW's STEP: WRITTEN OUT: LEAVE IT -/
set_option maxRecDepth 100000 in
theorem lifted (os : Os) (started : os.Started) (H : Type) (enc : TypeId × Value → H) :
    ReturnsInHanded {} Try.checked os 4 .any (Rows.floatTurnedSpec.pre6 enc Try.prog Try.f4 Rows.floatTurnedRow.domain false) (Rows.floatTurnedSpec.post enc Try.prog Try.f4 false true false false) := by
  refine returnsInHanded_of_change (C := Try.checked) own started (by kernel_rfl) Try.func4
    (ChangeSpec.witness6 (enc := enc) (C := Try.checked) false ⟨#[], #[.int .u64 0, .int .u64 0, .int .i64 0], []⟩ 8 (by kernel_rfl) (by kernel_rfl) (by kernel_rfl) (by kernel_rfl)) ?_
  intro W base args ds gs before hval0 hW hcnd _
  have hval : ∀ (j : Nat) t v, Try.f4.params[j]? = some t → args[j]? = some v → Value.okWide Try.prog W .any base t v := hval0
  have hW' := hW
  obtain ⟨p, q, hA0, hV, rfl, hfz, hnd⟩ := hW
  have hA : DataW.TrodAll enc Try.prog W 0 (fun _ => true) true Try.f4.params.toList args.toList ds p := hA0
  rw [Try.params4] at hA hval
  obtain ⟨v0, vs0, d0, ds0, p0, q0, hargs, rfl, rfl, h0, r0⟩ := trodAll_cons hA
  obtain ⟨v1, vs1, d1, ds1, p1, q1, rfl, rfl, rfl, h1, r1⟩ := trodAll_cons r0
  obtain ⟨v2, vs2, d2, ds2, p2, q2, rfl, rfl, rfl, h2, r2⟩ := trodAll_cons r1
  obtain ⟨rfl, rfl, rfl⟩ := trodAll_nil r2
  obtain rfl : args = #[v0, v1, v2] := by cases args; simp_all
  obtain ⟨rfl, rfl⟩ := trodVars_none hV
  obtain ⟨a0, rfl, rfl, rfl, w0⟩ := open_int Try.underlying22 (hval 0 22 v0 rfl rfl) h0
  obtain ⟨a1, rfl, rfl, rfl, w1⟩ := open_int Try.underlying22 (hval 1 22 v1 rfl rfl) h1
  obtain ⟨a2, rfl, rfl, rfl, w2⟩ := open_int Try.underlying3 (hval 2 3 v2 rfl rfl) h2
  clear hA0 hval0
  simp only [List.append_nil] at hW'
  refine (walk a0 a1 a2 w0 w1 w2 W).mono fun e W' ⟨he, hg⟩ => ?_
  subst he
  exact ⟨_, rfl, post_of_same (pa := []) (pv := []) hW' (fun _ _ _ => (trodAll_cons_mk (shut_bool Try.underlying4 _) trodAll_mk0)) (fun sp _ => (trodAll_cons_mk (shut_int Try.underlying22 w0) (trodAll_cons_mk (shut_int Try.underlying22 w1) (trodAll_cons_mk (shut_int Try.underlying3 w2) trodAll_mk0)))) (fun _ _ => rfl) rfl
    (hg.frame _) hg.2.1 (ok_one (by kernel_rfl) rfl (okWide_bool_mk Try.underlying4 _))⟩

theorem over : Rows.floatTurnedRow.holds Try.pinned (OpenSpec.ofChange Rows.floatTurnedSpec) :=
  OpenClaim.holds_of_wide 4 Try.f4 rfl rfl rfl rfl rfl rfl rfl ⟨rfl, rfl, rfl, rfl, rfl⟩ rfl rfl rfl rfl rfl (by kernel_rfl) Try.func4 (by kernel_rfl)
    (of_decide_eq_true (by kernel_rfl)) (by unfold Func.isWrapper; first | (rw [if_pos (by decide +kernel)]; kernel_rfl) | (rw [if_neg (by decide +kernel)]; exact ⟨rfl, rfl⟩))
    (fun os started H enc _ => lifted os started H enc)

/-- ████ THE STATEMENT ████ -/
theorem proved : Rows.FloatTurnedSaid :=
  over
end Go.Proofs.Ytkbmgjaplmmpeab.floatTurned
namespace Go.Proofs.Ytkbmgjaplmmpeab
theorem floatTurned_proved : Rows.FloatTurnedSaid := floatTurned.proved
#print axioms floatTurned_proved
end Go.Proofs.Ytkbmgjaplmmpeab
