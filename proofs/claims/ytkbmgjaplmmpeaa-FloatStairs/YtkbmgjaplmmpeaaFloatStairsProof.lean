/-
  PROVED HERE: eddylaw01.FloatStairs answers true for every row of 64 bits: no float lies between a float and its neighbour, Up is above and Down below, by the next bits, and they take back; there is no condition.
-/
import Derived.Test.YtkbmgjaplmmpeaaRows
import Derived.Test.YtkbmgjaplmmpeaaFnStairs
import Derived.WalkKit
import Derived.ProofKit
import Derived.OpenShut
namespace Go.Proofs.Ytkbmgjaplmmpeaa.floatStairs
open Go.ChangeShapes Go.WideShapes Go.ChangeAt Go.RowKit
set_option linter.unusedVariables false      -- a walk need not use every 'w<i>' (that an integer argument fits its kind)

theorem own : ownKnob Try.prog.godebug = none := by kernel_rfl

attribute [local go_sem] frombits_call tobits_call run_neg
theorem far {x : Nat} (hx : x < 18446744073709551616) (hn : Fl.nan x = false) (c1 : ¬ x = 9218868437227405312) (c3 : ¬ Fl.rg x = 0) : ¬ 2 < IntKind.u64.wrap (IntKind.u64.wrap ((upF x : Int) - x) + 1) := by
  have h := key_of hx hn
  have e : upF x = if 9223372036854775808 ≤ x then x - 1 else x + 1 := by simp only [upF, hn, Bool.false_eq_true, if_false, c1, c3]
  rw [e, IntKind.wrap_u64, IntKind.wrap_u64]
  split <;> omega
theorem ends {x : Nat} (hx : x < 18446744073709551616) (hn : Fl.nan x = false) (c1 : ¬ x = 9218868437227405312) (c2 : ¬ x = 18442240474082181120) : Fl.finB x = true := by
  have h := key_of hx hn
  unfold Fl.finB
  exact decide_eq_true (by omega)

/-! ### STEP 1: THE WALK: the Go text returns true. 'Grown w w'': the world has at most new blocks (Derived/RowKit3.lean). Part the cases AHEAD of 'go_enter' where a test parts the walk; take each callee by a contract of your own. -/
set_option maxRecDepth 100000 in
set_option maxHeartbeats 8000000 in
theorem walk (a0 : Int) (w0 : (Lit.int .u64 a0).wf = true) (w : World) :
    Calls Try.prog 6 #[.int .u64 a0] w fun e w' => e = .returned (.bool true) ∧ Grown w w' := by
  obtain ⟨x, rfl⟩ := Int.eq_ofNat_of_zero_le (a := a0) (by simp [Lit.wf, IntKind.min, IntKind.max, IntKind.signed, IntKind.bits] at w0; omega)
  have hx : x < 18446744073709551616 := by simp [Lit.wf, IntKind.min, IntKind.max, IntKind.signed, IntKind.bits] at w0; omega
  clear w0
  have hu := upF_lt hx
  have hd := downF_lt hx
  cases hn : Fl.nan x
  · obtain ⟨g1, g2, g3, g4, g5, g6, g7, g8, g9, g10, g11⟩ := stairs_tests hx hn
    have h := key_of hx hn
    have gw : Hid (¬ x = 9218868437227405312 → ¬ Fl.rg x = 0 → ¬ 2 < IntKind.u64.wrap (IntKind.u64.wrap ((upF x : Int) - x) + 1)) := far hx hn
    have ge : Hid (¬ x = 9218868437227405312 → ¬ x = 18442240474082181120 → Fl.finB x = true) := ends hx hn
    by_cases c1 : x = 9218868437227405312
    · have f1 : Fl.finB x = false := by rw [c1]; decide
      have c2 : ¬ x = 18442240474082181120 := by omega
      have c3 : ¬ Fl.rg x = 0 := by omega
      have c4 : ¬ x = 9223372036854775809 := by omega
      have c5 : ¬ Fl.rg x ≤ 1 := by omega
      have c6 : ¬ x = 1 := by omega
      rw [decide_eq_true c1] at g3
      rw [decide_eq_false c2] at g4
      rw [decide_eq_true c3] at g5 g9
      rw [decide_eq_true c4] at g6
      rw [decide_eq_false c5] at g8
      rw [decide_eq_true c6] at g10
      rw [decide_eq_false (fun h => h c1)] at g11
      have d1 : infB x 1 = true := decide_eq_true c1
      have d2 : infB x (-1) = false := decide_eq_false c2
      clear c1 c2 c3 c4 c5 c6 h gw ge
      go_enter Try.func6, Try.ntmps6
      go_wp2_with (first
        | (go_at_call 17; refine (up_any _ _ (by assumption)).mono ?_; rintro e w' ⟨rfl, rfl⟩)
        | (go_at_call 19; refine (down_any _ _ (by assumption)).mono ?_; rintro e w' ⟨rfl, rfl⟩)
        | (go_at_call 27; refine (alive_any _).mono ?_; rintro e wa ⟨rfl, hg⟩)
        | (go_at_call 40; refine (finite_law _ _).mono ?_; rintro e wb ⟨rfl, hg'⟩; first | (have hg := grown_trans hg hg'; clear hg') | skip)
        | (go_at_call 37; refine (isInf_any _ _ _ (by assumption) (by decide)).mono ?_; rintro e w' ⟨rfl, rfl⟩)
        | (go_at_call 39; refine (abs_any _ _ (by assumption)).mono ?_; rintro e w' ⟨rfl, rfl⟩))
      go_ret
      exact ⟨rfl, by assumption⟩
    by_cases c2 : x = 18442240474082181120
    · have f1 : Fl.finB x = false := by rw [c2]; decide
      have c3 : ¬ Fl.rg x = 0 := by omega
      have c4 : ¬ x = 9223372036854775809 := by omega
      have c5 : ¬ Fl.rg x ≤ 1 := by omega
      have c6 : ¬ x = 1 := by omega
      have gx := gw.out c1 c3
      rw [decide_eq_false c1] at g3
      rw [decide_eq_true c2] at g4
      rw [decide_eq_true c3] at g5 g9
      rw [decide_eq_true c4] at g6
      rw [decide_eq_false c5] at g8
      rw [decide_eq_true c6] at g10
      rw [decide_eq_true c1] at g11
      have d1 : infB x 1 = false := decide_eq_false c1
      have d2 : infB x (-1) = true := decide_eq_true c2
      clear c1 c2 c3 c4 c5 c6 h gw ge
      go_enter Try.func6, Try.ntmps6
      go_wp2_with (first
        | (go_at_call 17; refine (up_any _ _ (by assumption)).mono ?_; rintro e w' ⟨rfl, rfl⟩)
        | (go_at_call 19; refine (down_any _ _ (by assumption)).mono ?_; rintro e w' ⟨rfl, rfl⟩)
        | (go_at_call 27; refine (alive_any _).mono ?_; rintro e wa ⟨rfl, hg⟩)
        | (go_at_call 40; refine (finite_law _ _).mono ?_; rintro e wb ⟨rfl, hg'⟩; first | (have hg := grown_trans hg hg'; clear hg') | skip)
        | (go_at_call 37; refine (isInf_any _ _ _ (by assumption) (by decide)).mono ?_; rintro e w' ⟨rfl, rfl⟩)
        | (go_at_call 39; refine (abs_any _ _ (by assumption)).mono ?_; rintro e w' ⟨rfl, rfl⟩))
      go_ret
      exact ⟨rfl, by assumption⟩
    have f1 := ge.out c1 c2
    by_cases c3 : Fl.rg x = 0
    · cases f2 : Fl.finB (upF x)
      all_goals
        have c4 : ¬ x = 9223372036854775809 := by omega
        have c5 : Fl.rg x ≤ 1 := by omega
        have c6 : ¬ x = 1 := by omega
        rw [decide_eq_false c1] at g3
        rw [decide_eq_false c2] at g4
        rw [decide_eq_false (fun h => h c3)] at g5 g9
        rw [decide_eq_true c4] at g6
        rw [decide_eq_true c5] at g8
        rw [decide_eq_true c6] at g10
        rw [decide_eq_true c1] at g11
        have d1 : infB x 1 = false := decide_eq_false c1
        have d2 : infB x (-1) = false := decide_eq_false c2
        clear c1 c2 c3 c4 c5 c6 h gw ge
        go_enter Try.func6, Try.ntmps6
        go_wp2_with (first
        | (go_at_call 17; refine (up_any _ _ (by assumption)).mono ?_; rintro e w' ⟨rfl, rfl⟩)
        | (go_at_call 19; refine (down_any _ _ (by assumption)).mono ?_; rintro e w' ⟨rfl, rfl⟩)
        | (go_at_call 27; refine (alive_any _).mono ?_; rintro e wa ⟨rfl, hg⟩)
        | (go_at_call 40; refine (finite_law _ _).mono ?_; rintro e wb ⟨rfl, hg'⟩; first | (have hg := grown_trans hg hg'; clear hg') | skip)
        | (go_at_call 37; refine (isInf_any _ _ _ (by assumption) (by decide)).mono ?_; rintro e w' ⟨rfl, rfl⟩)
        | (go_at_call 39; refine (abs_any _ _ (by assumption)).mono ?_; rintro e w' ⟨rfl, rfl⟩))
        go_ret
        exact ⟨rfl, by assumption⟩
    by_cases c4 : x = 9223372036854775809
    · cases f2 : Fl.finB (upF x)
      all_goals
        have c5 : Fl.rg x ≤ 1 := by omega
        have c6 : ¬ x = 1 := by omega
        have gx := gw.out c1 c3
        rw [decide_eq_false c1] at g3
        rw [decide_eq_false c2] at g4
        rw [decide_eq_true c3] at g5 g9
        rw [decide_eq_false (fun h => h c4)] at g6
        rw [decide_eq_true c5] at g8
        rw [decide_eq_true c6] at g10
        rw [decide_eq_true c1] at g11
        have d1 : infB x 1 = false := decide_eq_false c1
        have d2 : infB x (-1) = false := decide_eq_false c2
        clear c1 c2 c3 c4 c5 c6 h gw ge
        go_enter Try.func6, Try.ntmps6
        go_wp2_with (first
        | (go_at_call 17; refine (up_any _ _ (by assumption)).mono ?_; rintro e w' ⟨rfl, rfl⟩)
        | (go_at_call 19; refine (down_any _ _ (by assumption)).mono ?_; rintro e w' ⟨rfl, rfl⟩)
        | (go_at_call 27; refine (alive_any _).mono ?_; rintro e wa ⟨rfl, hg⟩)
        | (go_at_call 40; refine (finite_law _ _).mono ?_; rintro e wb ⟨rfl, hg'⟩; first | (have hg := grown_trans hg hg'; clear hg') | skip)
        | (go_at_call 37; refine (isInf_any _ _ _ (by assumption) (by decide)).mono ?_; rintro e w' ⟨rfl, rfl⟩)
        | (go_at_call 39; refine (abs_any _ _ (by assumption)).mono ?_; rintro e w' ⟨rfl, rfl⟩))
        go_ret
        exact ⟨rfl, by assumption⟩
    by_cases c6 : x = 1
    · cases f2 : Fl.finB (upF x)
      all_goals
        have c5 : Fl.rg x ≤ 1 := by omega
        have gx := gw.out c1 c3
        rw [decide_eq_false c1] at g3
        rw [decide_eq_false c2] at g4
        rw [decide_eq_true c3] at g5 g9
        rw [decide_eq_true c4] at g6
        rw [decide_eq_true c5] at g8
        rw [decide_eq_false (fun h => h c6)] at g10
        rw [decide_eq_true c1] at g11
        have d1 : infB x 1 = false := decide_eq_false c1
        have d2 : infB x (-1) = false := decide_eq_false c2
        clear c1 c2 c3 c4 c5 c6 h gw ge
        go_enter Try.func6, Try.ntmps6
        go_wp2_with (first
        | (go_at_call 17; refine (up_any _ _ (by assumption)).mono ?_; rintro e w' ⟨rfl, rfl⟩)
        | (go_at_call 19; refine (down_any _ _ (by assumption)).mono ?_; rintro e w' ⟨rfl, rfl⟩)
        | (go_at_call 27; refine (alive_any _).mono ?_; rintro e wa ⟨rfl, hg⟩)
        | (go_at_call 40; refine (finite_law _ _).mono ?_; rintro e wb ⟨rfl, hg'⟩; first | (have hg := grown_trans hg hg'; clear hg') | skip)
        | (go_at_call 37; refine (isInf_any _ _ _ (by assumption) (by decide)).mono ?_; rintro e w' ⟨rfl, rfl⟩)
        | (go_at_call 39; refine (abs_any _ _ (by assumption)).mono ?_; rintro e w' ⟨rfl, rfl⟩))
        go_ret
        exact ⟨rfl, by assumption⟩
    cases f2 : Fl.finB (upF x)
    all_goals
      have c5 : ¬ Fl.rg x ≤ 1 := by omega
      have gx := gw.out c1 c3
      rw [decide_eq_false c1] at g3
      rw [decide_eq_false c2] at g4
      rw [decide_eq_true c3] at g5 g9
      rw [decide_eq_true c4] at g6
      rw [decide_eq_false c5] at g8
      rw [decide_eq_true c6] at g10
      rw [decide_eq_true c1] at g11
      have d1 : infB x 1 = false := decide_eq_false c1
      have d2 : infB x (-1) = false := decide_eq_false c2
      clear c1 c2 c3 c4 c5 c6 h gw ge
      go_enter Try.func6, Try.ntmps6
      go_wp2_with (first
        | (go_at_call 17; refine (up_any _ _ (by assumption)).mono ?_; rintro e w' ⟨rfl, rfl⟩)
        | (go_at_call 19; refine (down_any _ _ (by assumption)).mono ?_; rintro e w' ⟨rfl, rfl⟩)
        | (go_at_call 27; refine (alive_any _).mono ?_; rintro e wa ⟨rfl, hg⟩)
        | (go_at_call 40; refine (finite_law _ _).mono ?_; rintro e wb ⟨rfl, hg'⟩; first | (have hg := grown_trans hg hg'; clear hg') | skip)
        | (go_at_call 37; refine (isInf_any _ _ _ (by assumption) (by decide)).mono ?_; rintro e w' ⟨rfl, rfl⟩)
        | (go_at_call 39; refine (abs_any _ _ (by assumption)).mono ?_; rintro e w' ⟨rfl, rfl⟩))
      go_ret
      exact ⟨rfl, by assumption⟩
  · have g1 : (FloatKind.f64.format.order x x != some .eq) = true := by rw [Fl.o_ne, Fl.eqF_self, hn]; rfl
    have n1 : Fl.nan (upF x) = true := by simp [upF, hn]
    have n2 : Fl.nan (downF x) = true := by unfold downF; rw [Fl.nan_ng]; simp [upF, Fl.nan_ng, hn]
    have g2 : (FloatKind.f64.format.order (upF x) (upF x) != some .eq) = true := by rw [Fl.o_ne, Fl.eqF_self, n1]; rfl
    have g3 : (FloatKind.f64.format.order (downF x) (downF x) != some .eq) = true := by rw [Fl.o_ne, Fl.eqF_self, n2]; rfl
    clear n1 n2
    go_enter Try.func6, Try.ntmps6
    go_wp2_with (first
        | (go_at_call 17; refine (up_any _ _ (by assumption)).mono ?_; rintro e w' ⟨rfl, rfl⟩)
        | (go_at_call 19; refine (down_any _ _ (by assumption)).mono ?_; rintro e w' ⟨rfl, rfl⟩)
        | (go_at_call 27; refine (alive_any _).mono ?_; rintro e wa ⟨rfl, hg⟩)
        | (go_at_call 40; refine (finite_law _ _).mono ?_; rintro e wb ⟨rfl, hg'⟩; first | (have hg := grown_trans hg hg'; clear hg') | skip)
        | (go_at_call 37; refine (isInf_any _ _ _ (by assumption) (by decide)).mono ?_; rintro e w' ⟨rfl, rfl⟩)
        | (go_at_call 39; refine (abs_any _ _ (by assumption)).mono ?_; rintro e w' ⟨rfl, rfl⟩))
    go_ret
    exact ⟨rfl, by assumption⟩

/-! ### THE ROW's STEP: WRITTEN OUT: LEAVE IT -/
set_option maxRecDepth 100000 in
theorem lifted (os : Os) (started : os.Started) (H : Type) (enc : TypeId × Value → H) :
    ReturnsInHanded {} Try.checked os 6 .any (Rows.floatStairsSpec.pre6 enc Try.prog Try.f6 Rows.floatStairsRow.domain false) (Rows.floatStairsSpec.post enc Try.prog Try.f6 false true false false) := by
  refine returnsInHanded_of_change (C := Try.checked) own started (by kernel_rfl) Try.func6
    (ChangeSpec.witness6 (enc := enc) (C := Try.checked) false ⟨#[], #[.int .u64 0], []⟩ 8 (by kernel_rfl) (by kernel_rfl) (by kernel_rfl) (by kernel_rfl)) ?_
  intro W base args ds gs before hval0 hW hcnd _
  have hval : ∀ (j : Nat) t v, Try.f6.params[j]? = some t → args[j]? = some v → Value.okWide Try.prog W .any base t v := hval0
  have hW' := hW
  obtain ⟨p, q, hA0, hV, rfl, hfz, hnd⟩ := hW
  have hA : DataW.TrodAll enc Try.prog W 0 (fun _ => true) true Try.f6.params.toList args.toList ds p := hA0
  rw [Try.params6] at hA hval
  obtain ⟨v0, vs0, d0, ds0, p0, q0, hargs, rfl, rfl, h0, r0⟩ := trodAll_cons hA
  obtain ⟨rfl, rfl, rfl⟩ := trodAll_nil r0
  obtain rfl : args = #[v0] := by cases args; simp_all
  obtain ⟨rfl, rfl⟩ := trodVars_none hV
  obtain ⟨a0, rfl, rfl, rfl, w0⟩ := open_int Try.underlying27 (hval 0 27 v0 rfl rfl) h0
  clear hA0 hval0
  simp only [List.append_nil] at hW'
  refine (walk a0 w0 W).mono fun e W' ⟨he, hg⟩ => ?_
  subst he
  exact ⟨_, rfl, post_of_same (pa := []) (pv := []) hW' (fun _ _ _ => (trodAll_cons_mk (shut_bool Try.underlying4 _) trodAll_mk0)) (fun sp _ => (trodAll_cons_mk (shut_int Try.underlying27 w0) trodAll_mk0)) (fun _ _ => rfl) rfl
    (hg.frame _) hg.2.1 (ok_one (by kernel_rfl) rfl (okWide_bool_mk Try.underlying4 _))⟩

theorem over : Rows.floatStairsRow.holds Try.pinned (OpenSpec.ofChange Rows.floatStairsSpec) :=
  OpenClaim.holds_of_wide 6 Try.f6 rfl rfl rfl rfl rfl rfl rfl ⟨rfl, rfl, rfl, rfl, rfl⟩ rfl rfl rfl rfl rfl (by kernel_rfl) Try.func6 (by kernel_rfl)
    (of_decide_eq_true (by kernel_rfl)) (by unfold Func.isWrapper; first | (rw [if_pos (by decide +kernel)]; kernel_rfl) | (rw [if_neg (by decide +kernel)]; exact ⟨rfl, rfl⟩))
    (fun os started H enc _ => lifted os started H enc)

/-- ████ THE STATEMENT ████ -/
theorem proved : Rows.FloatStairsSaid :=
  over
end Go.Proofs.Ytkbmgjaplmmpeaa.floatStairs
namespace Go.Proofs.Ytkbmgjaplmmpeaa
theorem floatStairs_proved : Rows.FloatStairsSaid := floatStairs.proved
#print axioms floatStairs_proved
end Go.Proofs.Ytkbmgjaplmmpeaa
