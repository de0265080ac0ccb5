/-
  OWN TEXT: the reference's angles of places, and wrapped angles (eddyref05.angle, Of, Tan, Wrap), for every float.
-/
import Derived.Test.YtlbikopancleoaaDoorJnAw
import Derived.Test.YtlbikopancleoaaDoorJnAl
namespace Go.Proofs.YtlbikopancleoaaDoor
open Go.ChangeShapes Go.WideShapes Go.ChangeAt Go.RowKit
set_option linter.unusedVariables false
attribute [local go_sem] frombits_call tobits_call run_neg
set_option maxHeartbeats 4000000 in
theorem rangle_any (t : Nat) (w : World) : Calls Tryd.prog 55 #[.float .f64 t] w fun e w' => ∃ v, e = .returned (.float .f64 v) ∧ angR t v ∧ v < 18446744073709551616 ∧ Bw w w' := by
  have o := Fl.o_gt t 4601130706800738304
  cases c0 : Fl.ltF 4601130706800738304 t
  · rw [c0] at o
    obtain ⟨z, w1, hz, e1, G⟩ := op_run .mul isMul t t w
    have HA : Hid (∀ s v, angQ z 25 s → opR .mul t s v → angR t v) := by
      intro s v h1 h2
      unfold angR
      rw [if_neg (by rw [c0]; decide)]
      exact ⟨z, s, hz, h1, h2⟩
    clear c0 hz
    go_enter Tryd.func55, Tryd.ntmps55
    go_wp2
    go_loopw [6, 7] (fun t k wr => ∃ (i n : Nat), i ≤ 25 ∧ t = .float .f64 n ∧ k = .int .i64 (24 - (i : Int)) ∧ angQ z i n ∧ Bw w wr) (fun _ k _ => (intOf k + 1).toNat)
    case atStart => exact ⟨0, 0, by omega, rfl, rfl, rfl, G⟩
    case round =>
      obtain ⟨i, n, hi, rfl, rfl, hq, hg⟩ := hrel
      have HQ : Hid (angQ z i n) := hq
      clear hq
      by_cases c : i < 25
      · have hk : (0 : Int) ≤ 24 - (i : Int) := by omega
        have hkb : 24 - (i : Int) ≤ 24 := by omega
        obtain ⟨d, w2, hd, e2, g2⟩ := op_run .quo isQuo 4607182418800017408 (floatOfInt .f64 (2 * (24 - (i : Int)) + 1)) wr
        obtain ⟨p, w3, hp, e3, g3⟩ := op_run .mul isMul z n w2
        obtain ⟨t', w4, ht', e4, g4⟩ := op_run .sub isSub d p w3
        have hgg := bw_trans (bw_trans (bw_trans hg g2) g3) g4
        have R : ∃ (i' n' : Nat), i' ≤ 25 ∧ Value.float .f64 t' = .float .f64 n' ∧ Value.int .i64 (24 - (i : Int) - 1) = .int .i64 (24 - (i' : Int)) ∧ angQ z i' n' ∧ Bw w w4 :=
          ⟨i + 1, t', by omega, rfl, by rw [show 24 - (i : Int) - 1 = 24 - ((i + 1 : Nat) : Int) by omega], ⟨n, d, p, HQ.out, hd, hp, ht'⟩, hgg⟩
        have HR : Hid _ := R
        clear R hd hp ht' g2 g3 g4 hg HQ hgg hi c
        generalize hK : 24 - (i : Int) = K at *
        go_wp2
        go_roundw
        case rel => exact HR.out
        case measure => simp [intOf]; omega
      · have hi' : i = 25 := by omega
        subst hi'
        obtain ⟨v, w2, hv, e2, g2⟩ := op_run .mul isMul t n wr
        have B := bw_trans hg g2
        have HF : Hid (angR t v) := HA.out n v HQ.out hv
        have hvl := hv.1
        clear g2 hg HQ hv HA
        go_wp2
        go_ret
        exact ⟨v, rfl, HF.out, hvl, B⟩
  · rw [c0] at o
    obtain ⟨a, v1, ha, k1, y1⟩ := op_run .sub isSub t 4607182418800017408 w
    obtain ⟨b, v2, hb, k2, y2⟩ := op_run .add isAdd t 4607182418800017408 v1
    obtain ⟨u, v3, hu, k3, y3⟩ := op_run .quo isQuo a b v2
    obtain ⟨z, w1, hz, e1, y4⟩ := op_run .mul isMul u u v3
    have G := bw_trans (bw_trans (bw_trans y1 y2) y3) y4
    have HA : Hid (∀ s v x r, angQ z 25 s → opR .mul u s v → opR .add v 4359948597267291143 x → opR .add 4605249457297304856 x r → angR t r) := by
      intro s v x r h1 h2 h3 h4
      unfold angR
      rw [if_pos c0]
      exact ⟨a, b, u, v, x, ha, hb, hu, ⟨z, s, hz, h1, h2⟩, h3, h4⟩
    clear c0 hz ha hb hu y1 y2 y3 y4
    have rh := fun (ty : TypeId) w => run_float_arith (P := Tryd.prog) w .quo ty .f64 4614256656552045848 4616189618054758400 4605249457297304856 (by decide +kernel)
    have rl := fun (ty : TypeId) w => run_float_arith (P := Tryd.prog) w .quo ty .f64 4368955796522032135 4616189618054758400 4359948597267291143 (by decide +kernel)
    go_enter Tryd.func55, Tryd.ntmps55
    go_wp2
    go_loopw [6, 7] (fun t k wr => ∃ (i n : Nat), i ≤ 25 ∧ t = .float .f64 n ∧ k = .int .i64 (24 - (i : Int)) ∧ angQ z i n ∧ Bw w wr) (fun _ k _ => (intOf k + 1).toNat)
    case atStart => exact ⟨0, 0, by omega, rfl, rfl, rfl, G⟩
    case round =>
      obtain ⟨i, n, hi, rfl, rfl, hq, hg⟩ := hrel
      have HQ : Hid (angQ z i n) := hq
      clear hq
      by_cases c : i < 25
      · have hk : (0 : Int) ≤ 24 - (i : Int) := by omega
        have hkb : 24 - (i : Int) ≤ 24 := by omega
        obtain ⟨d, w2, hd, e2, g2⟩ := op_run .quo isQuo 4607182418800017408 (floatOfInt .f64 (2 * (24 - (i : Int)) + 1)) wr
        obtain ⟨p, w3, hp, e3, g3⟩ := op_run .mul isMul z n w2
        obtain ⟨t', w4, ht', e4, g4⟩ := op_run .sub isSub d p w3
        have hgg := bw_trans (bw_trans (bw_trans hg g2) g3) g4
        have R : ∃ (i' n' : Nat), i' ≤ 25 ∧ Value.float .f64 t' = .float .f64 n' ∧ Value.int .i64 (24 - (i : Int) - 1) = .int .i64 (24 - (i' : Int)) ∧ angQ z i' n' ∧ Bw w w4 :=
          ⟨i + 1, t', by omega, rfl, by rw [show 24 - (i : Int) - 1 = 24 - ((i + 1 : Nat) : Int) by omega], ⟨n, d, p, HQ.out, hd, hp, ht'⟩, hgg⟩
        have HR : Hid _ := R
        clear R hd hp ht' g2 g3 g4 hg HQ hgg hi c
        generalize hK : 24 - (i : Int) = K at *
        go_wp2
        go_roundw
        case rel => exact HR.out
        case measure => simp [intOf]; omega
      · have hi' : i = 25 := by omega
        subst hi'
        obtain ⟨v, w2, hv, e2, g2⟩ := op_run .mul isMul u n wr
        obtain ⟨x, w3, hx, e3, g3⟩ := op_run .add isAdd v 4359948597267291143 w2
        obtain ⟨r, w4, hr, e4, g4⟩ := op_run .add isAdd 4605249457297304856 x w3
        have B := bw_trans (bw_trans (bw_trans hg g2) g3) g4
        have HF : Hid (angR t r) := HA.out n v x r HQ.out hv hx hr
        have hrl := hr.1
        clear g2 g3 g4 hg HQ hv hx hr HA
        go_wp2_with (first | (go_at_call 14; refine (rhigh_any _).mono ?_; rintro e' w9 ⟨rfl, hw9⟩; subst hw9) | (go_at_call 56; refine (rlow_any _).mono ?_; rintro e' w9 ⟨rfl, hw9⟩; subst hw9))
        go_ret
        exact ⟨r, rfl, HF.out, hrl, B⟩
end Go.Proofs.YtlbikopancleoaaDoor
/-
  OWN TEXT: the reference's angles of places (eddyref05.Of, Tan), for every float.
-/
namespace Go.Proofs.YtlbikopancleoaaDoor
open Go.ChangeShapes Go.WideShapes Go.ChangeAt Go.RowKit
set_option linter.unusedVariables false
attribute [local go_sem] frombits_call tobits_call run_neg
set_option maxHeartbeats 8000000 in
theorem rof_any (y x : Nat) (w : World) (hy : y < 18446744073709551616) (hx : x < 18446744073709551616) : Calls Tryd.prog 24 #[.float .f64 y, .float .f64 x] w fun e w' => ∃ r, e = .returned (.float .f64 r) ∧ offR y x r ∧ r < 18446744073709551616 ∧ Bw w w' := by
  have g0 := Fl.o_ne y y
  have g1 := Fl.o_ne x x
  rw [Fl.eqF_self, Bool.not_not] at g0 g1
  by_cases c0 : (Fl.nan y || Fl.nan x) = true
  · have HF : Hid (offR y x 9221120237041090561) := by show offR _ _ _; unfold offR; rw [if_pos c0]; decide
    cases c1 : Fl.nan y
    · rw [c1, Bool.false_or] at c0
      rw [c1] at g0
      rw [c0] at g1
      clear c0 c1
      go_enter Tryd.func24, Tryd.ntmps24
      go_wp2_with (go_at_call 54; refine (rnone_any _).mono ?_; rintro e' w ⟨rfl, rfl⟩)
      go_ret
      exact ⟨_, rfl, HF.out, by decide, Bw.refl _⟩
    · rw [c1] at g0
      clear c0 c1 g1
      go_enter Tryd.func24, Tryd.ntmps24
      go_wp2_with (go_at_call 54; refine (rnone_any _).mono ?_; rintro e' w ⟨rfl, rfl⟩)
      go_ret
      exact ⟨_, rfl, HF.out, by decide, Bw.refl _⟩
  · have HO : Hid (∀ b s r, basR (Fl.rg y) (Fl.rg x) b → sidR x b s → r = (if Fl.sg y = true then Fl.ng s else s) → offR y x r) := by
      intro b s r h1 h2 h3
      unfold offR
      rw [if_neg c0]
      exact ⟨b, s, h1, h2, h3⟩
    have hc := Bool.eq_false_iff.2 c0
    rw [Bool.or_eq_false_iff] at hc
    rw [hc.1] at g0
    rw [hc.2] at g1
    have AY : Hid (∀ wz, Calls Tryd.prog 43 #[.float .f64 y] wz fun e w' => e = .returned (.float .f64 (Fl.rg y)) ∧ w' = wz) := fun wz => abs_any y wz hy
    have AX : Hid (∀ wz, Calls Tryd.prog 43 #[.float .f64 x] wz fun e w' => e = .returned (.float .f64 (Fl.rg x)) ∧ w' = wz) := fun wz => abs_any x wz hx
    have SY : Hid (∀ wz, Calls Tryd.prog 57 #[.float .f64 y] wz fun e w' => e = .returned (.bool (Fl.sg y)) ∧ w' = wz) := fun wz => signbit_any y wz hy
    have SX : Hid (∀ wz, Calls Tryd.prog 57 #[.float .f64 x] wz fun e w' => e = .returned (.bool (Fl.sg x)) ∧ w' = wz) := fun wz => signbit_any x wz hx
    have hpl : Fl.rg y < 18446744073709551616 := by have := Fl.rg_lt y; omega
    have hql : Fl.rg x < 18446744073709551616 := by have := Fl.rg_lt x; omega
    have np : Fl.nan (Fl.rg y) = false := by rw [Fl.nan_rg]; exact hc.1
    have pz : Fl.rg (Fl.rg y) = Fl.rg y := Fl.rg_rg y
    have g2 := Fl.o_eq (Fl.rg y) 0
    rw [(up_tests hpl np).2.1, pz] at g2
    have g3 := Fl.o_le (Fl.rg y) (Fl.rg x)
    have IP : Hid (∀ wz, Calls Tryd.prog 34 #[.float .f64 (Fl.rg y), .int .i64 1] wz fun e w' => e = .returned (.bool (decide (Fl.rg y = 9218868437227405312))) ∧ w' = wz) := fun wz => isInf_up (Fl.rg y) wz hpl
    have IQ : Hid (∀ wz, Calls Tryd.prog 34 #[.float .f64 (Fl.rg x), .int .i64 1] wz fun e w' => e = .returned (.bool (decide (Fl.rg x = 9218868437227405312))) ∧ w' = wz) := fun wz => isInf_up (Fl.rg x) wz hql
    clear c0 hc np pz
    generalize hp : Fl.rg y = p at *
    generalize hq : Fl.rg x = q at *
    clear hp hq
    by_cases c1 : p = 0
    · rw [decide_eq_true c1] at g2
      have BA : Hid (basR p q 0) := by show basR _ _ _; unfold basR; rw [if_pos c1]
      clear g3 IP IQ c1
      have z0 : (0 : Nat) < 18446744073709551616 := by decide
      have B : Bw w w := Bw.refl w
      go_enter Tryd.func24, Tryd.ntmps24
      go_wp2_with fail
      refine (AY.out _).mono ?_
      rintro e' w ⟨rfl, rfl⟩
      go_wp2_with fail
      refine (AX.out _).mono ?_
      rintro e' w ⟨rfl, rfl⟩
      cases c4 : Fl.sg x
      · rw [c4] at SX
        have HB : Hid (∀ r, r = (if Fl.sg y = true then Fl.ng 0 else 0) → offR y x r) := fun r hr => HO.out 0 0 r BA.out (by unfold sidR; rw [if_neg (by rw [c4]; decide)]) hr
        clear HO BA c4
        cases c5 : Fl.sg y
        · rw [c5] at SY
          have HF : Hid (offR y x 0) := HB.out _ (by rw [if_neg (by rw [c5]; decide)])
          clear HB c5
          go_wp2_with fail
          refine (SX.out _).mono ?_
          rintro e' w ⟨rfl, rfl⟩
          go_wp2_with fail
          refine (SY.out _).mono ?_
          rintro e' w ⟨rfl, rfl⟩
          go_wp2
          go_ret
          exact ⟨_, rfl, HF.out, z0, B⟩
        · rw [c5] at SY
          have HF : Hid (offR y x (Fl.ng 0)) := HB.out _ (by rw [if_pos c5])
          have nb := Fl.neg_eq (x := 0) z0
          have nbl := Fl.ng_lt (x := 0) z0
          clear HB c5
          go_wp2_with fail
          refine (SX.out _).mono ?_
          rintro e' w ⟨rfl, rfl⟩
          go_wp2_with fail
          refine (SY.out _).mono ?_
          rintro e' w ⟨rfl, rfl⟩
          go_wp2
          go_ret
          exact ⟨_, rfl, HF.out, nbl, B⟩
      · rw [c4] at SX
        obtain ⟨d, u1, hd, x1, y1⟩ := op_run .sub isSub 0 4368955796522032135 w
        obtain ⟨s, u2, hs, x2, y2⟩ := op_run .sub isSub 4614256656552045848 d u1
        have B2 := bw_trans (bw_trans B y1) y2
        have HB : Hid (∀ r, r = (if Fl.sg y = true then Fl.ng s else s) → offR y x r) := fun r hr => HO.out 0 s r BA.out (by unfold sidR; rw [if_pos c4]; exact ⟨d, hd, hs⟩) hr
        have hsl := hs.1
        clear HO BA c4 hd hs y1 y2
        cases c5 : Fl.sg y
        · rw [c5] at SY
          have HF : Hid (offR y x s) := HB.out _ (by rw [if_neg (by rw [c5]; decide)])
          clear HB c5
          go_wp2_with fail
          refine (SX.out _).mono ?_
          rintro e' w ⟨rfl, rfl⟩
          go_wp2_with fail
          refine (rhigh_any _).mono ?_
          rintro e' w ⟨rfl, rfl⟩
          go_wp2_with fail
          refine (rlow_any _).mono ?_
          rintro e' w ⟨rfl, rfl⟩
          go_wp2_with fail
          refine (SY.out _).mono ?_
          rintro e' u2 ⟨rfl, rfl⟩
          go_wp2
          go_ret
          exact ⟨_, rfl, HF.out, hsl, B2⟩
        · rw [c5] at SY
          have HF : Hid (offR y x (Fl.ng s)) := HB.out _ (by rw [if_pos c5])
          have nb := Fl.neg_eq (x := s) hsl
          have nbl := Fl.ng_lt (x := s) hsl
          clear HB c5
          go_wp2_with fail
          refine (SX.out _).mono ?_
          rintro e' w ⟨rfl, rfl⟩
          go_wp2_with fail
          refine (rhigh_any _).mono ?_
          rintro e' w ⟨rfl, rfl⟩
          go_wp2_with fail
          refine (rlow_any _).mono ?_
          rintro e' w ⟨rfl, rfl⟩
          go_wp2_with fail
          refine (SY.out _).mono ?_
          rintro e' u2 ⟨rfl, rfl⟩
          go_wp2
          go_ret
          exact ⟨_, rfl, HF.out, nbl, B2⟩
    · rw [decide_eq_false c1] at g2
      by_cases c2 : p = 9218868437227405312 ∧ q = 9218868437227405312
      · have BA : Hid (basR p q 4605249457297304856) := by show basR _ _ _; unfold basR; rw [if_neg c1, if_pos c2]
        rw [decide_eq_true c2.1] at IP
        rw [decide_eq_true c2.2] at IQ
        have rh4 := fun (ty : TypeId) w => run_float_arith (P := Tryd.prog) w .quo ty .f64 4614256656552045848 4616189618054758400 4605249457297304856 (by decide +kernel)
        clear g3 c1 c2
        have z0 : (4605249457297304856 : Nat) < 18446744073709551616 := by decide
        have B : Bw w w := Bw.refl w
        go_enter Tryd.func24, Tryd.ntmps24
        go_wp2_with fail
        refine (AY.out _).mono ?_
        rintro e' w ⟨rfl, rfl⟩
        go_wp2_with fail
        refine (AX.out _).mono ?_
        rintro e' w ⟨rfl, rfl⟩
        go_wp2_with fail
        refine (IP.out _).mono ?_
        rintro e' w ⟨rfl, rfl⟩
        go_wp2_with fail
        refine (IQ.out _).mono ?_
        rintro e' w ⟨rfl, rfl⟩
        go_wp2_with fail
        refine (rhigh_any _).mono ?_
        rintro e' w ⟨rfl, rfl⟩
        cases c4 : Fl.sg x
        · rw [c4] at SX
          have HB : Hid (∀ r, r = (if Fl.sg y = true then Fl.ng 4605249457297304856 else 4605249457297304856) → offR y x r) := fun r hr => HO.out 4605249457297304856 4605249457297304856 r BA.out (by unfold sidR; rw [if_neg (by rw [c4]; decide)]) hr
          clear HO BA c4
          cases c5 : Fl.sg y
          · rw [c5] at SY
            have HF : Hid (offR y x 4605249457297304856) := HB.out _ (by rw [if_neg (by rw [c5]; decide)])
            clear HB c5
            go_wp2_with fail
            refine (SX.out _).mono ?_
            rintro e' w ⟨rfl, rfl⟩
            go_wp2_with fail
            refine (SY.out _).mono ?_
            rintro e' w ⟨rfl, rfl⟩
            go_wp2
            go_ret
            exact ⟨_, rfl, HF.out, z0, B⟩
          · rw [c5] at SY
            have HF : Hid (offR y x (Fl.ng 4605249457297304856)) := HB.out _ (by rw [if_pos c5])
            have nb := Fl.neg_eq (x := 4605249457297304856) z0
            have nbl := Fl.ng_lt (x := 4605249457297304856) z0
            clear HB c5
            go_wp2_with fail
            refine (SX.out _).mono ?_
            rintro e' w ⟨rfl, rfl⟩
            go_wp2_with fail
            refine (SY.out _).mono ?_
            rintro e' w ⟨rfl, rfl⟩
            go_wp2
            go_ret
            exact ⟨_, rfl, HF.out, nbl, B⟩
        · rw [c4] at SX
          obtain ⟨d, u1, hd, x1, y1⟩ := op_run .sub isSub 4605249457297304856 4368955796522032135 w
          obtain ⟨s, u2, hs, x2, y2⟩ := op_run .sub isSub 4614256656552045848 d u1
          have B2 := bw_trans (bw_trans B y1) y2
          have HB : Hid (∀ r, r = (if Fl.sg y = true then Fl.ng s else s) → offR y x r) := fun r hr => HO.out 4605249457297304856 s r BA.out (by unfold sidR; rw [if_pos c4]; exact ⟨d, hd, hs⟩) hr
          have hsl := hs.1
          clear HO BA c4 hd hs y1 y2
          cases c5 : Fl.sg y
          · rw [c5] at SY
            have HF : Hid (offR y x s) := HB.out _ (by rw [if_neg (by rw [c5]; decide)])
            clear HB c5
            go_wp2_with fail
            refine (SX.out _).mono ?_
            rintro e' w ⟨rfl, rfl⟩
            go_wp2_with fail
            refine (rhigh_any _).mono ?_
            rintro e' w ⟨rfl, rfl⟩
            go_wp2_with fail
            refine (rlow_any _).mono ?_
            rintro e' w ⟨rfl, rfl⟩
            go_wp2_with fail
            refine (SY.out _).mono ?_
            rintro e' u2 ⟨rfl, rfl⟩
            go_wp2
            go_ret
            exact ⟨_, rfl, HF.out, hsl, B2⟩
          · rw [c5] at SY
            have HF : Hid (offR y x (Fl.ng s)) := HB.out _ (by rw [if_pos c5])
            have nb := Fl.neg_eq (x := s) hsl
            have nbl := Fl.ng_lt (x := s) hsl
            clear HB c5
            go_wp2_with fail
            refine (SX.out _).mono ?_
            rintro e' w ⟨rfl, rfl⟩
            go_wp2_with fail
            refine (rhigh_any _).mono ?_
            rintro e' w ⟨rfl, rfl⟩
            go_wp2_with fail
            refine (rlow_any _).mono ?_
            rintro e' w ⟨rfl, rfl⟩
            go_wp2_with fail
            refine (SY.out _).mono ?_
            rintro e' u2 ⟨rfl, rfl⟩
            go_wp2
            go_ret
            exact ⟨_, rfl, HF.out, nbl, B2⟩
      · have HI : (decide (p = 9218868437227405312) = false) ∨ (decide (p = 9218868437227405312) = true ∧ decide (q = 9218868437227405312) = false) := by
          by_cases a : p = 9218868437227405312
          · exact Or.inr ⟨decide_eq_true a, decide_eq_false (fun b => c2 ⟨a, b⟩)⟩
          · exact Or.inl (decide_eq_false a)
        cases c3 : Fl.leF p q
        · rw [c3] at g3
          obtain ⟨t, w1, ht, e1, b1⟩ := op_run .quo isQuo q p w
          have rh2 := fun (ty : TypeId) w => run_float_arith (P := Tryd.prog) w .quo ty .f64 4614256656552045848 4611686018427387904 4609753056924675352 (by decide +kernel)
          have rl2 := fun (ty : TypeId) w => run_float_arith (P := Tryd.prog) w .quo ty .f64 4368955796522032135 4611686018427387904 4364452196894661639 (by decide +kernel)
          have HB0 : Hid (∀ v d b, angR t v → opR .sub v 4364452196894661639 d → opR .sub 4609753056924675352 d b → basR p q b) := by
            intro v d b h1 h2 h3
            unfold basR
            rw [if_neg c1, if_neg c2, if_neg (by rw [c3]; decide)]
            exact ⟨t, v, d, ht, h1, h2, h3⟩
          clear c1 c2 c3 ht
          have mid : ∀ (G : Prop), G → G := fun _ h => h
          clear mid
          rcases HI with hi | ⟨hi, hj⟩
          · rw [hi] at IP
            go_enter Tryd.func24, Tryd.ntmps24
            go_wp2_with fail
            refine (AY.out _).mono ?_
            rintro e' w ⟨rfl, rfl⟩
            go_wp2_with fail
            refine (AX.out _).mono ?_
            rintro e' w ⟨rfl, rfl⟩
            go_wp2_with fail
            refine (IP.out _).mono ?_
            rintro e' w ⟨rfl, rfl⟩
            go_wp2_with fail
            refine (rhigh_any _).mono ?_
            rintro e' w ⟨rfl, rfl⟩
            go_wp2_with fail
            refine (rangle_any t _).mono ?_
            rintro e w2 ⟨v, rfl, hv, hvl, b2⟩
            obtain ⟨d, w3, hd, e3, b3⟩ := op_run .sub isSub v 4364452196894661639 w2
            obtain ⟨b, w4, hb, e4, b4⟩ := op_run .sub isSub 4609753056924675352 d w3
            have B := bw_trans (bw_trans (bw_trans b1 b2) b3) b4
            have BA : Hid (basR p q b) := HB0.out v d b hv hd hb
            have hbl := hb.1
            clear HB0 hv hd hb b1 b2 b3 b4
            go_wp2_with fail
            refine (rlow_any _).mono ?_
            rintro e' w2 ⟨rfl, rfl⟩
            cases c4 : Fl.sg x
            · rw [c4] at SX
              have HB : Hid (∀ r, r = (if Fl.sg y = true then Fl.ng b else b) → offR y x r) := fun r hr => HO.out b b r BA.out (by unfold sidR; rw [if_neg (by rw [c4]; decide)]) hr
              clear HO BA c4
              cases c5 : Fl.sg y
              · rw [c5] at SY
                have HF : Hid (offR y x b) := HB.out _ (by rw [if_neg (by rw [c5]; decide)])
                clear HB c5
                go_wp2_with fail
                refine (SX.out _).mono ?_
                rintro e' w4 ⟨rfl, rfl⟩
                go_wp2_with fail
                refine (SY.out _).mono ?_
                rintro e' w4 ⟨rfl, rfl⟩
                go_wp2
                go_ret
                exact ⟨_, rfl, HF.out, hbl, B⟩
              · rw [c5] at SY
                have HF : Hid (offR y x (Fl.ng b)) := HB.out _ (by rw [if_pos c5])
                have nb := Fl.neg_eq (x := b) hbl
                have nbl := Fl.ng_lt (x := b) hbl
                clear HB c5
                go_wp2_with fail
                refine (SX.out _).mono ?_
                rintro e' w4 ⟨rfl, rfl⟩
                go_wp2_with fail
                refine (SY.out _).mono ?_
                rintro e' w4 ⟨rfl, rfl⟩
                go_wp2
                go_ret
                exact ⟨_, rfl, HF.out, nbl, B⟩
            · rw [c4] at SX
              obtain ⟨d, u1, hd, x1, y1⟩ := op_run .sub isSub b 4368955796522032135 w4
              obtain ⟨s, u2, hs, x2, y2⟩ := op_run .sub isSub 4614256656552045848 d u1
              have B2 := bw_trans (bw_trans B y1) y2
              have HB : Hid (∀ r, r = (if Fl.sg y = true then Fl.ng s else s) → offR y x r) := fun r hr => HO.out b s r BA.out (by unfold sidR; rw [if_pos c4]; exact ⟨d, hd, hs⟩) hr
              have hsl := hs.1
              clear HO BA c4 hd hs y1 y2
              cases c5 : Fl.sg y
              · rw [c5] at SY
                have HF : Hid (offR y x s) := HB.out _ (by rw [if_neg (by rw [c5]; decide)])
                clear HB c5
                go_wp2_with fail
                refine (SX.out _).mono ?_
                rintro e' w4 ⟨rfl, rfl⟩
                go_wp2_with fail
                refine (rhigh_any _).mono ?_
                rintro e' w4 ⟨rfl, rfl⟩
                go_wp2_with fail
                refine (rlow_any _).mono ?_
                rintro e' w4 ⟨rfl, rfl⟩
                go_wp2_with fail
                refine (SY.out _).mono ?_
                rintro e' u2 ⟨rfl, rfl⟩
                go_wp2
                go_ret
                exact ⟨_, rfl, HF.out, hsl, B2⟩
              · rw [c5] at SY
                have HF : Hid (offR y x (Fl.ng s)) := HB.out _ (by rw [if_pos c5])
                have nb := Fl.neg_eq (x := s) hsl
                have nbl := Fl.ng_lt (x := s) hsl
                clear HB c5
                go_wp2_with fail
                refine (SX.out _).mono ?_
                rintro e' w4 ⟨rfl, rfl⟩
                go_wp2_with fail
                refine (rhigh_any _).mono ?_
                rintro e' w4 ⟨rfl, rfl⟩
                go_wp2_with fail
                refine (rlow_any _).mono ?_
                rintro e' w4 ⟨rfl, rfl⟩
                go_wp2_with fail
                refine (SY.out _).mono ?_
                rintro e' u2 ⟨rfl, rfl⟩
                go_wp2
                go_ret
                exact ⟨_, rfl, HF.out, nbl, B2⟩
          · rw [hi] at IP
            rw [hj] at IQ
            go_enter Tryd.func24, Tryd.ntmps24
            go_wp2_with fail
            refine (AY.out _).mono ?_
            rintro e' w ⟨rfl, rfl⟩
            go_wp2_with fail
            refine (AX.out _).mono ?_
            rintro e' w ⟨rfl, rfl⟩
            go_wp2_with fail
            refine (IP.out _).mono ?_
            rintro e' w ⟨rfl, rfl⟩
            go_wp2_with fail
            refine (IQ.out _).mono ?_
            rintro e' w ⟨rfl, rfl⟩
            go_wp2_with fail
            refine (rhigh_any _).mono ?_
            rintro e' w ⟨rfl, rfl⟩
            go_wp2_with fail
            refine (rangle_any t _).mono ?_
            rintro e w2 ⟨v, rfl, hv, hvl, b2⟩
            obtain ⟨d, w3, hd, e3, b3⟩ := op_run .sub isSub v 4364452196894661639 w2
            obtain ⟨b, w4, hb, e4, b4⟩ := op_run .sub isSub 4609753056924675352 d w3
            have B := bw_trans (bw_trans (bw_trans b1 b2) b3) b4
            have BA : Hid (basR p q b) := HB0.out v d b hv hd hb
            have hbl := hb.1
            clear HB0 hv hd hb b1 b2 b3 b4
            go_wp2_with fail
            refine (rlow_any _).mono ?_
            rintro e' w2 ⟨rfl, rfl⟩
            cases c4 : Fl.sg x
            · rw [c4] at SX
              have HB : Hid (∀ r, r = (if Fl.sg y = true then Fl.ng b else b) → offR y x r) := fun r hr => HO.out b b r BA.out (by unfold sidR; rw [if_neg (by rw [c4]; decide)]) hr
              clear HO BA c4
              cases c5 : Fl.sg y
              · rw [c5] at SY
                have HF : Hid (offR y x b) := HB.out _ (by rw [if_neg (by rw [c5]; decide)])
                clear HB c5
                go_wp2_with fail
                refine (SX.out _).mono ?_
                rintro e' w4 ⟨rfl, rfl⟩
                go_wp2_with fail
                refine (SY.out _).mono ?_
                rintro e' w4 ⟨rfl, rfl⟩
                go_wp2
                go_ret
                exact ⟨_, rfl, HF.out, hbl, B⟩
              · rw [c5] at SY
                have HF : Hid (offR y x (Fl.ng b)) := HB.out _ (by rw [if_pos c5])
                have nb := Fl.neg_eq (x := b) hbl
                have nbl := Fl.ng_lt (x := b) hbl
                clear HB c5
                go_wp2_with fail
                refine (SX.out _).mono ?_
                rintro e' w4 ⟨rfl, rfl⟩
                go_wp2_with fail
                refine (SY.out _).mono ?_
                rintro e' w4 ⟨rfl, rfl⟩
                go_wp2
                go_ret
                exact ⟨_, rfl, HF.out, nbl, B⟩
            · rw [c4] at SX
              obtain ⟨d, u1, hd, x1, y1⟩ := op_run .sub isSub b 4368955796522032135 w4
              obtain ⟨s, u2, hs, x2, y2⟩ := op_run .sub isSub 4614256656552045848 d u1
              have B2 := bw_trans (bw_trans B y1) y2
              have HB : Hid (∀ r, r = (if Fl.sg y = true then Fl.ng s else s) → offR y x r) := fun r hr => HO.out b s r BA.out (by unfold sidR; rw [if_pos c4]; exact ⟨d, hd, hs⟩) hr
              have hsl := hs.1
              clear HO BA c4 hd hs y1 y2
              cases c5 : Fl.sg y
              · rw [c5] at SY
                have HF : Hid (offR y x s) := HB.out _ (by rw [if_neg (by rw [c5]; decide)])
                clear HB c5
                go_wp2_with fail
                refine (SX.out _).mono ?_
                rintro e' w4 ⟨rfl, rfl⟩
                go_wp2_with fail
                refine (rhigh_any _).mono ?_
                rintro e' w4 ⟨rfl, rfl⟩
                go_wp2_with fail
                refine (rlow_any _).mono ?_
                rintro e' w4 ⟨rfl, rfl⟩
                go_wp2_with fail
                refine (SY.out _).mono ?_
                rintro e' u2 ⟨rfl, rfl⟩
                go_wp2
                go_ret
                exact ⟨_, rfl, HF.out, hsl, B2⟩
              · rw [c5] at SY
                have HF : Hid (offR y x (Fl.ng s)) := HB.out _ (by rw [if_pos c5])
                have nb := Fl.neg_eq (x := s) hsl
                have nbl := Fl.ng_lt (x := s) hsl
                clear HB c5
                go_wp2_with fail
                refine (SX.out _).mono ?_
                rintro e' w4 ⟨rfl, rfl⟩
                go_wp2_with fail
                refine (rhigh_any _).mono ?_
                rintro e' w4 ⟨rfl, rfl⟩
                go_wp2_with fail
                refine (rlow_any _).mono ?_
                rintro e' w4 ⟨rfl, rfl⟩
                go_wp2_with fail
                refine (SY.out _).mono ?_
                rintro e' u2 ⟨rfl, rfl⟩
                go_wp2
                go_ret
                exact ⟨_, rfl, HF.out, nbl, B2⟩
        · rw [c3] at g3
          obtain ⟨t, w1, ht, e1, b1⟩ := op_run .quo isQuo p q w
          have HB0 : Hid (∀ b, angR t b → basR p q b) := by
            intro b h1
            unfold basR
            rw [if_neg c1, if_neg c2, if_pos c3]
            exact ⟨t, ht, h1⟩
          clear c1 c2 c3 ht
          rcases HI with hi | ⟨hi, hj⟩
          · rw [hi] at IP
            go_enter Tryd.func24, Tryd.ntmps24
            go_wp2_with fail
            refine (AY.out _).mono ?_
            rintro e' w ⟨rfl, rfl⟩
            go_wp2_with fail
            refine (AX.out _).mono ?_
            rintro e' w ⟨rfl, rfl⟩
            go_wp2_with fail
            refine (IP.out _).mono ?_
            rintro e' w ⟨rfl, rfl⟩
            go_wp2_with fail
            refine (rangle_any t _).mono ?_
            rintro e w2 ⟨b, rfl, hb, hbl, b2⟩
            have B := bw_trans b1 b2
            have BA : Hid (basR p q b) := HB0.out b hb
            clear HB0 hb b1 b2
            cases c4 : Fl.sg x
            · rw [c4] at SX
              have HB : Hid (∀ r, r = (if Fl.sg y = true then Fl.ng b else b) → offR y x r) := fun r hr => HO.out b b r BA.out (by unfold sidR; rw [if_neg (by rw [c4]; decide)]) hr
              clear HO BA c4
              cases c5 : Fl.sg y
              · rw [c5] at SY
                have HF : Hid (offR y x b) := HB.out _ (by rw [if_neg (by rw [c5]; decide)])
                clear HB c5
                go_wp2_with fail
                refine (SX.out _).mono ?_
                rintro e' w2 ⟨rfl, rfl⟩
                go_wp2_with fail
                refine (SY.out _).mono ?_
                rintro e' w2 ⟨rfl, rfl⟩
                go_wp2
                go_ret
                exact ⟨_, rfl, HF.out, hbl, B⟩
              · rw [c5] at SY
                have HF : Hid (offR y x (Fl.ng b)) := HB.out _ (by rw [if_pos c5])
                have nb := Fl.neg_eq (x := b) hbl
                have nbl := Fl.ng_lt (x := b) hbl
                clear HB c5
                go_wp2_with fail
                refine (SX.out _).mono ?_
                rintro e' w2 ⟨rfl, rfl⟩
                go_wp2_with fail
                refine (SY.out _).mono ?_
                rintro e' w2 ⟨rfl, rfl⟩
                go_wp2
                go_ret
                exact ⟨_, rfl, HF.out, nbl, B⟩
            · rw [c4] at SX
              obtain ⟨d, u1, hd, x1, y1⟩ := op_run .sub isSub b 4368955796522032135 w2
              obtain ⟨s, u2, hs, x2, y2⟩ := op_run .sub isSub 4614256656552045848 d u1
              have B2 := bw_trans (bw_trans B y1) y2
              have HB : Hid (∀ r, r = (if Fl.sg y = true then Fl.ng s else s) → offR y x r) := fun r hr => HO.out b s r BA.out (by unfold sidR; rw [if_pos c4]; exact ⟨d, hd, hs⟩) hr
              have hsl := hs.1
              clear HO BA c4 hd hs y1 y2
              cases c5 : Fl.sg y
              · rw [c5] at SY
                have HF : Hid (offR y x s) := HB.out _ (by rw [if_neg (by rw [c5]; decide)])
                clear HB c5
                go_wp2_with fail
                refine (SX.out _).mono ?_
                rintro e' w2 ⟨rfl, rfl⟩
                go_wp2_with fail
                refine (rhigh_any _).mono ?_
                rintro e' w2 ⟨rfl, rfl⟩
                go_wp2_with fail
                refine (rlow_any _).mono ?_
                rintro e' w2 ⟨rfl, rfl⟩
                go_wp2_with fail
                refine (SY.out _).mono ?_
                rintro e' u2 ⟨rfl, rfl⟩
                go_wp2
                go_ret
                exact ⟨_, rfl, HF.out, hsl, B2⟩
              · rw [c5] at SY
                have HF : Hid (offR y x (Fl.ng s)) := HB.out _ (by rw [if_pos c5])
                have nb := Fl.neg_eq (x := s) hsl
                have nbl := Fl.ng_lt (x := s) hsl
                clear HB c5
                go_wp2_with fail
                refine (SX.out _).mono ?_
                rintro e' w2 ⟨rfl, rfl⟩
                go_wp2_with fail
                refine (rhigh_any _).mono ?_
                rintro e' w2 ⟨rfl, rfl⟩
                go_wp2_with fail
                refine (rlow_any _).mono ?_
                rintro e' w2 ⟨rfl, rfl⟩
                go_wp2_with fail
                refine (SY.out _).mono ?_
                rintro e' u2 ⟨rfl, rfl⟩
                go_wp2
                go_ret
                exact ⟨_, rfl, HF.out, nbl, B2⟩
          · rw [hi] at IP
            rw [hj] at IQ
            go_enter Tryd.func24, Tryd.ntmps24
            go_wp2_with fail
            refine (AY.out _).mono ?_
            rintro e' w ⟨rfl, rfl⟩
            go_wp2_with fail
            refine (AX.out _).mono ?_
            rintro e' w ⟨rfl, rfl⟩
            go_wp2_with fail
            refine (IP.out _).mono ?_
            rintro e' w ⟨rfl, rfl⟩
            go_wp2_with fail
            refine (IQ.out _).mono ?_
            rintro e' w ⟨rfl, rfl⟩
            go_wp2_with fail
            refine (rangle_any t _).mono ?_
            rintro e w2 ⟨b, rfl, hb, hbl, b2⟩
            have B := bw_trans b1 b2
            have BA : Hid (basR p q b) := HB0.out b hb
            clear HB0 hb b1 b2
            cases c4 : Fl.sg x
            · rw [c4] at SX
              have HB : Hid (∀ r, r = (if Fl.sg y = true then Fl.ng b else b) → offR y x r) := fun r hr => HO.out b b r BA.out (by unfold sidR; rw [if_neg (by rw [c4]; decide)]) hr
              clear HO BA c4
              cases c5 : Fl.sg y
              · rw [c5] at SY
                have HF : Hid (offR y x b) := HB.out _ (by rw [if_neg (by rw [c5]; decide)])
                clear HB c5
                go_wp2_with fail
                refine (SX.out _).mono ?_
                rintro e' w2 ⟨rfl, rfl⟩
                go_wp2_with fail
                refine (SY.out _).mono ?_
                rintro e' w2 ⟨rfl, rfl⟩
                go_wp2
                go_ret
                exact ⟨_, rfl, HF.out, hbl, B⟩
              · rw [c5] at SY
                have HF : Hid (offR y x (Fl.ng b)) := HB.out _ (by rw [if_pos c5])
                have nb := Fl.neg_eq (x := b) hbl
                have nbl := Fl.ng_lt (x := b) hbl
                clear HB c5
                go_wp2_with fail
                refine (SX.out _).mono ?_
                rintro e' w2 ⟨rfl, rfl⟩
                go_wp2_with fail
                refine (SY.out _).mono ?_
                rintro e' w2 ⟨rfl, rfl⟩
                go_wp2
                go_ret
                exact ⟨_, rfl, HF.out, nbl, B⟩
            · rw [c4] at SX
              obtain ⟨d, u1, hd, x1, y1⟩ := op_run .sub isSub b 4368955796522032135 w2
              obtain ⟨s, u2, hs, x2, y2⟩ := op_run .sub isSub 4614256656552045848 d u1
              have B2 := bw_trans (bw_trans B y1) y2
              have HB : Hid (∀ r, r = (if Fl.sg y = true then Fl.ng s else s) → offR y x r) := fun r hr => HO.out b s r BA.out (by unfold sidR; rw [if_pos c4]; exact ⟨d, hd, hs⟩) hr
              have hsl := hs.1
              clear HO BA c4 hd hs y1 y2
              cases c5 : Fl.sg y
              · rw [c5] at SY
                have HF : Hid (offR y x s) := HB.out _ (by rw [if_neg (by rw [c5]; decide)])
                clear HB c5
                go_wp2_with fail
                refine (SX.out _).mono ?_
                rintro e' w2 ⟨rfl, rfl⟩
                go_wp2_with fail
                refine (rhigh_any _).mono ?_
                rintro e' w2 ⟨rfl, rfl⟩
                go_wp2_with fail
                refine (rlow_any _).mono ?_
                rintro e' w2 ⟨rfl, rfl⟩
                go_wp2_with fail
                refine (SY.out _).mono ?_
                rintro e' u2 ⟨rfl, rfl⟩
                go_wp2
                go_ret
                exact ⟨_, rfl, HF.out, hsl, B2⟩
              · rw [c5] at SY
                have HF : Hid (offR y x (Fl.ng s)) := HB.out _ (by rw [if_pos c5])
                have nb := Fl.neg_eq (x := s) hsl
                have nbl := Fl.ng_lt (x := s) hsl
                clear HB c5
                go_wp2_with fail
                refine (SX.out _).mono ?_
                rintro e' w2 ⟨rfl, rfl⟩
                go_wp2_with fail
                refine (rhigh_any _).mono ?_
                rintro e' w2 ⟨rfl, rfl⟩
                go_wp2_with fail
                refine (rlow_any _).mono ?_
                rintro e' w2 ⟨rfl, rfl⟩
                go_wp2_with fail
                refine (SY.out _).mono ?_
                rintro e' u2 ⟨rfl, rfl⟩
                go_wp2
                go_ret
                exact ⟨_, rfl, HF.out, nbl, B2⟩
end Go.Proofs.YtlbikopancleoaaDoor
