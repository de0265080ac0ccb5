/-
  OWN TEXT: the reference's angles of places (eddyref05.Of, Tan), for every float.
-/
import Derived.Test.YtlbikopancleoaaGreatDoorJnBd
import Derived.Test.YtlbikopancleoaaGreatDoorJnAl
namespace Go.Proofs.YtlbikopancleoaaGreatDoor
open Go.ChangeShapes Go.WideShapes Go.ChangeAt Go.RowKit
set_option linter.unusedVariables false
attribute [local go_sem] frombits_call tobits_call run_neg
set_option maxHeartbeats 8000000 in
theorem rof_any (y x : Nat) (w : World) (hy : y < 18446744073709551616) (hx : x < 18446744073709551616) : Calls Tryz.prog 36 #[.float .f64 y, .float .f64 x] w fun e w' => ∃ r, e = .returned (.float .f64 r) ∧ offR y x r ∧ r < 18446744073709551616 ∧ Bw w w' := by
  have g0 := Fl.o_ne y y
  have g1 := Fl.o_ne x x
  rw [Fl.eqF_self, Bool.not_not] at g0 g1
  by_cases c0 : (Fl.nan y || Fl.nan x) = true
  · have HF : Hid (offR y x 9221120237041090561) := by show offR _ _ _; unfold offR; rw [if_pos c0]; decide
    cases c1 : Fl.nan y
    · rw [c1, Bool.false_or] at c0
      rw [c1] at g0
      rw [c0] at g1
      clear c0 c1
      go_enter Tryz.func36, Tryz.ntmps36
      go_wp2_with (go_at_call 62; refine (rnone_any _).mono ?_; rintro e' w ⟨rfl, rfl⟩)
      go_ret
      exact ⟨_, rfl, HF.out, by decide, Bw.refl _⟩
    · rw [c1] at g0
      clear c0 c1 g1
      go_enter Tryz.func36, Tryz.ntmps36
      go_wp2_with (go_at_call 62; refine (rnone_any _).mono ?_; rintro e' w ⟨rfl, rfl⟩)
      go_ret
      exact ⟨_, rfl, HF.out, by decide, Bw.refl _⟩
  · have HO : Hid (∀ b s r, basR (Fl.rg y) (Fl.rg x) b → sidR x b s → r = (if Fl.sg y = true then Fl.ng s else s) → offR y x r) := by
      intro b s r h1 h2 h3
      unfold offR
      rw [if_neg c0]
      exact ⟨b, s, h1, h2, h3⟩
    have hc := Bool.eq_false_iff.2 c0
    rw [Bool.or_eq_false_iff] at hc
    rw [hc.1] at g0
    rw [hc.2] at g1
    have AY : Hid (∀ wz, Calls Tryz.prog 78 #[.float .f64 y] wz fun e w' => e = .returned (.float .f64 (Fl.rg y)) ∧ w' = wz) := fun wz => abs_any y wz hy
    have AX : Hid (∀ wz, Calls Tryz.prog 78 #[.float .f64 x] wz fun e w' => e = .returned (.float .f64 (Fl.rg x)) ∧ w' = wz) := fun wz => abs_any x wz hx
    have SY : Hid (∀ wz, Calls Tryz.prog 90 #[.float .f64 y] wz fun e w' => e = .returned (.bool (Fl.sg y)) ∧ w' = wz) := fun wz => signbit_any y wz hy
    have SX : Hid (∀ wz, Calls Tryz.prog 90 #[.float .f64 x] wz fun e w' => e = .returned (.bool (Fl.sg x)) ∧ w' = wz) := fun wz => signbit_any x wz hx
    have hpl : Fl.rg y < 18446744073709551616 := by have := Fl.rg_lt y; omega
    have hql : Fl.rg x < 18446744073709551616 := by have := Fl.rg_lt x; omega
    have np : Fl.nan (Fl.rg y) = false := by rw [Fl.nan_rg]; exact hc.1
    have pz : Fl.rg (Fl.rg y) = Fl.rg y := Fl.rg_rg y
    have g2 := Fl.o_eq (Fl.rg y) 0
    rw [(up_tests hpl np).2.1, pz] at g2
    have g3 := Fl.o_le (Fl.rg y) (Fl.rg x)
    have IP : Hid (∀ wz, Calls Tryz.prog 71 #[.float .f64 (Fl.rg y), .int .i64 1] wz fun e w' => e = .returned (.bool (decide (Fl.rg y = 9218868437227405312))) ∧ w' = wz) := fun wz => isInf_up (Fl.rg y) wz hpl
    have IQ : Hid (∀ wz, Calls Tryz.prog 71 #[.float .f64 (Fl.rg x), .int .i64 1] wz fun e w' => e = .returned (.bool (decide (Fl.rg x = 9218868437227405312))) ∧ w' = wz) := fun wz => isInf_up (Fl.rg x) wz hql
    clear c0 hc np pz
    generalize hp : Fl.rg y = p at *
    generalize hq : Fl.rg x = q at *
    clear hp hq
    by_cases c1 : p = 0
    · rw [decide_eq_true c1] at g2
      have BA : Hid (basR p q 0) := by show basR _ _ _; unfold basR; rw [if_pos c1]
      clear g3 IP IQ c1
      have z0 : (0 : Nat) < 18446744073709551616 := by decide
      have B : Bw w w := Bw.refl w
      go_enter Tryz.func36, Tryz.ntmps36
      go_wp2_with fail
      refine (AY.out _).mono ?_
      rintro e' w ⟨rfl, rfl⟩
      go_wp2_with fail
      refine (AX.out _).mono ?_
      rintro e' w ⟨rfl, rfl⟩
      cases c4 : Fl.sg x
      · rw [c4] at SX
        have HB : Hid (∀ r, r = (if Fl.sg y = true then Fl.ng 0 else 0) → offR y x r) := fun r hr => HO.out 0 0 r BA.out (by unfold sidR; rw [if_neg (by rw [c4]; decide)]) hr
        clear HO BA c4
        cases c5 : Fl.sg y
        · rw [c5] at SY
          have HF : Hid (offR y x 0) := HB.out _ (by rw [if_neg (by rw [c5]; decide)])
          clear HB c5
          go_wp2_with fail
          refine (SX.out _).mono ?_
          rintro e' w ⟨rfl, rfl⟩
          go_wp2_with fail
          refine (SY.out _).mono ?_
          rintro e' w ⟨rfl, rfl⟩
          go_wp2
          go_ret
          exact ⟨_, rfl, HF.out, z0, B⟩
        · rw [c5] at SY
          have HF : Hid (offR y x (Fl.ng 0)) := HB.out _ (by rw [if_pos c5])
          have nb := Fl.neg_eq (x := 0) z0
          have nbl := Fl.ng_lt (x := 0) z0
          clear HB c5
          go_wp2_with fail
          refine (SX.out _).mono ?_
          rintro e' w ⟨rfl, rfl⟩
          go_wp2_with fail
          refine (SY.out _).mono ?_
          rintro e' w ⟨rfl, rfl⟩
          go_wp2
          go_ret
          exact ⟨_, rfl, HF.out, nbl, B⟩
      · rw [c4] at SX
        obtain ⟨d, u1, hd, x1, y1⟩ := op_run .sub isSub 0 4368955796522032135 w
        obtain ⟨s, u2, hs, x2, y2⟩ := op_run .sub isSub 4614256656552045848 d u1
        have B2 := bw_trans (bw_trans B y1) y2
        have HB : Hid (∀ r, r = (if Fl.sg y = true then Fl.ng s else s) → offR y x r) := fun r hr => HO.out 0 s r BA.out (by unfold sidR; rw [if_pos c4]; exact ⟨d, hd, hs⟩) hr
        have hsl := hs.1
        clear HO BA c4 hd hs y1 y2
        cases c5 : Fl.sg y
        · rw [c5] at SY
          have HF : Hid (offR y x s) := HB.out _ (by rw [if_neg (by rw [c5]; decide)])
          clear HB c5
          go_wp2_with fail
          refine (SX.out _).mono ?_
          rintro e' w ⟨rfl, rfl⟩
          go_wp2_with fail
          refine (rhigh_any _).mono ?_
          rintro e' w ⟨rfl, rfl⟩
          go_wp2_with fail
          refine (rlow_any _).mono ?_
          rintro e' w ⟨rfl, rfl⟩
          go_wp2_with fail
          refine (SY.out _).mono ?_
          rintro e' u2 ⟨rfl, rfl⟩
          go_wp2
          go_ret
          exact ⟨_, rfl, HF.out, hsl, B2⟩
        · rw [c5] at SY
          have HF : Hid (offR y x (Fl.ng s)) := HB.out _ (by rw [if_pos c5])
          have nb := Fl.neg_eq (x := s) hsl
          have nbl := Fl.ng_lt (x := s) hsl
          clear HB c5
          go_wp2_with fail
          refine (SX.out _).mono ?_
          rintro e' w ⟨rfl, rfl⟩
          go_wp2_with fail
          refine (rhigh_any _).mono ?_
          rintro e' w ⟨rfl, rfl⟩
          go_wp2_with fail
          refine (rlow_any _).mono ?_
          rintro e' w ⟨rfl, rfl⟩
          go_wp2_with fail
          refine (SY.out _).mono ?_
          rintro e' u2 ⟨rfl, rfl⟩
          go_wp2
          go_ret
          exact ⟨_, rfl, HF.out, nbl, B2⟩
    · rw [decide_eq_false c1] at g2
      by_cases c2 : p = 9218868437227405312 ∧ q = 9218868437227405312
      · have BA : Hid (basR p q 4605249457297304856) := by show basR _ _ _; unfold basR; rw [if_neg c1, if_pos c2]
        rw [decide_eq_true c2.1] at IP
        rw [decide_eq_true c2.2] at IQ
        have rh4 := fun (ty : TypeId) w => run_float_arith (P := Tryz.prog) w .quo ty .f64 4614256656552045848 4616189618054758400 4605249457297304856 (by decide +kernel)
        clear g3 c1 c2
        have z0 : (4605249457297304856 : Nat) < 18446744073709551616 := by decide
        have B : Bw w w := Bw.refl w
        go_enter Tryz.func36, Tryz.ntmps36
        go_wp2_with fail
        refine (AY.out _).mono ?_
        rintro e' w ⟨rfl, rfl⟩
        go_wp2_with fail
        refine (AX.out _).mono ?_
        rintro e' w ⟨rfl, rfl⟩
        go_wp2_with fail
        refine (IP.out _).mono ?_
        rintro e' w ⟨rfl, rfl⟩
        go_wp2_with fail
        refine (IQ.out _).mono ?_
        rintro e' w ⟨rfl, rfl⟩
        go_wp2_with fail
        refine (rhigh_any _).mono ?_
        rintro e' w ⟨rfl, rfl⟩
        cases c4 : Fl.sg x
        · rw [c4] at SX
          have HB : Hid (∀ r, r = (if Fl.sg y = true then Fl.ng 4605249457297304856 else 4605249457297304856) → offR y x r) := fun r hr => HO.out 4605249457297304856 4605249457297304856 r BA.out (by unfold sidR; rw [if_neg (by rw [c4]; decide)]) hr
          clear HO BA c4
          cases c5 : Fl.sg y
          · rw [c5] at SY
            have HF : Hid (offR y x 4605249457297304856) := HB.out _ (by rw [if_neg (by rw [c5]; decide)])
            clear HB c5
            go_wp2_with fail
            refine (SX.out _).mono ?_
            rintro e' w ⟨rfl, rfl⟩
            go_wp2_with fail
            refine (SY.out _).mono ?_
            rintro e' w ⟨rfl, rfl⟩
            go_wp2
            go_ret
            exact ⟨_, rfl, HF.out, z0, B⟩
          · rw [c5] at SY
            have HF : Hid (offR y x (Fl.ng 4605249457297304856)) := HB.out _ (by rw [if_pos c5])
            have nb := Fl.neg_eq (x := 4605249457297304856) z0
            have nbl := Fl.ng_lt (x := 4605249457297304856) z0
            clear HB c5
            go_wp2_with fail
            refine (SX.out _).mono ?_
            rintro e' w ⟨rfl, rfl⟩
            go_wp2_with fail
            refine (SY.out _).mono ?_
            rintro e' w ⟨rfl, rfl⟩
            go_wp2
            go_ret
            exact ⟨_, rfl, HF.out, nbl, B⟩
        · rw [c4] at SX
          obtain ⟨d, u1, hd, x1, y1⟩ := op_run .sub isSub 4605249457297304856 4368955796522032135 w
          obtain ⟨s, u2, hs, x2, y2⟩ := op_run .sub isSub 4614256656552045848 d u1
          have B2 := bw_trans (bw_trans B y1) y2
          have HB : Hid (∀ r, r = (if Fl.sg y = true then Fl.ng s else s) → offR y x r) := fun r hr => HO.out 4605249457297304856 s r BA.out (by unfold sidR; rw [if_pos c4]; exact ⟨d, hd, hs⟩) hr
          have hsl := hs.1
          clear HO BA c4 hd hs y1 y2
          cases c5 : Fl.sg y
          · rw [c5] at SY
            have HF : Hid (offR y x s) := HB.out _ (by rw [if_neg (by rw [c5]; decide)])
            clear HB c5
            go_wp2_with fail
            refine (SX.out _).mono ?_
            rintro e' w ⟨rfl, rfl⟩
            go_wp2_with fail
            refine (rhigh_any _).mono ?_
            rintro e' w ⟨rfl, rfl⟩
            go_wp2_with fail
            refine (rlow_any _).mono ?_
            rintro e' w ⟨rfl, rfl⟩
            go_wp2_with fail
            refine (SY.out _).mono ?_
            rintro e' u2 ⟨rfl, rfl⟩
            go_wp2
            go_ret
            exact ⟨_, rfl, HF.out, hsl, B2⟩
          · rw [c5] at SY
            have HF : Hid (offR y x (Fl.ng s)) := HB.out _ (by rw [if_pos c5])
            have nb := Fl.neg_eq (x := s) hsl
            have nbl := Fl.ng_lt (x := s) hsl
            clear HB c5
            go_wp2_with fail
            refine (SX.out _).mono ?_
            rintro e' w ⟨rfl, rfl⟩
            go_wp2_with fail
            refine (rhigh_any _).mono ?_
            rintro e' w ⟨rfl, rfl⟩
            go_wp2_with fail
            refine (rlow_any _).mono ?_
            rintro e' w ⟨rfl, rfl⟩
            go_wp2_with fail
            refine (SY.out _).mono ?_
            rintro e' u2 ⟨rfl, rfl⟩
            go_wp2
            go_ret
            exact ⟨_, rfl, HF.out, nbl, B2⟩
      · have HI : (decide (p = 9218868437227405312) = false) ∨ (decide (p = 9218868437227405312) = true ∧ decide (q = 9218868437227405312) = false) := by
          by_cases a : p = 9218868437227405312
          · exact Or.inr ⟨decide_eq_true a, decide_eq_false (fun b => c2 ⟨a, b⟩)⟩
          · exact Or.inl (decide_eq_false a)
        cases c3 : Fl.leF p q
        · rw [c3] at g3
          obtain ⟨t, w1, ht, e1, b1⟩ := op_run .quo isQuo q p w
          have rh2 := fun (ty : TypeId) w => run_float_arith (P := Tryz.prog) w .quo ty .f64 4614256656552045848 4611686018427387904 4609753056924675352 (by decide +kernel)
          have rl2 := fun (ty : TypeId) w => run_float_arith (P := Tryz.prog) w .quo ty .f64 4368955796522032135 4611686018427387904 4364452196894661639 (by decide +kernel)
          have HB0 : Hid (∀ v d b, angR t v → opR .sub v 4364452196894661639 d → opR .sub 4609753056924675352 d b → basR p q b) := by
            intro v d b h1 h2 h3
            unfold basR
            rw [if_neg c1, if_neg c2, if_neg (by rw [c3]; decide)]
            exact ⟨t, v, d, ht, h1, h2, h3⟩
          clear c1 c2 c3 ht
          have mid : ∀ (G : Prop), G → G := fun _ h => h
          clear mid
          rcases HI with hi | ⟨hi, hj⟩
          · rw [hi] at IP
            go_enter Tryz.func36, Tryz.ntmps36
            go_wp2_with fail
            refine (AY.out _).mono ?_
            rintro e' w ⟨rfl, rfl⟩
            go_wp2_with fail
            refine (AX.out _).mono ?_
            rintro e' w ⟨rfl, rfl⟩
            go_wp2_with fail
            refine (IP.out _).mono ?_
            rintro e' w ⟨rfl, rfl⟩
            go_wp2_with fail
            refine (rhigh_any _).mono ?_
            rintro e' w ⟨rfl, rfl⟩
            go_wp2_with fail
            refine (rangle_any t _).mono ?_
            rintro e w2 ⟨v, rfl, hv, hvl, b2⟩
            obtain ⟨d, w3, hd, e3, b3⟩ := op_run .sub isSub v 4364452196894661639 w2
            obtain ⟨b, w4, hb, e4, b4⟩ := op_run .sub isSub 4609753056924675352 d w3
            have B := bw_trans (bw_trans (bw_trans b1 b2) b3) b4
            have BA : Hid (basR p q b) := HB0.out v d b hv hd hb
            have hbl := hb.1
            clear HB0 hv hd hb b1 b2 b3 b4
            go_wp2_with fail
            refine (rlow_any _).mono ?_
            rintro e' w2 ⟨rfl, rfl⟩
            cases c4 : Fl.sg x
            · rw [c4] at SX
              have HB : Hid (∀ r, r = (if Fl.sg y = true then Fl.ng b else b) → offR y x r) := fun r hr => HO.out b b r BA.out (by unfold sidR; rw [if_neg (by rw [c4]; decide)]) hr
              clear HO BA c4
              cases c5 : Fl.sg y
              · rw [c5] at SY
                have HF : Hid (offR y x b) := HB.out _ (by rw [if_neg (by rw [c5]; decide)])
                clear HB c5
                go_wp2_with fail
                refine (SX.out _).mono ?_
                rintro e' w4 ⟨rfl, rfl⟩
                go_wp2_with fail
                refine (SY.out _).mono ?_
                rintro e' w4 ⟨rfl, rfl⟩
                go_wp2
                go_ret
                exact ⟨_, rfl, HF.out, hbl, B⟩
              · rw [c5] at SY
                have HF : Hid (offR y x (Fl.ng b)) := HB.out _ (by rw [if_pos c5])
                have nb := Fl.neg_eq (x := b) hbl
                have nbl := Fl.ng_lt (x := b) hbl
                clear HB c5
                go_wp2_with fail
                refine (SX.out _).mono ?_
                rintro e' w4 ⟨rfl, rfl⟩
                go_wp2_with fail
                refine (SY.out _).mono ?_
                rintro e' w4 ⟨rfl, rfl⟩
                go_wp2
                go_ret
                exact ⟨_, rfl, HF.out, nbl, B⟩
            · rw [c4] at SX
              obtain ⟨d, u1, hd, x1, y1⟩ := op_run .sub isSub b 4368955796522032135 w4
              obtain ⟨s, u2, hs, x2, y2⟩ := op_run .sub isSub 4614256656552045848 d u1
              have B2 := bw_trans (bw_trans B y1) y2
              have HB : Hid (∀ r, r = (if Fl.sg y = true then Fl.ng s else s) → offR y x r) := fun r hr => HO.out b s r BA.out (by unfold sidR; rw [if_pos c4]; exact ⟨d, hd, hs⟩) hr
              have hsl := hs.1
              clear HO BA c4 hd hs y1 y2
              cases c5 : Fl.sg y
              · rw [c5] at SY
                have HF : Hid (offR y x s) := HB.out _ (by rw [if_neg (by rw [c5]; decide)])
                clear HB c5
                go_wp2_with fail
                refine (SX.out _).mono ?_
                rintro e' w4 ⟨rfl, rfl⟩
                go_wp2_with fail
                refine (rhigh_any _).mono ?_
                rintro e' w4 ⟨rfl, rfl⟩
                go_wp2_with fail
                refine (rlow_any _).mono ?_
                rintro e' w4 ⟨rfl, rfl⟩
                go_wp2_with fail
                refine (SY.out _).mono ?_
                rintro e' u2 ⟨rfl, rfl⟩
                go_wp2
                go_ret
                exact ⟨_, rfl, HF.out, hsl, B2⟩
              · rw [c5] at SY
                have HF : Hid (offR y x (Fl.ng s)) := HB.out _ (by rw [if_pos c5])
                have nb := Fl.neg_eq (x := s) hsl
                have nbl := Fl.ng_lt (x := s) hsl
                clear HB c5
                go_wp2_with fail
                refine (SX.out _).mono ?_
                rintro e' w4 ⟨rfl, rfl⟩
                go_wp2_with fail
                refine (rhigh_any _).mono ?_
                rintro e' w4 ⟨rfl, rfl⟩
                go_wp2_with fail
                refine (rlow_any _).mono ?_
                rintro e' w4 ⟨rfl, rfl⟩
                go_wp2_with fail
                refine (SY.out _).mono ?_
                rintro e' u2 ⟨rfl, rfl⟩
                go_wp2
                go_ret
                exact ⟨_, rfl, HF.out, nbl, B2⟩
          · rw [hi] at IP
            rw [hj] at IQ
            go_enter Tryz.func36, Tryz.ntmps36
            go_wp2_with fail
            refine (AY.out _).mono ?_
            rintro e' w ⟨rfl, rfl⟩
            go_wp2_with fail
            refine (AX.out _).mono ?_
            rintro e' w ⟨rfl, rfl⟩
            go_wp2_with fail
            refine (IP.out _).mono ?_
            rintro e' w ⟨rfl, rfl⟩
            go_wp2_with fail
            refine (IQ.out _).mono ?_
            rintro e' w ⟨rfl, rfl⟩
            go_wp2_with fail
            refine (rhigh_any _).mono ?_
            rintro e' w ⟨rfl, rfl⟩
            go_wp2_with fail
            refine (rangle_any t _).mono ?_
            rintro e w2 ⟨v, rfl, hv, hvl, b2⟩
            obtain ⟨d, w3, hd, e3, b3⟩ := op_run .sub isSub v 4364452196894661639 w2
            obtain ⟨b, w4, hb, e4, b4⟩ := op_run .sub isSub 4609753056924675352 d w3
            have B := bw_trans (bw_trans (bw_trans b1 b2) b3) b4
            have BA : Hid (basR p q b) := HB0.out v d b hv hd hb
            have hbl := hb.1
            clear HB0 hv hd hb b1 b2 b3 b4
            go_wp2_with fail
            refine (rlow_any _).mono ?_
            rintro e' w2 ⟨rfl, rfl⟩
            cases c4 : Fl.sg x
            · rw [c4] at SX
              have HB : Hid (∀ r, r = (if Fl.sg y = true then Fl.ng b else b) → offR y x r) := fun r hr => HO.out b b r BA.out (by unfold sidR; rw [if_neg (by rw [c4]; decide)]) hr
              clear HO BA c4
              cases c5 : Fl.sg y
              · rw [c5] at SY
                have HF : Hid (offR y x b) := HB.out _ (by rw [if_neg (by rw [c5]; decide)])
                clear HB c5
                go_wp2_with fail
                refine (SX.out _).mono ?_
                rintro e' w4 ⟨rfl, rfl⟩
                go_wp2_with fail
                refine (SY.out _).mono ?_
                rintro e' w4 ⟨rfl, rfl⟩
                go_wp2
                go_ret
                exact ⟨_, rfl, HF.out, hbl, B⟩
              · rw [c5] at SY
                have HF : Hid (offR y x (Fl.ng b)) := HB.out _ (by rw [if_pos c5])
                have nb := Fl.neg_eq (x := b) hbl
                have nbl := Fl.ng_lt (x := b) hbl
                clear HB c5
                go_wp2_with fail
                refine (SX.out _).mono ?_
                rintro e' w4 ⟨rfl, rfl⟩
                go_wp2_with fail
                refine (SY.out _).mono ?_
                rintro e' w4 ⟨rfl, rfl⟩
                go_wp2
                go_ret
                exact ⟨_, rfl, HF.out, nbl, B⟩
            · rw [c4] at SX
              obtain ⟨d, u1, hd, x1, y1⟩ := op_run .sub isSub b 4368955796522032135 w4
              obtain ⟨s, u2, hs, x2, y2⟩ := op_run .sub isSub 4614256656552045848 d u1
              have B2 := bw_trans (bw_trans B y1) y2
              have HB : Hid (∀ r, r = (if Fl.sg y = true then Fl.ng s else s) → offR y x r) := fun r hr => HO.out b s r BA.out (by unfold sidR; rw [if_pos c4]; exact ⟨d, hd, hs⟩) hr
              have hsl := hs.1
              clear HO BA c4 hd hs y1 y2
              cases c5 : Fl.sg y
              · rw [c5] at SY
                have HF : Hid (offR y x s) := HB.out _ (by rw [if_neg (by rw [c5]; decide)])
                clear HB c5
                go_wp2_with fail
                refine (SX.out _).mono ?_
                rintro e' w4 ⟨rfl, rfl⟩
                go_wp2_with fail
                refine (rhigh_any _).mono ?_
                rintro e' w4 ⟨rfl, rfl⟩
                go_wp2_with fail
                refine (rlow_any _).mono ?_
                rintro e' w4 ⟨rfl, rfl⟩
                go_wp2_with fail
                refine (SY.out _).mono ?_
                rintro e' u2 ⟨rfl, rfl⟩
                go_wp2
                go_ret
                exact ⟨_, rfl, HF.out, hsl, B2⟩
              · rw [c5] at SY
                have HF : Hid (offR y x (Fl.ng s)) := HB.out _ (by rw [if_pos c5])
                have nb := Fl.neg_eq (x := s) hsl
                have nbl := Fl.ng_lt (x := s) hsl
                clear HB c5
                go_wp2_with fail
                refine (SX.out _).mono ?_
                rintro e' w4 ⟨rfl, rfl⟩
                go_wp2_with fail
                refine (rhigh_any _).mono ?_
                rintro e' w4 ⟨rfl, rfl⟩
                go_wp2_with fail
                refine (rlow_any _).mono ?_
                rintro e' w4 ⟨rfl, rfl⟩
                go_wp2_with fail
                refine (SY.out _).mono ?_
                rintro e' u2 ⟨rfl, rfl⟩
                go_wp2
                go_ret
                exact ⟨_, rfl, HF.out, nbl, B2⟩
        · rw [c3] at g3
          obtain ⟨t, w1, ht, e1, b1⟩ := op_run .quo isQuo p q w
          have HB0 : Hid (∀ b, angR t b → basR p q b) := by
            intro b h1
            unfold basR
            rw [if_neg c1, if_neg c2, if_pos c3]
            exact ⟨t, ht, h1⟩
          clear c1 c2 c3 ht
          rcases HI with hi | ⟨hi, hj⟩
          · rw [hi] at IP
            go_enter Tryz.func36, Tryz.ntmps36
            go_wp2_with fail
            refine (AY.out _).mono ?_
            rintro e' w ⟨rfl, rfl⟩
            go_wp2_with fail
            refine (AX.out _).mono ?_
            rintro e' w ⟨rfl, rfl⟩
            go_wp2_with fail
            refine (IP.out _).mono ?_
            rintro e' w ⟨rfl, rfl⟩
            go_wp2_with fail
            refine (rangle_any t _).mono ?_
            rintro e w2 ⟨b, rfl, hb, hbl, b2⟩
            have B := bw_trans b1 b2
            have BA : Hid (basR p q b) := HB0.out b hb
            clear HB0 hb b1 b2
            cases c4 : Fl.sg x
            · rw [c4] at SX
              have HB : Hid (∀ r, r = (if Fl.sg y = true then Fl.ng b else b) → offR y x r) := fun r hr => HO.out b b r BA.out (by unfold sidR; rw [if_neg (by rw [c4]; decide)]) hr
              clear HO BA c4
              cases c5 : Fl.sg y
              · rw [c5] at SY
                have HF : Hid (offR y x b) := HB.out _ (by rw [if_neg (by rw [c5]; decide)])
                clear HB c5
                go_wp2_with fail
                refine (SX.out _).mono ?_
                rintro e' w2 ⟨rfl, rfl⟩
                go_wp2_with fail
                refine (SY.out _).mono ?_
                rintro e' w2 ⟨rfl, rfl⟩
                go_wp2
                go_ret
                exact ⟨_, rfl, HF.out, hbl, B⟩
              · rw [c5] at SY
                have HF : Hid (offR y x (Fl.ng b)) := HB.out _ (by rw [if_pos c5])
                have nb := Fl.neg_eq (x := b) hbl
                have nbl := Fl.ng_lt (x := b) hbl
                clear HB c5
                go_wp2_with fail
                refine (SX.out _).mono ?_
                rintro e' w2 ⟨rfl, rfl⟩
                go_wp2_with fail
                refine (SY.out _).mono ?_
                rintro e' w2 ⟨rfl, rfl⟩
                go_wp2
                go_ret
                exact ⟨_, rfl, HF.out, nbl, B⟩
            · rw [c4] at SX
              obtain ⟨d, u1, hd, x1, y1⟩ := op_run .sub isSub b 4368955796522032135 w2
              obtain ⟨s, u2, hs, x2, y2⟩ := op_run .sub isSub 4614256656552045848 d u1
              have B2 := bw_trans (bw_trans B y1) y2
              have HB : Hid (∀ r, r = (if Fl.sg y = true then Fl.ng s else s) → offR y x r) := fun r hr => HO.out b s r BA.out (by unfold sidR; rw [if_pos c4]; exact ⟨d, hd, hs⟩) hr
              have hsl := hs.1
              clear HO BA c4 hd hs y1 y2
              cases c5 : Fl.sg y
              · rw [c5] at SY
                have HF : Hid (offR y x s) := HB.out _ (by rw [if_neg (by rw [c5]; decide)])
                clear HB c5
                go_wp2_with fail
                refine (SX.out _).mono ?_
                rintro e' w2 ⟨rfl, rfl⟩
                go_wp2_with fail
                refine (rhigh_any _).mono ?_
                rintro e' w2 ⟨rfl, rfl⟩
                go_wp2_with fail
                refine (rlow_any _).mono ?_
                rintro e' w2 ⟨rfl, rfl⟩
                go_wp2_with fail
                refine (SY.out _).mono ?_
                rintro e' u2 ⟨rfl, rfl⟩
                go_wp2
                go_ret
                exact ⟨_, rfl, HF.out, hsl, B2⟩
              · rw [c5] at SY
                have HF : Hid (offR y x (Fl.ng s)) := HB.out _ (by rw [if_pos c5])
                have nb := Fl.neg_eq (x := s) hsl
                have nbl := Fl.ng_lt (x := s) hsl
                clear HB c5
                go_wp2_with fail
                refine (SX.out _).mono ?_
                rintro e' w2 ⟨rfl, rfl⟩
                go_wp2_with fail
                refine (rhigh_any _).mono ?_
                rintro e' w2 ⟨rfl, rfl⟩
                go_wp2_with fail
                refine (rlow_any _).mono ?_
                rintro e' w2 ⟨rfl, rfl⟩
                go_wp2_with fail
                refine (SY.out _).mono ?_
                rintro e' u2 ⟨rfl, rfl⟩
                go_wp2
                go_ret
                exact ⟨_, rfl, HF.out, nbl, B2⟩
          · rw [hi] at IP
            rw [hj] at IQ
            go_enter Tryz.func36, Tryz.ntmps36
            go_wp2_with fail
            refine (AY.out _).mono ?_
            rintro e' w ⟨rfl, rfl⟩
            go_wp2_with fail
            refine (AX.out _).mono ?_
            rintro e' w ⟨rfl, rfl⟩
            go_wp2_with fail
            refine (IP.out _).mono ?_
            rintro e' w ⟨rfl, rfl⟩
            go_wp2_with fail
            refine (IQ.out _).mono ?_
            rintro e' w ⟨rfl, rfl⟩
            go_wp2_with fail
            refine (rangle_any t _).mono ?_
            rintro e w2 ⟨b, rfl, hb, hbl, b2⟩
            have B := bw_trans b1 b2
            have BA : Hid (basR p q b) := HB0.out b hb
            clear HB0 hb b1 b2
            cases c4 : Fl.sg x
            · rw [c4] at SX
              have HB : Hid (∀ r, r = (if Fl.sg y = true then Fl.ng b else b) → offR y x r) := fun r hr => HO.out b b r BA.out (by unfold sidR; rw [if_neg (by rw [c4]; decide)]) hr
              clear HO BA c4
              cases c5 : Fl.sg y
              · rw [c5] at SY
                have HF : Hid (offR y x b) := HB.out _ (by rw [if_neg (by rw [c5]; decide)])
                clear HB c5
                go_wp2_with fail
                refine (SX.out _).mono ?_
                rintro e' w2 ⟨rfl, rfl⟩
                go_wp2_with fail
                refine (SY.out _).mono ?_
                rintro e' w2 ⟨rfl, rfl⟩
                go_wp2
                go_ret
                exact ⟨_, rfl, HF.out, hbl, B⟩
              · rw [c5] at SY
                have HF : Hid (offR y x (Fl.ng b)) := HB.out _ (by rw [if_pos c5])
                have nb := Fl.neg_eq (x := b) hbl
                have nbl := Fl.ng_lt (x := b) hbl
                clear HB c5
                go_wp2_with fail
                refine (SX.out _).mono ?_
                rintro e' w2 ⟨rfl, rfl⟩
                go_wp2_with fail
                refine (SY.out _).mono ?_
                rintro e' w2 ⟨rfl, rfl⟩
                go_wp2
                go_ret
                exact ⟨_, rfl, HF.out, nbl, B⟩
            · rw [c4] at SX
              obtain ⟨d, u1, hd, x1, y1⟩ := op_run .sub isSub b 4368955796522032135 w2
              obtain ⟨s, u2, hs, x2, y2⟩ := op_run .sub isSub 4614256656552045848 d u1
              have B2 := bw_trans (bw_trans B y1) y2
              have HB : Hid (∀ r, r = (if Fl.sg y = true then Fl.ng s else s) → offR y x r) := fun r hr => HO.out b s r BA.out (by unfold sidR; rw [if_pos c4]; exact ⟨d, hd, hs⟩) hr
              have hsl := hs.1
              clear HO BA c4 hd hs y1 y2
              cases c5 : Fl.sg y
              · rw [c5] at SY
                have HF : Hid (offR y x s) := HB.out _ (by rw [if_neg (by rw [c5]; decide)])
                clear HB c5
                go_wp2_with fail
                refine (SX.out _).mono ?_
                rintro e' w2 ⟨rfl, rfl⟩
                go_wp2_with fail
                refine (rhigh_any _).mono ?_
                rintro e' w2 ⟨rfl, rfl⟩
                go_wp2_with fail
                refine (rlow_any _).mono ?_
                rintro e' w2 ⟨rfl, rfl⟩
                go_wp2_with fail
                refine (SY.out _).mono ?_
                rintro e' u2 ⟨rfl, rfl⟩
                go_wp2
                go_ret
                exact ⟨_, rfl, HF.out, hsl, B2⟩
              · rw [c5] at SY
                have HF : Hid (offR y x (Fl.ng s)) := HB.out _ (by rw [if_pos c5])
                have nb := Fl.neg_eq (x := s) hsl
                have nbl := Fl.ng_lt (x := s) hsl
                clear HB c5
                go_wp2_with fail
                refine (SX.out _).mono ?_
                rintro e' w2 ⟨rfl, rfl⟩
                go_wp2_with fail
                refine (rhigh_any _).mono ?_
                rintro e' w2 ⟨rfl, rfl⟩
                go_wp2_with fail
                refine (rlow_any _).mono ?_
                rintro e' w2 ⟨rfl, rfl⟩
                go_wp2_with fail
                refine (SY.out _).mono ?_
                rintro e' u2 ⟨rfl, rfl⟩
                go_wp2
                go_ret
                exact ⟨_, rfl, HF.out, nbl, B2⟩
end Go.Proofs.YtlbikopancleoaaGreatDoor
/-
  OWN TEXT: plain laws on numbers written as words of 32 bits, the least word first.
-/
set_option linter.unusedVariables false
namespace Go.Proofs.YtlbikopancleoaaGreatDoor.Bg

/-- what words are worth -/
def vL : List Nat → Nat
  | [] => 0
  | x :: r => x + 4294967296 * vL r
/-- how many words are left without the noughts at the end -/
def tn : List Nat → Nat
  | [] => 0
  | x :: r => if tn r = 0 then (if x = 0 then 0 else 1) else tn r + 1
/-- each word fits -/
def Dg (l : List Nat) : Prop := ∀ i, l.getD i 0 < 4294967296

theorem tn_le (l : List Nat) : tn l ≤ l.length := by
  induction l with
  | nil => exact Nat.le_refl _
  | cons x r ih => simp only [tn, List.length_cons]; split <;> (try split) <;> omega
theorem getD_cons_succ (x : Nat) (r : List Nat) (i : Nat) : (x :: r).getD (i + 1) 0 = r.getD i 0 := rfl
theorem getD_nil (i : Nat) : ([] : List Nat).getD i 0 = 0 := rfl
theorem getD_out {l : List Nat} {i : Nat} (h : l.length ≤ i) : l.getD i 0 = 0 := by
  simp [List.getD, List.getElem?_eq_none h]
theorem tn_zero (l : List Nat) (i : Nat) (h : tn l ≤ i) : l.getD i 0 = 0 := by
  induction l generalizing i with
  | nil => rfl
  | cons x r ih =>
    simp only [tn] at h
    cases i with
    | zero =>
      by_cases c : tn r = 0
      · rw [if_pos c] at h
        by_cases d : x = 0
        · subst d; rfl
        · rw [if_neg d] at h; omega
      · rw [if_neg c] at h; omega
    | succ i =>
      rw [getD_cons_succ]
      refine ih i ?_
      by_cases c : tn r = 0
      · omega
      · rw [if_neg c] at h; omega
theorem tn_last (l : List Nat) (h : tn l ≠ 0) : l.getD (tn l - 1) 0 ≠ 0 := by
  induction l with
  | nil => exact absurd rfl h
  | cons x r ih =>
    simp only [tn] at h ⊢
    by_cases c : tn r = 0
    · rw [if_pos c] at h ⊢
      by_cases d : x = 0
      · rw [if_pos d] at h; omega
      · rw [if_neg d]; exact d
    · rw [if_neg c, show tn r + 1 - 1 = (tn r - 1) + 1 by omega, getD_cons_succ]
      exact ih c
theorem tn_unique (l : List Nat) (n : Nat) (h1 : ∀ i, n ≤ i → l.getD i 0 = 0) (h2 : n = 0 ∨ l.getD (n - 1) 0 ≠ 0) : n = tn l := by
  have a1 := tn_zero l
  have a2 := tn_last l
  by_cases c : n < tn l
  · have := a2 (by omega)
    exact absurd (h1 _ (by omega)) this
  · by_cases d : tn l < n
    · rcases h2 with h2 | h2
      · omega
      · exact absurd (a1 (n - 1) (by omega)) h2
    · omega
theorem vL_zero (l : List Nat) (h : ∀ i, l.getD i 0 = 0) : vL l = 0 := by
  induction l with
  | nil => rfl
  | cons x r ih =>
    have h0 := h 0
    have : x = 0 := h0
    subst this
    simp only [vL, ih (fun i => h (i + 1))]
theorem vL_take (l : List Nat) (n : Nat) (h : ∀ i, n ≤ i → l.getD i 0 = 0) : vL (l.take n) = vL l := by
  induction l generalizing n with
  | nil => simp
  | cons x r ih =>
    cases n with
    | zero => simp only [List.take_zero]; rw [vL_zero (x :: r) (fun i => h i (by omega))]; rfl
    | succ n =>
      simp only [List.take_succ_cons, vL]
      rw [ih n (fun i hi => h (i + 1) (by omega))]
theorem vL_trim (l : List Nat) : vL (l.take (tn l)) = vL l := vL_take l _ (tn_zero l)
theorem getD_take (l : List Nat) (n i : Nat) : (l.take n).getD i 0 = if i < n then l.getD i 0 else 0 := by
  simp only [List.getD, List.getElem?_take]
  split <;> simp
theorem tn_trim (l : List Nat) : tn (l.take (tn l)) = tn l := by
  refine (tn_unique _ _ ?_ ?_).symm
  · intro i hi; rw [getD_take, if_neg (by omega)]
  · by_cases c : tn l = 0
    · exact Or.inl c
    · right; rw [getD_take, if_pos (by omega)]; exact tn_last l c
theorem length_trim (l : List Nat) : (l.take (tn l)).length = tn l := by
  rw [List.length_take]; have := tn_le l; omega
theorem Dg_take {l : List Nat} (h : Dg l) (n : Nat) : Dg (l.take n) := by
  intro i; rw [getD_take]; split
  · exact h i
  · omega
theorem vL_snoc (l : List Nat) (x : Nat) : vL (l ++ [x]) = vL l + x * 4294967296 ^ l.length := by
  induction l with
  | nil => simp [vL]
  | cons y r ih =>
    simp only [List.cons_append, vL, ih, List.length_cons, Nat.pow_succ]
    rw [Nat.mul_add, Nat.add_assoc]
    congr 2
    rw [Nat.mul_comm (4294967296 ^ r.length), ← Nat.mul_assoc, ← Nat.mul_assoc, Nat.mul_comm x]
theorem vL_take_succ (l : List Nat) (k : Nat) (h : k < l.length) : vL (l.take (k + 1)) = vL (l.take k) + l.getD k 0 * 4294967296 ^ k := by
  rw [List.take_succ_eq_append_getElem h, vL_snoc, List.length_take, Nat.min_eq_left (by omega)]
  simp [List.getD, h]
theorem vL_take_succ' (l : List Nat) (k : Nat) : vL (l.take (k + 1)) = vL (l.take k) + l.getD k 0 * 4294967296 ^ k := by
  by_cases h : k < l.length
  · exact vL_take_succ l k h
  · rw [List.take_of_length_le (by omega), List.take_of_length_le (by omega), getD_out (by omega)]; simp
theorem vL_lt (l : List Nat) (h : Dg l) : vL l < 4294967296 ^ l.length := by
  induction l with
  | nil => simp [vL]
  | cons x r ih =>
    have h0 : x < 4294967296 := h 0
    have h1 := ih (fun i => h (i + 1))
    simp only [vL, List.length_cons, Nat.pow_succ]
    generalize 4294967296 ^ r.length = p at *
    omega
theorem vL_ge (l : List Nat) (h : tn l = l.length) (hl : l ≠ []) : 4294967296 ^ (l.length - 1) ≤ vL l := by
  have h0 : tn l ≠ 0 := by rw [h]; exact fun e => hl (List.length_eq_zero_iff.1 e)
  have h1 := tn_last l h0
  have h2 := vL_take_succ l (l.length - 1) (by omega)
  rw [show l.length - 1 + 1 = l.length by omega, List.take_length] at h2
  rw [h] at h1
  rw [h2]
  have : 1 * 4294967296 ^ (l.length - 1) ≤ l.getD (l.length - 1) 0 * 4294967296 ^ (l.length - 1) := Nat.mul_le_mul_right _ (by omega)
  omega
theorem set_take_lt (l : List Nat) (i k x : Nat) (h : k ≤ i) : (l.set i x).take k = l.take k := by
  rw [List.take_set]
  rw [List.set_eq_of_length_le]
  rw [List.length_take]; omega
theorem getD_set (l : List Nat) (i j x : Nat) (h : i < l.length) : (l.set i x).getD j 0 = if j = i then x else l.getD j 0 := by
  simp only [List.getD, List.getElem?_set]
  by_cases c : i = j
  · subst c; simp [h]
  · rw [if_neg c, if_neg (fun e => c e.symm)]
theorem Dg_set {l : List Nat} (h : Dg l) (i x : Nat) (hx : x < 4294967296) : Dg (l.set i x) := by
  intro j
  by_cases c : i < l.length
  · rw [getD_set l i j x c]; split
    · exact hx
    · exact h j
  · rw [List.set_eq_of_length_le (by omega)]; exact h j
theorem Dg_zeros (n : Nat) : Dg (List.replicate n 0) := by
  intro i
  simp only [List.getD, List.getElem?_replicate]
  split <;> simp
theorem getD_zeros (n i : Nat) : (List.replicate n 0).getD i 0 = 0 := by
  simp only [List.getD, List.getElem?_replicate]
  split <;> rfl
theorem vL_zeros (n : Nat) : vL (List.replicate n 0) = 0 := vL_zero _ (getD_zeros n)
theorem vL_split (l m : List Nat) (k : Nat) (hl : l.length = m.length) (h : ∀ j, k ≤ j → l.getD j 0 = m.getD j 0) : vL l + vL (m.take k) = vL m + vL (l.take k) := by
  induction l generalizing m k with
  | nil =>
    have : m = [] := List.length_eq_zero_iff.1 hl.symm
    subst this; rfl
  | cons x r ih =>
    match m, hl with
    | y :: q, hl =>
      cases k with
      | zero =>
        have e : x :: r = y :: q := by
          refine List.ext_getElem hl ?_
          intro i h1 h2
          have := h i (by omega)
          simp only [List.getD, List.getElem?_eq_getElem h1, List.getElem?_eq_getElem h2, Option.getD_some] at this
          exact this
        rw [e]
      | succ k =>
        simp only [List.take_succ_cons, vL]
        have := ih q k (by simpa using hl) (fun j hj => h (j + 1) (by omega))
        omega
theorem vL_lt_top (l m : List Nat) (k : Nat) (hl : l.length = m.length) (hd : Dg l) (h : ∀ j, k + 1 ≤ j → l.getD j 0 = m.getD j 0) (hk : l.getD k 0 < m.getD k 0) : vL l < vL m := by
  have h1 := vL_split l m (k + 1) hl h
  rw [vL_take_succ', vL_take_succ'] at h1
  have h2 := vL_lt (l.take k) (Dg_take hd k)
  have h3 : 4294967296 ^ (l.take k).length ≤ 4294967296 ^ k := Nat.pow_le_pow_right (by omega) (by rw [List.length_take]; omega)
  have h4 : (l.getD k 0 + 1) * 4294967296 ^ k ≤ m.getD k 0 * 4294967296 ^ k := Nat.mul_le_mul_right _ (by omega)
  rw [Nat.add_mul] at h4
  generalize l.getD k 0 * 4294967296 ^ k = p at *
  generalize m.getD k 0 * 4294967296 ^ k = q at *
  omega
theorem vL_lt_len (l m : List Nat) (hd : Dg l) (hm : tn m = m.length) (h : l.length < m.length) : vL l < vL m := by
  have h1 := vL_lt l hd
  have h2 := vL_ge m hm (by intro e; subst e; simp at h)
  have h3 : 4294967296 ^ l.length ≤ 4294967296 ^ (m.length - 1) := Nat.pow_le_pow_right (by omega) (by omega)
  omega
theorem vL_eq (l m : List Nat) (hl : l.length = m.length) (h : ∀ j, l.getD j 0 = m.getD j 0) : vL l = vL m := by
  have := vL_split l m 0 hl (fun j _ => h j)
  simpa [vL] using this
/-- two numbers, compared -/
def cmpI (a b : Nat) : Int := if a < b then -1 else if a = b then 0 else 1
theorem cmpI_lt {a b : Nat} (h : a < b) : cmpI a b = -1 := if_pos h
theorem cmpI_gt {a b : Nat} (h : b < a) : cmpI a b = 1 := by unfold cmpI; rw [if_neg (by omega), if_neg (by omega)]
theorem cmpI_eq {a b : Nat} (h : a = b) : cmpI a b = 0 := by unfold cmpI; rw [if_neg (by omega), if_pos h]
theorem digit_step (t p : Nat) : t % 4294967296 * p + t / 4294967296 * (p * 4294967296) = t * p := by
  have h := Nat.div_add_mod t 4294967296
  have e : t / 4294967296 * (p * 4294967296) = 4294967296 * (t / 4294967296) * p := by
    rw [Nat.mul_comm p, ← Nat.mul_assoc, Nat.mul_comm (t / 4294967296)]
  rw [e, ← Nat.add_mul, Nat.add_comm, h]
theorem take_set_succ (o : List Nat) (k d : Nat) (hk : k < o.length) : vL ((o.set k d).take (k + 1)) = vL (o.take k) + d * 4294967296 ^ k := by
  rw [vL_take_succ', set_take_lt _ _ _ _ (Nat.le_refl _), getD_set _ _ _ _ hk, if_pos rfl]
theorem add_step (l m o : List Nat) (k c t : Nat) (hk : k < o.length) (h : vL (o.take k) + c * 4294967296 ^ k = vL (l.take k) + vL (m.take k)) (ht : t = l.getD k 0 + c + m.getD k 0) :
    vL ((o.set k (t % 4294967296)).take (k + 1)) + t / 4294967296 * 4294967296 ^ (k + 1) = vL (l.take (k + 1)) + vL (m.take (k + 1)) := by
  rw [take_set_succ _ _ _ hk, vL_take_succ', vL_take_succ', Nat.pow_succ]
  have := digit_step t (4294967296 ^ k)
  generalize 4294967296 ^ k = p at *
  have e : t * p = l.getD k 0 * p + c * p + m.getD k 0 * p := by rw [ht, Nat.add_mul, Nat.add_mul]
  omega
theorem sub_step (l m o : List Nat) (k c d c' : Nat) (hk : k < o.length) (h : vL (o.take k) + vL (m.take k) = vL (l.take k) + c * 4294967296 ^ k) (ht : d + m.getD k 0 + c = l.getD k 0 + c' * 4294967296) :
    vL ((o.set k d).take (k + 1)) + vL (m.take (k + 1)) = vL (l.take (k + 1)) + c' * 4294967296 ^ (k + 1) := by
  rw [take_set_succ _ _ _ hk, vL_take_succ', vL_take_succ', Nat.pow_succ]
  generalize 4294967296 ^ k = p at *
  have e : (d + m.getD k 0 + c) * p = (l.getD k 0 + c' * 4294967296) * p := by rw [ht]
  rw [Nat.add_mul, Nat.add_mul, Nat.add_mul, Nat.mul_assoc, Nat.mul_comm 4294967296] at e
  omega
theorem vL_set (o : List Nat) (p d : Nat) (hp : p < o.length) : vL (o.set p d) + o.getD p 0 * 4294967296 ^ p = vL o + d * 4294967296 ^ p := by
  induction o generalizing p with
  | nil => simp at hp
  | cons x r ih =>
    cases p with
    | zero => simp only [List.set_cons_zero, vL, Nat.pow_zero, Nat.mul_one]; show d + _ + x = _; omega
    | succ p =>
      have := ih p (by simpa using hp)
      simp only [List.set_cons_succ, vL, getD_cons_succ, Nat.pow_succ]
      rw [← Nat.mul_assoc, ← Nat.mul_assoc]
      generalize r.getD p 0 * 4294967296 ^ p = a at *
      generalize d * 4294967296 ^ p = b at *
      omega
theorem vL_set_take (o : List Nat) (p q d : Nat) (hp : p < o.length) (hq : p < q) : vL ((o.set p d).take q) + o.getD p 0 * 4294967296 ^ p = vL (o.take q) + d * 4294967296 ^ p := by
  rw [List.take_set]
  have := vL_set (o.take q) p d (by rw [List.length_take]; omega)
  rw [getD_take, if_pos hq] at this
  exact this
/-- a step of the inner loop of a product -/
theorem mul_step (o m : List Nat) (i j q x cr P t : Nat) (hp : i + j < o.length) (hq : i + j < q) (h : vL (o.take q) + cr * 4294967296 ^ (i + j) = P + x * vL (m.take j) * 4294967296 ^ i) (ht : t = x * m.getD j 0 + o.getD (i + j) 0 + cr) :
    vL ((o.set (i + j) (t % 4294967296)).take q) + t / 4294967296 * 4294967296 ^ (i + (j + 1)) = P + x * vL (m.take (j + 1)) * 4294967296 ^ i := by
  have h1 := vL_set_take o (i + j) q (t % 4294967296) hp hq
  have h2 := digit_step t (4294967296 ^ (i + j))
  rw [← Nat.add_assoc, Nat.pow_succ, vL_take_succ', Nat.mul_add, Nat.add_mul]
  have h3 : x * (m.getD j 0 * 4294967296 ^ j) * 4294967296 ^ i = x * m.getD j 0 * 4294967296 ^ (i + j) := by
    rw [Nat.pow_add, ← Nat.mul_assoc, Nat.mul_assoc, Nat.mul_comm (4294967296 ^ j)]
  rw [h3]
  have h4 : t * 4294967296 ^ (i + j) = x * m.getD j 0 * 4294967296 ^ (i + j) + o.getD (i + j) 0 * 4294967296 ^ (i + j) + cr * 4294967296 ^ (i + j) := by
    rw [ht, Nat.add_mul, Nat.add_mul]
  generalize t * 4294967296 ^ (i + j) = a1 at *
  generalize x * m.getD j 0 * 4294967296 ^ (i + j) = a2 at *
  generalize o.getD (i + j) 0 * 4294967296 ^ (i + j) = a3 at *
  generalize cr * 4294967296 ^ (i + j) = a4 at *
  generalize t % 4294967296 * 4294967296 ^ (i + j) = a5 at *
  generalize t / 4294967296 * (4294967296 ^ (i + j) * 4294967296) = a6 at *
  generalize x * vL (m.take j) * 4294967296 ^ i = a7 at *
  omega
theorem mul_outer (o l m : List Nat) (i n2 x cr : Nat) (ho : i + n2 < o.length) (hx : x = l.getD i 0) (h : vL (o.take (i + n2)) + cr * 4294967296 ^ (i + n2) = vL (l.take i) * vL m + x * vL m * 4294967296 ^ i) :
    vL ((o.set (i + n2) cr).take (i + 1 + n2)) = vL (l.take (i + 1)) * vL m := by
  rw [show i + 1 + n2 = (i + n2) + 1 by omega, take_set_succ _ _ _ ho, h, vL_take_succ', Nat.add_mul, ← hx]
  congr 1
  rw [Nat.mul_assoc, Nat.mul_comm (vL m), ← Nat.mul_assoc]
theorem mul_top (x y : Nat) (hx : x < 4294967296) (hy : y < 4294967296) : x * y ≤ 18446744065119617025 := by
  have : x * y ≤ 4294967295 * 4294967295 := Nat.mul_le_mul (by omega) (by omega)
  omega
/-- a word or-ed with one whose low bits are nought -/
theorem or_low (z t s : Nat) (hz : z < 2 ^ s) (ht : 2 ^ s ∣ t) : z ||| t = z + t := by
  obtain ⟨c, rfl⟩ := ht
  rw [Nat.or_comm, ← Nat.two_pow_add_eq_or_of_lt hz, Nat.add_comm]
theorem low_dvd (x s : Nat) (hs : s < 32) : 2 ^ s ∣ x * 2 ^ s % 4294967296 := by
  rw [show 4294967296 = 2 ^ (32 - s) * 2 ^ s by rw [← Nat.pow_add, show 32 - s + s = 32 by omega], Nat.mul_mod_mul_right]
  exact Nat.dvd_mul_left _ _
theorem high_lt (x s : Nat) (hx : x < 4294967296) (hs : s < 32) : x * 2 ^ s / 4294967296 < 2 ^ s := by
  refine (Nat.div_lt_iff_lt_mul (by omega)).2 ?_
  rw [Nat.mul_comm (2 ^ s)]
  exact Nat.mul_lt_mul_of_pos_right hx (Nat.two_pow_pos s)
theorem shl_lt (x s : Nat) (hx : x < 4294967296) (hs : s < 32) : x * 2 ^ s < 9223372036854775808 := by
  have h1 : 2 ^ s ≤ 2 ^ 31 := Nat.pow_le_pow_right (by omega) (by omega)
  have h2 : x * 2 ^ s ≤ 4294967295 * 2 ^ 31 := Nat.mul_le_mul (by omega) h1
  omega
theorem low_lt (x z s : Nat) (hz : z < 2 ^ s) (hs : s < 32) : z + x * 2 ^ s % 4294967296 < 4294967296 := by
  obtain ⟨c, hc⟩ := low_dvd x s hs
  have h1 : x * 2 ^ s % 4294967296 < 4294967296 := Nat.mod_lt _ (by omega)
  rw [hc] at h1 ⊢
  have h2 : 4294967296 = 2 ^ s * 2 ^ (32 - s) := by rw [← Nat.pow_add, show s + (32 - s) = 32 by omega]
  rw [h2] at h1 ⊢
  have h3 : c < 2 ^ (32 - s) := Nat.lt_of_mul_lt_mul_left h1
  have h4 : 2 ^ s * (c + 1) ≤ 2 ^ s * 2 ^ (32 - s) := Nat.mul_le_mul_left _ h3
  rw [Nat.mul_add] at h4
  omega
theorem up_step (l o : List Nat) (j k s x t : Nat) (ho : j + k + 1 < o.length) (hx : x = l.getD j 0) (ht : t = x * 2 ^ s) (h : vL (o.take (j + k + 1)) = vL (l.take j) * 2 ^ s * 4294967296 ^ k) :
    vL (((o.set (j + k) (o.getD (j + k) 0 + t % 4294967296)).set (j + k + 1) (t / 4294967296)).take (j + 1 + k + 1)) = vL (l.take (j + 1)) * 2 ^ s * 4294967296 ^ k := by
  rw [show j + 1 + k + 1 = (j + k + 1) + 1 by omega, take_set_succ _ _ _ (by rw [List.length_set]; exact ho)]
  have h1 := vL_set_take o (j + k) (j + k + 1) (o.getD (j + k) 0 + t % 4294967296) (by omega) (by omega)
  rw [Nat.add_mul] at h1
  have h2 := digit_step t (4294967296 ^ (j + k))
  rw [Nat.pow_succ, vL_take_succ' l j, ← hx, Nat.add_mul, Nat.add_mul, ← h]
  have h3 : x * 4294967296 ^ j * 2 ^ s * 4294967296 ^ k = t * 4294967296 ^ (j + k) := by
    rw [ht, Nat.pow_add, Nat.mul_assoc x, Nat.mul_comm (4294967296 ^ j), ← Nat.mul_assoc, Nat.mul_assoc (x * 2 ^ s)]
  rw [h3]
  generalize t * 4294967296 ^ (j + k) = a1 at *
  generalize t % 4294967296 * 4294967296 ^ (j + k) = a2 at *
  generalize t / 4294967296 * (4294967296 ^ (j + k) * 4294967296) = a3 at *
  generalize o.getD (j + k) 0 * 4294967296 ^ (j + k) = a4 at *
  omega
theorem vL_mod (r : List Nat) (h : Dg r) : vL r % 4294967296 = r.getD 0 0 := by
  cases r with
  | nil => rfl
  | cons x r => have h0 : x < 4294967296 := h 0; simp only [vL]; show _ = x; omega
theorem vL_drop (l : List Nat) (k : Nat) (h : Dg l) : vL (l.drop k) = vL l / 4294967296 ^ k := by
  induction k generalizing l with
  | zero => simp
  | succ k ih =>
    cases l with
    | nil => simp [vL]
    | cons x r =>
      have h0 : x < 4294967296 := h 0
      rw [List.drop_succ_cons, ih r (fun i => h (i + 1)), Nat.pow_succ, Nat.mul_comm (4294967296 ^ k), ← Nat.div_div_eq_div_mul]
      congr 1
      simp only [vL]; omega
theorem down_digit (x V s : Nat) (hx : x < 4294967296) (hs : s < 32) : (x + 4294967296 * V) / 2 ^ s = ((x + 4294967296 * (V % 4294967296)) / 2 ^ s) % 4294967296 + 4294967296 * (V / 2 ^ s) := by
  have hp := Nat.two_pow_pos s
  have hB : 4294967296 = 2 ^ s * 2 ^ (32 - s) := by rw [← Nat.pow_add, show s + (32 - s) = 32 by omega]
  have key : ∀ W, (x + 4294967296 * W) / 2 ^ s = x / 2 ^ s + 2 ^ (32 - s) * W := by
    intro W
    rw [show x + 4294967296 * W = x + 2 ^ s * (2 ^ (32 - s) * W) by rw [← Nat.mul_assoc, ← hB], Nat.add_mul_div_left _ _ hp]
  have sp : ∀ W, 2 ^ (32 - s) * W = 4294967296 * (W / 2 ^ s) + 2 ^ (32 - s) * (W % 2 ^ s) := by
    intro W
    have h := Nat.div_add_mod W (2 ^ s)
    have e : 4294967296 * (W / 2 ^ s) = 2 ^ (32 - s) * (2 ^ s * (W / 2 ^ s)) := by
      rw [← Nat.mul_assoc, Nat.mul_comm (2 ^ (32 - s)), ← hB]
    rw [e, ← Nat.mul_add, h]
  have hm : V % 4294967296 % 2 ^ s = V % 2 ^ s := Nat.mod_mod_of_dvd _ ⟨2 ^ (32 - s), hB⟩
  rw [key, key, sp V, sp (V % 4294967296), hm]
  have h1 : x / 2 ^ s < 2 ^ (32 - s) := by
    refine (Nat.div_lt_iff_lt_mul hp).2 ?_
    rw [Nat.mul_comm, ← hB]; exact hx
  have h2 : 2 ^ (32 - s) * (V % 2 ^ s + 1) ≤ 2 ^ (32 - s) * 2 ^ s := Nat.mul_le_mul_left _ (Nat.mod_lt _ hp)
  rw [Nat.mul_add, Nat.mul_comm _ (2 ^ s), ← hB] at h2
  generalize 2 ^ (32 - s) * (V % 2 ^ s) = a at *
  generalize 2 ^ (32 - s) = b at *
  generalize x / 2 ^ s = c at *
  generalize V / 2 ^ s = d at *
  generalize V % 4294967296 / 2 ^ s = f at *
  omega
theorem down_val (r o : List Nat) (s : Nat) (hs : s < 32) (hl : o.length = r.length) (hd : Dg r) (h : ∀ i, i < o.length → o.getD i 0 = (r.getD i 0 + 4294967296 * r.getD (i + 1) 0) / 2 ^ s % 4294967296) : vL o = vL r / 2 ^ s := by
  induction r generalizing o with
  | nil =>
    have : o = [] := List.length_eq_zero_iff.1 hl
    subst this; simp [vL]
  | cons x r ih =>
    match o, hl with
    | y :: q, hl =>
      have h0 : x < 4294967296 := hd 0
      have hdr : Dg r := fun i => hd (i + 1)
      have e0 := h 0 (by simp)
      have i1 := ih q (by simpa using hl) hdr (fun i hi => h (i + 1) (by simpa using hi))
      simp only [vL]
      rw [i1, down_digit x (vL r) s h0 hs, vL_mod r hdr]
      have : y = (x + 4294967296 * r.getD 0 0) / 2 ^ s % 4294967296 := e0
      rw [this]
theorem getD_drop (l : List Nat) (k i : Nat) : (l.drop k).getD i 0 = l.getD (k + i) 0 := by
  simp only [List.getD, List.getElem?_drop]
theorem Dg_drop {l : List Nat} (h : Dg l) (k : Nat) : Dg (l.drop k) := by
  intro i; rw [getD_drop]; exact h _
theorem vL_drop_succ (l : List Nat) (j : Nat) (h : j < l.length) : vL (l.drop j) = l.getD j 0 + 4294967296 * vL (l.drop (j + 1)) := by
  rw [List.drop_eq_getElem_cons h]
  simp only [vL]
  simp [List.getD, h]
theorem drop_set (o : List Nat) (j d : Nat) : (o.set j d).drop (j + 1) = o.drop (j + 1) := by
  rw [List.drop_set_of_lt (by omega)]
/-- a step of a division by one word -/
theorem divs_step (l o : List Nat) (j d r t : Nat) (hl : j < l.length) (ho : j < o.length) (hd : 0 < d) (ht : t = 4294967296 * r + l.getD j 0) (h : vL (l.drop (j + 1)) = vL (o.drop (j + 1)) * d + r) :
    vL (l.drop j) = vL ((o.set j (t / d)).drop j) * d + t % d := by
  rw [vL_drop_succ l j hl, vL_drop_succ (o.set j (t / d)) j (by rw [List.length_set]; exact ho), drop_set, getD_set _ _ _ _ ho, if_pos rfl, h]
  have h1 := Nat.div_add_mod t d
  rw [Nat.add_mul, Nat.mul_add, Nat.mul_comm (t / d), Nat.mul_assoc 4294967296]
  generalize vL (o.drop (j + 1)) * d = a at *
  generalize d * (t / d) = b at *
  omega
end Go.Proofs.YtlbikopancleoaaGreatDoor.Bg
