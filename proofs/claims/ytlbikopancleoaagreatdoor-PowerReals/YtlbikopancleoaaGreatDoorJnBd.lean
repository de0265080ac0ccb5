/-
  OWN TEXT: the reference's parts of complex numbers (eddyref06.Square, greater, together).
-/
import Derived.Test.YtlbikopancleoaaGreatDoorJnAs
import Derived.Test.YtlbikopancleoaaGreatDoorJnAo
import Derived.Test.YtlbikopancleoaaGreatDoorJnAr
import Derived.Test.YtlbikopancleoaaGreatDoorJnAm
import Derived.Laws.Cover3
import Derived.Test.YtlbikopancleoaaGreatDoorJnAw
namespace Go.Proofs.YtlbikopancleoaaGreatDoor
open Go.ChangeShapes Go.WideShapes Go.ChangeAt Go.RowKit
set_option linter.unusedVariables false
attribute [local go_sem] frombits_call tobits_call run_neg
theorem rtogether_any (u v : Nat) (w : World) : Calls Tryz.prog 86 #[.float .f64 u, .float .f64 v] w fun e w' => ∃ r, e = .returned (.float .f64 r) ∧ togR u v r ∧ Bw w w' := by
  obtain ⟨p, w1, hp, e1, g1⟩ := op_run .mul isMul u u w
  obtain ⟨q, w2, hq, e2, g2⟩ := op_run .mul isMul v v w1
  obtain ⟨s, w3, hs, e3, g3⟩ := op_run .add isAdd p q w2
  have G := bw_trans (bw_trans g1 g2) g3
  have HS : Hid (sqaR u v s) := ⟨p, q, hp, hq, hs⟩
  clear hp hq hs g1 g2 g3
  go_enter Tryz.func86, Tryz.ntmps86
  go_wp2_with fail
  refine (sqrt_any s _).mono ?_
  rintro e w4 ⟨r, rfl, hr, g4⟩
  have HR : Hid (togR u v r) := ⟨s, HS.out, hr⟩
  have G2 := bw_trans G g4
  clear HS hr g4 G
  go_wp2
  go_ret
  exact ⟨r, rfl, HR.out, G2⟩
theorem rgreater_any (a b : Nat) (w : World) (ha : a < 18446744073709551616) (hb : b < 18446744073709551616) : Calls Tryz.prog 85 #[.complex .f64 a b] w fun e w' => e = .returned (.tuple #[.float .f64 (bigF a b), .float .f64 (smaF a b)]) ∧ w' = w := by
  have AA : Hid (∀ wz, Calls Tryz.prog 78 #[.float .f64 a] wz fun e w' => e = .returned (.float .f64 (Fl.rg a)) ∧ w' = wz) := fun wz => abs_any a wz ha
  have AB : Hid (∀ wz, Calls Tryz.prog 78 #[.float .f64 b] wz fun e w' => e = .returned (.float .f64 (Fl.rg b)) ∧ w' = wz) := fun wz => abs_any b wz hb
  have o := Fl.o_gt (Fl.rg b) (Fl.rg a)
  unfold bigF smaF
  cases c : Fl.ltF (Fl.rg a) (Fl.rg b)
  all_goals
    rw [c] at o
    clear c
    generalize Fl.rg a = p at *
    generalize Fl.rg b = q at *
    go_enter Tryz.func85, Tryz.ntmps85
    go_wp2_with fail
    refine (AA.out _).mono ?_
    rintro e w ⟨rfl, rfl⟩
    go_wp2_with fail
    refine (AB.out _).mono ?_
    rintro e w ⟨rfl, rfl⟩
    go_wp2
    go_ret2
    exact ⟨rfl, rfl⟩
theorem rendless_any (a : Nat) (w : World) (ha : a < 18446744073709551616) : Calls Tryz.prog 83 #[.float .f64 a] w fun e w' => e = .returned (.bool (decide (Fl.rg a = 9218868437227405312))) ∧ w' = w := by
  have o1 := Fl.o_gt a 9218868437227405311
  have o2 := Fl.o_lt a 18442240474082181119
  have k : Fl.ltF 9218868437227405311 a = (decide (Fl.rg a = 9218868437227405312) && !Fl.sg a) ∧ Fl.ltF a 18442240474082181119 = (decide (Fl.rg a = 9218868437227405312) && Fl.sg a) := by
    unfold Fl.ltF
    rw [show Fl.nan 9218868437227405311 = false by decide, show Fl.nan 18442240474082181119 = false by decide, show Fl.key 9218868437227405311 = 9218868437227405311 by decide, show Fl.key 18442240474082181119 = -9218868437227405311 by decide]
    unfold Fl.nan Fl.key
    have := Fl.rg_lt a
    cases Fl.sg a
    · rw [if_neg (by decide)]
      constructor
      · by_cases z : Fl.rg a = 9218868437227405312
        · rw [z]; decide
        · rw [decide_eq_false z, Bool.false_and]
          by_cases y : 9218868437227405312 < Fl.rg a
          · rw [decide_eq_true y]; rfl
          · rw [decide_eq_false y, decide_eq_false (by omega)]; rfl
      · rw [Bool.and_false]
        rw [decide_eq_false (by omega : ¬ ((Fl.rg a : Nat) : Int) < -9218868437227405311), Bool.and_false]
    · rw [if_pos rfl]
      constructor
      · rw [decide_eq_false (by omega : ¬ (9218868437227405311 : Int) < -((Fl.rg a : Nat) : Int))]
        simp
      · by_cases z : Fl.rg a = 9218868437227405312
        · rw [z]; decide
        · rw [decide_eq_false z, Bool.false_and]
          by_cases y : 9218868437227405312 < Fl.rg a
          · rw [decide_eq_true y]; rfl
          · rw [decide_eq_false y, decide_eq_false (by omega)]; rfl
  rw [k.1] at o1
  rw [k.2] at o2
  clear k
  generalize decide (Fl.rg a = 9218868437227405312) = z at *
  generalize Fl.sg a = s at *
  cases z <;> cases s <;> simp only [Bool.and_true, Bool.and_false, Bool.not_true, Bool.not_false] at o1 o2
  all_goals
    go_enter Tryz.func83, Tryz.ntmps83
    go_wp2
    go_ret
    exact ⟨rfl, rfl⟩
theorem rnone6_any (a : Nat) (w : World) : Calls Tryz.prog 84 #[.float .f64 a] w fun e w' => e = .returned (.bool (Fl.nan a)) ∧ w' = w := by
  have o := Fl.o_ne a a
  rw [Fl.eqF_self, Bool.not_not] at o
  generalize Fl.nan a = b at *
  go_enter Tryz.func84, Tryz.ntmps84
  go_wp2
  go_ret
  exact ⟨rfl, rfl⟩
end Go.Proofs.YtlbikopancleoaaGreatDoor
/-
  OWN TEXT: the reference's angles of places, and wrapped angles (eddyref05.angle, Of, Tan, Wrap), for every float.
-/
namespace Go.Proofs.YtlbikopancleoaaGreatDoor
open Go.ChangeShapes Go.WideShapes Go.ChangeAt Go.RowKit
set_option linter.unusedVariables false
attribute [local go_sem] frombits_call tobits_call run_neg
set_option maxHeartbeats 4000000 in
theorem rangle_any (t : Nat) (w : World) : Calls Tryz.prog 88 #[.float .f64 t] w fun e w' => ∃ v, e = .returned (.float .f64 v) ∧ angR t v ∧ v < 18446744073709551616 ∧ Bw w w' := by
  have o := Fl.o_gt t 4601130706800738304
  cases c0 : Fl.ltF 4601130706800738304 t
  · rw [c0] at o
    obtain ⟨z, w1, hz, e1, G⟩ := op_run .mul isMul t t w
    have HA : Hid (∀ s v, angQ z 25 s → opR .mul t s v → angR t v) := by
      intro s v h1 h2
      unfold angR
      rw [if_neg (by rw [c0]; decide)]
      exact ⟨z, s, hz, h1, h2⟩
    clear c0 hz
    go_enter Tryz.func88, Tryz.ntmps88
    go_wp2
    go_loopw [6, 7] (fun t k wr => ∃ (i n : Nat), i ≤ 25 ∧ t = .float .f64 n ∧ k = .int .i64 (24 - (i : Int)) ∧ angQ z i n ∧ Bw w wr) (fun _ k _ => (intOf k + 1).toNat)
    case atStart => exact ⟨0, 0, by omega, rfl, rfl, rfl, G⟩
    case round =>
      obtain ⟨i, n, hi, rfl, rfl, hq, hg⟩ := hrel
      have HQ : Hid (angQ z i n) := hq
      clear hq
      by_cases c : i < 25
      · have hk : (0 : Int) ≤ 24 - (i : Int) := by omega
        have hkb : 24 - (i : Int) ≤ 24 := by omega
        obtain ⟨d, w2, hd, e2, g2⟩ := op_run .quo isQuo 4607182418800017408 (floatOfInt .f64 (2 * (24 - (i : Int)) + 1)) wr
        obtain ⟨p, w3, hp, e3, g3⟩ := op_run .mul isMul z n w2
        obtain ⟨t', w4, ht', e4, g4⟩ := op_run .sub isSub d p w3
        have hgg := bw_trans (bw_trans (bw_trans hg g2) g3) g4
        have R : ∃ (i' n' : Nat), i' ≤ 25 ∧ Value.float .f64 t' = .float .f64 n' ∧ Value.int .i64 (24 - (i : Int) - 1) = .int .i64 (24 - (i' : Int)) ∧ angQ z i' n' ∧ Bw w w4 :=
          ⟨i + 1, t', by omega, rfl, by rw [show 24 - (i : Int) - 1 = 24 - ((i + 1 : Nat) : Int) by omega], ⟨n, d, p, HQ.out, hd, hp, ht'⟩, hgg⟩
        have HR : Hid _ := R
        clear R hd hp ht' g2 g3 g4 hg HQ hgg hi c
        generalize hK : 24 - (i : Int) = K at *
        go_wp2
        go_roundw
        case rel => exact HR.out
        case measure => simp [intOf]; omega
      · have hi' : i = 25 := by omega
        subst hi'
        obtain ⟨v, w2, hv, e2, g2⟩ := op_run .mul isMul t n wr
        have B := bw_trans hg g2
        have HF : Hid (angR t v) := HA.out n v HQ.out hv
        have hvl := hv.1
        clear g2 hg HQ hv HA
        go_wp2
        go_ret
        exact ⟨v, rfl, HF.out, hvl, B⟩
  · rw [c0] at o
    obtain ⟨a, v1, ha, k1, y1⟩ := op_run .sub isSub t 4607182418800017408 w
    obtain ⟨b, v2, hb, k2, y2⟩ := op_run .add isAdd t 4607182418800017408 v1
    obtain ⟨u, v3, hu, k3, y3⟩ := op_run .quo isQuo a b v2
    obtain ⟨z, w1, hz, e1, y4⟩ := op_run .mul isMul u u v3
    have G := bw_trans (bw_trans (bw_trans y1 y2) y3) y4
    have HA : Hid (∀ s v x r, angQ z 25 s → opR .mul u s v → opR .add v 4359948597267291143 x → opR .add 4605249457297304856 x r → angR t r) := by
      intro s v x r h1 h2 h3 h4
      unfold angR
      rw [if_pos c0]
      exact ⟨a, b, u, v, x, ha, hb, hu, ⟨z, s, hz, h1, h2⟩, h3, h4⟩
    clear c0 hz ha hb hu y1 y2 y3 y4
    have rh := fun (ty : TypeId) w => run_float_arith (P := Tryz.prog) w .quo ty .f64 4614256656552045848 4616189618054758400 4605249457297304856 (by decide +kernel)
    have rl := fun (ty : TypeId) w => run_float_arith (P := Tryz.prog) w .quo ty .f64 4368955796522032135 4616189618054758400 4359948597267291143 (by decide +kernel)
    go_enter Tryz.func88, Tryz.ntmps88
    go_wp2
    go_loopw [6, 7] (fun t k wr => ∃ (i n : Nat), i ≤ 25 ∧ t = .float .f64 n ∧ k = .int .i64 (24 - (i : Int)) ∧ angQ z i n ∧ Bw w wr) (fun _ k _ => (intOf k + 1).toNat)
    case atStart => exact ⟨0, 0, by omega, rfl, rfl, rfl, G⟩
    case round =>
      obtain ⟨i, n, hi, rfl, rfl, hq, hg⟩ := hrel
      have HQ : Hid (angQ z i n) := hq
      clear hq
      by_cases c : i < 25
      · have hk : (0 : Int) ≤ 24 - (i : Int) := by omega
        have hkb : 24 - (i : Int) ≤ 24 := by omega
        obtain ⟨d, w2, hd, e2, g2⟩ := op_run .quo isQuo 4607182418800017408 (floatOfInt .f64 (2 * (24 - (i : Int)) + 1)) wr
        obtain ⟨p, w3, hp, e3, g3⟩ := op_run .mul isMul z n w2
        obtain ⟨t', w4, ht', e4, g4⟩ := op_run .sub isSub d p w3
        have hgg := bw_trans (bw_trans (bw_trans hg g2) g3) g4
        have R : ∃ (i' n' : Nat), i' ≤ 25 ∧ Value.float .f64 t' = .float .f64 n' ∧ Value.int .i64 (24 - (i : Int) - 1) = .int .i64 (24 - (i' : Int)) ∧ angQ z i' n' ∧ Bw w w4 :=
          ⟨i + 1, t', by omega, rfl, by rw [show 24 - (i : Int) - 1 = 24 - ((i + 1 : Nat) : Int) by omega], ⟨n, d, p, HQ.out, hd, hp, ht'⟩, hgg⟩
        have HR : Hid _ := R
        clear R hd hp ht' g2 g3 g4 hg HQ hgg hi c
        generalize hK : 24 - (i : Int) = K at *
        go_wp2
        go_roundw
        case rel => exact HR.out
        case measure => simp [intOf]; omega
      · have hi' : i = 25 := by omega
        subst hi'
        obtain ⟨v, w2, hv, e2, g2⟩ := op_run .mul isMul u n wr
        obtain ⟨x, w3, hx, e3, g3⟩ := op_run .add isAdd v 4359948597267291143 w2
        obtain ⟨r, w4, hr, e4, g4⟩ := op_run .add isAdd 4605249457297304856 x w3
        have B := bw_trans (bw_trans (bw_trans hg g2) g3) g4
        have HF : Hid (angR t r) := HA.out n v x r HQ.out hv hx hr
        have hrl := hr.1
        clear g2 g3 g4 hg HQ hv hx hr HA
        go_wp2_with (first | (go_at_call 87; refine (rhigh_any _).mono ?_; rintro e' w9 ⟨rfl, hw9⟩; subst hw9) | (go_at_call 89; refine (rlow_any _).mono ?_; rintro e' w9 ⟨rfl, hw9⟩; subst hw9))
        go_ret
        exact ⟨r, rfl, HF.out, hrl, B⟩
end Go.Proofs.YtlbikopancleoaaGreatDoor
