/-
  OWN TEXT: package roots is awake (eddylaw06.awake).
-/
import Derived.Test.YtdfepflfmmmnpaaGreatDoorJnAu
import Derived.Test.YtdfepflfmmmnpaaGreatDoorJnAm
import Derived.Test.YtdfepflfmmmnpaaGreatDoorJnAp
import Derived.Test.YtdfepflfmmmnpaaGreatDoorJnAk
import Derived.Test.YtdfepflfmmmnpaaGreatDoorJnAl
import Derived.Laws.Cover3
namespace Go.Proofs.YtdfepflfmmmnpaaGreatDoor
open Go.ChangeShapes Go.WideShapes Go.ChangeAt Go.RowKit
set_option linter.unusedVariables false
attribute [local go_sem] frombits_call tobits_call run_neg
theorem copy6 (w : World) : Calls Tryz.prog 24 #[.float .f64 0, .float .f64 13830554455654793216] w fun e w' => e = .returned (.float .f64 9223372036854775808) ∧ w' = w := copysign_any 0 13830554455654793216 w (by decide) (by decide)
theorem uni_a : uniV 4613937818241073152 13839561654909534208 = some (4603579539098121011, 13828753015803845018, true) := by decide +kernel
theorem unic_a (w : World) : Calls Tryz.prog 9 #[.complex .f64 4613937818241073152 13839561654909534208] w fun e w' => e = .returned (.tuple #[.complex .f64 4603579539098121011 13828753015803845018, .bool true]) ∧ Bw w w' :=
  (unit_any 4613937818241073152 13839561654909534208 w (by decide) (by decide)).mono fun e w' ⟨re, im, o, h1, h2, h3⟩ => ⟨by have k := uni_val h2 uni_a; rw [Prod.mk.injEq, Prod.mk.injEq] at k; rw [h1, k.1, k.2.1, k.2.2], h3⟩
theorem uni_b : uniV 0 0 = some (0, 0, false) := by decide +kernel
theorem unic_b (w : World) : Calls Tryz.prog 9 #[.complex .f64 0 0] w fun e w' => e = .returned (.tuple #[.complex .f64 0 0, .bool false]) ∧ Bw w w' :=
  (unit_any 0 0 w (by decide) (by decide)).mono fun e w' ⟨re, im, o, h1, h2, h3⟩ => ⟨by have k := uni_val h2 uni_b; rw [Prod.mk.injEq, Prod.mk.injEq] at k; rw [h1, k.1, k.2.1, k.2.2], h3⟩
theorem len_a : lenV 4613937818241073152 4616189618054758400 = some 4617315517961601024 := by decide +kernel
theorem lenc_a (w : World) : Calls Tryz.prog 12 #[.complex .f64 4613937818241073152 4616189618054758400] w fun e w' => e = .returned (.float .f64 4617315517961601024) ∧ Bw w w' :=
  (length_any 4613937818241073152 4616189618054758400 w (by decide) (by decide)).mono fun e w' ⟨r, h1, h2, h3⟩ => ⟨by rw [h1, len_val h2 len_a], h3⟩
theorem len_b : lenV 0 1 = some 1 := by decide +kernel
theorem lenc_b (w : World) : Calls Tryz.prog 12 #[.complex .f64 0 1] w fun e w' => e = .returned (.float .f64 1) ∧ Bw w w' :=
  (length_any 0 1 w (by decide) (by decide)).mono fun e w' ⟨r, h1, h2, h3⟩ => ⟨by rw [h1, len_val h2 len_b], h3⟩
theorem roo_a : rooV 4613937818241073152 4616189618054758400 = some (4611686018427387904, 4607182418800017408) := by decide +kernel
theorem rooc_a (w : World) : Calls Tryz.prog 17 #[.complex .f64 4613937818241073152 4616189618054758400] w fun e w' => e = .returned (.complex .f64 4611686018427387904 4607182418800017408) ∧ Bw w w' :=
  (root_any6 4613937818241073152 4616189618054758400 w (by decide) (by decide)).mono fun e w' ⟨re, im, h1, h2, h3⟩ => ⟨by have k := roo_val h2 roo_a; rw [Prod.mk.injEq] at k; rw [h1, k.1, k.2], h3⟩
theorem roo_b : rooV 13839561654909534208 0 = some (0, 4611686018427387904) := by decide +kernel
theorem rooc_b (w : World) : Calls Tryz.prog 17 #[.complex .f64 13839561654909534208 0] w fun e w' => e = .returned (.complex .f64 0 4611686018427387904) ∧ Bw w w' :=
  (root_any6 13839561654909534208 0 w (by decide) (by decide)).mono fun e w' ⟨re, im, h1, h2, h3⟩ => ⟨by have k := roo_val h2 roo_b; rw [Prod.mk.injEq] at k; rw [h1, k.1, k.2], h3⟩
theorem roo_c : rooV 13839561654909534208 9223372036854775808 = some (0, 13835058055282163712) := by decide +kernel
theorem rooc_c (w : World) : Calls Tryz.prog 17 #[.complex .f64 13839561654909534208 9223372036854775808] w fun e w' => e = .returned (.complex .f64 0 13835058055282163712) ∧ Bw w w' :=
  (root_any6 13839561654909534208 9223372036854775808 w (by decide) (by decide)).mono fun e w' ⟨re, im, h1, h2, h3⟩ => ⟨by have k := roo_val h2 roo_c; rw [Prod.mk.injEq] at k; rw [h1, k.1, k.2], h3⟩
theorem roo_d : rooV 0 9223372036854775808 = some (0, 9223372036854775808) := by decide +kernel
theorem rooc_d (w : World) : Calls Tryz.prog 17 #[.complex .f64 0 9223372036854775808] w fun e w' => e = .returned (.complex .f64 0 9223372036854775808) ∧ Bw w w' :=
  (root_any6 0 9223372036854775808 w (by decide) (by decide)).mono fun e w' ⟨re, im, h1, h2, h3⟩ => ⟨by have k := roo_val h2 roo_d; rw [Prod.mk.injEq] at k; rw [h1, k.1, k.2], h3⟩
theorem nea_a : neaV 4607182418800017408 0 4607182418800017408 4607182418800017408 4607182418800017408 = some true := by decide +kernel
theorem neac_a (w : World) : Calls Tryz.prog 22 #[.complex .f64 4607182418800017408 0, .complex .f64 4607182418800017408 4607182418800017408, .float .f64 4607182418800017408] w fun e w' => e = .returned (.bool true) ∧ Bw w w' :=
  (near_any6 4607182418800017408 0 4607182418800017408 4607182418800017408 4607182418800017408 w (by decide) (by decide) (by decide) (by decide)).mono fun e w' ⟨r, h1, h2, h3⟩ => ⟨by rw [h1, nea_val h2 nea_a], h3⟩
theorem sqa_a : sqaV 4607182418800017408 4611686018427387904 = some 4617315517961601024 := by decide +kernel
theorem sqac_a (w : World) : Calls Tryz.prog 14 #[.complex .f64 4607182418800017408 4611686018427387904] w fun e w' => e = .returned (.float .f64 4617315517961601024) ∧ Bw w w' :=
  (square_any 4607182418800017408 4611686018427387904 w).mono fun e w' ⟨r, h1, h2, h3⟩ => ⟨by rw [h1, sqa_val h2 sqa_a], h3⟩
set_option maxHeartbeats 8000000 in
set_option maxRecDepth 100000 in
theorem awake6_any (w : World) : Calls Tryz.prog 5 #[] w fun e w' => e = .returned (.bool true) ∧ Bw w w' := by
  have G : Bw w w := Bw.refl w
  have q0 : (FloatKind.f64.format.order 4617315517961601024 4617315517961601024 == some .eq) = true := by decide
  have q1 : (FloatKind.f64.format.order 1 1 == some .eq) = true := by decide
  have q2 : (FloatKind.f64.format.order 4603579539098121011 4603579539098121011 == some .eq) = true := by decide
  have q3 : (FloatKind.f64.format.order 13828753015803845018 13828753015803845018 == some .eq) = true := by decide
  go_enter Tryz.func5, Tryz.ntmps5
  go_wp2_with fail
  refine (copy6 _).mono ?_
  rintro e' w9 ⟨rfl, hw9⟩
  subst hw9
  go_wp2_with fail
  refine (unic_a _).mono ?_
  rintro e' w9 ⟨rfl, b9⟩
  replace G := bw_trans G b9
  clear b9
  go_wp2_with fail
  refine (unic_b _).mono ?_
  rintro e' w9 ⟨rfl, b9⟩
  replace G := bw_trans G b9
  clear b9
  go_wp2_with fail
  refine (lenc_a _).mono ?_
  rintro e' w9 ⟨rfl, b9⟩
  replace G := bw_trans G b9
  clear b9
  go_wp2_with fail
  refine (lenc_b _).mono ?_
  rintro e' w9 ⟨rfl, b9⟩
  replace G := bw_trans G b9
  clear b9
  go_wp2_with fail
  refine (rooc_a _).mono ?_
  rintro e' w9 ⟨rfl, b9⟩
  replace G := bw_trans G b9
  clear b9
  go_wp2_with fail
  refine (same6_yes (simR.refl 4611686018427387904) (simR.refl 4607182418800017408) _).mono ?_
  rintro e' w9 ⟨rfl, hw9⟩
  subst hw9
  go_wp2_with fail
  refine (rooc_b _).mono ?_
  rintro e' w9 ⟨rfl, b9⟩
  replace G := bw_trans G b9
  clear b9
  go_wp2_with fail
  refine (same6_yes (simR.refl 0) (simR.refl 4611686018427387904) _).mono ?_
  rintro e' w9 ⟨rfl, hw9⟩
  subst hw9
  go_wp2_with fail
  refine (rooc_c _).mono ?_
  rintro e' w9 ⟨rfl, b9⟩
  replace G := bw_trans G b9
  clear b9
  go_wp2_with fail
  refine (same6_yes (simR.refl 0) (simR.refl 13835058055282163712) _).mono ?_
  rintro e' w9 ⟨rfl, hw9⟩
  subst hw9
  go_wp2_with fail
  refine (rooc_d _).mono ?_
  rintro e' w9 ⟨rfl, b9⟩
  replace G := bw_trans G b9
  clear b9
  go_wp2_with fail
  refine (same6_yes (simR.refl 0) (simR.refl 9223372036854775808) _).mono ?_
  rintro e' w9 ⟨rfl, hw9⟩
  subst hw9
  go_wp2_with fail
  refine (neac_a _).mono ?_
  rintro e' w9 ⟨rfl, b9⟩
  replace G := bw_trans G b9
  clear b9
  go_wp2_with fail
  refine (sqac_a _).mono ?_
  rintro e' w9 ⟨rfl, b9⟩
  replace G := bw_trans G b9
  clear b9
  go_wp2
  go_ret
  exact ⟨rfl, G⟩
end Go.Proofs.YtdfepflfmmmnpaaGreatDoor
/-
  OWN TEXT: the reference's parts of complex numbers (eddyref06.Square, greater, together).
-/
namespace Go.Proofs.YtdfepflfmmmnpaaGreatDoor
open Go.ChangeShapes Go.WideShapes Go.ChangeAt Go.RowKit
set_option linter.unusedVariables false
attribute [local go_sem] frombits_call tobits_call run_neg
theorem rsquare_any (a b : Nat) (w : World) : Calls Tryz.prog 15 #[.complex .f64 a b] w fun e w' => ∃ r, e = .returned (.float .f64 r) ∧ sqaR a b r ∧ Bw w w' := by
  obtain ⟨p, w1, hp, e1, g1⟩ := op_run .mul isMul a a w
  obtain ⟨q, w2, hq, e2, g2⟩ := op_run .mul isMul b b w1
  obtain ⟨r, w3, hr, e3, g3⟩ := op_run .add isAdd p q w2
  have G := bw_trans (bw_trans g1 g2) g3
  have HR : Hid (sqaR a b r) := ⟨p, q, hp, hq, hr⟩
  clear hp hq hr g1 g2 g3
  go_enter Tryz.func15, Tryz.ntmps15
  go_wp2
  go_ret
  exact ⟨r, rfl, HR.out, G⟩
theorem rtogether_any (u v : Nat) (w : World) : Calls Tryz.prog 36 #[.float .f64 u, .float .f64 v] w fun e w' => ∃ r, e = .returned (.float .f64 r) ∧ togR u v r ∧ Bw w w' := by
  obtain ⟨p, w1, hp, e1, g1⟩ := op_run .mul isMul u u w
  obtain ⟨q, w2, hq, e2, g2⟩ := op_run .mul isMul v v w1
  obtain ⟨s, w3, hs, e3, g3⟩ := op_run .add isAdd p q w2
  have G := bw_trans (bw_trans g1 g2) g3
  have HS : Hid (sqaR u v s) := ⟨p, q, hp, hq, hs⟩
  clear hp hq hs g1 g2 g3
  go_enter Tryz.func36, Tryz.ntmps36
  go_wp2_with fail
  refine (sqrt_any s _).mono ?_
  rintro e w4 ⟨r, rfl, hr, g4⟩
  have HR : Hid (togR u v r) := ⟨s, HS.out, hr⟩
  have G2 := bw_trans G g4
  clear HS hr g4 G
  go_wp2
  go_ret
  exact ⟨r, rfl, HR.out, G2⟩
theorem rgreater_any (a b : Nat) (w : World) (ha : a < 18446744073709551616) (hb : b < 18446744073709551616) : Calls Tryz.prog 32 #[.complex .f64 a b] w fun e w' => e = .returned (.tuple #[.float .f64 (bigF a b), .float .f64 (smaF a b)]) ∧ w' = w := by
  have AA : Hid (∀ wz, Calls Tryz.prog 49 #[.float .f64 a] wz fun e w' => e = .returned (.float .f64 (Fl.rg a)) ∧ w' = wz) := fun wz => abs_any a wz ha
  have AB : Hid (∀ wz, Calls Tryz.prog 49 #[.float .f64 b] wz fun e w' => e = .returned (.float .f64 (Fl.rg b)) ∧ w' = wz) := fun wz => abs_any b wz hb
  have o := Fl.o_gt (Fl.rg b) (Fl.rg a)
  unfold bigF smaF
  cases c : Fl.ltF (Fl.rg a) (Fl.rg b)
  all_goals
    rw [c] at o
    clear c
    generalize Fl.rg a = p at *
    generalize Fl.rg b = q at *
    go_enter Tryz.func32, Tryz.ntmps32
    go_wp2_with fail
    refine (AA.out _).mono ?_
    rintro e w ⟨rfl, rfl⟩
    go_wp2_with fail
    refine (AB.out _).mono ?_
    rintro e w ⟨rfl, rfl⟩
    go_wp2
    go_ret2
    exact ⟨rfl, rfl⟩
theorem rendless_any (a : Nat) (w : World) (ha : a < 18446744073709551616) : Calls Tryz.prog 44 #[.float .f64 a] w fun e w' => e = .returned (.bool (decide (Fl.rg a = 9218868437227405312))) ∧ w' = w := by
  have o1 := Fl.o_gt a 9218868437227405311
  have o2 := Fl.o_lt a 18442240474082181119
  have k : Fl.ltF 9218868437227405311 a = (decide (Fl.rg a = 9218868437227405312) && !Fl.sg a) ∧ Fl.ltF a 18442240474082181119 = (decide (Fl.rg a = 9218868437227405312) && Fl.sg a) := by
    unfold Fl.ltF
    rw [show Fl.nan 9218868437227405311 = false by decide, show Fl.nan 18442240474082181119 = false by decide, show Fl.key 9218868437227405311 = 9218868437227405311 by decide, show Fl.key 18442240474082181119 = -9218868437227405311 by decide]
    unfold Fl.nan Fl.key
    have := Fl.rg_lt a
    cases Fl.sg a
    · rw [if_neg (by decide)]
      constructor
      · by_cases z : Fl.rg a = 9218868437227405312
        · rw [z]; decide
        · rw [decide_eq_false z, Bool.false_and]
          by_cases y : 9218868437227405312 < Fl.rg a
          · rw [decide_eq_true y]; rfl
          · rw [decide_eq_false y, decide_eq_false (by omega)]; rfl
      · rw [Bool.and_false]
        rw [decide_eq_false (by omega : ¬ ((Fl.rg a : Nat) : Int) < -9218868437227405311), Bool.and_false]
    · rw [if_pos rfl]
      constructor
      · rw [decide_eq_false (by omega : ¬ (9218868437227405311 : Int) < -((Fl.rg a : Nat) : Int))]
        simp
      · by_cases z : Fl.rg a = 9218868437227405312
        · rw [z]; decide
        · rw [decide_eq_false z, Bool.false_and]
          by_cases y : 9218868437227405312 < Fl.rg a
          · rw [decide_eq_true y]; rfl
          · rw [decide_eq_false y, decide_eq_false (by omega)]; rfl
  rw [k.1] at o1
  rw [k.2] at o2
  clear k
  generalize decide (Fl.rg a = 9218868437227405312) = z at *
  generalize Fl.sg a = s at *
  cases z <;> cases s <;> simp only [Bool.and_true, Bool.and_false, Bool.not_true, Bool.not_false] at o1 o2
  all_goals
    go_enter Tryz.func44, Tryz.ntmps44
    go_wp2
    go_ret
    exact ⟨rfl, rfl⟩
theorem rnone6_any (a : Nat) (w : World) : Calls Tryz.prog 45 #[.float .f64 a] w fun e w' => e = .returned (.bool (Fl.nan a)) ∧ w' = w := by
  have o := Fl.o_ne a a
  rw [Fl.eqF_self, Bool.not_not] at o
  generalize Fl.nan a = b at *
  go_enter Tryz.func45, Tryz.ntmps45
  go_wp2
  go_ret
  exact ⟨rfl, rfl⟩
end Go.Proofs.YtdfepflfmmmnpaaGreatDoor
