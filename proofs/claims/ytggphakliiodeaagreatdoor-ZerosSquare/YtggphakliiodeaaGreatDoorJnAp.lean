/-
  OWN TEXT: package angle's angles (eddy/angle.arc, slope, first, across, Of, Tan), for every float.
-/
import Derived.Test.YtggphakliiodeaaGreatDoorJnAo
import Derived.Test.YtggphakliiodeaaGreatDoorJnAk
import Derived.Test.YtggphakliiodeaaGreatDoorJnAl
import Derived.Test.YtggphakliiodeaaGreatDoorJnAf
namespace Go.Proofs.YtggphakliiodeaaGreatDoor
open Go.ChangeShapes Go.WideShapes Go.ChangeAt Go.RowKit
set_option linter.unusedVariables false
attribute [local go_sem] frombits_call tobits_call run_neg
/-- the angle's steps of a number: at most 0.4140625, or above -/
theorem le_lt {a t : Nat} (ha : Fl.nan a = false) (ht : Fl.nan t = false) : Fl.leF t a = !Fl.ltF a t := by
  rw [Fl.leF_of ht ha, Fl.ltF_of ha ht]
  by_cases c : Fl.key t ≤ Fl.key a
  · rw [decide_eq_true c, decide_eq_false (by omega)]; rfl
  · rw [decide_eq_false c, decide_eq_true (by omega)]; rfl
theorem h4 (ty : TypeId) (w : World) : (binOp .quo ty (.float .f64 4614256656552045848) (.float .f64 4616189618054758400)).run Tryz.prog w = .ok (.float .f64 4605249457297304856) w := run_float_arith w .quo ty .f64 _ _ _ (by decide +kernel)
theorem l4 (ty : TypeId) (w : World) : (binOp .quo ty (.float .f64 4368955796522032135) (.float .f64 4616189618054758400)).run Tryz.prog w = .ok (.float .f64 4359948597267291143) w := run_float_arith w .quo ty .f64 _ _ _ (by decide +kernel)
theorem h2 (ty : TypeId) (w : World) : (binOp .quo ty (.float .f64 4614256656552045848) (.float .f64 4611686018427387904)).run Tryz.prog w = .ok (.float .f64 4609753056924675352) w := run_float_arith w .quo ty .f64 _ _ _ (by decide +kernel)
theorem l2 (ty : TypeId) (w : World) : (binOp .quo ty (.float .f64 4368955796522032135) (.float .f64 4611686018427387904)).run Tryz.prog w = .ok (.float .f64 4364452196894661639) w := run_float_arith w .quo ty .f64 _ _ _ (by decide +kernel)
theorem angQ_ex (z : Nat) (w : World) : ∀ i, ∃ s, angQ z i s
  | 0 => ⟨0, rfl⟩
  | i + 1 => by
    obtain ⟨s, hs⟩ := angQ_ex z w i
    obtain ⟨d, _, hd, _, _⟩ := op_run .quo isQuo 4607182418800017408 (floatOfInt .f64 (2 * (24 - (i : Int)) + 1)) w
    obtain ⟨p, _, hp, _, _⟩ := op_run .mul isMul z s w
    obtain ⟨t, _, ht, _, _⟩ := op_run .sub isSub d p w
    exact ⟨t, s, d, p, hs, hd, hp, ht⟩
theorem angU_nan {t v : Nat} (w : World) (ht : Fl.nan t = true) (hv : Fl.nan v = true) (hl : v < 18446744073709551616) : angU t v := by
  obtain ⟨z, _, hz, _, _⟩ := op_run .mul isMul t t w
  obtain ⟨s, hs⟩ := angQ_ex z w 25
  exact ⟨z, s, hz, hs, hl, Or.inr ⟨nan_left _ isMul ht, hv⟩⟩
theorem slope_up {t v : Nat} (w : World) (hc : Fl.leF t 4601130706800738304 = false) (hl : v < 18446744073709551616) (h : ∃ a b u w x, opR .sub t 4607182418800017408 a ∧ opR .add t 4607182418800017408 b ∧ opR .quo a b u ∧ angU u w ∧ opR .add w 4359948597267291143 x ∧ opR .add 4605249457297304856 x v) : angR t v := by
  unfold angR
  cases hn : Fl.nan t
  · rw [le_lt (by decide) hn] at hc
    rw [if_pos (by simpa using hc)]; exact h
  · rw [if_neg (by unfold Fl.ltF; rw [hn]; simp)]
    obtain ⟨a, b, u, y, x, h1, h2, h3, ⟨z, s, h4, h5, h6⟩, h7, h8⟩ := h
    have na := h1.nan (nan_left _ isSub hn)
    have nu := h3.nan (nan_left _ isQuo na)
    have ny := h6.nan (nan_left _ isMul nu)
    have nx := h7.nan (nan_left _ isAdd ny)
    exact angU_nan w hn (h8.nan (nan_right _ isAdd nx)) hl
end Go.Proofs.YtggphakliiodeaaGreatDoor
/-
  OWN TEXT: package angle's wrapped angles (eddy/angle.wrapped, Wrap), for every float.
-/
namespace Go.Proofs.YtggphakliiodeaaGreatDoor
open Go.ChangeShapes Go.WideShapes Go.ChangeAt Go.RowKit
set_option linter.unusedVariables false
attribute [local go_sem] frombits_call tobits_call run_neg
/-- above -H and at most H -/
def wrB (x : Nat) : Bool := Fl.ltF 13837628693406821656 x && Fl.leF x 4614256656552045848
theorem last_wr {u z : Nat} (h : z = if wrB u = true then u else 4614256656552045848) : lastR u z := by
  unfold lastR
  unfold wrB at h
  cases hn : Fl.nan u
  · rw [le_lt (by decide) hn] at h
    cases a : Fl.ltF 13837628693406821656 u <;> cases b : Fl.ltF 4614256656552045848 u <;> rw [a, b] at h <;> simp at h ⊢ <;> exact h
  · have e1 : Fl.ltF 13837628693406821656 u = false := by unfold Fl.ltF; rw [hn]; simp
    have e2 : Fl.ltF 4614256656552045848 u = false := by unfold Fl.ltF; rw [hn]; simp
    rw [e1] at h
    rw [e1, e2]
    simp at h ⊢
    exact h
/-- what the program's one circle to or fro comes to -/
theorem once_up {y u : Nat} (c : Fl.ltF 4614256656552045848 y = true) (h : ∃ d, opR .sub y 4618760256179416344 d ∧ opR .sub d 4373459396149402631 u) : onceR y u := by
  unfold onceR; rw [if_pos c]; exact h
theorem once_down {y u : Nat} (c1 : Fl.ltF 4614256656552045848 y = false) (c : Fl.leF y 13837628693406821656 = true) (h : ∃ d, opR .add y 4618760256179416344 d ∧ opR .add d 4373459396149402631 u) : onceR y u := by
  have hn : Fl.nan y = false := by
    unfold Fl.leF at c
    rw [Bool.and_eq_true, Bool.and_eq_true] at c
    simpa using c.1.1
  rw [le_lt (by decide) hn] at c
  unfold onceR; rw [if_neg (by rw [c1]; decide), if_neg (by rw [Bool.not_eq_true'] at c; rw [c]; decide)]; exact h
theorem once_stay {y z : Nat} (w : World) (c1 : Fl.ltF 4614256656552045848 y = false) (c : Fl.leF y 13837628693406821656 = false) (h : z = if wrB y = true then y else 4614256656552045848) : ∃ u, onceR y u ∧ lastR u z := by
  cases hn : Fl.nan y
  · rw [le_lt (by decide) hn] at c
    refine ⟨y, ?_, last_wr h⟩
    unfold onceR; rw [if_neg (by rw [c1]; decide), if_pos (by simpa using c)]
  · obtain ⟨d, _, hd, _, _⟩ := op_run .add isAdd y 4618760256179416344 w
    obtain ⟨u, _, hu, _, _⟩ := op_run .add isAdd d 4373459396149402631 w
    have nu := hu.nan (nan_left _ isAdd (hd.nan (nan_left _ isAdd hn)))
    have e0 : Fl.ltF 13837628693406821656 y = false := by unfold Fl.ltF; rw [hn]; simp
    refine ⟨u, ?_, ?_⟩
    · unfold onceR; rw [if_neg (by rw [c1]; decide), if_neg (by rw [e0]; decide)]; exact ⟨d, hd, hu⟩
    · unfold wrB at h
      rw [e0] at h
      have e1 : Fl.ltF 13837628693406821656 u = false := by unfold Fl.ltF; rw [nu]; simp
      have e2 : Fl.ltF 4614256656552045848 u = false := by unfold Fl.ltF; rw [nu]; simp
      unfold lastR
      rw [e1, e2]
      simp at h ⊢
      exact h
end Go.Proofs.YtggphakliiodeaaGreatDoor
/-
  OWN TEXT: package roots, as it landed: squares, orders, lengths, for every number.
-/
namespace Go.Proofs.YtggphakliiodeaaGreatDoor
open Go.ChangeShapes Go.WideShapes Go.ChangeAt Go.RowKit
set_option linter.unusedVariables false
attribute [local go_sem] frombits_call tobits_call run_neg
theorem square_any (a b : Nat) (w : World) : Calls Tryz.prog 96 #[.complex .f64 a b] w fun e w' => ∃ r, e = .returned (.float .f64 r) ∧ sqaR a b r ∧ Bw w w' := by
  obtain ⟨p, w1, hp, e1, g1⟩ := op_run .mul isMul a a w
  obtain ⟨q, w2, hq, e2, g2⟩ := op_run .mul isMul b b w1
  obtain ⟨r, w3, hr, e3, g3⟩ := op_run .add isAdd p q w2
  have G := bw_trans (bw_trans g1 g2) g3
  have HR : Hid (sqaR a b r) := ⟨p, q, hp, hq, hr⟩
  clear hp hq hr g1 g2 g3
  go_enter Tryz.func96, Tryz.ntmps96
  go_wp2
  go_ret
  exact ⟨r, rfl, HR.out, G⟩
theorem plain_any6 (a b : Nat) (w : World) : Calls Tryz.prog 62 #[.complex .f64 a b] w fun e w' => ∃ r, e = .returned (.float .f64 r) ∧ togR a b r ∧ Bw w w' := by
  have Q : Hid (∀ wz, Calls Tryz.prog 96 #[.complex .f64 a b] wz fun e w' => ∃ r, e = .returned (.float .f64 r) ∧ sqaR a b r ∧ Bw wz w') := fun wz => square_any a b wz
  go_enter Tryz.func62, Tryz.ntmps62
  go_wp2_with fail
  refine (Q.out _).mono ?_
  rintro e w1 ⟨s, rfl, hs, b1⟩
  have HS : Hid (sqaR a b s) := hs
  clear hs Q
  go_wp2_with fail
  refine (sqrt_any s _).mono ?_
  rintro e w2 ⟨r, rfl, hr, b2⟩
  have HR : Hid (togR a b r) := ⟨s, HS.out, hr⟩
  have G := bw_trans b1 b2
  clear HS hr b1 b2
  go_wp2
  go_ret
  exact ⟨r, rfl, HR.out, G⟩
theorem hasNone_any (a b : Nat) (w : World) : Calls Tryz.prog 57 #[.complex .f64 a b] w fun e w' => e = .returned (.bool (Fl.nan a || Fl.nan b)) ∧ w' = w := by
  have NA : Hid (∀ wz, Calls Tryz.prog 93 #[.float .f64 a] wz fun e w' => e = .returned (.bool (Fl.nan a)) ∧ w' = wz) := fun wz => isNaN_any a wz
  have NB : Hid (∀ wz, Calls Tryz.prog 93 #[.float .f64 b] wz fun e w' => e = .returned (.bool (Fl.nan b)) ∧ w' = wz) := fun wz => isNaN_any b wz
  generalize Fl.nan a = x at *
  generalize Fl.nan b = y at *
  cases x
  · go_enter Tryz.func57, Tryz.ntmps57
    go_wp2_with fail
    refine (NA.out _).mono ?_
    rintro e' w ⟨rfl, rfl⟩
    go_wp2_with fail
    refine (NB.out _).mono ?_
    rintro e' w ⟨rfl, rfl⟩
    go_wp2
    go_ret
    exact ⟨by cases y <;> rfl, rfl⟩
  · go_enter Tryz.func57, Tryz.ntmps57
    go_wp2_with fail
    refine (NA.out _).mono ?_
    rintro e' w ⟨rfl, rfl⟩
    go_wp2
    go_ret
    exact ⟨rfl, rfl⟩
theorem isNought_any (a b : Nat) (w : World) (ha : a < 18446744073709551616) (hb : b < 18446744073709551616) (na : Fl.nan a = false) (nb : Fl.nan b = false) : Calls Tryz.prog 59 #[.complex .f64 a b] w fun e w' => e = .returned (.bool (decide (bigF a b = 0))) ∧ w' = w := by
  have o1 := Fl.o_eq a 0
  have o2 := Fl.o_eq b 0
  rw [(up_tests ha na).2.1] at o1
  rw [(up_tests hb nb).2.1] at o2
  have E : Hid (decide (bigF a b = 0) = (decide (Fl.rg a = 0) && decide (Fl.rg b = 0))) := by
    show _ = _
    rw [← Bool.decide_and]
    exact decide_eq_decide.mpr (big_zero6 na nb)
  generalize decide (Fl.rg a = 0) = x at *
  generalize decide (Fl.rg b = 0) = y at *
  generalize decide (bigF a b = 0) = z at *
  clear na nb
  cases x
  · go_enter Tryz.func59, Tryz.ntmps59
    go_wp2
    go_ret
    exact ⟨by rw [E.out]; rfl, rfl⟩
  · go_enter Tryz.func59, Tryz.ntmps59
    go_wp2
    go_ret
    exact ⟨by rw [E.out]; cases y <;> rfl, rfl⟩
theorem max_big {a b : Nat} (na : Fl.nan a = false) (nb : Fl.nan b = false) (P : Program) (w : World) (ts : Array TypeId) (t : TypeId) : (Builtin.max_ ts t #[.float .f64 (Fl.rg a), .float .f64 (Fl.rg b)]).run P w = .ok (.float .f64 (bigF a b)) w := by
  have e : FloatKind.f64.format.order (Fl.rg a) (Fl.rg b) = some (compare (Fl.key (Fl.rg a)) (Fl.key (Fl.rg b))) := by
    have k := Fl.order_all (Fl.rg a) (Fl.rg b)
    rw [Fl.nan_rg, Fl.nan_rg, na, nb] at k
    exact k
  have k1 : Fl.key (Fl.rg a) = (Fl.rg a : Nat) := key_rg6 a
  have k2 : Fl.key (Fl.rg b) = (Fl.rg b : Nat) := key_rg6 b
  have l : Fl.ltF (Fl.rg a) (Fl.rg b) = decide (Fl.rg a < Fl.rg b) := by
    unfold Fl.ltF
    rw [Fl.nan_rg, Fl.nan_rg, na, nb, k1, k2]
    simp
  rw [k1, k2] at e
  have hm : bigF a b = if Fl.rg a < Fl.rg b then Fl.rg b else Fl.rg a := by
    unfold bigF
    rw [l]
    by_cases c : Fl.rg a < Fl.rg b
    · rw [decide_eq_true c, if_pos rfl, if_pos c]
    · rw [decide_eq_false c, if_neg (by decide), if_neg c]
  rw [hm]
  generalize Fl.rg a = p at *
  generalize Fl.rg b = q at *
  simp only [Builtin.max_, Builtin.max2, List.foldlM]
  rw [e]
  by_cases c : p < q
  · rw [show compare (p : Int) (q : Int) = .lt from Int.compare_eq_lt.mpr (by omega), if_pos c]; rfl
  · rw [if_neg c]
    by_cases d : p = q
    · subst d
      rw [show compare (p : Int) (p : Int) = .eq from Int.compare_eq_eq.mpr rfl]
      dsimp only
      rw [ite_self]
      rfl
    · rw [show compare (p : Int) (q : Int) = .gt from Int.compare_eq_gt.mpr (by omega)]; rfl
theorem order_any6 (a b : Nat) (w : World) (ha : a < 18446744073709551616) (hb : b < 18446744073709551616) (na : Fl.nan a = false) (nb : Fl.nan b = false) : Calls Tryz.prog 60 #[.complex .f64 a b] w fun e w' => e = .returned (.int .i64 (paE (bigF a b))) ∧ w' = w := by
  have AA : Hid (∀ wz, Calls Tryz.prog 53 #[.float .f64 a] wz fun e w' => e = .returned (.float .f64 (Fl.rg a)) ∧ w' = wz) := fun wz => abs_any a wz ha
  have AB : Hid (∀ wz, Calls Tryz.prog 53 #[.float .f64 b] wz fun e w' => e = .returned (.float .f64 (Fl.rg b)) ∧ w' = wz) := fun wz => abs_any b wz hb
  have M := fun ts t w => max_big (a := a) (b := b) na nb Tryz.prog w ts t
  have PA : Hid (∀ wz, Calls Tryz.prog 79 #[.float .f64 (bigF a b)] wz fun e w' => e = .returned (.tuple #[.float .f64 (paF (bigF a b)), .int .i64 (paE (bigF a b))]) ∧ w' = wz) := fun wz => parts_any (bigF a b) wz (by have := big_lt a b; omega)
  generalize paE (bigF a b) = k at *
  generalize paF (bigF a b) = f at *
  generalize bigF a b = m at *
  generalize Fl.rg a = p at *
  generalize Fl.rg b = q at *
  clear na nb
  go_enter Tryz.func60, Tryz.ntmps60
  go_wp2_with fail
  refine (AA.out _).mono ?_
  rintro e' w ⟨rfl, rfl⟩
  go_wp2_with fail
  refine (AB.out _).mono ?_
  rintro e' w ⟨rfl, rfl⟩
  go_wp2_with fail
  refine (PA.out _).mono ?_
  rintro e' w ⟨rfl, rfl⟩
  go_wp2
  go_ret
  exact ⟨rfl, rfl⟩
theorem scaled_any (a b : Nat) (n : Int) (w : World) (ha : a < 18446744073709551616) (hb : b < 18446744073709551616) (hn : -9223372036854775808 ≤ n) (hn' : n ≤ 9223372036854775807) : Calls Tryz.prog 63 #[.complex .f64 a b, .int .i64 n] w fun e w' => e = .returned (.complex .f64 (scF a n) (scF b n)) ∧ w' = w := by
  have SA : Hid (∀ wz, Calls Tryz.prog 61 #[.float .f64 a, .int .i64 n] wz fun e w' => e = .returned (.float .f64 (scF a n)) ∧ w' = wz) := fun wz => scale_any a n wz ha hn hn'
  have SB : Hid (∀ wz, Calls Tryz.prog 61 #[.float .f64 b, .int .i64 n] wz fun e w' => e = .returned (.float .f64 (scF b n)) ∧ w' = wz) := fun wz => scale_any b n wz hb hn hn'
  generalize scF a n = u at *
  generalize scF b n = v at *
  go_enter Tryz.func63, Tryz.ntmps63
  go_wp2_with fail
  refine (SA.out _).mono ?_
  rintro e' w ⟨rfl, rfl⟩
  go_wp2_with fail
  refine (SB.out _).mono ?_
  rintro e' w ⟨rfl, rfl⟩
  go_wp2
  go_ret
  exact ⟨rfl, rfl⟩
set_option maxHeartbeats 4000000 in
theorem length_any (a b : Nat) (w : World) (ha : a < 18446744073709551616) (hb : b < 18446744073709551616) : Calls Tryz.prog 23 #[.complex .f64 a b] w fun e w' => ∃ r, e = .returned (.float .f64 r) ∧ lenR a b r ∧ Bw w w' := by
  have EA : Hid (∀ wz, Calls Tryz.prog 42 #[.float .f64 a, .int .i64 0] wz fun e w' => e = .returned (.bool (decide (Fl.rg a = 9218868437227405312))) ∧ w' = wz) := fun wz => isInf_any a 0 wz ha (Or.inl rfl)
  have EB : Hid (∀ wz, Calls Tryz.prog 42 #[.float .f64 b, .int .i64 0] wz fun e w' => e = .returned (.bool (decide (Fl.rg b = 9218868437227405312))) ∧ w' = wz) := fun wz => isInf_any b 0 wz hb (Or.inl rfl)
  have NN : Hid (∀ wz, Calls Tryz.prog 57 #[.complex .f64 a b] wz fun e w' => e = .returned (.bool (Fl.nan a || Fl.nan b)) ∧ w' = wz) := fun wz => hasNone_any a b wz
  by_cases c1 : Fl.rg a = 9218868437227405312
  · have HL : Hid (lenR a b 9218868437227405312) := ⟨by decide, by rw [if_pos (Or.inl c1)]⟩
    rw [decide_eq_true c1] at EA
    clear c1
    go_enter Tryz.func23, Tryz.ntmps23
    go_wp2_with fail
    refine (EA.out _).mono ?_
    rintro e' w ⟨rfl, rfl⟩
    go_wp2_with fail
    refine (infp6 _).mono ?_
    rintro e' w ⟨rfl, rfl⟩
    go_wp2
    go_ret
    exact ⟨_, rfl, HL.out, Bw.refl _⟩
  · rw [decide_eq_false c1] at EA
    by_cases c2 : Fl.rg b = 9218868437227405312
    · have HL : Hid (lenR a b 9218868437227405312) := ⟨by decide, by rw [if_pos (Or.inr c2)]⟩
      rw [decide_eq_true c2] at EB
      clear c1 c2
      go_enter Tryz.func23, Tryz.ntmps23
      go_wp2_with fail
      refine (EA.out _).mono ?_
      rintro e' w ⟨rfl, rfl⟩
      go_wp2_with fail
      refine (EB.out _).mono ?_
      rintro e' w ⟨rfl, rfl⟩
      go_wp2_with fail
      refine (infp6 _).mono ?_
      rintro e' w ⟨rfl, rfl⟩
      go_wp2
      go_ret
      exact ⟨_, rfl, HL.out, Bw.refl _⟩
    · rw [decide_eq_false c2] at EB
      have c12 : ¬ (Fl.rg a = 9218868437227405312 ∨ Fl.rg b = 9218868437227405312) := by rintro (h | h); exact c1 h; exact c2 h
      cases n : (Fl.nan a || Fl.nan b)
      · rw [n] at NN
        obtain ⟨n1, n2⟩ := Bool.or_eq_false_iff.mp n
        have c34 : ¬ (Fl.nan a = true ∨ Fl.nan b = true) := by rw [n1, n2]; simp
        have HLL : Hid (∀ r, r < 18446744073709551616 → (if bigF a b = 0 then r = 0 else lenP a b r) → lenR a b r) := fun r h0 h1 => ⟨h0, by rw [if_neg c12, if_neg c34]; exact h1⟩
        have Z : Hid (∀ wz, Calls Tryz.prog 59 #[.complex .f64 a b] wz fun e w' => e = .returned (.bool (decide (bigF a b = 0))) ∧ w' = wz) := fun wz => isNought_any a b wz ha hb n1 n2
        by_cases z : bigF a b = 0
        · rw [decide_eq_true z] at Z
          have HL : Hid (lenR a b 0) := HLL.out 0 (by decide) (by rw [if_pos z])
          clear HLL c1 c2 c12 c34 n n1 n2 z
          go_enter Tryz.func23, Tryz.ntmps23
          go_wp2_with fail
          refine (EA.out _).mono ?_
          rintro e' w ⟨rfl, rfl⟩
          go_wp2_with fail
          refine (EB.out _).mono ?_
          rintro e' w ⟨rfl, rfl⟩
          go_wp2_with fail
          refine (NN.out _).mono ?_
          rintro e' w ⟨rfl, rfl⟩
          go_wp2_with fail
          refine (Z.out _).mono ?_
          rintro e' w ⟨rfl, rfl⟩
          go_wp2
          go_ret
          exact ⟨_, rfl, HL.out, Bw.refl _⟩
        · rw [decide_eq_false z] at Z
          have fa : Fl.rg a < 9218868437227405312 := by have := Fl.nan_le n1; omega
          have fb : Fl.rg b < 9218868437227405312 := by have := Fl.nan_le n2; omega
          have HL : Hid (∀ l, togR (scF a (-paE (bigF a b))) (scF b (-paE (bigF a b))) l → lenR a b (scF l (paE (bigF a b))) ∧ l < 18446744073709551616) := fun l hl => ⟨HLL.out _ (scF_lt (tog_lt hl) _) (by rw [if_neg z]; exact ⟨l, tog_big ha hb fa fb hl, rfl⟩), tog_lt hl⟩
          have OR : Hid (∀ wz, Calls Tryz.prog 60 #[.complex .f64 a b] wz fun e w' => e = .returned (.int .i64 (paE (bigF a b))) ∧ w' = wz) := fun wz => order_any6 a b wz ha hb n1 n2
          obtain ⟨k1, k2⟩ := paE_small (bigF a b) (by have := big_lt a b; omega)
          clear HLL c1 c2 c12 c34 n n1 n2 z fa fb
          generalize paE (bigF a b) = k at *
          have SC : Hid (∀ wz, Calls Tryz.prog 63 #[.complex .f64 a b, .int .i64 (-k)] wz fun e w' => e = .returned (.complex .f64 (scF a (-k)) (scF b (-k))) ∧ w' = wz) := fun wz => scaled_any a b (-k) wz ha hb (by omega) (by omega)
          generalize scF a (-k) = u at *
          generalize scF b (-k) = v at *
          go_enter Tryz.func23, Tryz.ntmps23
          go_wp2_with fail
          refine (EA.out _).mono ?_
          rintro e' w ⟨rfl, rfl⟩
          go_wp2_with fail
          refine (EB.out _).mono ?_
          rintro e' w ⟨rfl, rfl⟩
          go_wp2_with fail
          refine (NN.out _).mono ?_
          rintro e' w ⟨rfl, rfl⟩
          go_wp2_with fail
          refine (Z.out _).mono ?_
          rintro e' w ⟨rfl, rfl⟩
          go_wp2_with fail
          refine (OR.out _).mono ?_
          rintro e' w ⟨rfl, rfl⟩
          go_wp2_with fail
          refine (SC.out _).mono ?_
          rintro e' w ⟨rfl, rfl⟩
          go_wp2_with fail
          refine (plain_any6 u v _).mono ?_
          rintro e w3 ⟨l, rfl, hl, b3⟩
          obtain ⟨hf, hll⟩ := HL.out l hl
          have HF : Hid (lenR a b (scF l k)) := hf
          clear hl HL hf
          go_wp2_with fail
          refine (scale_any l k _ hll (by omega) (by omega)).mono ?_
          rintro e' w4 ⟨rfl, hw4⟩
          subst hw4
          generalize scF l k = r at *
          go_wp2
          go_ret
          exact ⟨r, rfl, HF.out, b3⟩
      · rw [n] at NN
        have HL : Hid (lenR a b 9221120237041090561) := ⟨by decide, by rw [if_neg c12, if_pos (by rcases Bool.or_eq_true_iff.mp n with h | h; exact Or.inl h; exact Or.inr h)]; decide⟩
        clear c1 c2 c12 n
        go_enter Tryz.func23, Tryz.ntmps23
        go_wp2_with fail
        refine (EA.out _).mono ?_
        rintro e' w ⟨rfl, rfl⟩
        go_wp2_with fail
        refine (EB.out _).mono ?_
        rintro e' w ⟨rfl, rfl⟩
        go_wp2_with fail
        refine (NN.out _).mono ?_
        rintro e' w ⟨rfl, rfl⟩
        go_wp2_with fail
        refine (nan6 _).mono ?_
        rintro e' w ⟨rfl, rfl⟩
        go_wp2
        go_ret
        exact ⟨_, rfl, HL.out, Bw.refl _⟩
end Go.Proofs.YtggphakliiodeaaGreatDoor
