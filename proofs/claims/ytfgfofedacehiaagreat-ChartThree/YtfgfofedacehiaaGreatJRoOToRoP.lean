/-
 OWN TEXT: package roots, as it landed: squares, orders, lengths, for every number.
-/
import Derived.Test.YtfgfofedacehiaaGreatJEoBToAnM
import Derived.Test.YtfgfofedacehiaaGreatJRoTToRoS
import Derived.Test.YtfgfofedacehiaaGreatJRpBToAnP
namespace Go.Proofs.YtfgfofedacehiaaGreat
open Go.ChangeShapes Go.WideShapes Go.ChangeAt Go.RowKit
set_option linter.unusedVariables false
attribute [local go_sem] frombits_call tobits_call run_neg
theorem square_any (a b : Nat) (w : World) : Calls Tryz.prog 83 #[.complex .f64 a b] w fun e w' => ∃ r, e = .returned (.float .f64 r) ∧ sqaR a b r ∧ Bw w w' := by
 obtain ⟨p, w1, hp, e1, g1⟩ := op_run .mul isMul a a w
 obtain ⟨q, w2, hq, e2, g2⟩ := op_run .mul isMul b b w1
 obtain ⟨r, w3, hr, e3, g3⟩ := op_run .add isAdd p q w2
 have G := bw_trans (bw_trans g1 g2) g3
 have HR : Hid (sqaR a b r) := ⟨p, q, hp, hq, hr⟩
 clear hp hq hr g1 g2 g3
 go_enter Tryz.func83, Tryz.ntmps83
 go_wp2
 go_ret
 exact ⟨r, rfl, HR.out, G⟩
theorem plain_any6 (a b : Nat) (w : World) : Calls Tryz.prog 52 #[.complex .f64 a b] w fun e w' => ∃ r, e = .returned (.float .f64 r) ∧ togR a b r ∧ Bw w w' := by
 have Q : Hid (∀ wz, Calls Tryz.prog 83 #[.complex .f64 a b] wz fun e w' => ∃ r, e = .returned (.float .f64 r) ∧ sqaR a b r ∧ Bw wz w') := fun wz => square_any a b wz
 go_enter Tryz.func52, Tryz.ntmps52
 go_wp2_with fail
 refine (Q.out _).mono ?_
 rintro e w1 ⟨s, rfl, hs, b1⟩
 have HS : Hid (sqaR a b s) := hs
 clear hs Q
 go_wp2_with fail
 refine (sqrt_any s _).mono ?_
 rintro e w2 ⟨r, rfl, hr, b2⟩
 have HR : Hid (togR a b r) := ⟨s, HS.out, hr⟩
 have G := bw_trans b1 b2
 clear HS hr b1 b2
 go_wp2
 go_ret
 exact ⟨r, rfl, HR.out, G⟩
theorem hasNone_any (a b : Nat) (w : World) : Calls Tryz.prog 47 #[.complex .f64 a b] w fun e w' => e = .returned (.bool (Fl.nan a || Fl.nan b)) ∧ w' = w := by
 have NA : Hid (∀ wz, Calls Tryz.prog 79 #[.float .f64 a] wz fun e w' => e = .returned (.bool (Fl.nan a)) ∧ w' = wz) := fun wz => isNaN_any a wz
 have NB : Hid (∀ wz, Calls Tryz.prog 79 #[.float .f64 b] wz fun e w' => e = .returned (.bool (Fl.nan b)) ∧ w' = wz) := fun wz => isNaN_any b wz
 generalize Fl.nan a = x at *
 generalize Fl.nan b = y at *
 cases x
 ·
  go_enter Tryz.func47, Tryz.ntmps47
  go_wp2_with fail
  refine (NA.out _).mono ?_
  rintro e' w ⟨rfl, rfl⟩
  go_wp2_with fail
  refine (NB.out _).mono ?_
  rintro e' w ⟨rfl, rfl⟩
  go_wp2
  go_ret
  exact ⟨by cases y <;> rfl, rfl⟩
 ·
  go_enter Tryz.func47, Tryz.ntmps47
  go_wp2_with fail
  refine (NA.out _).mono ?_
  rintro e' w ⟨rfl, rfl⟩
  go_wp2
  go_ret
  exact ⟨rfl, rfl⟩
theorem isNought_any (a b : Nat) (w : World) (ha : a < 18446744073709551616) (hb : b < 18446744073709551616) (na : Fl.nan a = false) (nb : Fl.nan b = false) : Calls Tryz.prog 49 #[.complex .f64 a b] w fun e w' => e = .returned (.bool (decide (bigF a b = 0))) ∧ w' = w := by
 have o1 := Fl.o_eq a 0
 have o2 := Fl.o_eq b 0
 rw [(up_tests ha na).2.1] at o1
 rw [(up_tests hb nb).2.1] at o2
 have E : Hid (decide (bigF a b = 0) = (decide (Fl.rg a = 0) && decide (Fl.rg b = 0))) := by
  show _ = _
  rw [← Bool.decide_and]
  exact decide_eq_decide.mpr (big_zero6 na nb)
 generalize decide (Fl.rg a = 0) = x at *
 generalize decide (Fl.rg b = 0) = y at *
 generalize decide (bigF a b = 0) = z at *
 clear na nb
 cases x
 ·
  go_enter Tryz.func49, Tryz.ntmps49
  go_wp2
  go_ret
  exact ⟨by rw [E.out]; rfl, rfl⟩
 ·
  go_enter Tryz.func49, Tryz.ntmps49
  go_wp2
  go_ret
  exact ⟨by rw [E.out]; cases y <;> rfl, rfl⟩
theorem max_big {a b : Nat} (na : Fl.nan a = false) (nb : Fl.nan b = false) (P : Program) (w : World) (ts : Array TypeId) (t : TypeId) : (Builtin.max_ ts t #[.float .f64 (Fl.rg a), .float .f64 (Fl.rg b)]).run P w = .ok (.float .f64 (bigF a b)) w := by
 have e : FloatKind.f64.format.order (Fl.rg a) (Fl.rg b) = some (compare (Fl.key (Fl.rg a)) (Fl.key (Fl.rg b))) := by
  have k := Fl.order_all (Fl.rg a) (Fl.rg b)
  rw [Fl.nan_rg, Fl.nan_rg, na, nb] at k
  exact k
 have k1 : Fl.key (Fl.rg a) = (Fl.rg a : Nat) := key_rg6 a
 have k2 : Fl.key (Fl.rg b) = (Fl.rg b : Nat) := key_rg6 b
 have l : Fl.ltF (Fl.rg a) (Fl.rg b) = decide (Fl.rg a < Fl.rg b) := by
  unfold Fl.ltF
  rw [Fl.nan_rg, Fl.nan_rg, na, nb, k1, k2]
  simp
 rw [k1, k2] at e
 have hm : bigF a b = if Fl.rg a < Fl.rg b then Fl.rg b else Fl.rg a := by
  unfold bigF
  rw [l]
  by_cases c : Fl.rg a < Fl.rg b
  · rw [decide_eq_true c, if_pos rfl, if_pos c]
  · rw [decide_eq_false c, if_neg (by decide), if_neg c]
 rw [hm]
 generalize Fl.rg a = p at *
 generalize Fl.rg b = q at *
 simp only [Builtin.max_, Builtin.max2, List.foldlM]
 rw [e]
 by_cases c : p < q
 · rw [show compare (p : Int) (q : Int) = .lt from Int.compare_eq_lt.mpr (by omega), if_pos c]; rfl
 ·
  rw [if_neg c]
  by_cases d : p = q
  ·
   subst d
   rw [show compare (p : Int) (p : Int) = .eq from Int.compare_eq_eq.mpr rfl]
   dsimp only
   rw [ite_self]
   rfl
  · rw [show compare (p : Int) (q : Int) = .gt from Int.compare_eq_gt.mpr (by omega)]; rfl
theorem order_any6 (a b : Nat) (w : World) (ha : a < 18446744073709551616) (hb : b < 18446744073709551616) (na : Fl.nan a = false) (nb : Fl.nan b = false) : Calls Tryz.prog 50 #[.complex .f64 a b] w fun e w' => e = .returned (.int .i64 (paE (bigF a b))) ∧ w' = w := by
 have AA : Hid (∀ wz, Calls Tryz.prog 61 #[.float .f64 a] wz fun e w' => e = .returned (.float .f64 (Fl.rg a)) ∧ w' = wz) := fun wz => abs_any a wz ha
 have AB : Hid (∀ wz, Calls Tryz.prog 61 #[.float .f64 b] wz fun e w' => e = .returned (.float .f64 (Fl.rg b)) ∧ w' = wz) := fun wz => abs_any b wz hb
 have M := fun ts t w => max_big (a := a) (b := b) na nb Tryz.prog w ts t
 have PA : Hid (∀ wz, Calls Tryz.prog 80 #[.float .f64 (bigF a b)] wz fun e w' => e = .returned (.tuple #[.float .f64 (paF (bigF a b)), .int .i64 (paE (bigF a b))]) ∧ w' = wz) := fun wz => parts_any (bigF a b) wz (by have := big_lt a b; omega)
 generalize paE (bigF a b) = k at *
 generalize paF (bigF a b) = f at *
 generalize bigF a b = m at *
 generalize Fl.rg a = p at *
 generalize Fl.rg b = q at *
 clear na nb
 go_enter Tryz.func50, Tryz.ntmps50
 go_wp2_with fail
 refine (AA.out _).mono ?_
 rintro e' w ⟨rfl, rfl⟩
 go_wp2_with fail
 refine (AB.out _).mono ?_
 rintro e' w ⟨rfl, rfl⟩
 go_wp2_with fail
 refine (PA.out _).mono ?_
 rintro e' w ⟨rfl, rfl⟩
 go_wp2
 go_ret
 exact ⟨rfl, rfl⟩
theorem scaled_any (a b : Nat) (n : Int) (w : World) (ha : a < 18446744073709551616) (hb : b < 18446744073709551616) (hn : -9223372036854775808 ≤ n) (hn' : n ≤ 9223372036854775807) : Calls Tryz.prog 53 #[.complex .f64 a b, .int .i64 n] w fun e w' => e = .returned (.complex .f64 (scF a n) (scF b n)) ∧ w' = w := by
 have SA : Hid (∀ wz, Calls Tryz.prog 51 #[.float .f64 a, .int .i64 n] wz fun e w' => e = .returned (.float .f64 (scF a n)) ∧ w' = wz) := fun wz => scale_any a n wz ha hn hn'
 have SB : Hid (∀ wz, Calls Tryz.prog 51 #[.float .f64 b, .int .i64 n] wz fun e w' => e = .returned (.float .f64 (scF b n)) ∧ w' = wz) := fun wz => scale_any b n wz hb hn hn'
 generalize scF a n = u at *
 generalize scF b n = v at *
 go_enter Tryz.func53, Tryz.ntmps53
 go_wp2_with fail
 refine (SA.out _).mono ?_
 rintro e' w ⟨rfl, rfl⟩
 go_wp2_with fail
 refine (SB.out _).mono ?_
 rintro e' w ⟨rfl, rfl⟩
 go_wp2
 go_ret
 exact ⟨rfl, rfl⟩
set_option maxHeartbeats 4000000 in
theorem length_any (a b : Nat) (w : World) (ha : a < 18446744073709551616) (hb : b < 18446744073709551616) : Calls Tryz.prog 28 #[.complex .f64 a b] w fun e w' => ∃ r, e = .returned (.float .f64 r) ∧ lenR a b r ∧ Bw w w' := by
 have EA : Hid (∀ wz, Calls Tryz.prog 45 #[.float .f64 a, .int .i64 0] wz fun e w' => e = .returned (.bool (decide (Fl.rg a = 9218868437227405312))) ∧ w' = wz) := fun wz => isInf_any a 0 wz ha (Or.inl rfl)
 have EB : Hid (∀ wz, Calls Tryz.prog 45 #[.float .f64 b, .int .i64 0] wz fun e w' => e = .returned (.bool (decide (Fl.rg b = 9218868437227405312))) ∧ w' = wz) := fun wz => isInf_any b 0 wz hb (Or.inl rfl)
 have NN : Hid (∀ wz, Calls Tryz.prog 47 #[.complex .f64 a b] wz fun e w' => e = .returned (.bool (Fl.nan a || Fl.nan b)) ∧ w' = wz) := fun wz => hasNone_any a b wz
 by_cases c1 : Fl.rg a = 9218868437227405312
 ·
  have HL : Hid (lenR a b 9218868437227405312) := ⟨by decide, by rw [if_pos (Or.inl c1)]⟩
  rw [decide_eq_true c1] at EA
  clear c1
  go_enter Tryz.func28, Tryz.ntmps28
  go_wp2_with fail
  refine (EA.out _).mono ?_
  rintro e' w ⟨rfl, rfl⟩
  go_wp2_with fail
  refine (infp6 _).mono ?_
  rintro e' w ⟨rfl, rfl⟩
  go_wp2
  go_ret
  exact ⟨_, rfl, HL.out, Bw.refl _⟩
 ·
  rw [decide_eq_false c1] at EA
  by_cases c2 : Fl.rg b = 9218868437227405312
  ·
   have HL : Hid (lenR a b 9218868437227405312) := ⟨by decide, by rw [if_pos (Or.inr c2)]⟩
   rw [decide_eq_true c2] at EB
   clear c1 c2
   go_enter Tryz.func28, Tryz.ntmps28
   go_wp2_with fail
   refine (EA.out _).mono ?_
   rintro e' w ⟨rfl, rfl⟩
   go_wp2_with fail
   refine (EB.out _).mono ?_
   rintro e' w ⟨rfl, rfl⟩
   go_wp2_with fail
   refine (infp6 _).mono ?_
   rintro e' w ⟨rfl, rfl⟩
   go_wp2
   go_ret
   exact ⟨_, rfl, HL.out, Bw.refl _⟩
  ·
   rw [decide_eq_false c2] at EB
   have c12 : ¬ (Fl.rg a = 9218868437227405312 ∨ Fl.rg b = 9218868437227405312) := by rintro (h | h); exact c1 h; exact c2 h
   cases n : (Fl.nan a || Fl.nan b)
   ·
    rw [n] at NN
    obtain ⟨n1, n2⟩ := Bool.or_eq_false_iff.mp n
    have c34 : ¬ (Fl.nan a = true ∨ Fl.nan b = true) := by rw [n1, n2]; simp
    have HLL : Hid (∀ r, r < 18446744073709551616 → (if bigF a b = 0 then r = 0 else lenP a b r) → lenR a b r) := fun r h0 h1 => ⟨h0, by rw [if_neg c12, if_neg c34]; exact h1⟩
    have Z : Hid (∀ wz, Calls Tryz.prog 49 #[.complex .f64 a b] wz fun e w' => e = .returned (.bool (decide (bigF a b = 0))) ∧ w' = wz) := fun wz => isNought_any a b wz ha hb n1 n2
    by_cases z : bigF a b = 0
    ·
     rw [decide_eq_true z] at Z
     have HL : Hid (lenR a b 0) := HLL.out 0 (by decide) (by rw [if_pos z])
     clear HLL c1 c2 c12 c34 n n1 n2 z
     go_enter Tryz.func28, Tryz.ntmps28
     go_wp2_with fail
     refine (EA.out _).mono ?_
     rintro e' w ⟨rfl, rfl⟩
     go_wp2_with fail
     refine (EB.out _).mono ?_
     rintro e' w ⟨rfl, rfl⟩
     go_wp2_with fail
     refine (NN.out _).mono ?_
     rintro e' w ⟨rfl, rfl⟩
     go_wp2_with fail
     refine (Z.out _).mono ?_
     rintro e' w ⟨rfl, rfl⟩
     go_wp2
     go_ret
     exact ⟨_, rfl, HL.out, Bw.refl _⟩
    ·
     rw [decide_eq_false z] at Z
     have fa : Fl.rg a < 9218868437227405312 := by have := Fl.nan_le n1; omega
     have fb : Fl.rg b < 9218868437227405312 := by have := Fl.nan_le n2; omega
     have HL : Hid (∀ l, togR (scF a (-paE (bigF a b))) (scF b (-paE (bigF a b))) l → lenR a b (scF l (paE (bigF a b))) ∧ l < 18446744073709551616) := fun l hl => ⟨HLL.out _ (scF_lt (tog_lt hl) _) (by rw [if_neg z]; exact ⟨l, tog_big ha hb fa fb hl, rfl⟩), tog_lt hl⟩
     have OR : Hid (∀ wz, Calls Tryz.prog 50 #[.complex .f64 a b] wz fun e w' => e = .returned (.int .i64 (paE (bigF a b))) ∧ w' = wz) := fun wz => order_any6 a b wz ha hb n1 n2
     obtain ⟨k1, k2⟩ := paE_small (bigF a b) (by have := big_lt a b; omega)
     clear HLL c1 c2 c12 c34 n n1 n2 z fa fb
     generalize paE (bigF a b) = k at *
     have SC : Hid (∀ wz, Calls Tryz.prog 53 #[.complex .f64 a b, .int .i64 (-k)] wz fun e w' => e = .returned (.complex .f64 (scF a (-k)) (scF b (-k))) ∧ w' = wz) := fun wz => scaled_any a b (-k) wz ha hb (by omega) (by omega)
     generalize scF a (-k) = u at *
     generalize scF b (-k) = v at *
     go_enter Tryz.func28, Tryz.ntmps28
     go_wp2_with fail
     refine (EA.out _).mono ?_
     rintro e' w ⟨rfl, rfl⟩
     go_wp2_with fail
     refine (EB.out _).mono ?_
     rintro e' w ⟨rfl, rfl⟩
     go_wp2_with fail
     refine (NN.out _).mono ?_
     rintro e' w ⟨rfl, rfl⟩
     go_wp2_with fail
     refine (Z.out _).mono ?_
     rintro e' w ⟨rfl, rfl⟩
     go_wp2_with fail
     refine (OR.out _).mono ?_
     rintro e' w ⟨rfl, rfl⟩
     go_wp2_with fail
     refine (SC.out _).mono ?_
     rintro e' w ⟨rfl, rfl⟩
     go_wp2_with fail
     refine (plain_any6 u v _).mono ?_
     rintro e w3 ⟨l, rfl, hl, b3⟩
     obtain ⟨hf, hll⟩ := HL.out l hl
     have HF : Hid (lenR a b (scF l k)) := hf
     clear hl HL hf
     go_wp2_with fail
     refine (scale_any l k _ hll (by omega) (by omega)).mono ?_
     rintro e' w4 ⟨rfl, hw4⟩
     subst hw4
     generalize scF l k = r at *
     go_wp2
     go_ret
     exact ⟨r, rfl, HF.out, b3⟩
   ·
    rw [n] at NN
    have HL : Hid (lenR a b 9221120237041090561) := ⟨by decide, by rw [if_neg c12, if_pos (by rcases Bool.or_eq_true_iff.mp n with h | h; exact Or.inl h; exact Or.inr h)]; decide⟩
    clear c1 c2 c12 n
    go_enter Tryz.func28, Tryz.ntmps28
    go_wp2_with fail
    refine (EA.out _).mono ?_
    rintro e' w ⟨rfl, rfl⟩
    go_wp2_with fail
    refine (EB.out _).mono ?_
    rintro e' w ⟨rfl, rfl⟩
    go_wp2_with fail
    refine (NN.out _).mono ?_
    rintro e' w ⟨rfl, rfl⟩
    go_wp2_with fail
    refine (nan6 _).mono ?_
    rintro e' w ⟨rfl, rfl⟩
    go_wp2
    go_ret
    exact ⟨_, rfl, HL.out, Bw.refl _⟩
end Go.Proofs.YtfgfofedacehiaaGreat

/-
 OWN TEXT: package roots, as it landed: roots, polar forms, places, units, nearness, for every number.
-/
namespace Go.Proofs.YtfgfofedacehiaaGreat
open Go.ChangeShapes Go.WideShapes Go.ChangeAt Go.RowKit
set_option linter.unusedVariables false
attribute [local go_sem] frombits_call tobits_call run_neg
theorem rq_nought : Fl.rq 0 1074 = 0 := by decide +kernel
theorem mul_nought {b p : Nat} (fb : Fl.rg b < 9218868437227405312) (h : opR .mul b 0 p) : p = Fl.wd (Fl.sg b) 0 := by
 have hr : Fl.rg 0 = 0 := by decide
 have hv : Fl.vl 0 = 0 := by decide
 have hs : Fl.sg 0 = false := by decide
 have e : ∀ c v, v = 0 → c = 1074 → Fl.rq v c = 0 := by rintro _ _ rfl rfl; exact rq_nought
 obtain ⟨c, hc⟩ : ∃ c, c = 1074 := ⟨_, rfl⟩
 have m := Fl.mul_fin fb (show Fl.rg 0 < 9218868437227405312 by decide)
 rw [← hc, e c _ (by rw [hr, hv, Nat.mul_zero]) hc, hs, Bool.xor_false] at m
 have m' : floatBits .mul .f64 b 0 = some (Fl.wd (Fl.sg b) 0) := m
 rcases h.2 with q | q
 · rw [m'] at q; exact (Option.some.inj q).symm
 · rw [m'] at q; cases q.1
theorem pfinite_any (a b : Nat) (w : World) (ha : a < 18446744073709551616) (hb : b < 18446744073709551616) : Calls Tryz.prog 26 #[.complex .f64 a b] w fun e w' => e = .returned (.bool (Fl.finB a && Fl.finB b)) ∧ w' = w := by
 have NA : Hid (∀ wz, Calls Tryz.prog 43 #[.float .f64 a] wz fun e w' => e = .returned (.bool (Fl.finB a)) ∧ w' = wz) := fun wz => finite_any a wz ha
 have NB : Hid (∀ wz, Calls Tryz.prog 43 #[.float .f64 b] wz fun e w' => e = .returned (.bool (Fl.finB b)) ∧ w' = wz) := fun wz => finite_any b wz hb
 generalize Fl.finB a = x at *
 generalize Fl.finB b = y at *
 cases x
 ·
  go_enter Tryz.func26, Tryz.ntmps26
  go_wp2_with fail
  refine (NA.out _).mono ?_
  rintro e' w ⟨rfl, rfl⟩
  go_wp2
  go_ret
  exact ⟨rfl, rfl⟩
 ·
  go_enter Tryz.func26, Tryz.ntmps26
  go_wp2_with fail
  refine (NA.out _).mono ?_
  rintro e' w ⟨rfl, rfl⟩
  go_wp2_with fail
  refine (NB.out _).mono ?_
  rintro e' w ⟨rfl, rfl⟩
  go_wp2
  go_ret
  exact ⟨by cases y <;> rfl, rfl⟩
theorem csum_run {op : BinOp} (hop : op = .add ∨ op = .sub) {a b c d x y : Nat} {P : Program} {w w1 w2 : World} (e1 : ∀ t, (binOp op t (.float .f64 a) (.float .f64 c)).run P w = .ok (.float .f64 x) w1) (e2 : ∀ t, (binOp op t (.float .f64 b) (.float .f64 d)).run P w1 = .ok (.float .f64 y) w2) (t : TypeId) : (binOp op t (.complex .f64 a b) (.complex .f64 c d)).run P w = .ok (.complex .f64 x y) w2 := by
 rcases hop with rfl | rfl
 ·
  have k1 : (Op.floatArith .add .f64 a c).run P w = .ok (.float .f64 x) w1 := e1 0
  have k2 : (Op.floatArith .add .f64 b d).run P w1 = .ok (.float .f64 y) w2 := e2 0
  simp [binOp, Op.complexOp, Op.Complex.arith, k1, k2]
 ·
  have k1 : (Op.floatArith .sub .f64 a c).run P w = .ok (.float .f64 x) w1 := e1 0
  have k2 : (Op.floatArith .sub .f64 b d).run P w1 = .ok (.float .f64 y) w2 := e2 0
  simp [binOp, Op.complexOp, Op.Complex.arith, k1, k2]
theorem psub_any (a b c d : Nat) (w : World) : Calls Tryz.prog 18 #[.complex .f64 a b, .complex .f64 c d] w fun e w' => ∃ x y, e = .returned (.complex .f64 x y) ∧ opR .sub a c x ∧ opR .sub b d y ∧ Bw w w' := by
 obtain ⟨x, w1, hx, e1, b1⟩ := op_run .sub isSub a c w
 obtain ⟨y, w2, hy, e2, b2⟩ := op_run .sub isSub b d w1
 have B := bw_trans b1 b2
 have HX : Hid (opR .sub a c x) := hx
 have HY : Hid (opR .sub b d y) := hy
 have k := csum_run (Or.inr rfl) e1 e2
 clear hx hy b1 b2 e1 e2
 go_enter Tryz.func18, Tryz.ntmps18
 go_wp2
 go_ret
 exact ⟨x, y, rfl, HX.out, HY.out, B⟩
theorem near_any6 (a b c d m : Nat) (w : World) (ha : a < 18446744073709551616) (hb : b < 18446744073709551616) (hc : c < 18446744073709551616) (hd : d < 18446744073709551616) : Calls Tryz.prog 13 #[.complex .f64 a b, .complex .f64 c d, .float .f64 m] w fun e w' => ∃ r, e = .returned (.bool r) ∧ neaR a b c d m r ∧ Bw w w' := by
 go_enter Tryz.func13, Tryz.ntmps13
 go_wp2_with fail
 refine (psub_any a b c d _).mono ?_
 rintro e w1 ⟨x, y, rfl, hx, hy, b1⟩
 have hxl := hx.1
 have hyl := hy.1
 have HN : Hid (∀ l r, lenR x y l → r = Fl.leF l m → neaR a b c d m r) := fun l r h1 h2 => ⟨x, y, l, hx, hy, h1, h2⟩
 clear hx hy
 go_wp2_with fail
 refine (length_any x y _ hxl hyl).mono ?_
 rintro e w2 ⟨l, rfl, hl, b2⟩
 have B := bw_trans b1 b2
 have o := Fl.o_le l m
 have HF : Hid (neaR a b c d m (Fl.leF l m)) := HN.out l _ hl rfl
 clear HN hl b1 b2
 generalize Fl.leF l m = r at *
 go_wp2
 go_ret
 exact ⟨r, rfl, HF.out, B⟩
end Go.Proofs.YtfgfofedacehiaaGreat

