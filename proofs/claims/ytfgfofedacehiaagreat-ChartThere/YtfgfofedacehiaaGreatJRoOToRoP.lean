/-
 OWN TEXT: package roots, as it landed: squares, orders, lengths, for every number.
-/
import Derived.Test.YtfgfofedacehiaaGreatJPoAToAnM
import Derived.Test.YtfgfofedacehiaaGreatJRoTToAnP
namespace Go.Proofs.YtfgfofedacehiaaGreat
open Go.ChangeShapes Go.WideShapes Go.ChangeAt Go.RowKit
set_option linter.unusedVariables false
attribute [local go_sem] frombits_call tobits_call run_neg
theorem square_any (a b : Nat) (w : World) : Calls Tryz.prog 83 #[.complex .f64 a b] w fun e w' => ∃ r, e = .returned (.float .f64 r) ∧ sqaR a b r ∧ Bw w w' := by
 obtain ⟨p, w1, hp, e1, g1⟩ := op_run .mul isMul a a w
 obtain ⟨q, w2, hq, e2, g2⟩ := op_run .mul isMul b b w1
 obtain ⟨r, w3, hr, e3, g3⟩ := op_run .add isAdd p q w2
 have G := bw_trans (bw_trans g1 g2) g3
 have HR : Hid (sqaR a b r) := ⟨p, q, hp, hq, hr⟩
 clear hp hq hr g1 g2 g3
 go_enter Tryz.func83, Tryz.ntmps83
 go_wp2
 go_ret
 exact ⟨r, rfl, HR.out, G⟩
theorem plain_any6 (a b : Nat) (w : World) : Calls Tryz.prog 52 #[.complex .f64 a b] w fun e w' => ∃ r, e = .returned (.float .f64 r) ∧ togR a b r ∧ Bw w w' := by
 have Q : Hid (∀ wz, Calls Tryz.prog 83 #[.complex .f64 a b] wz fun e w' => ∃ r, e = .returned (.float .f64 r) ∧ sqaR a b r ∧ Bw wz w') := fun wz => square_any a b wz
 go_enter Tryz.func52, Tryz.ntmps52
 go_wp2_with fail
 refine (Q.out _).mono ?_
 rintro e w1 ⟨s, rfl, hs, b1⟩
 have HS : Hid (sqaR a b s) := hs
 clear hs Q
 go_wp2_with fail
 refine (sqrt_any s _).mono ?_
 rintro e w2 ⟨r, rfl, hr, b2⟩
 have HR : Hid (togR a b r) := ⟨s, HS.out, hr⟩
 have G := bw_trans b1 b2
 clear HS hr b1 b2
 go_wp2
 go_ret
 exact ⟨r, rfl, HR.out, G⟩
theorem hasNone_any (a b : Nat) (w : World) : Calls Tryz.prog 47 #[.complex .f64 a b] w fun e w' => e = .returned (.bool (Fl.nan a || Fl.nan b)) ∧ w' = w := by
 have NA : Hid (∀ wz, Calls Tryz.prog 79 #[.float .f64 a] wz fun e w' => e = .returned (.bool (Fl.nan a)) ∧ w' = wz) := fun wz => isNaN_any a wz
 have NB : Hid (∀ wz, Calls Tryz.prog 79 #[.float .f64 b] wz fun e w' => e = .returned (.bool (Fl.nan b)) ∧ w' = wz) := fun wz => isNaN_any b wz
 generalize Fl.nan a = x at *
 generalize Fl.nan b = y at *
 cases x
 ·
  go_enter Tryz.func47, Tryz.ntmps47
  go_wp2_with fail
  refine (NA.out _).mono ?_
  rintro e' w ⟨rfl, rfl⟩
  go_wp2_with fail
  refine (NB.out _).mono ?_
  rintro e' w ⟨rfl, rfl⟩
  go_wp2
  go_ret
  exact ⟨by cases y <;> rfl, rfl⟩
 ·
  go_enter Tryz.func47, Tryz.ntmps47
  go_wp2_with fail
  refine (NA.out _).mono ?_
  rintro e' w ⟨rfl, rfl⟩
  go_wp2
  go_ret
  exact ⟨rfl, rfl⟩
theorem isNought_any (a b : Nat) (w : World) (ha : a < 18446744073709551616) (hb : b < 18446744073709551616) (na : Fl.nan a = false) (nb : Fl.nan b = false) : Calls Tryz.prog 49 #[.complex .f64 a b] w fun e w' => e = .returned (.bool (decide (bigF a b = 0))) ∧ w' = w := by
 have o1 := Fl.o_eq a 0
 have o2 := Fl.o_eq b 0
 rw [(up_tests ha na).2.1] at o1
 rw [(up_tests hb nb).2.1] at o2
 have E : Hid (decide (bigF a b = 0) = (decide (Fl.rg a = 0) && decide (Fl.rg b = 0))) := by
  show _ = _
  rw [← Bool.decide_and]
  exact decide_eq_decide.mpr (big_zero6 na nb)
 generalize decide (Fl.rg a = 0) = x at *
 generalize decide (Fl.rg b = 0) = y at *
 generalize decide (bigF a b = 0) = z at *
 clear na nb
 cases x
 ·
  go_enter Tryz.func49, Tryz.ntmps49
  go_wp2
  go_ret
  exact ⟨by rw [E.out]; rfl, rfl⟩
 ·
  go_enter Tryz.func49, Tryz.ntmps49
  go_wp2
  go_ret
  exact ⟨by rw [E.out]; cases y <;> rfl, rfl⟩
theorem max_big {a b : Nat} (na : Fl.nan a = false) (nb : Fl.nan b = false) (P : Program) (w : World) (ts : Array TypeId) (t : TypeId) : (Builtin.max_ ts t #[.float .f64 (Fl.rg a), .float .f64 (Fl.rg b)]).run P w = .ok (.float .f64 (bigF a b)) w := by
 have e : FloatKind.f64.format.order (Fl.rg a) (Fl.rg b) = some (compare (Fl.key (Fl.rg a)) (Fl.key (Fl.rg b))) := by
  have k := Fl.order_all (Fl.rg a) (Fl.rg b)
  rw [Fl.nan_rg, Fl.nan_rg, na, nb] at k
  exact k
 have k1 : Fl.key (Fl.rg a) = (Fl.rg a : Nat) := key_rg6 a
 have k2 : Fl.key (Fl.rg b) = (Fl.rg b : Nat) := key_rg6 b
 have l : Fl.ltF (Fl.rg a) (Fl.rg b) = decide (Fl.rg a < Fl.rg b) := by
  unfold Fl.ltF
  rw [Fl.nan_rg, Fl.nan_rg, na, nb, k1, k2]
  simp
 rw [k1, k2] at e
 have hm : bigF a b = if Fl.rg a < Fl.rg b then Fl.rg b else Fl.rg a := by
  unfold bigF
  rw [l]
  by_cases c : Fl.rg a < Fl.rg b
  · rw [decide_eq_true c, if_pos rfl, if_pos c]
  · rw [decide_eq_false c, if_neg (by decide), if_neg c]
 rw [hm]
 generalize Fl.rg a = p at *
 generalize Fl.rg b = q at *
 simp only [Builtin.max_, Builtin.max2, List.foldlM]
 rw [e]
 by_cases c : p < q
 · rw [show compare (p : Int) (q : Int) = .lt from Int.compare_eq_lt.mpr (by omega), if_pos c]; rfl
 ·
  rw [if_neg c]
  by_cases d : p = q
  ·
   subst d
   rw [show compare (p : Int) (p : Int) = .eq from Int.compare_eq_eq.mpr rfl]
   dsimp only
   rw [ite_self]
   rfl
  · rw [show compare (p : Int) (q : Int) = .gt from Int.compare_eq_gt.mpr (by omega)]; rfl
theorem order_any6 (a b : Nat) (w : World) (ha : a < 18446744073709551616) (hb : b < 18446744073709551616) (na : Fl.nan a = false) (nb : Fl.nan b = false) : Calls Tryz.prog 50 #[.complex .f64 a b] w fun e w' => e = .returned (.int .i64 (paE (bigF a b))) ∧ w' = w := by
 have AA : Hid (∀ wz, Calls Tryz.prog 61 #[.float .f64 a] wz fun e w' => e = .returned (.float .f64 (Fl.rg a)) ∧ w' = wz) := fun wz => abs_any a wz ha
 have AB : Hid (∀ wz, Calls Tryz.prog 61 #[.float .f64 b] wz fun e w' => e = .returned (.float .f64 (Fl.rg b)) ∧ w' = wz) := fun wz => abs_any b wz hb
 have M := fun ts t w => max_big (a := a) (b := b) na nb Tryz.prog w ts t
 have PA : Hid (∀ wz, Calls Tryz.prog 80 #[.float .f64 (bigF a b)] wz fun e w' => e = .returned (.tuple #[.float .f64 (paF (bigF a b)), .int .i64 (paE (bigF a b))]) ∧ w' = wz) := fun wz => parts_any (bigF a b) wz (by have := big_lt a b; omega)
 generalize paE (bigF a b) = k at *
 generalize paF (bigF a b) = f at *
 generalize bigF a b = m at *
 generalize Fl.rg a = p at *
 generalize Fl.rg b = q at *
 clear na nb
 go_enter Tryz.func50, Tryz.ntmps50
 go_wp2_with fail
 refine (AA.out _).mono ?_
 rintro e' w ⟨rfl, rfl⟩
 go_wp2_with fail
 refine (AB.out _).mono ?_
 rintro e' w ⟨rfl, rfl⟩
 go_wp2_with fail
 refine (PA.out _).mono ?_
 rintro e' w ⟨rfl, rfl⟩
 go_wp2
 go_ret
 exact ⟨rfl, rfl⟩
theorem scaled_any (a b : Nat) (n : Int) (w : World) (ha : a < 18446744073709551616) (hb : b < 18446744073709551616) (hn : -9223372036854775808 ≤ n) (hn' : n ≤ 9223372036854775807) : Calls Tryz.prog 53 #[.complex .f64 a b, .int .i64 n] w fun e w' => e = .returned (.complex .f64 (scF a n) (scF b n)) ∧ w' = w := by
 have SA : Hid (∀ wz, Calls Tryz.prog 51 #[.float .f64 a, .int .i64 n] wz fun e w' => e = .returned (.float .f64 (scF a n)) ∧ w' = wz) := fun wz => scale_any a n wz ha hn hn'
 have SB : Hid (∀ wz, Calls Tryz.prog 51 #[.float .f64 b, .int .i64 n] wz fun e w' => e = .returned (.float .f64 (scF b n)) ∧ w' = wz) := fun wz => scale_any b n wz hb hn hn'
 generalize scF a n = u at *
 generalize scF b n = v at *
 go_enter Tryz.func53, Tryz.ntmps53
 go_wp2_with fail
 refine (SA.out _).mono ?_
 rintro e' w ⟨rfl, rfl⟩
 go_wp2_with fail
 refine (SB.out _).mono ?_
 rintro e' w ⟨rfl, rfl⟩
 go_wp2
 go_ret
 exact ⟨rfl, rfl⟩
set_option maxHeartbeats 4000000 in
theorem length_any (a b : Nat) (w : World) (ha : a < 18446744073709551616) (hb : b < 18446744073709551616) : Calls Tryz.prog 28 #[.complex .f64 a b] w fun e w' => ∃ r, e = .returned (.float .f64 r) ∧ lenR a b r ∧ Bw w w' := by
 have EA : Hid (∀ wz, Calls Tryz.prog 45 #[.float .f64 a, .int .i64 0] wz fun e w' => e = .returned (.bool (decide (Fl.rg a = 9218868437227405312))) ∧ w' = wz) := fun wz => isInf_any a 0 wz ha (Or.inl rfl)
 have EB : Hid (∀ wz, Calls Tryz.prog 45 #[.float .f64 b, .int .i64 0] wz fun e w' => e = .returned (.bool (decide (Fl.rg b = 9218868437227405312))) ∧ w' = wz) := fun wz => isInf_any b 0 wz hb (Or.inl rfl)
 have NN : Hid (∀ wz, Calls Tryz.prog 47 #[.complex .f64 a b] wz fun e w' => e = .returned (.bool (Fl.nan a || Fl.nan b)) ∧ w' = wz) := fun wz => hasNone_any a b wz
 by_cases c1 : Fl.rg a = 9218868437227405312
 ·
  have HL : Hid (lenR a b 9218868437227405312) := ⟨by decide, by rw [if_pos (Or.inl c1)]⟩
  rw [decide_eq_true c1] at EA
  clear c1
  go_enter Tryz.func28, Tryz.ntmps28
  go_wp2_with fail
  refine (EA.out _).mono ?_
  rintro e' w ⟨rfl, rfl⟩
  go_wp2_with fail
  refine (infp6 _).mono ?_
  rintro e' w ⟨rfl, rfl⟩
  go_wp2
  go_ret
  exact ⟨_, rfl, HL.out, Bw.refl _⟩
 ·
  rw [decide_eq_false c1] at EA
  by_cases c2 : Fl.rg b = 9218868437227405312
  ·
   have HL : Hid (lenR a b 9218868437227405312) := ⟨by decide, by rw [if_pos (Or.inr c2)]⟩
   rw [decide_eq_true c2] at EB
   clear c1 c2
   go_enter Tryz.func28, Tryz.ntmps28
   go_wp2_with fail
   refine (EA.out _).mono ?_
   rintro e' w ⟨rfl, rfl⟩
   go_wp2_with fail
   refine (EB.out _).mono ?_
   rintro e' w ⟨rfl, rfl⟩
   go_wp2_with fail
   refine (infp6 _).mono ?_
   rintro e' w ⟨rfl, rfl⟩
   go_wp2
   go_ret
   exact ⟨_, rfl, HL.out, Bw.refl _⟩
  ·
   rw [decide_eq_false c2] at EB
   have c12 : ¬ (Fl.rg a = 9218868437227405312 ∨ Fl.rg b = 9218868437227405312) := by rintro (h | h); exact c1 h; exact c2 h
   cases n : (Fl.nan a || Fl.nan b)
   ·
    rw [n] at NN
    obtain ⟨n1, n2⟩ := Bool.or_eq_false_iff.mp n
    have c34 : ¬ (Fl.nan a = true ∨ Fl.nan b = true) := by rw [n1, n2]; simp
    have HLL : Hid (∀ r, r < 18446744073709551616 → (if bigF a b = 0 then r = 0 else lenP a b r) → lenR a b r) := fun r h0 h1 => ⟨h0, by rw [if_neg c12, if_neg c34]; exact h1⟩
    have Z : Hid (∀ wz, Calls Tryz.prog 49 #[.complex .f64 a b] wz fun e w' => e = .returned (.bool (decide (bigF a b = 0))) ∧ w' = wz) := fun wz => isNought_any a b wz ha hb n1 n2
    by_cases z : bigF a b = 0
    ·
     rw [decide_eq_true z] at Z
     have HL : Hid (lenR a b 0) := HLL.out 0 (by decide) (by rw [if_pos z])
     clear HLL c1 c2 c12 c34 n n1 n2 z
     go_enter Tryz.func28, Tryz.ntmps28
     go_wp2_with fail
     refine (EA.out _).mono ?_
     rintro e' w ⟨rfl, rfl⟩
     go_wp2_with fail
     refine (EB.out _).mono ?_
     rintro e' w ⟨rfl, rfl⟩
     go_wp2_with fail
     refine (NN.out _).mono ?_
     rintro e' w ⟨rfl, rfl⟩
     go_wp2_with fail
     refine (Z.out _).mono ?_
     rintro e' w ⟨rfl, rfl⟩
     go_wp2
     go_ret
     exact ⟨_, rfl, HL.out, Bw.refl _⟩
    ·
     rw [decide_eq_false z] at Z
     have fa : Fl.rg a < 9218868437227405312 := by have := Fl.nan_le n1; omega
     have fb : Fl.rg b < 9218868437227405312 := by have := Fl.nan_le n2; omega
     have HL : Hid (∀ l, togR (scF a (-paE (bigF a b))) (scF b (-paE (bigF a b))) l → lenR a b (scF l (paE (bigF a b))) ∧ l < 18446744073709551616) := fun l hl => ⟨HLL.out _ (scF_lt (tog_lt hl) _) (by rw [if_neg z]; exact ⟨l, tog_big ha hb fa fb hl, rfl⟩), tog_lt hl⟩
     have OR : Hid (∀ wz, Calls Tryz.prog 50 #[.complex .f64 a b] wz fun e w' => e = .returned (.int .i64 (paE (bigF a b))) ∧ w' = wz) := fun wz => order_any6 a b wz ha hb n1 n2
     obtain ⟨k1, k2⟩ := paE_small (bigF a b) (by have := big_lt a b; omega)
     clear HLL c1 c2 c12 c34 n n1 n2 z fa fb
     generalize paE (bigF a b) = k at *
     have SC : Hid (∀ wz, Calls Tryz.prog 53 #[.complex .f64 a b, .int .i64 (-k)] wz fun e w' => e = .returned (.complex .f64 (scF a (-k)) (scF b (-k))) ∧ w' = wz) := fun wz => scaled_any a b (-k) wz ha hb (by omega) (by omega)
     generalize scF a (-k) = u at *
     generalize scF b (-k) = v at *
     go_enter Tryz.func28, Tryz.ntmps28
     go_wp2_with fail
     refine (EA.out _).mono ?_
     rintro e' w ⟨rfl, rfl⟩
     go_wp2_with fail
     refine (EB.out _).mono ?_
     rintro e' w ⟨rfl, rfl⟩
     go_wp2_with fail
     refine (NN.out _).mono ?_
     rintro e' w ⟨rfl, rfl⟩
     go_wp2_with fail
     refine (Z.out _).mono ?_
     rintro e' w ⟨rfl, rfl⟩
     go_wp2_with fail
     refine (OR.out _).mono ?_
     rintro e' w ⟨rfl, rfl⟩
     go_wp2_with fail
     refine (SC.out _).mono ?_
     rintro e' w ⟨rfl, rfl⟩
     go_wp2_with fail
     refine (plain_any6 u v _).mono ?_
     rintro e w3 ⟨l, rfl, hl, b3⟩
     obtain ⟨hf, hll⟩ := HL.out l hl
     have HF : Hid (lenR a b (scF l k)) := hf
     clear hl HL hf
     go_wp2_with fail
     refine (scale_any l k _ hll (by omega) (by omega)).mono ?_
     rintro e' w4 ⟨rfl, hw4⟩
     subst hw4
     generalize scF l k = r at *
     go_wp2
     go_ret
     exact ⟨r, rfl, HF.out, b3⟩
   ·
    rw [n] at NN
    have HL : Hid (lenR a b 9221120237041090561) := ⟨by decide, by rw [if_neg c12, if_pos (by rcases Bool.or_eq_true_iff.mp n with h | h; exact Or.inl h; exact Or.inr h)]; decide⟩
    clear c1 c2 c12 n
    go_enter Tryz.func28, Tryz.ntmps28
    go_wp2_with fail
    refine (EA.out _).mono ?_
    rintro e' w ⟨rfl, rfl⟩
    go_wp2_with fail
    refine (EB.out _).mono ?_
    rintro e' w ⟨rfl, rfl⟩
    go_wp2_with fail
    refine (NN.out _).mono ?_
    rintro e' w ⟨rfl, rfl⟩
    go_wp2_with fail
    refine (nan6 _).mono ?_
    rintro e' w ⟨rfl, rfl⟩
    go_wp2
    go_ret
    exact ⟨_, rfl, HL.out, Bw.refl _⟩
end Go.Proofs.YtfgfofedacehiaaGreat

/-
 OWN TEXT: package roots, as it landed: roots, polar forms, places, units, nearness, for every number.
-/
namespace Go.Proofs.YtfgfofedacehiaaGreat
open Go.ChangeShapes Go.WideShapes Go.ChangeAt Go.RowKit
set_option linter.unusedVariables false
attribute [local go_sem] frombits_call tobits_call run_neg
theorem rq_nought : Fl.rq 0 1074 = 0 := by decide +kernel
theorem mul_nought {b p : Nat} (fb : Fl.rg b < 9218868437227405312) (h : opR .mul b 0 p) : p = Fl.wd (Fl.sg b) 0 := by
 have hr : Fl.rg 0 = 0 := by decide
 have hv : Fl.vl 0 = 0 := by decide
 have hs : Fl.sg 0 = false := by decide
 have e : ∀ c v, v = 0 → c = 1074 → Fl.rq v c = 0 := by rintro _ _ rfl rfl; exact rq_nought
 obtain ⟨c, hc⟩ : ∃ c, c = 1074 := ⟨_, rfl⟩
 have m := Fl.mul_fin fb (show Fl.rg 0 < 9218868437227405312 by decide)
 rw [← hc, e c _ (by rw [hr, hv, Nat.mul_zero]) hc, hs, Bool.xor_false] at m
 have m' : floatBits .mul .f64 b 0 = some (Fl.wd (Fl.sg b) 0) := m
 rcases h.2 with q | q
 · rw [m'] at q; exact (Option.some.inj q).symm
 · rw [m'] at q; cases q.1
theorem signed_wd {s b : Nat} (nb : Fl.nan b = false) : signedF s b = Fl.wd (Fl.sg b) (Fl.rg s) := by
 unfold signedF Fl.minusB
 rw [nb]
 have k := Fl.ng_wd false (Fl.rg s) (Fl.rg_lt s)
 generalize Fl.rg s = r at *
 cases Fl.sg b
 · rw [Bool.and_false, if_neg (by decide), wd_false6]
 ·
  rw [Bool.not_false, Bool.and_true, if_pos rfl]
  rw [wd_false6, Bool.not_false] at k
  exact k.symm
theorem far_any (a b : Nat) (w : World) (ha : a < 18446744073709551616) (hb : b < 18446744073709551616) (c1 : ¬ Fl.rg b = 9218868437227405312) (c2 : Fl.rg a = 9218868437227405312) : Calls Tryz.prog 116 #[.float .f64 a, .float .f64 b] w fun e w' => ∃ re im, e = .returned (.complex .f64 re im) ∧ rooR a b re im ∧ Bw w w' := by
 have og := Fl.o_lt a 0
 have og' : Fl.ltF a 0 = Fl.sg a := by
  unfold Fl.ltF
  rw [show Fl.nan 0 = false by decide, show Fl.key 0 = 0 by decide, show Fl.nan a = false by unfold Fl.nan; rw [c2]; decide]
  unfold Fl.key
  cases Fl.sg a
  · rw [if_neg (by decide), c2]; decide
  · rw [if_pos rfl, c2]; decide
 rw [og'] at og
 clear og'
 obtain ⟨p, w1, hp, e1, G⟩ := op_run .mul isMul b 0 w
 have hpl := hp.1
 cases s : Fl.sg a
 ·
  rw [s] at og
  have HL : Hid (rooR a b 9218868437227405312 p) := by
   show rooR _ _ _ _
   unfold rooR
   rw [if_neg c1]
   by_cases n2 : Fl.nan b = true
   · rw [if_pos ⟨c2, n2⟩, if_pos s]; exact ⟨rfl, hp.nan (nan_left .mul isMul n2)⟩
   ·
    rw [if_neg (fun h => n2 h.2), if_pos c2, if_pos s]
    exact ⟨rfl, mul_nought (by have := Fl.nan_le (Bool.eq_false_iff.mpr n2); omega) hp⟩
  clear hp c1 c2 s
  go_enter Tryz.func116, Tryz.ntmps116
  go_wp2_with fail
  refine (infp6 _).mono ?_
  rintro e' w9 ⟨rfl, hw9⟩
  subst hw9
  go_wp2
  go_ret
  exact ⟨_, _, rfl, HL.out, G⟩
 ·
  rw [s] at og
  have HL : Hid (rooR a b (Fl.rg p) (signedF 9218868437227405312 b)) := by
   show rooR _ _ _ _
   unfold rooR
   rw [if_neg c1]
   by_cases n2 : Fl.nan b = true
   ·
    rw [if_pos ⟨c2, n2⟩, if_neg (by rw [s]; decide)]
    refine ⟨by rw [Fl.nan_rg]; exact hp.nan (nan_left .mul isMul n2), ?_⟩
    unfold signedF Fl.minusB
    rw [n2, Bool.not_true, Bool.false_and, if_neg (by decide)]
    decide
   ·
    rw [if_neg (fun h => n2 h.2), if_pos c2, if_neg (by rw [s]; decide)]
    refine ⟨?_, signed_wd (Bool.eq_false_iff.mpr n2)⟩
    rw [mul_nought (by have := Fl.nan_le (Bool.eq_false_iff.mpr n2); omega) hp]
    exact Fl.rg_wd _ 0 (by decide)
  clear hp c1 c2 s
  have AP : Hid (∀ wz, Calls Tryz.prog 61 #[.float .f64 p] wz fun e w' => e = .returned (.float .f64 (Fl.rg p)) ∧ w' = wz) := fun wz => abs_any p wz hpl
  have SG : Hid (∀ wz, Calls Tryz.prog 118 #[.float .f64 9218868437227405312, .float .f64 b] wz fun e w' => e = .returned (.float .f64 (signedF 9218868437227405312 b)) ∧ w' = wz) := fun wz => signed_any 9218868437227405312 b wz (by decide) hb
  generalize Fl.rg p = rp at *
  generalize signedF 9218868437227405312 b = si at *
  go_enter Tryz.func116, Tryz.ntmps116
  go_wp2_with fail
  refine (AP.out _).mono ?_
  rintro e' w9 ⟨rfl, hw9⟩
  subst hw9
  go_wp2_with fail
  refine (infp6 _).mono ?_
  rintro e' w9 ⟨rfl, hw9⟩
  subst hw9
  go_wp2_with fail
  refine (SG.out _).mono ?_
  rintro e' w9 ⟨rfl, hw9⟩
  subst hw9
  go_wp2
  go_ret
  exact ⟨_, _, rfl, HL.out, G⟩
/-- what greaterPart tells: s -/
def graR (a b s : Nat) : Prop := ∃ l s0 h t, togR (scF (Fl.rg a) (-(2 * (paE (bigF a b) / 2)))) (scF (Fl.rg b) (-(2 * (paE (bigF a b) / 2)))) l ∧
 opR .add (scF (Fl.rg a) (-(2 * (paE (bigF a b) / 2)))) l s0 ∧ opR .quo s0 4611686018427387904 h ∧ sqtR h t ∧ s = scF t (paE (bigF a b) / 2)
theorem gra_lt {a b s : Nat} (h : graR a b s) : s < 18446744073709551616 := by
 obtain ⟨l, s0, q, t, _, _, _, h4, h5⟩ := h
 rw [h5]; exact scF_lt h4.1 _
set_option maxHeartbeats 4000000 in
theorem greater_any (a b : Nat) (w : World) (ha : a < 18446744073709551616) (hb : b < 18446744073709551616) (fa : Fl.rg a < 9218868437227405312) (fb : Fl.rg b < 9218868437227405312) : Calls Tryz.prog 117 #[.complex .f64 a b] w fun e w' => ∃ s, e = .returned (.float .f64 s) ∧ graR a b s ∧ Bw w w' := by
 have n1 : Fl.nan a = false := by unfold Fl.nan; exact decide_eq_false (by omega)
 have n2 : Fl.nan b = false := by unfold Fl.nan; exact decide_eq_false (by omega)
 have OR : Hid (∀ wz, Calls Tryz.prog 50 #[.complex .f64 a b] wz fun e w' => e = .returned (.int .i64 (paE (bigF a b))) ∧ w' = wz) := fun wz => order_any6 a b wz ha hb n1 n2
 obtain ⟨k1, k2⟩ := paE_small (bigF a b) (by have := big_lt a b; omega)
 have HG : Hid (∀ l s0 h t, togR (scF a (-(2 * (paE (bigF a b) / 2)))) (scF b (-(2 * (paE (bigF a b) / 2)))) l → opR .add (Fl.rg (scF a (-(2 * (paE (bigF a b) / 2))))) l s0 → opR .quo s0 4611686018427387904 h → sqtR h t → graR a b (scF t (paE (bigF a b) / 2))) := by
  show ∀ l s0 h t, _
  intro l s0 h t h1 h2 h3 h4
  rw [rg_sc ha fa] at h2
  exact ⟨l, s0, h, t, tog_two ha hb fa fb h1, h2, h3, h4, rfl⟩
 clear n1 n2 fa fb
 generalize paE (bigF a b) = k at *
 have e2 : -2 * (k / 2) = -(2 * (k / 2)) := by omega
 have SC : Hid (∀ wz, Calls Tryz.prog 53 #[.complex .f64 a b, .int .i64 (-(2 * (k / 2)))] wz fun e w' => e = .returned (.complex .f64 (scF a (-(2 * (k / 2)))) (scF b (-(2 * (k / 2))))) ∧ w' = wz) := fun wz => scaled_any a b (-(2 * (k / 2))) wz ha hb (by omega) (by omega)
 have l1 := scF_lt ha (-(2 * (k / 2)))
 generalize scF a (-(2 * (k / 2))) = u at *
 generalize scF b (-(2 * (k / 2))) = v at *
 have AU : Hid (∀ wz, Calls Tryz.prog 61 #[.float .f64 u] wz fun e w' => e = .returned (.float .f64 (Fl.rg u)) ∧ w' = wz) := fun wz => abs_any u wz l1
 generalize Fl.rg u = ru at *
 rw [← e2] at SC
 clear e2
 go_enter Tryz.func117, Tryz.ntmps117
 go_wp2_with fail
 refine (OR.out _).mono ?_
 rintro e' w9 ⟨rfl, hw9⟩
 subst hw9
 go_wp2_with fail
 refine (SC.out _).mono ?_
 rintro e' w9 ⟨rfl, hw9⟩
 subst hw9
 go_wp2_with fail
 refine (AU.out _).mono ?_
 rintro e' w9 ⟨rfl, hw9⟩
 subst hw9
 go_wp2_with fail
 refine (plain_any6 u v _).mono ?_
 rintro e w1 ⟨l, rfl, hl, b1⟩
 obtain ⟨s0, w2, h2, e2, b2⟩ := op_run .add isAdd ru l w1
 obtain ⟨h, w3, h3, e3, b3⟩ := op_run .quo isQuo s0 4611686018427387904 w2
 have G := bw_trans (bw_trans b1 b2) b3
 have HH : Hid (∀ t, sqtR h t → graR a b (scF t (k / 2))) := fun t ht => HG.out l s0 h t hl h2 h3 ht
 clear HG hl h2 h3 b1 b2 b3
 go_wp2_with fail
 refine (sqrt_any h _).mono ?_
 rintro e w4 ⟨t, rfl, ht, b4⟩
 replace G := bw_trans G b4
 have htl := ht.1
 have HF : Hid (graR a b (scF t (k / 2))) := HH.out t ht
 clear HH ht b4
 go_wp2_with fail
 refine (scale_any t (k / 2) _ htl (by omega) (by omega)).mono ?_
 rintro e' w9 ⟨rfl, hw9⟩
 subst hw9
 generalize scF t (k / 2) = s at *
 go_wp2
 go_ret
 exact ⟨s, rfl, HF.out, G⟩
theorem lt_le6 {a : Nat} (na : Fl.nan a = false) : Fl.ltF a 0 = !Fl.leF 0 a := by
 unfold Fl.ltF Fl.leF
 rw [na, show Fl.nan 0 = false by decide, show Fl.key 0 = 0 by decide]
 simp only [Bool.not_false, Bool.true_and]
 rw [← decide_not]
 exact decide_eq_decide.mpr (by omega)
set_option maxHeartbeats 8000000 in
set_option maxRecDepth 100000 in
theorem root_any6 (a b : Nat) (w : World) (ha : a < 18446744073709551616) (hb : b < 18446744073709551616) : Calls Tryz.prog 104 #[.complex .f64 a b] w fun e w' => ∃ re im, e = .returned (.complex .f64 re im) ∧ rooR a b re im ∧ Bw w w' := by
 have EA : Hid (∀ wz, Calls Tryz.prog 45 #[.float .f64 a, .int .i64 0] wz fun e w' => e = .returned (.bool (decide (Fl.rg a = 9218868437227405312))) ∧ w' = wz) := fun wz => isInf_any a 0 wz ha (Or.inl rfl)
 have EB : Hid (∀ wz, Calls Tryz.prog 45 #[.float .f64 b, .int .i64 0] wz fun e w' => e = .returned (.bool (decide (Fl.rg b = 9218868437227405312))) ∧ w' = wz) := fun wz => isInf_any b 0 wz hb (Or.inl rfl)
 have NN : Hid (∀ wz, Calls Tryz.prog 47 #[.complex .f64 a b] wz fun e w' => e = .returned (.bool (Fl.nan a || Fl.nan b)) ∧ w' = wz) := fun wz => hasNone_any a b wz
 by_cases c1 : Fl.rg b = 9218868437227405312
 ·
  have HL : Hid (rooR a b 9218868437227405312 b) := by show rooR _ _ _ _; unfold rooR; rw [if_pos c1]; exact ⟨rfl, rfl⟩
  rw [decide_eq_true c1] at EB
  clear c1
  go_enter Tryz.func104, Tryz.ntmps104
  go_wp2_with fail
  refine (EB.out _).mono ?_
  rintro e' w9 ⟨rfl, hw9⟩
  subst hw9
  go_wp2_with fail
  refine (infp6 _).mono ?_
  rintro e' w9 ⟨rfl, hw9⟩
  subst hw9
  go_wp2
  go_ret
  exact ⟨_, _, rfl, HL.out, Bw.refl _⟩
 ·
  rw [decide_eq_false c1] at EB
  by_cases c2 : Fl.rg a = 9218868437227405312
  ·
   have FR : Hid (∀ wz, Calls Tryz.prog 116 #[.float .f64 a, .float .f64 b] wz fun e w' => ∃ re im, e = .returned (.complex .f64 re im) ∧ rooR a b re im ∧ Bw wz w') := fun wz => far_any a b wz ha hb c1 c2
   rw [decide_eq_true c2] at EA
   clear c1 c2
   go_enter Tryz.func104, Tryz.ntmps104
   go_wp2_with fail
   refine (EB.out _).mono ?_
   rintro e' w9 ⟨rfl, hw9⟩
   subst hw9
   go_wp2_with fail
   refine (EA.out _).mono ?_
   rintro e' w9 ⟨rfl, hw9⟩
   subst hw9
   go_wp2_with fail
   refine (FR.out _).mono ?_
   rintro e' w1 ⟨re, im, rfl, h, G⟩
   have HL : Hid (rooR a b re im) := h
   clear h FR
   go_wp2
   go_ret
   exact ⟨_, _, rfl, HL.out, G⟩
  ·
   rw [decide_eq_false c2] at EA
   have n2' : ¬ (Fl.rg a = 9218868437227405312 ∧ Fl.nan b = true) := fun h => c2 h.1
   cases n : (Fl.nan a || Fl.nan b)
   ·
    rw [n] at NN
    obtain ⟨n1, n2⟩ := Bool.or_eq_false_iff.mp n
    have c34 : ¬ (Fl.nan a = true ∨ Fl.nan b = true) := by rw [n1, n2]; simp
    have Z : Hid (∀ wz, Calls Tryz.prog 49 #[.complex .f64 a b] wz fun e w' => e = .returned (.bool (decide (bigF a b = 0))) ∧ w' = wz) := fun wz => isNought_any a b wz ha hb n1 n2
    have hz := big_zero6 n1 n2
    by_cases z : bigF a b = 0
    ·
     rw [decide_eq_true z] at Z
     have HL : Hid (rooR a b 0 b) := by show rooR _ _ _ _; unfold rooR; rw [if_neg c1, if_neg n2', if_neg c2, if_neg c34, if_pos (hz.mp z)]; exact ⟨rfl, rfl⟩
     clear c1 c2 c34 n n1 n2 n2' z hz
     go_enter Tryz.func104, Tryz.ntmps104
     go_wp2_with fail
     refine (EB.out _).mono ?_
     rintro e' w9 ⟨rfl, hw9⟩
     subst hw9
     go_wp2_with fail
     refine (EA.out _).mono ?_
     rintro e' w9 ⟨rfl, hw9⟩
     subst hw9
     go_wp2_with fail
     refine (NN.out _).mono ?_
     rintro e' w9 ⟨rfl, hw9⟩
     subst hw9
     go_wp2_with fail
     refine (Z.out _).mono ?_
     rintro e' w9 ⟨rfl, hw9⟩
     subst hw9
     go_wp2
     go_ret
     exact ⟨_, _, rfl, HL.out, Bw.refl _⟩
    ·
     rw [decide_eq_false z] at Z
     have fa : Fl.rg a < 9218868437227405312 := by have := Fl.nan_le n1; omega
     have fb : Fl.rg b < 9218868437227405312 := by have := Fl.nan_le n2; omega
     have GP : Hid (∀ wz, Calls Tryz.prog 117 #[.complex .f64 a b] wz fun e w' => ∃ s, e = .returned (.float .f64 s) ∧ graR a b s ∧ Bw wz w') := fun wz => greater_any a b wz ha hb fa fb
     have HR : Hid (∀ s d re im, graR a b s → opR .mul 4611686018427387904 s d → (if Fl.leF 0 a = true then re = s ∧ opR .quo b d im else opR .quo (Fl.rg b) d re ∧ im = signedF s b) → rooR a b re im) := by
      show ∀ s d re im, _
      rintro s d re im ⟨l, s0, h, t, h1, h2, h3, h4, h5⟩ hd k
      unfold rooR
      rw [if_neg c1, if_neg n2', if_neg c2, if_neg c34, if_neg (fun h => z (hz.mpr h))]
      rw [h5] at hd
      refine ⟨l, s0, h, t, d, h1, h2, h3, h4, hd, ?_⟩
      by_cases c : Fl.leF 0 a = true
      · rw [if_pos c] at k ⊢; rw [h5] at k; exact k
      · rw [if_neg c] at k ⊢; rw [h5, signed_wd n2] at k; exact k
     have o := Fl.o_lt a 0
     rw [lt_le6 n1] at o
     clear c1 c2 c34 n n1 n2 n2' z hz fa fb
     cases c : Fl.leF 0 a
     ·
      rw [c] at o HR
      have AB : Hid (∀ wz, Calls Tryz.prog 61 #[.float .f64 b] wz fun e w' => e = .returned (.float .f64 (Fl.rg b)) ∧ w' = wz) := fun wz => abs_any b wz hb
      have SG : Hid (∀ s wz, s < 18446744073709551616 → Calls Tryz.prog 118 #[.float .f64 s, .float .f64 b] wz fun e w' => e = .returned (.float .f64 (signedF s b)) ∧ w' = wz) := fun s wz hs => signed_any s b wz hs hb
      clear c
      generalize Fl.rg b = rb at *
      go_enter Tryz.func104, Tryz.ntmps104
      go_wp2_with fail
      refine (EB.out _).mono ?_
      rintro e' w9 ⟨rfl, hw9⟩
      subst hw9
      go_wp2_with fail
      refine (EA.out _).mono ?_
      rintro e' w9 ⟨rfl, hw9⟩
      subst hw9
      go_wp2_with fail
      refine (NN.out _).mono ?_
      rintro e' w9 ⟨rfl, hw9⟩
      subst hw9
      go_wp2_with fail
      refine (Z.out _).mono ?_
      rintro e' w9 ⟨rfl, hw9⟩
      subst hw9
      go_wp2_with fail
      refine (GP.out _).mono ?_
      rintro e' w1 ⟨s, rfl, hs, b1⟩
      have hsl := gra_lt hs
      obtain ⟨d, w2, hd, e2, b2⟩ := op_run .mul isMul 4611686018427387904 s w1
      obtain ⟨re, w3, hre, e3, b3⟩ := op_run .quo isQuo rb d w2
      have HF : Hid (rooR a b re (signedF s b)) := HR.out s d re _ hs hd (by rw [if_neg (by decide)]; exact ⟨hre, rfl⟩)
      have G := bw_trans (bw_trans b1 b2) b3
      clear HR hs hd hre b1 b2 b3
      have SS : Hid (∀ wz, Calls Tryz.prog 118 #[.float .f64 s, .float .f64 b] wz fun e w' => e = .returned (.float .f64 (signedF s b)) ∧ w' = wz) := fun wz => SG.out s wz hsl
      generalize signedF s b = im at *
      go_wp2_with fail
      refine (AB.out _).mono ?_
      rintro e' w9 ⟨rfl, hw9⟩
      subst hw9
      go_wp2_with fail
      refine (SS.out _).mono ?_
      rintro e' w9 ⟨rfl, hw9⟩
      subst hw9
      go_wp2
      go_ret
      exact ⟨_, _, rfl, HF.out, G⟩
     ·
      rw [c] at o HR
      clear c
      go_enter Tryz.func104, Tryz.ntmps104
      go_wp2_with fail
      refine (EB.out _).mono ?_
      rintro e' w9 ⟨rfl, hw9⟩
      subst hw9
      go_wp2_with fail
      refine (EA.out _).mono ?_
      rintro e' w9 ⟨rfl, hw9⟩
      subst hw9
      go_wp2_with fail
      refine (NN.out _).mono ?_
      rintro e' w9 ⟨rfl, hw9⟩
      subst hw9
      go_wp2_with fail
      refine (Z.out _).mono ?_
      rintro e' w9 ⟨rfl, hw9⟩
      subst hw9
      go_wp2_with fail
      refine (GP.out _).mono ?_
      rintro e' w1 ⟨s, rfl, hs, b1⟩
      obtain ⟨d, w2, hd, e2, b2⟩ := op_run .mul isMul 4611686018427387904 s w1
      obtain ⟨im, w3, him, e3, b3⟩ := op_run .quo isQuo b d w2
      have HF : Hid (rooR a b s im) := HR.out s d _ im hs hd (by rw [if_pos trivial]; exact ⟨rfl, him⟩)
      have G := bw_trans (bw_trans b1 b2) b3
      clear HR hs hd him b1 b2 b3
      go_wp2
      go_ret
      exact ⟨_, _, rfl, HF.out, G⟩
   ·
    rw [n] at NN
    have HL : Hid (rooR a b 9221120237041090561 9221120237041090561) := by
     show rooR _ _ _ _; unfold rooR
     rw [if_neg c1, if_neg n2', if_neg c2, if_pos (by rcases Bool.or_eq_true_iff.mp n with h | h; exact Or.inl h; exact Or.inr h)]
     exact ⟨by decide, by decide⟩
    clear c1 c2 n n2'
    go_enter Tryz.func104, Tryz.ntmps104
    go_wp2_with fail
    refine (EB.out _).mono ?_
    rintro e' w9 ⟨rfl, hw9⟩
    subst hw9
    go_wp2_with fail
    refine (EA.out _).mono ?_
    rintro e' w9 ⟨rfl, hw9⟩
    subst hw9
    go_wp2_with fail
    refine (NN.out _).mono ?_
    rintro e' w9 ⟨rfl, hw9⟩
    subst hw9
    go_wp2_with fail
    refine (nan6 _).mono ?_
    rintro e' w9 ⟨rfl, hw9⟩
    subst hw9
    go_wp2_with fail
    refine (nan6 _).mono ?_
    rintro e' w9 ⟨rfl, hw9⟩
    subst hw9
    go_wp2
    go_ret
    exact ⟨_, _, rfl, HL.out, Bw.refl _⟩
theorem pfinite_any (a b : Nat) (w : World) (ha : a < 18446744073709551616) (hb : b < 18446744073709551616) : Calls Tryz.prog 26 #[.complex .f64 a b] w fun e w' => e = .returned (.bool (Fl.finB a && Fl.finB b)) ∧ w' = w := by
 have NA : Hid (∀ wz, Calls Tryz.prog 43 #[.float .f64 a] wz fun e w' => e = .returned (.bool (Fl.finB a)) ∧ w' = wz) := fun wz => finite_any a wz ha
 have NB : Hid (∀ wz, Calls Tryz.prog 43 #[.float .f64 b] wz fun e w' => e = .returned (.bool (Fl.finB b)) ∧ w' = wz) := fun wz => finite_any b wz hb
 generalize Fl.finB a = x at *
 generalize Fl.finB b = y at *
 cases x
 ·
  go_enter Tryz.func26, Tryz.ntmps26
  go_wp2_with fail
  refine (NA.out _).mono ?_
  rintro e' w ⟨rfl, rfl⟩
  go_wp2
  go_ret
  exact ⟨rfl, rfl⟩
 ·
  go_enter Tryz.func26, Tryz.ntmps26
  go_wp2_with fail
  refine (NA.out _).mono ?_
  rintro e' w ⟨rfl, rfl⟩
  go_wp2_with fail
  refine (NB.out _).mono ?_
  rintro e' w ⟨rfl, rfl⟩
  go_wp2
  go_ret
  exact ⟨by cases y <;> rfl, rfl⟩
theorem csum_run {op : BinOp} (hop : op = .add ∨ op = .sub) {a b c d x y : Nat} {P : Program} {w w1 w2 : World} (e1 : ∀ t, (binOp op t (.float .f64 a) (.float .f64 c)).run P w = .ok (.float .f64 x) w1) (e2 : ∀ t, (binOp op t (.float .f64 b) (.float .f64 d)).run P w1 = .ok (.float .f64 y) w2) (t : TypeId) : (binOp op t (.complex .f64 a b) (.complex .f64 c d)).run P w = .ok (.complex .f64 x y) w2 := by
 rcases hop with rfl | rfl
 ·
  have k1 : (Op.floatArith .add .f64 a c).run P w = .ok (.float .f64 x) w1 := e1 0
  have k2 : (Op.floatArith .add .f64 b d).run P w1 = .ok (.float .f64 y) w2 := e2 0
  simp [binOp, Op.complexOp, Op.Complex.arith, k1, k2]
 ·
  have k1 : (Op.floatArith .sub .f64 a c).run P w = .ok (.float .f64 x) w1 := e1 0
  have k2 : (Op.floatArith .sub .f64 b d).run P w1 = .ok (.float .f64 y) w2 := e2 0
  simp [binOp, Op.complexOp, Op.Complex.arith, k1, k2]
theorem psub_any (a b c d : Nat) (w : World) : Calls Tryz.prog 18 #[.complex .f64 a b, .complex .f64 c d] w fun e w' => ∃ x y, e = .returned (.complex .f64 x y) ∧ opR .sub a c x ∧ opR .sub b d y ∧ Bw w w' := by
 obtain ⟨x, w1, hx, e1, b1⟩ := op_run .sub isSub a c w
 obtain ⟨y, w2, hy, e2, b2⟩ := op_run .sub isSub b d w1
 have B := bw_trans b1 b2
 have HX : Hid (opR .sub a c x) := hx
 have HY : Hid (opR .sub b d y) := hy
 have k := csum_run (Or.inr rfl) e1 e2
 clear hx hy b1 b2 e1 e2
 go_enter Tryz.func18, Tryz.ntmps18
 go_wp2
 go_ret
 exact ⟨x, y, rfl, HX.out, HY.out, B⟩
theorem near_any6 (a b c d m : Nat) (w : World) (ha : a < 18446744073709551616) (hb : b < 18446744073709551616) (hc : c < 18446744073709551616) (hd : d < 18446744073709551616) : Calls Tryz.prog 13 #[.complex .f64 a b, .complex .f64 c d, .float .f64 m] w fun e w' => ∃ r, e = .returned (.bool r) ∧ neaR a b c d m r ∧ Bw w w' := by
 go_enter Tryz.func13, Tryz.ntmps13
 go_wp2_with fail
 refine (psub_any a b c d _).mono ?_
 rintro e w1 ⟨x, y, rfl, hx, hy, b1⟩
 have hxl := hx.1
 have hyl := hy.1
 have HN : Hid (∀ l r, lenR x y l → r = Fl.leF l m → neaR a b c d m r) := fun l r h1 h2 => ⟨x, y, l, hx, hy, h1, h2⟩
 clear hx hy
 go_wp2_with fail
 refine (length_any x y _ hxl hyl).mono ?_
 rintro e w2 ⟨l, rfl, hl, b2⟩
 have B := bw_trans b1 b2
 have o := Fl.o_le l m
 have HF : Hid (neaR a b c d m (Fl.leF l m)) := HN.out l _ hl rfl
 clear HN hl b1 b2
 generalize Fl.leF l m = r at *
 go_wp2
 go_ret
 exact ⟨r, rfl, HF.out, B⟩
end Go.Proofs.YtfgfofedacehiaaGreat

