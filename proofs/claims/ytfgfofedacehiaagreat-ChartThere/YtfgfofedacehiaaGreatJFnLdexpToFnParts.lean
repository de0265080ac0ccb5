/-
 OWN TEXT: what math.Ldexp and Scale of package float return: the word nearest to the float times the power of two.
-/
import Derived.Test.YtfgfofedacehiaaGreatJFnToFnStairs
import Derived.Test.YtfgfofedacehiaaGreatJFlCToFlG
namespace Go.Proofs.YtfgfofedacehiaaGreat
open Go.ChangeShapes Go.WideShapes Go.ChangeAt Go.RowKit
set_option linter.unusedVariables false
attribute [local go_sem] frombits_call tobits_call run_neg
theorem mul_bits (x y : Nat) : floatBits .mul .f64 x y = Ieee.double.mul x y := rfl
theorem sub_normal {x : Nat} (hn : Fl.nan x = false) : (FloatKind.f64.format.order (Fl.rg x) 4503599627370496 == some .lt) = decide (Fl.rg x < 4503599627370496) := by
 rw [Fl.o_lt, Fl.ltF_of (by rw [Fl.nan_rg]; exact hn) (by decide), Fl.key_rg, show Fl.key 4503599627370496 = 4503599627370496 from by decide, decide_eq_decide]; omega
/-- a float made normal, and by which power of two it was made so -/
def nmF (x : Nat) : Nat := if Fl.rg x < 4503599627370496 then Fl.wd (Fl.sg x) (Fl.rq (Fl.vl (Fl.rg x) * 2 ^ 52) 0) else x
def nmE (x : Nat) : Int := if Fl.rg x < 4503599627370496 then -52 else 0
theorem normalize_any (x : Nat) (w : World) (hx : x < 18446744073709551616) (hf : Fl.rg x < 9218868437227405312) :
  Calls Tryz.prog 114 #[.float .f64 x] w fun e w' => e = .returned (.tuple #[.float .f64 (nmF x), .int .i64 (nmE x)]) ∧ w' = w := by
 have hn : Fl.nan x = false := by unfold Fl.nan; exact decide_eq_false (by omega)
 have g := sub_normal hn
 have m := fun (t : TypeId) w => run_float_arith (P := Tryz.prog) w .mul t .f64 x 4841369599423283200 _ ((mul_bits _ _).trans (Fl.mul_52 hf))
 by_cases c : Fl.rg x < 4503599627370496
 ·
  rw [decide_eq_true c] at g
  have H1 : Hid (nmF x = Fl.wd (Fl.sg x) (Fl.rq (Fl.vl (Fl.rg x) * 2 ^ 52) 0)) := if_pos c
  have H2 : Hid (nmE x = -52) := if_pos c
  generalize Fl.wd (Fl.sg x) (Fl.rq (Fl.vl (Fl.rg x) * 2 ^ 52) 0) = z at *
  clear c hn hf
  go_enter Tryz.func114, Tryz.ntmps114
  go_wp2_with (go_at_call 61; refine (abs_any _ _ (by assumption)).mono ?_; rintro e w' ⟨rfl, rfl⟩)
  go_ret2
  exact ⟨by rw [H1.out, H2.out]; rfl, rfl⟩
 ·
  rw [decide_eq_false c] at g
  have H1 : Hid (nmF x = x) := if_neg c
  have H2 : Hid (nmE x = 0) := if_neg c
  clear c hn hf m
  go_enter Tryz.func114, Tryz.ntmps114
  go_wp2_with (go_at_call 61; refine (abs_any _ _ (by assumption)).mono ?_; rintro e w' ⟨rfl, rfl⟩)
  go_ret2
  exact ⟨by rw [H1.out, H2.out]; rfl, rfl⟩
theorem isNaN_any (x : Nat) (w : World) : Calls Tryz.prog 79 #[.float .f64 x] w fun e w' => e = .returned (.bool (Fl.nan x)) ∧ w' = w := by
 go_enter Tryz.func79, Tryz.ntmps79
 go_wp2
 go_ret
 exact ⟨rb (by rw [Fl.o_ne, Fl.eqF_self]; simp), rfl⟩
theorem field_of {y : Nat} (hy : y < 18446744073709551616) : bits BinOp.and IntKind.i64 ((y : Int) / 4503599627370496) 2047 = ((Fl.rg y / 4503599627370496 : Nat) : Int) := by
 rw [Fl.and2047]; unfold Fl.rg; omega
theorem copysign_any (x y : Nat) (w : World) (hx : x < 18446744073709551616) (hy : y < 18446744073709551616) : Calls Tryz.prog 23 #[.float .f64 x, .float .f64 y] w fun e w' => e = .returned (.float .f64 (Fl.wd (Fl.sg y) (Fl.rg x))) ∧ w' = w := by
 have e1 := Fl.abs_int hx
 have e2 := Fl.and_sign hy
 have e3 := Fl.or_sign (y / 9223372036854775808) (Fl.rg x) (by omega) (Fl.rg_lt x)
 have H : Hid (Fl.wd (Fl.sg y) (Fl.rg x) = y / 9223372036854775808 * 9223372036854775808 + Fl.rg x) := Fl.wd_sg hy _
 generalize hS : y / 9223372036854775808 * 9223372036854775808 = S at *
 generalize hZ : S + Fl.rg x = Z at *
 clear hS hZ
 go_enter Tryz.func23, Tryz.ntmps23
 go_wp2
 go_ret
 exact ⟨rf H.out.symm, rfl⟩
theorem inf_any (s : Int) (w : World) (hs : s = 1 ∨ s = -1) : Calls Tryz.prog 46 #[.int .i64 s] w fun e w' => e = .returned (.float .f64 (Fl.wd (decide (s < 0)) 9218868437227405312)) ∧ w' = w := by
 rcases hs with rfl | rfl
 all_goals
  go_enter Tryz.func46, Tryz.ntmps46
  go_wp2
  go_ret
  exact ⟨rfl, rfl⟩
set_option maxHeartbeats 1000000 in
theorem ldexp_mid (x y : Nat) (n c F : Int) (w : World) (hx : x < 18446744073709551616) (hf : Fl.rg x < 9218868437227405312) (hz : ¬ Fl.rg x = 0) (hn : -20000 ≤ n) (hn' : n ≤ 20000)
  (ey : nmF x = y) (ec : nmE x = c) (hy : y < 18446744073709551616) (eF : bits BinOp.and IntKind.i64 ((y : Int) / 4503599627370496) 2047 = F) (h1 : 1 ≤ F) (h2 : F ≤ 2046) (hc : -52 ≤ c) (hc' : c ≤ 0)
  (S : Nat) (eS : bits .andNot .u64 (y : Int) 9218868437227405312 = (S : Int)) (Z R : Nat) (eZ : bits .or .u64 (S : Int) ((n + c + (F - 1023) + 1023) * 4503599627370496) = (Z : Int)) (mZ : floatBits .mul .f64 4607182418800017408 Z = some R)
  (k1 : -1022 ≤ n + c + (F - 1023)) (k2 : n + c + (F - 1023) ≤ 1023) :
  Calls Tryz.prog 100 #[.float .f64 x, .int .i64 n] w fun e w' => e = .returned (.float .f64 R) ∧ w' = w := by
 have na : Fl.nan x = false := by unfold Fl.nan; exact decide_eq_false (by omega)
 have g1 : (FloatKind.f64.format.order x 0 == some .eq) = false := by rw [Fl.o_eq, (up_tests hx na).2.1]; exact decide_eq_false hz
 have g2 : infB x 0 = false := decide_eq_false (by omega)
 clear hz
 have m := fun (t : TypeId) w => run_float_arith (P := Tryz.prog) w .mul t .f64 _ _ _ mZ
 clear mZ
 go_enter Tryz.func100, Tryz.ntmps100
 go_wp2_with (first
  | (go_at_call 45; refine (isInf_any _ _ _ (by assumption) (by decide)).mono ?_; rintro e w' ⟨rfl, rfl⟩)
  | (go_at_call 79; refine (isNaN_any _ _).mono ?_; rintro e w' ⟨rfl, rfl⟩)
  | (go_at_call 114; refine (normalize_any _ _ (by assumption) (by assumption)).mono ?_; rintro e w' ⟨rfl, rfl⟩)
  | (go_at_call 23; refine (copysign_any _ _ _ (by omega) (by assumption)).mono ?_; rintro e w' ⟨rfl, rfl⟩)
  | (go_at_call 46; refine (inf_any _ _ (by decide)).mono ?_; rintro e w' ⟨rfl, rfl⟩))
 go_ret
 exact ⟨rfl, rfl⟩
set_option maxHeartbeats 1000000 in
theorem ldexp_low (x y : Nat) (n c F : Int) (w : World) (hx : x < 18446744073709551616) (hf : Fl.rg x < 9218868437227405312) (hz : ¬ Fl.rg x = 0) (hn : -20000 ≤ n) (hn' : n ≤ 20000)
  (ey : nmF x = y) (ec : nmE x = c) (hy : y < 18446744073709551616) (eF : bits BinOp.and IntKind.i64 ((y : Int) / 4503599627370496) 2047 = F) (h1 : 1 ≤ F) (h2 : F ≤ 2046) (hc : -52 ≤ c) (hc' : c ≤ 0)
  (S : Nat) (eS : bits .andNot .u64 (y : Int) 9218868437227405312 = (S : Int)) (Z R : Nat) (eZ : bits .or .u64 (S : Int) ((n + c + (F - 1023) + 53 + 1023) * 4503599627370496) = (Z : Int)) (mZ : floatBits .mul .f64 4368491638549381120 Z = some R)
  (k1 : -1075 ≤ n + c + (F - 1023)) (k2 : n + c + (F - 1023) < -1022) :
  Calls Tryz.prog 100 #[.float .f64 x, .int .i64 n] w fun e w' => e = .returned (.float .f64 R) ∧ w' = w := by
 have na : Fl.nan x = false := by unfold Fl.nan; exact decide_eq_false (by omega)
 have g1 : (FloatKind.f64.format.order x 0 == some .eq) = false := by rw [Fl.o_eq, (up_tests hx na).2.1]; exact decide_eq_false hz
 have g2 : infB x 0 = false := decide_eq_false (by omega)
 clear hz
 have m := fun (t : TypeId) w => run_float_arith (P := Tryz.prog) w .mul t .f64 _ _ _ mZ
 clear mZ
 go_enter Tryz.func100, Tryz.ntmps100
 go_wp2_with (first
  | (go_at_call 45; refine (isInf_any _ _ _ (by assumption) (by decide)).mono ?_; rintro e w' ⟨rfl, rfl⟩)
  | (go_at_call 79; refine (isNaN_any _ _).mono ?_; rintro e w' ⟨rfl, rfl⟩)
  | (go_at_call 114; refine (normalize_any _ _ (by assumption) (by assumption)).mono ?_; rintro e w' ⟨rfl, rfl⟩)
  | (go_at_call 23; refine (copysign_any _ _ _ (by omega) (by assumption)).mono ?_; rintro e w' ⟨rfl, rfl⟩)
  | (go_at_call 46; refine (inf_any _ _ (by decide)).mono ?_; rintro e w' ⟨rfl, rfl⟩))
 go_ret
 exact ⟨rfl, rfl⟩
set_option maxHeartbeats 1000000 in
theorem ldexp_nought (x y : Nat) (n c F : Int) (w : World) (hx : x < 18446744073709551616) (hf : Fl.rg x < 9218868437227405312) (hz : ¬ Fl.rg x = 0) (hn : -20000 ≤ n) (hn' : n ≤ 20000)
  (ey : nmF x = y) (ec : nmE x = c) (hy : y < 18446744073709551616) (eF : bits BinOp.and IntKind.i64 ((y : Int) / 4503599627370496) 2047 = F) (h1 : 1 ≤ F) (h2 : F ≤ 2046) (hc : -52 ≤ c) (hc' : c ≤ 0)
  (k1 : n + c + (F - 1023) < -1075) :
  Calls Tryz.prog 100 #[.float .f64 x, .int .i64 n] w fun e w' => e = .returned (.float .f64 (Fl.wd (Fl.sg y) 0)) ∧ w' = w := by
 have na : Fl.nan x = false := by unfold Fl.nan; exact decide_eq_false (by omega)
 have g1 : (FloatKind.f64.format.order x 0 == some .eq) = false := by rw [Fl.o_eq, (up_tests hx na).2.1]; exact decide_eq_false hz
 have g2 : infB x 0 = false := decide_eq_false (by omega)
 clear hz
 have e0 : Fl.rg 0 = 0 := by decide
 go_enter Tryz.func100, Tryz.ntmps100
 go_wp2_with (first
  | (go_at_call 45; refine (isInf_any _ _ _ (by assumption) (by decide)).mono ?_; rintro e w' ⟨rfl, rfl⟩)
  | (go_at_call 79; refine (isNaN_any _ _).mono ?_; rintro e w' ⟨rfl, rfl⟩)
  | (go_at_call 114; refine (normalize_any _ _ (by assumption) (by assumption)).mono ?_; rintro e w' ⟨rfl, rfl⟩)
  | (go_at_call 23; refine (copysign_any _ _ _ (by omega) (by assumption)).mono ?_; rintro e w' ⟨rfl, rfl⟩)
  | (go_at_call 46; refine (inf_any _ _ (by decide)).mono ?_; rintro e w' ⟨rfl, rfl⟩))
 go_ret
 exact ⟨rfl, rfl⟩
set_option maxHeartbeats 1000000 in
theorem ldexp_far (x y : Nat) (n c F : Int) (w : World) (hx : x < 18446744073709551616) (hf : Fl.rg x < 9218868437227405312) (hz : ¬ Fl.rg x = 0) (hn : -20000 ≤ n) (hn' : n ≤ 20000)
  (ey : nmF x = y) (ec : nmE x = c) (hy : y < 18446744073709551616) (eF : bits BinOp.and IntKind.i64 ((y : Int) / 4503599627370496) 2047 = F) (h1 : 1 ≤ F) (h2 : F ≤ 2046) (hc : -52 ≤ c) (hc' : c ≤ 0)
  (k1 : 1023 < n + c + (F - 1023)) (b : Bool) (gb : (FloatKind.f64.format.order y 0 == some .lt) = b) :
  Calls Tryz.prog 100 #[.float .f64 x, .int .i64 n] w fun e w' => e = .returned (.float .f64 (Fl.wd b 9218868437227405312)) ∧ w' = w := by
 have na : Fl.nan x = false := by unfold Fl.nan; exact decide_eq_false (by omega)
 have g1 : (FloatKind.f64.format.order x 0 == some .eq) = false := by rw [Fl.o_eq, (up_tests hx na).2.1]; exact decide_eq_false hz
 have g2 : infB x 0 = false := decide_eq_false (by omega)
 clear hz
 cases b
 all_goals
  go_enter Tryz.func100, Tryz.ntmps100
  go_wp2_with (first
   | (go_at_call 45; refine (isInf_any _ _ _ (by assumption) (by decide)).mono ?_; rintro e w' ⟨rfl, rfl⟩)
   | (go_at_call 79; refine (isNaN_any _ _).mono ?_; rintro e w' ⟨rfl, rfl⟩)
   | (go_at_call 114; refine (normalize_any _ _ (by assumption) (by assumption)).mono ?_; rintro e w' ⟨rfl, rfl⟩)
   | (go_at_call 23; refine (copysign_any _ _ _ (by omega) (by assumption)).mono ?_; rintro e w' ⟨rfl, rfl⟩)
   | (go_at_call 46; refine (inf_any _ _ (by decide)).mono ?_; rintro e w' ⟨rfl, rfl⟩))
  go_ret
  exact ⟨rfl, rfl⟩
/-- what a float made normal is -/
theorem nm_facts {x : Nat} (hx : x < 18446744073709551616) (hf : Fl.rg x < 9218868437227405312) (hz : ¬ Fl.rg x = 0) :
  nmF x < 18446744073709551616 ∧ Fl.sg (nmF x) = Fl.sg x ∧ 4503599627370496 ≤ Fl.rg (nmF x) ∧ Fl.rg (nmF x) < 9218868437227405312 ∧ -52 ≤ nmE x ∧ nmE x ≤ 0 ∧ Fl.vl (Fl.rg (nmF x)) = Fl.vl (Fl.rg x) * 2 ^ (-nmE x).toNat := by
 by_cases c : Fl.rg x < 4503599627370496
 ·
  obtain ⟨h1, h2, h3⟩ := Fl.rq_52 (Fl.rg x) c hz
  have e1 : nmF x = Fl.wd (Fl.sg x) (Fl.rq (Fl.vl (Fl.rg x) * 2 ^ 52) 0) := if_pos c
  have e2 : nmE x = -52 := if_pos c
  rw [e1, e2]
  generalize hq : Fl.rq (Fl.vl (Fl.rg x) * 2 ^ 52) 0 = q at *
  rw [Fl.sg_wd _ _ (by omega), Fl.rg_wd _ _ (by omega)]
  exact ⟨Fl.wd_lt _ _ (by omega), rfl, h2, by omega, by omega, by omega, h1⟩
 ·
  have e1 : nmF x = x := if_neg c
  have e2 : nmE x = 0 := if_neg c
  rw [e1, e2]
  exact ⟨hx, rfl, by omega, hf, by omega, by omega, by simp⟩
theorem norm_target (v v' M Fm : Nat) (n c E : Int) (hc : c ≤ 0) (h1 : v' = v * 2 ^ (-c).toNat) (h2 : v' = M * 2 ^ Fm) (hE : E + 1022 = n + c + Fm) : Fl.rz v n = Fl.rz M (E + 1022) := by
 have e1 := Fl.rz_shift v (-c).toNat (n + c)
 rw [show n + c + ((-c).toNat : Int) = n by omega, ← h1, h2] at e1
 rw [← e1, Fl.rz_shift, hE]
/-- a float times 2 to the power of n, rounded once -/
def scF (x : Nat) (n : Int) : Nat := if Fl.finB x && !decide (Fl.rg x = 0) then Fl.wd (Fl.sg x) (Fl.rz (Fl.vl (Fl.rg x)) n) else x
theorem rz_in (M : Nat) (k : Nat) (h1 : 4503599627370496 ≤ M) (h2 : M < 9007199254740992) (hk : k ≤ 2045) : Fl.rz M (k : Int) = k * 4503599627370496 + M := by
 unfold Fl.rz
 rw [show ((k : Int)).toNat = k by omega, show (-(k : Int)).toNat = 0 by omega, ← Fl.vl_comb k M (by omega) (Or.inr h1), Fl.rq_vl _ (by omega)]
theorem ldexp_fin (x : Nat) (n : Int) (w : World) (hx : x < 18446744073709551616) (hf : Fl.rg x < 9218868437227405312) (hz : ¬ Fl.rg x = 0) (hn : -20000 ≤ n) (hn' : n ≤ 20000) :
  Calls Tryz.prog 100 #[.float .f64 x, .int .i64 n] w fun e w' => e = .returned (.float .f64 (Fl.wd (Fl.sg x) (Fl.rz (Fl.vl (Fl.rg x)) n))) ∧ w' = w := by
 obtain ⟨y1, y2, y3, y4, c1, c2, v1⟩ := nm_facts hx hf hz
 generalize ey : nmF x = y at *
 generalize ec : nmE x = c at *
 have eF := field_of y1
 have v2 := Fl.vl_big y3
 have hr : Fl.rg y = y % 9223372036854775808 := rfl
 have f1 : 1 ≤ Fl.rg y / 4503599627370496 := by omega
 have f2 : Fl.rg y / 4503599627370496 ≤ 2046 := by omega
 have m1 : 4503599627370496 ≤ 4503599627370496 + Fl.rg y % 4503599627370496 := by omega
 have m2 : 4503599627370496 + Fl.rg y % 4503599627370496 < 9007199254740992 := by omega
 have ff : y % 4503599627370496 = Fl.rg y % 4503599627370496 := by omega
 have eS := Fl.and_exp y1
 have hs1 : y / 9223372036854775808 ≤ 1 := by omega
 generalize hF : Fl.rg y / 4503599627370496 = F at *
 have tgt := norm_target _ _ _ _ n c (n + c + ((F : Int) - 1023)) c2 v1 v2 (by omega)
 generalize hM : 4503599627370496 + Fl.rg y % 4503599627370496 = M at *
 rw [tgt, ← y2]
 by_cases k1 : n + c + ((F : Int) - 1023) < -1075
 ·
  have e0 : Fl.rz M (n + c + ((F : Int) - 1023) + 1022) = 0 := by
   rw [show n + c + ((F : Int) - 1023) + 1022 = -(((-(n + c + ((F : Int) - 1023) + 1022)).toNat : Nat) : Int) by omega, Fl.rz_neg]
   refine Fl.rq_low _ _ ?_
   have : 2 ^ 54 ≤ 2 ^ (-(n + c + ((F : Int) - 1023) + 1022)).toNat := Nat.pow_le_pow_right (by omega) (by omega)
   omega
  rw [e0]
  exact ldexp_nought x y n c F w hx hf hz hn hn' ey ec y1 eF (by omega) (by omega) c1 c2 k1
 by_cases k2 : 1023 < n + c + ((F : Int) - 1023)
 ·
  have e0 : Fl.rz M (n + c + ((F : Int) - 1023) + 1022) = 9218868437227405312 := by
   unfold Fl.rz
   rw [show (-(n + c + ((F : Int) - 1023) + 1022)).toNat = 0 by omega]
   exact Fl.rq_far_mul _ _ m1 (by omega)
  rw [e0]
  refine ldexp_far x y n c F w hx hf hz hn hn' ey ec y1 eF (by omega) (by omega) c1 c2 k2 _ ?_
  have ny : Fl.nan y = false := by unfold Fl.nan; exact decide_eq_false (by omega)
  rw [Fl.o_lt, (up_tests y1 ny).2.2, Fl.sg_lt y1, decide_eq_decide]
  omega
 by_cases k3 : n + c + ((F : Int) - 1023) < -1022
 ·
  obtain ⟨k, hk⟩ := Int.eq_ofNat_of_zero_le (a := n + c + ((F : Int) - 1023) + 1075) (by omega)
  have eZ := Fl.or_field (y / 9223372036854775808) (k + 1) (y % 4503599627370496) hs1 (by omega) (by omega)
  have hZ := Fl.wd_sg y1 ((k + 1) * 4503599627370496 + y % 4503599627370496)
  rw [← hZ] at eZ
  have r1 := Fl.rg_wd (Fl.sg y) ((k + 1) * 4503599627370496 + y % 4503599627370496) (by omega)
  have s1 := Fl.sg_wd (Fl.sg y) ((k + 1) * 4503599627370496 + y % 4503599627370496) (by omega)
  have mZ := Fl.mul_53 (y := Fl.wd (Fl.sg y) ((k + 1) * 4503599627370496 + y % 4503599627370496)) (by rw [r1]; omega)
  rw [r1, s1] at mZ
  have ev : Fl.vl ((k + 1) * 4503599627370496 + y % 4503599627370496) = M * 2 ^ k := by
   rw [← Fl.vl_comb k M (by omega) (Or.inr m1), show (k + 1) * 4503599627370496 + y % 4503599627370496 = k * 4503599627370496 + M by omega]
  rw [ev] at mZ
  have et : Fl.rz M (n + c + ((F : Int) - 1023) + 1022) = Fl.rq (M * 2 ^ k) 53 := by
   rw [show n + c + ((F : Int) - 1023) + 1022 = -((53 - k : Nat) : Int) by omega, Fl.rz_neg]
   have := Fl.rq_mul M k (53 - k)
   rw [show 53 - k + k = 53 by omega] at this
   exact this.symm
  rw [et]
  refine ldexp_low x y n c F w hx hf hz hn hn' ey ec y1 eF (by omega) (by omega) c1 c2 _ eS _ _ ?_ mZ (by omega) k3
  rw [← eZ]
  congr 1
  omega
 ·
  obtain ⟨k, hk⟩ := Int.eq_ofNat_of_zero_le (a := n + c + ((F : Int) - 1023) + 1022) (by omega)
  have eZ := Fl.or_field (y / 9223372036854775808) (k + 1) (y % 4503599627370496) hs1 (by omega) (by omega)
  have hZ := Fl.wd_sg y1 ((k + 1) * 4503599627370496 + y % 4503599627370496)
  rw [← hZ] at eZ
  have r1 := Fl.rg_wd (Fl.sg y) ((k + 1) * 4503599627370496 + y % 4503599627370496) (by omega)
  have mZ := Fl.mul_one (y := Fl.wd (Fl.sg y) ((k + 1) * 4503599627370496 + y % 4503599627370496)) (by rw [r1]; omega) (Fl.wd_lt _ _ (by omega))
  have et : Fl.rz M (n + c + ((F : Int) - 1023) + 1022) = (k + 1) * 4503599627370496 + y % 4503599627370496 := by
   rw [hk]
   show Fl.rz M (k : Int) = _
   rw [rz_in M k m1 m2 (by omega)]; omega
  rw [et]
  refine ldexp_mid x y n c F w hx hf hz hn hn' ey ec y1 eF (by omega) (by omega) c1 c2 _ eS _ _ ?_ mZ (by omega) (by omega)
  rw [← eZ]
  congr 1
  omega
theorem ldexp_stay (x : Nat) (n : Int) (w : World) (hx : x < 18446744073709551616) (h : Fl.rg x = 0 ∨ 9218868437227405312 ≤ Fl.rg x) :
  Calls Tryz.prog 100 #[.float .f64 x, .int .i64 n] w fun e w' => e = .returned (.float .f64 x) ∧ w' = w := by
 cases na : Fl.nan x
 ·
  have hl := Fl.nan_le na
  have g1 : (FloatKind.f64.format.order x 0 == some .eq) = decide (Fl.rg x = 0) := by rw [Fl.o_eq, (up_tests hx na).2.1]
  by_cases c : Fl.rg x = 0
  ·
   rw [decide_eq_true c] at g1
   clear h hl c
   go_enter Tryz.func100, Tryz.ntmps100
   go_wp2
   go_ret
   exact ⟨rfl, rfl⟩
  ·
   rw [decide_eq_false c] at g1
   have g2 : infB x 0 = true := decide_eq_true (by omega)
   clear h hl c
   go_enter Tryz.func100, Tryz.ntmps100
   go_wp2_with (go_at_call 45; refine (isInf_any _ _ _ (by assumption) (by decide)).mono ?_; rintro e w' ⟨rfl, rfl⟩)
   go_ret
   exact ⟨rfl, rfl⟩
 ·
  have g1 : (FloatKind.f64.format.order x 0 == some .eq) = false := by rw [Fl.o_eq]; simp [Fl.eqF, na]
  have hl := Fl.nan_lt na
  have g2 : infB x 0 = false := decide_eq_false (by omega)
  clear h hl
  go_enter Tryz.func100, Tryz.ntmps100
  go_wp2_with (first | (go_at_call 45; refine (isInf_any _ _ _ (by assumption) (by decide)).mono ?_; rintro e w' ⟨rfl, rfl⟩) | (go_at_call 79; refine (isNaN_any _ _).mono ?_; rintro e w' ⟨rfl, rfl⟩))
  go_ret
  exact ⟨rfl, rfl⟩
theorem scF_fin {x : Nat} (hf : Fl.rg x < 9218868437227405312) (hz : ¬ Fl.rg x = 0) (n : Int) : scF x n = Fl.wd (Fl.sg x) (Fl.rz (Fl.vl (Fl.rg x)) n) := by
 unfold scF; rw [if_pos (by simp [Fl.finB, hf, hz])]
theorem scF_stay {x : Nat} (h : Fl.rg x = 0 ∨ 9218868437227405312 ≤ Fl.rg x) (n : Int) : scF x n = x := by
 unfold scF
 rw [if_neg]
 simp only [Fl.finB, Bool.and_eq_true, decide_eq_true_eq, Bool.not_eq_true', decide_eq_false_iff_not]
 omega
theorem scF_lt {x : Nat} (hx : x < 18446744073709551616) (n : Int) : scF x n < 18446744073709551616 := by
 unfold scF
 have := Fl.rz_le (Fl.vl (Fl.rg x)) n
 split
 · exact Fl.wd_lt _ _ (by omega)
 · exact hx
theorem Ldexp_any (x : Nat) (n : Int) (w : World) (hx : x < 18446744073709551616) (hn : -20000 ≤ n) (hn' : n ≤ 20000) :
  Calls Tryz.prog 81 #[.float .f64 x, .int .i64 n] w fun e w' => e = .returned (.float .f64 (scF x n)) ∧ w' = w := by
 have key : ∀ w, Calls Tryz.prog 100 #[.float .f64 x, .int .i64 n] w fun e w' => e = .returned (.float .f64 (scF x n)) ∧ w' = w := by
  intro w
  by_cases h : Fl.rg x = 0 ∨ 9218868437227405312 ≤ Fl.rg x
  · rw [scF_stay h]; exact ldexp_stay x n w hx h
  · rw [scF_fin (by omega) (by omega)]; exact ldexp_fin x n w hx (by omega) (by omega) hn hn'
 generalize scF x n = R at *
 have K : Hid (∀ w, Calls Tryz.prog 100 #[.float .f64 x, .int .i64 n] w fun e w' => e = .returned (.float .f64 R) ∧ w' = w) := key
 clear key
 go_enter Tryz.func81, Tryz.ntmps81
 go_wp2_with (go_at_call 100; refine (K.out _).mono ?_; rintro e w' ⟨rfl, rfl⟩)
 go_ret
 exact ⟨rfl, rfl⟩
theorem scF_clamp {x : Nat} (n : Int) : scF x (min (max n (-4096)) 4096) = scF x n := by
 by_cases h : Fl.rg x = 0 ∨ 9218868437227405312 ≤ Fl.rg x
 · rw [scF_stay h, scF_stay h]
 ·
  have h1 : Fl.rg x < 9218868437227405312 := by omega
  have h2 : ¬ Fl.rg x = 0 := by omega
  rw [scF_fin h1 h2, scF_fin h1 h2, Fl.rz_clamp _ _ (Fl.vl_pos h2) (Fl.vl_lt h1)]
theorem scale_any (x : Nat) (n : Int) (w : World) (hx : x < 18446744073709551616) (hn : -9223372036854775808 ≤ n) (hn' : n ≤ 9223372036854775807) :
  Calls Tryz.prog 51 #[.float .f64 x, .int .i64 n] w fun e w' => e = .returned (.float .f64 (scF x n)) ∧ w' = w := by
 have h := scF_clamp (x := x) n
 by_cases c1 : 4096 < n
 ·
  rw [show min (max n (-4096)) 4096 = 4096 by omega] at h
  have H : Hid (scF x 4096 = scF x n) := h
  clear h
  go_enter Tryz.func51, Tryz.ntmps51
  go_wp2_with (go_at_call 81; refine (Ldexp_any _ _ _ (by assumption) (by omega) (by omega)).mono ?_; rintro e w' ⟨rfl, rfl⟩)
  go_ret
  exact ⟨rf H.out, rfl⟩
 ·
  by_cases c2 : n < -4096
  ·
   rw [show min (max n (-4096)) 4096 = -4096 by omega] at h
   have H : Hid (scF x (-4096) = scF x n) := h
   clear h
   go_enter Tryz.func51, Tryz.ntmps51
   go_wp2_with (go_at_call 81; refine (Ldexp_any _ _ _ (by assumption) (by omega) (by omega)).mono ?_; rintro e w' ⟨rfl, rfl⟩)
   go_ret
   exact ⟨rf H.out, rfl⟩
  ·
   clear h
   go_enter Tryz.func51, Tryz.ntmps51
   go_wp2_with (go_at_call 81; refine (Ldexp_any _ _ _ (by assumption) (by omega) (by omega)).mono ?_; rintro e w' ⟨rfl, rfl⟩)
   go_ret
   exact ⟨rfl, rfl⟩
end Go.Proofs.YtfgfofedacehiaaGreat

/-
 OWN TEXT: what math.Frexp and Parts of package float return, for every float.
-/
namespace Go.Proofs.YtfgfofedacehiaaGreat
open Go.ChangeShapes Go.WideShapes Go.ChangeAt Go.RowKit
set_option linter.unusedVariables false
attribute [local go_sem] frombits_call tobits_call run_neg
theorem field_u {y : Nat} (hy : y < 18446744073709551616) : bits BinOp.and IntKind.u64 ((y : Int) / 4503599627370496) 2047 = ((Fl.rg y / 4503599627370496 : Nat) : Int) := by
 have e := u64_and_nat (y / 4503599627370496) 2047 (by omega) (by omega)
 rw [show ((2047 : Nat) : Int) = 2047 from rfl, show ((y / 4503599627370496 : Nat) : Int) = (y : Int) / 4503599627370496 from by omega] at e
 rw [e]
 have h := Nat.and_two_pow_sub_one_eq_mod (y / 4503599627370496) 11
 rw [show 2 ^ 11 - 1 = 2047 from rfl] at h
 rw [h]
 unfold Fl.rg
 omega
/-- a float's part from 1/2 to below 1, and its power of two -/
def ptF (x : Nat) : Nat := Fl.wd (Fl.sg x) (4602678819172646912 + Fl.rg (nmF x) % 4503599627370496)
def ptE (x : Nat) : Int := nmE x + (((Fl.rg (nmF x) / 4503599627370496 : Nat) : Int) - 1023 + 1)
theorem frexp_fin (x : Nat) (w : World) (hx : x < 18446744073709551616) (hf : Fl.rg x < 9218868437227405312) (hz : ¬ Fl.rg x = 0) :
  Calls Tryz.prog 113 #[.float .f64 x] w fun e w' => e = .returned (.tuple #[.float .f64 (ptF x), .int .i64 (ptE x)]) ∧ w' = w := by
 have na : Fl.nan x = false := by unfold Fl.nan; exact decide_eq_false (by omega)
 have g1 : (FloatKind.f64.format.order x 0 == some .eq) = false := by rw [Fl.o_eq, (up_tests hx na).2.1]; exact decide_eq_false hz
 have g2 : infB x 0 = false := decide_eq_false (by omega)
 obtain ⟨y1, y2, y3, y4, c1, c2, v1⟩ := nm_facts hx hf hz
 have eF := field_u y1
 have eS := Fl.and_exp y1
 have hr : Fl.rg (nmF x) = nmF x % 9223372036854775808 := rfl
 have eZ := Fl.or_field (nmF x / 9223372036854775808) 1022 (nmF x % 4503599627370496) (by omega) (by omega) (by omega)
 have H1 : Hid (ptF x = nmF x / 9223372036854775808 * 9223372036854775808 + (1022 * 4503599627370496 + nmF x % 4503599627370496)) := by
  show ptF x = _
  unfold ptF
  rw [← y2, Fl.wd_sg y1, show Fl.rg (nmF x) % 4503599627370496 = nmF x % 4503599627370496 by omega]
 have f1 : 1 ≤ Fl.rg (nmF x) / 4503599627370496 := by omega
 have f2 : Fl.rg (nmF x) / 4503599627370496 ≤ 2046 := by omega
 have H2 : Hid (ptE x = nmE x + (((Fl.rg (nmF x) / 4503599627370496 : Nat) : Int) - 1023 + 1)) := rfl
 rw [show ((1022 * 4503599627370496 : Nat) : Int) = 4602678819172646912 from rfl] at eZ
 generalize nmF x / 9223372036854775808 * 9223372036854775808 + (1022 * 4503599627370496 + nmF x % 4503599627370496) = Z at *
 generalize nmF x / 9223372036854775808 * 9223372036854775808 + nmF x % 4503599627370496 = S at *
 generalize Fl.rg (nmF x) / 4503599627370496 = F at *
 generalize ec : nmE x = c at *
 clear y2 y3 y4 v1 hr hz
 go_enter Tryz.func113, Tryz.ntmps113
 go_wp2_with (first
  | (go_at_call 45; refine (isInf_any _ _ _ (by assumption) (by decide)).mono ?_; rintro e w' ⟨rfl, rfl⟩)
  | (go_at_call 79; refine (isNaN_any _ _).mono ?_; rintro e w' ⟨rfl, rfl⟩)
  | (go_at_call 114; refine (normalize_any _ _ (by assumption) (by assumption)).mono ?_; rintro e w' ⟨rfl, rfl⟩))
 go_ret2
 refine ⟨?_, rfl⟩
 rw [H1.out, H2.out]
 rfl
theorem frexp_stay (x : Nat) (w : World) (hx : x < 18446744073709551616) (h : Fl.rg x = 0 ∨ 9218868437227405312 ≤ Fl.rg x) :
  Calls Tryz.prog 113 #[.float .f64 x] w fun e w' => e = .returned (.tuple #[.float .f64 x, .int .i64 0]) ∧ w' = w := by
 cases na : Fl.nan x
 ·
  have hl := Fl.nan_le na
  have g1 : (FloatKind.f64.format.order x 0 == some .eq) = decide (Fl.rg x = 0) := by rw [Fl.o_eq, (up_tests hx na).2.1]
  by_cases c : Fl.rg x = 0
  ·
   rw [decide_eq_true c] at g1
   clear h hl c
   go_enter Tryz.func113, Tryz.ntmps113
   go_wp2
   go_ret2
   exact ⟨rfl, rfl⟩
  ·
   rw [decide_eq_false c] at g1
   have g2 : infB x 0 = true := decide_eq_true (by omega)
   clear h hl c
   go_enter Tryz.func113, Tryz.ntmps113
   go_wp2_with (go_at_call 45; refine (isInf_any _ _ _ (by assumption) (by decide)).mono ?_; rintro e w' ⟨rfl, rfl⟩)
   go_ret2
   exact ⟨rfl, rfl⟩
 ·
  have g1 : (FloatKind.f64.format.order x 0 == some .eq) = false := by rw [Fl.o_eq]; simp [Fl.eqF, na]
  have hl := Fl.nan_lt na
  have g2 : infB x 0 = false := decide_eq_false (by omega)
  clear h hl
  go_enter Tryz.func113, Tryz.ntmps113
  go_wp2_with (first | (go_at_call 45; refine (isInf_any _ _ _ (by assumption) (by decide)).mono ?_; rintro e w' ⟨rfl, rfl⟩) | (go_at_call 79; refine (isNaN_any _ _).mono ?_; rintro e w' ⟨rfl, rfl⟩))
  go_ret2
  exact ⟨rfl, rfl⟩
/-- what Parts tells -/
def paF (x : Nat) : Nat := if Fl.rg x = 0 ∨ 9218868437227405312 ≤ Fl.rg x then x else ptF x
def paE (x : Nat) : Int := if Fl.rg x = 0 ∨ 9218868437227405312 ≤ Fl.rg x then 0 else ptE x
theorem parts_any (x : Nat) (w : World) (hx : x < 18446744073709551616) :
  Calls Tryz.prog 80 #[.float .f64 x] w fun e w' => e = .returned (.tuple #[.float .f64 (paF x), .int .i64 (paE x)]) ∧ w' = w := by
 have key : ∀ w, Calls Tryz.prog 113 #[.float .f64 x] w fun e w' => e = .returned (.tuple #[.float .f64 (paF x), .int .i64 (paE x)]) ∧ w' = w := by
  intro w
  unfold paF paE
  by_cases h : Fl.rg x = 0 ∨ 9218868437227405312 ≤ Fl.rg x
  · rw [if_pos h, if_pos h]; exact frexp_stay x w hx h
  · rw [if_neg h, if_neg h]; exact frexp_fin x w hx (by omega) (by omega)
 have K : Hid (∀ w, Calls Tryz.prog 113 #[.float .f64 x] w fun e w' => e = .returned (.tuple #[.float .f64 (paF x), .int .i64 (paE x)]) ∧ w' = w) := key
 clear key
 go_enter Tryz.func80, Tryz.ntmps80
 go_wp2_with (first | (go_at_call 113; refine (K.out _).mono ?_; rintro e w' ⟨rfl, rfl⟩) | go_in)
 go_ret2
 exact ⟨rfl, rfl⟩
end Go.Proofs.YtfgfofedacehiaaGreat

