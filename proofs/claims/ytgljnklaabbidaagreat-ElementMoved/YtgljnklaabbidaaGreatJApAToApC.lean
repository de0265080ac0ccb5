/-
  OWN TEXT: package angle's sine, cosine, pieces of quarters (eddy/angle.sine, cosine, fit, without), for every float.
-/
import Derived.Test.YtgljnklaabbidaaGreatJAnBToAnC
import Derived.Test.YtgljnklaabbidaaGreatJFnWhole
import Derived.Test.YtgljnklaabbidaaGreatJFnEqToEqE
import Derived.Test.YtgljnklaabbidaaGreatJFnLdexpToFnParts
namespace Go.Proofs.YtgljnklaabbidaaGreat
open Go.ChangeShapes Go.WideShapes Go.ChangeAt Go.RowKit
set_option linter.unusedVariables false
attribute [local go_sem] frombits_call tobits_call run_neg
theorem pi_any (w : World) : Calls Tryz.prog 111 #[] w fun e w' => e = .returned (.tuple #[.float .f64 4614256656552045848, .float .f64 4368955796522032135]) ∧ w' = w := by
  go_enter Tryz.func111, Tryz.ntmps111
  go_wp2_with go_in
  go_ret2
  exact ⟨rfl, rfl⟩
theorem nan5_any (w : World) : Calls Tryz.prog 92 #[] w fun e w' => e = .returned (.float .f64 9221120237041090561) ∧ w' = w := by
  go_enter Tryz.func92, Tryz.ntmps92
  go_wp2_with go_in
  go_ret
  exact ⟨rfl, rfl⟩
theorem fit5_any (x : Nat) (w : World) (hx : x < 18446744073709551616) : Calls Tryz.prog 106 #[.float .f64 x] w fun e w' => e = .returned (.bool (fitB x)) ∧ w' = w := by
  have eb : Fl.withinB x 4697254411347427328 = fitB x := by
    unfold Fl.withinB fitB Fl.leF
    rw [Fl.nan_rg]
    have hl := Fl.rg_lt x
    have hs : Fl.sg (Fl.rg x) = false := by rw [Fl.sg_lt (by omega)]; exact decide_eq_false (by omega)
    have hk : Fl.key (Fl.rg x) = (Fl.rg x : Int) := by unfold Fl.key; rw [hs, if_neg (by decide), Fl.rg_rg]
    rw [hk]
  have AB : Hid (∀ wz, Calls Tryz.prog 30 #[.float .f64 x, .float .f64 4697254411347427328] wz fun e w' => e = .returned (.bool (fitB x)) ∧ w' = wz) := by
    intro wz
    rw [← eb]
    exact within_any x 4697254411347427328 wz hx
  clear eb
  generalize fitB x = b at *
  go_enter Tryz.func106, Tryz.ntmps106
  go_wp2_with (go_at_call 30; refine (AB.out _).mono ?_; rintro e w ⟨rfl, rfl⟩)
  go_ret
  exact ⟨rfl, rfl⟩
theorem tw_sin : ∀ i : Nat, i < 9 → floatBits .add .f64 (floatOfInt .f64 (2 * (9 - (i : Int)))) 4607182418800017408 = some (floatOfInt .f64 (2 * (9 - (i : Int)) + 1)) ∧ floatBits .mul .f64 (floatOfInt .f64 (2 * (9 - (i : Int)))) (floatOfInt .f64 (2 * (9 - (i : Int)) + 1)) = some (floatOfInt .f64 (2 * (9 - (i : Int)) * (2 * (9 - (i : Int)) + 1))) := by decide +kernel
theorem tw_cos : ∀ i : Nat, i < 9 → floatBits .sub .f64 (floatOfInt .f64 (2 * (9 - (i : Int)))) 4607182418800017408 = some (floatOfInt .f64 (2 * (9 - (i : Int)) - 1)) ∧ floatBits .mul .f64 (floatOfInt .f64 (2 * (9 - (i : Int)) - 1)) (floatOfInt .f64 (2 * (9 - (i : Int)))) = some (floatOfInt .f64 ((2 * (9 - (i : Int)) - 1) * (2 * (9 - (i : Int))))) := by decide +kernel
set_option maxHeartbeats 4000000 in
theorem sine5_any (y : Nat) (w : World) : Calls Tryz.prog 90 #[.float .f64 y] w fun e w' => ∃ s, e = .returned (.float .f64 s) ∧ sinR y s ∧ s < 18446744073709551616 ∧ Bw w w' := by
  obtain ⟨z, w1, hz, e1, g1⟩ := op_run .mul isMul y y w
  go_enter Tryz.func90, Tryz.ntmps90
  go_wp2
  go_loopw [4, 10] (fun t k wr => ∃ (i n : Nat), i ≤ 9 ∧ t = .float .f64 n ∧ k = .int .i64 (i : Int) ∧ sinQ z i n ∧ Bw w wr) (fun _ k _ => 9 - (intOf k).toNat)
  case atStart => exact ⟨0, 4607182418800017408, by omega, rfl, rfl, rfl, g1⟩
  case round =>
    obtain ⟨i, n, hi, rfl, rfl, hq, hg⟩ := hrel
    have HQ : Hid (sinQ z i n) := hq
    clear hq e1
    by_cases c : i < 9
    · obtain ⟨t1, t2⟩ := tw_sin i c
      have r1 := fun (ty : TypeId) w => run_float_arith (P := Tryz.prog) w .add ty .f64 _ _ _ t1
      have r2 := fun (ty : TypeId) w => run_float_arith (P := Tryz.prog) w .mul ty .f64 _ _ _ t2
      clear t1 t2
      obtain ⟨d, w2, hd, e2, g2⟩ := op_run .quo isQuo z (floatOfInt .f64 (2 * (9 - (i : Int)) * (2 * (9 - (i : Int)) + 1))) wr
      obtain ⟨p, w3, hp, e3, g3⟩ := op_run .mul isMul d n w2
      obtain ⟨t', w4, ht', e4, g4⟩ := op_run .sub isSub 4607182418800017408 p w3
      have hgg := bw_trans (bw_trans (bw_trans hg g2) g3) g4
      have R : ∃ (i' n' : Nat), i' ≤ 9 ∧ Value.float .f64 t' = .float .f64 n' ∧ Value.int .i64 ((i : Int) + 1) = .int .i64 (i' : Int) ∧ sinQ z i' n' ∧ Bw w w4 :=
        ⟨i + 1, t', by omega, rfl, by rw [show (i : Int) + 1 = ((i + 1 : Nat) : Int) by omega], ⟨n, d, p, HQ.out, hd, hp, ht'⟩, hgg⟩
      have HR : Hid _ := R
      clear R hd hp ht' g2 g3 g4 hg HQ hgg hi
      go_wp2
      go_roundw
      case rel => exact HR.out
      case measure => simp [intOf]; omega
    · have hi' : i = 9 := by omega
      subst hi'
      obtain ⟨s, w2, hs, e2, g2⟩ := op_run .mul isMul y n wr
      have hgg := bw_trans hg g2
      have HF : Hid (sinR y s) := ⟨z, n, hz, HQ.out, hs⟩
      have hsl := hs.1
      clear g2 hg HQ hs hz
      go_wp2
      go_ret
      exact ⟨s, rfl, HF.out, hsl, hgg⟩
set_option maxHeartbeats 4000000 in
theorem cosine5_any (y : Nat) (w : World) : Calls Tryz.prog 91 #[.float .f64 y] w fun e w' => ∃ s, e = .returned (.float .f64 s) ∧ cosR y s ∧ s < 18446744073709551616 ∧ Bw w w' := by
  obtain ⟨z, w1, hz, e1, g1⟩ := op_run .mul isMul y y w
  go_enter Tryz.func91, Tryz.ntmps91
  go_wp2
  go_loopw [4, 10] (fun t k wr => ∃ (i n : Nat), i ≤ 9 ∧ t = .float .f64 n ∧ k = .int .i64 (i : Int) ∧ cosQ z i n ∧ Bw w wr) (fun _ k _ => 9 - (intOf k).toNat)
  case atStart => exact ⟨0, 4607182418800017408, by omega, rfl, rfl, rfl, g1⟩
  case round =>
    obtain ⟨i, n, hi, rfl, rfl, hq, hg⟩ := hrel
    have HQ : Hid (cosQ z i n) := hq
    clear hq e1
    by_cases c : i < 9
    · obtain ⟨t1, t2⟩ := tw_cos i c
      have r1 := fun (ty : TypeId) w => run_float_arith (P := Tryz.prog) w .sub ty .f64 _ _ _ t1
      have r2 := fun (ty : TypeId) w => run_float_arith (P := Tryz.prog) w .mul ty .f64 _ _ _ t2
      clear t1 t2
      obtain ⟨d, w2, hd, e2, g2⟩ := op_run .quo isQuo z (floatOfInt .f64 ((2 * (9 - (i : Int)) - 1) * (2 * (9 - (i : Int))))) wr
      obtain ⟨p, w3, hp, e3, g3⟩ := op_run .mul isMul d n w2
      obtain ⟨t', w4, ht', e4, g4⟩ := op_run .sub isSub 4607182418800017408 p w3
      have hgg := bw_trans (bw_trans (bw_trans hg g2) g3) g4
      have R : ∃ (i' n' : Nat), i' ≤ 9 ∧ Value.float .f64 t' = .float .f64 n' ∧ Value.int .i64 ((i : Int) + 1) = .int .i64 (i' : Int) ∧ cosQ z i' n' ∧ Bw w w4 :=
        ⟨i + 1, t', by omega, rfl, by rw [show (i : Int) + 1 = ((i + 1 : Nat) : Int) by omega], ⟨n, d, p, HQ.out, hd, hp, ht'⟩, hgg⟩
      have HR : Hid _ := R
      clear R hd hp ht' g2 g3 g4 hg HQ hgg hi
      go_wp2
      go_roundw
      case rel => exact HR.out
      case measure => simp [intOf]; omega
    · have hi' : i = 9 := by omega
      subst hi'
      have hsl := cosQ_lt _ _ HQ.out
      have HF : Hid (cosR y n) := ⟨z, hz, HQ.out⟩
      clear HQ hz
      go_wp2
      go_ret
      exact ⟨n, rfl, HF.out, hsl, hg⟩
theorem piece5_0 (w : World) : (Instr.index 101 (.agg #[.int .u64 4609753056924401664, .int .u64 4454258360616747008, .int .u64 4297306550709518336]) (.int .i64 0)).run Tryz.prog w = .ok (.int .u64 4609753056924401664) w := by kernel_rfl
theorem piece5_1 (w : World) : (Instr.index 101 (.agg #[.int .u64 4609753056924401664, .int .u64 4454258360616747008, .int .u64 4297306550709518336]) (.int .i64 1)).run Tryz.prog w = .ok (.int .u64 4454258360616747008) w := by kernel_rfl
theorem piece5_2 (w : World) : (Instr.index 101 (.agg #[.int .u64 4609753056924401664, .int .u64 4454258360616747008, .int .u64 4297306550709518336]) (.int .i64 2)).run Tryz.prog w = .ok (.int .u64 4297306550709518336) w := by kernel_rfl
attribute [local go_sem] piece5_0 piece5_1 piece5_2
set_option maxHeartbeats 4000000 in
theorem les5_any (x m t a b c : Nat) (w : World) (ha : floatBits .mul .f64 t 4609753056924401664 = some a) (hb : floatBits .mul .f64 t 4454258360616747008 = some b) (hc : floatBits .mul .f64 t 4297306550709518336 = some c) :
    Calls Tryz.prog 107 #[.float .f64 x, .float .f64 m, .float .f64 t] w fun e w' => ∃ y, e = .returned (.float .f64 y) ∧ lesR x m a b c y ∧ Bw w w' := by
  have ra := fun (ty : TypeId) w => run_float_arith (P := Tryz.prog) w .mul ty .f64 _ _ _ ha
  have rb := fun (ty : TypeId) w => run_float_arith (P := Tryz.prog) w .mul ty .f64 _ _ _ hb
  have rc := fun (ty : TypeId) w => run_float_arith (P := Tryz.prog) w .mul ty .f64 _ _ _ hc
  clear ha hb hc
  go_enter Tryz.func107, Tryz.ntmps107
  go_wp2
  go_loopw [0, 10] (fun v k wr => ∃ (i n : Nat), i ≤ 3 ∧ v = .float .f64 n ∧ k = .int .i64 (i : Int) ∧ lesQ x m a b c i n ∧ Bw w wr) (fun _ k _ => 3 - (intOf k).toNat)
  case atStart => exact ⟨0, x, by omega, rfl, rfl, rfl, Bw.refl _⟩
  case round =>
    obtain ⟨i, n, hi, rfl, rfl, hq, hg⟩ := hrel
    rcases (show i = 0 ∨ i = 1 ∨ i = 2 ∨ i = 3 by omega) with rfl | rfl | rfl | rfl
    · obtain ⟨p, w2, hp, e2, g2⟩ := op_run .mul isMul m a wr
      obtain ⟨d, w3, hd, e3, g3⟩ := op_run .sub isSub n p w2
      have hgg := bw_trans (bw_trans hg g2) g3
      have e0 : n = x := hq
      subst e0
      have HR : Hid (lesQ n m a b c 1 d) := ⟨p, hp, hd⟩
      clear hp hd g2 g3 hg hq rb rc
      go_wp2_with go_in
      go_roundw
      case rel => exact ⟨1, d, by omega, rfl, rfl, HR.out, hgg⟩
      case measure => simp [intOf]
    · obtain ⟨p, w2, hp, e2, g2⟩ := op_run .mul isMul m b wr
      obtain ⟨d, w3, hd, e3, g3⟩ := op_run .sub isSub n p w2
      have hgg := bw_trans (bw_trans hg g2) g3
      obtain ⟨p0, q1, q2⟩ := hq
      have HR : Hid (lesQ x m a b c 2 d) := ⟨p0, n, p, q1, q2, hp, hd⟩
      clear hp hd g2 g3 hg q1 q2 ra rc
      go_wp2_with go_in
      go_roundw
      case rel => exact ⟨2, d, by omega, rfl, rfl, HR.out, hgg⟩
      case measure => simp [intOf]
    · obtain ⟨p, w2, hp, e2, g2⟩ := op_run .mul isMul m c wr
      obtain ⟨d, w3, hd, e3, g3⟩ := op_run .sub isSub n p w2
      have hgg := bw_trans (bw_trans hg g2) g3
      obtain ⟨p0, d0, q0, q1, q2, q3, q4⟩ := hq
      have HR : Hid (lesQ x m a b c 3 d) := ⟨p0, d0, q0, n, p, q1, q2, q3, q4, hp, hd⟩
      clear hp hd g2 g3 hg q1 q2 q3 q4 ra rb
      go_wp2_with go_in
      go_roundw
      case rel => exact ⟨3, d, by omega, rfl, rfl, HR.out, hgg⟩
      case measure => simp [intOf]
    · have HR : Hid (lesR x m a b c n) := hq
      clear hq ra rb rc
      go_wp2
      go_ret
      exact ⟨n, rfl, HR.out, hg⟩
end Go.Proofs.YtgljnklaabbidaaGreat
/-
  OWN TEXT: package angle's quarters and turns (eddy/angle.Quarter, Turn), for every float.
-/
namespace Go.Proofs.YtgljnklaabbidaaGreat
open Go.ChangeShapes Go.WideShapes Go.ChangeAt Go.RowKit
set_option linter.unusedVariables false
attribute [local go_sem] frombits_call tobits_call run_neg
theorem fol_p {x c p : Nat} (hc : Fl.rg c ≤ 4607182418800017408) (hr : Fl.rg x ≤ 4697254411347427328) (h1 : opR .mul x c p) : Fl.nan p = false := by
  have hm := Fl.mul_fin (x := x) (y := c) (by omega) (by omega)
  have e1 : p = Fl.wd (Fl.sg x ^^ Fl.sg c) (Fl.rq (Fl.vl (Fl.rg x) * Fl.vl (Fl.rg c)) 1074) := by
    rcases h1.2 with k | k
    · exact (Option.some.inj (hm.symm.trans k)).symm
    · exact absurd (hm.symm.trans k.1) (by intro c; cases c)
  rw [e1]
  exact Fl.nan_wd _ _ (Fl.rq_le _ _)
theorem whR_num (p : Nat) (hp : p < 18446744073709551616) (h : Fl.nan p = false) : whR p (Fl.whF p) := ⟨(Fl.whF_ng hp h).2.1, by rw [if_neg (by rw [h]; decide)]⟩
theorem and3 (n : Int) : bits .and .i64 n 3 = n % 4 := by
  have h3 : (BitVec.ofInt 64 3).toNat = 2 ^ 2 - 1 := by decide
  have key : (BitVec.ofInt 64 n &&& BitVec.ofInt 64 3).toNat = (n % ((2 ^ 64 : Nat) : Int)).toNat % 2 ^ 2 := by
    rw [BitVec.toNat_and, BitVec.toNat_ofInt, h3, Nat.and_two_pow_sub_one_eq_mod]
  show IntKind.i64.wrap ((BitVec.ofInt 64 n &&& BitVec.ofInt 64 3).toNat : Nat) = n % 4
  rw [key, IntKind.wrap_i64]
  omega
set_option maxHeartbeats 4000000 in
theorem quarter_any (x : Nat) (w : World) (hx : x < 18446744073709551616) : Calls Tryz.prog 89 #[.float .f64 x] w fun e w' => ∃ y n, e = .returned (.tuple #[.float .f64 y, .int .i64 n]) ∧ quaR x y n ∧ Bw w w' := by
  have FI : Hid (∀ wz, Calls Tryz.prog 106 #[.float .f64 x] wz fun e w' => e = .returned (.bool (fitB x)) ∧ w' = wz) := fun wz => fit5_any x wz hx
  cases c : fitB x
  · rw [c] at FI
    have HQ : Hid (quaR x 9221120237041090561 0) := ⟨by decide, by rw [if_neg (by rw [c]; decide)]; exact ⟨by decide, rfl⟩⟩
    clear c
    go_enter Tryz.func89, Tryz.ntmps89
    go_wp2_with (first | (go_at_call 106; refine (FI.out _).mono ?_; rintro e' w9 ⟨rfl, hw9⟩; subst hw9) | (go_at_call 92; refine (nan5_any _).mono ?_; rintro e' w9 ⟨rfl, hw9⟩; subst hw9))
    go_ret2
    exact ⟨_, _, rfl, HQ.out, Bw.refl _⟩
  · rw [c] at FI
    obtain ⟨p, w1, hp, e1, g1⟩ := op_run .mul isMul x 4603909380684499075 w
    have np := fol_p (by decide) (fit_rg hx c).2 hp
    have hwh := whR_num p hp.1 np
    have WH : Hid (∀ wz, Calls Tryz.prog 70 #[.float .f64 p] wz fun e w' => e = .returned (.float .f64 (Fl.whF p)) ∧ w' = wz) := fun wz => whole_num p wz np
    generalize Fl.whF p = m at *
    have hf : folR x 4603909380684499075 m := ⟨p, hp, hwh⟩
    obtain ⟨nm, hml, q, q1, q2, hq⟩ := fol_int (by decide) (fit_rg hx c).2 hf
    have g3 := Fl.o_eq m 0
    cases c2 : Fl.eqF m 0
    · rw [c2] at g3
      have HQ : Hid (∀ y, y < 18446744073709551616 → lesR x m 4609753056924401664 4454258360616747008 4297306550709518336 y → quaR x y (q % 4)) := fun y hy hl => ⟨hy, by rw [if_pos c]; exact ⟨m, hf, by rw [if_neg (by rw [c2]; decide)]; exact ⟨hl, q, hq, rfl⟩⟩⟩
      clear c c2 hp hwh hf nm np
      have hcv := fun w => run_convert_float_int (P := Tryz.prog) w 25 3 .f64 .i64 m q (by kernel_rfl) (by kernel_rfl) hq
      have M4 : Hid (bits .and .i64 q 3 = q % 4) := and3 q
      have LS : Hid (∀ wz, Calls Tryz.prog 107 #[.float .f64 x, .float .f64 m, .float .f64 4607182418800017408] wz fun e w' => ∃ y, e = .returned (.float .f64 y) ∧ lesR x m 4609753056924401664 4454258360616747008 4297306550709518336 y ∧ Bw wz w') := fun wz => les5_any x m 4607182418800017408 4609753056924401664 4454258360616747008 4297306550709518336 wz (by decide +kernel) (by decide +kernel) (by decide +kernel)
      go_enter Tryz.func89, Tryz.ntmps89
      go_wp2_with (first | (go_at_call 106; refine (FI.out _).mono ?_; rintro e' w9 ⟨rfl, hw9⟩; subst hw9) | (go_at_call 70; refine (WH.out _).mono ?_; rintro e' w9 ⟨rfl, hw9⟩; subst hw9) | (go_at_call 94; refine (from_any 4603909380684499075 _).mono ?_; rintro e' w9 ⟨rfl, hw9⟩; subst hw9) | fail)
      refine (LS.out _).mono ?_
      rintro e w2 ⟨y, rfl, hy, b2⟩
      have B := bw_trans g1 b2
      have hyl := les_lt hy
      have HE : Hid (quaR x y (q % 4)) := HQ.out y hyl hy
      clear HQ hy b2 g1 LS
      go_wp2
      go_ret2
      exact ⟨y, q % 4, by rw [← M4.out]; rfl, HE.out, B⟩
    · rw [c2] at g3
      have HQ : Hid (quaR x x 0) := ⟨hx, by rw [if_pos c]; exact ⟨m, hf, by rw [if_pos c2]; exact ⟨rfl, rfl⟩⟩⟩
      clear c c2 hp hwh hf nm np
      go_enter Tryz.func89, Tryz.ntmps89
      go_wp2_with (first | (go_at_call 106; refine (FI.out _).mono ?_; rintro e' w9 ⟨rfl, hw9⟩; subst hw9) | (go_at_call 70; refine (WH.out _).mono ?_; rintro e' w9 ⟨rfl, hw9⟩; subst hw9) | (go_at_call 94; refine (from_any 4603909380684499075 _).mono ?_; rintro e' w9 ⟨rfl, hw9⟩; subst hw9))
      go_ret2
      exact ⟨x, 0, rfl, HQ.out, g1⟩
theorem sinR_nan {y s : Nat} (h : sinR y s) (hn : Fl.nan y = true) : Fl.nan s = true := by
  obtain ⟨z, t, _, _, h3⟩ := h
  exact h3.nan (nan_left _ isMul hn)
theorem cosR_nan {y s : Nat} (h : cosR y s) (hn : Fl.nan y = true) : Fl.nan s = true := by
  obtain ⟨z, h1, h2⟩ := h
  have hz := h1.nan (nan_left _ isMul hn)
  obtain ⟨t, d, p, _, k2, k3, k4⟩ := h2
  have hd := k2.nan (nan_left _ isQuo hz)
  have hp := k3.nan (nan_left _ isMul hd)
  exact k4.nan (nan_right _ isSub hp)
set_option maxHeartbeats 4000000 in
theorem turn_any (x : Nat) (w : World) (hx : x < 18446744073709551616) : Calls Tryz.prog 78 #[.float .f64 x] w fun e w' => ∃ a b, e = .returned (.tuple #[.float .f64 a, .float .f64 b]) ∧ turR x a b ∧ Bw w w' := by
  have HT : Hid (∀ y n s c a b, quaR x y n → sinR y s → cosR y c → turnAt n s c a b → a < 18446744073709551616 → b < 18446744073709551616 → turR x a b) := by
    intro y n s d a b h1 h2 h3 h4 h5 h6
    refine ⟨h5, h6, ?_⟩
    by_cases c : fitB x = true
    · rw [if_pos c]; exact ⟨y, n, s, d, h1, h2, h3, h4⟩
    · rw [if_neg c]
      obtain ⟨_, k⟩ := h1
      rw [if_neg c] at k
      have e1 := sinR_nan h2 k.1
      have e2 := cosR_nan h3 k.1
      rcases h4 with ⟨_, rfl, rfl⟩ | ⟨_, rfl, rfl⟩ | ⟨_, rfl, rfl⟩ | ⟨_, rfl, rfl⟩ <;> constructor <;> first | exact e1 | exact e2 | (rw [Fl.nan_ng]; first | exact e1 | exact e2)
  go_enter Tryz.func78, Tryz.ntmps78
  go_wp2_with fail
  refine (quarter_any x _ hx).mono ?_
  rintro e w1 ⟨y, n, rfl, hq, b1⟩
  have hr := hq.range
  have HQ : Hid (quaR x y n) := hq
  clear hq
  go_wp2_with fail
  refine (sine5_any y _).mono ?_
  rintro e w2 ⟨s, rfl, hs, hsl, b2⟩
  have HS : Hid (sinR y s) := hs
  clear hs
  go_wp2_with fail
  refine (cosine5_any y _).mono ?_
  rintro e w3 ⟨c, rfl, hc, hcl, b3⟩
  have B := bw_trans (bw_trans b1 b2) b3
  have HA : Hid (∀ a b, turnAt n s c a b → a < 18446744073709551616 → b < 18446744073709551616 → turR x a b) := fun a b h h5 h6 => HT.out y n s c a b HQ.out HS.out hc h h5 h6
  have nsl := Fl.ng_lt hsl
  have ncl := Fl.ng_lt hcl
  have ns := Fl.neg_eq hsl
  have nc := Fl.neg_eq hcl
  have nns := Fl.neg_eq nsl
  rw [Fl.ng_ng hsl] at nns
  clear HQ HS hc HT b1 b2 b3
  rcases (show n = 0 ∨ n = 1 ∨ n = 2 ∨ n = 3 by omega) with rfl | rfl | rfl | rfl
  · go_wp2
    go_ret2
    exact ⟨s, c, rfl, HA.out _ _ (Or.inl ⟨rfl, rfl, rfl⟩) hsl hcl, B⟩
  · go_wp2
    go_ret2
    exact ⟨c, Fl.ng s, rfl, HA.out _ _ (Or.inr (Or.inl ⟨rfl, rfl, rfl⟩)) hcl nsl, B⟩
  · go_wp2
    go_ret2
    exact ⟨Fl.ng s, Fl.ng c, rfl, HA.out _ _ (Or.inr (Or.inr (Or.inl ⟨rfl, rfl, rfl⟩))) nsl ncl, B⟩
  · go_wp2
    go_ret2
    exact ⟨Fl.ng c, s, rfl, HA.out _ _ (Or.inr (Or.inr (Or.inr ⟨rfl, rfl, rfl⟩))) ncl hsl, B⟩
end Go.Proofs.YtgljnklaabbidaaGreat
/-
  OWN TEXT: package angle's angles (eddy/angle.arc, slope, first, across, Of, Tan), for every float.
-/
namespace Go.Proofs.YtgljnklaabbidaaGreat
open Go.ChangeShapes Go.WideShapes Go.ChangeAt Go.RowKit
set_option linter.unusedVariables false
attribute [local go_sem] frombits_call tobits_call run_neg
set_option maxHeartbeats 4000000 in
theorem arc_any (u : Nat) (w : World) : Calls Tryz.prog 118 #[.float .f64 u] w fun e w' => ∃ v, e = .returned (.float .f64 v) ∧ angU u v ∧ v < 18446744073709551616 ∧ Bw w w' := by
  obtain ⟨z, w1, hz, e1, g1⟩ := op_run .mul isMul u u w
  go_enter Tryz.func118, Tryz.ntmps118
  go_wp2
  go_loopw [4, 9] (fun t k wr => ∃ (i n : Nat), i ≤ 25 ∧ t = .float .f64 n ∧ k = .int .i64 (i : Int) ∧ angQ z i n ∧ Bw w wr) (fun _ k _ => 25 - (intOf k).toNat)
  case atStart => exact ⟨0, 0, by omega, rfl, rfl, rfl, g1⟩
  case round =>
    obtain ⟨i, n, hi, rfl, rfl, hq, hg⟩ := hrel
    have HQ : Hid (angQ z i n) := hq
    clear hq e1
    by_cases c : i < 25
    · have ei : 2 * (24 - (i : Int)) + 1 = 49 - 2 * (i : Int) := by omega
      obtain ⟨d, w2, hd, e2, g2⟩ := op_run .quo isQuo 4607182418800017408 (floatOfInt .f64 (49 - 2 * (i : Int))) wr
      obtain ⟨p, w3, hp, e3, g3⟩ := op_run .mul isMul z n w2
      obtain ⟨t', w4, ht', e4, g4⟩ := op_run .sub isSub d p w3
      have hgg := bw_trans (bw_trans (bw_trans hg g2) g3) g4
      have R : ∃ (i' n' : Nat), i' ≤ 25 ∧ Value.float .f64 t' = .float .f64 n' ∧ Value.int .i64 ((i : Int) + 1) = .int .i64 (i' : Int) ∧ angQ z i' n' ∧ Bw w w4 :=
        ⟨i + 1, t', by omega, rfl, by rw [show (i : Int) + 1 = ((i + 1 : Nat) : Int) by omega], ⟨n, d, p, HQ.out, by rw [ei]; exact hd, hp, ht'⟩, hgg⟩
      have HR : Hid _ := R
      clear R hd hp ht' g2 g3 g4 hg HQ hgg hi ei
      go_wp2
      go_roundw
      case rel => exact HR.out
      case measure => simp [intOf]; omega
    · have hi' : i = 25 := by omega
      subst hi'
      obtain ⟨v, w2, hv, e2, g2⟩ := op_run .mul isMul u n wr
      have B := bw_trans hg g2
      have HF : Hid (angU u v) := ⟨z, n, hz, HQ.out, hv⟩
      have hvl := hv.1
      clear g2 hg HQ hv hz
      go_wp2
      go_ret
      exact ⟨v, rfl, HF.out, hvl, B⟩
/-- the angle's steps of a number: at most 0.4140625, or above -/
theorem le_lt {a t : Nat} (ha : Fl.nan a = false) (ht : Fl.nan t = false) : Fl.leF t a = !Fl.ltF a t := by
  rw [Fl.leF_of ht ha, Fl.ltF_of ha ht]
  by_cases c : Fl.key t ≤ Fl.key a
  · rw [decide_eq_true c, decide_eq_false (by omega)]; rfl
  · rw [decide_eq_false c, decide_eq_true (by omega)]; rfl
theorem h4 (ty : TypeId) (w : World) : (binOp .quo ty (.float .f64 4614256656552045848) (.float .f64 4616189618054758400)).run Tryz.prog w = .ok (.float .f64 4605249457297304856) w := run_float_arith w .quo ty .f64 _ _ _ (by decide +kernel)
theorem l4 (ty : TypeId) (w : World) : (binOp .quo ty (.float .f64 4368955796522032135) (.float .f64 4616189618054758400)).run Tryz.prog w = .ok (.float .f64 4359948597267291143) w := run_float_arith w .quo ty .f64 _ _ _ (by decide +kernel)
theorem h2 (ty : TypeId) (w : World) : (binOp .quo ty (.float .f64 4614256656552045848) (.float .f64 4611686018427387904)).run Tryz.prog w = .ok (.float .f64 4609753056924675352) w := run_float_arith w .quo ty .f64 _ _ _ (by decide +kernel)
theorem l2 (ty : TypeId) (w : World) : (binOp .quo ty (.float .f64 4368955796522032135) (.float .f64 4611686018427387904)).run Tryz.prog w = .ok (.float .f64 4364452196894661639) w := run_float_arith w .quo ty .f64 _ _ _ (by decide +kernel)
theorem angQ_ex (z : Nat) (w : World) : ∀ i, ∃ s, angQ z i s
  | 0 => ⟨0, rfl⟩
  | i + 1 => by
    obtain ⟨s, hs⟩ := angQ_ex z w i
    obtain ⟨d, _, hd, _, _⟩ := op_run .quo isQuo 4607182418800017408 (floatOfInt .f64 (2 * (24 - (i : Int)) + 1)) w
    obtain ⟨p, _, hp, _, _⟩ := op_run .mul isMul z s w
    obtain ⟨t, _, ht, _, _⟩ := op_run .sub isSub d p w
    exact ⟨t, s, d, p, hs, hd, hp, ht⟩
theorem angU_nan {t v : Nat} (w : World) (ht : Fl.nan t = true) (hv : Fl.nan v = true) (hl : v < 18446744073709551616) : angU t v := by
  obtain ⟨z, _, hz, _, _⟩ := op_run .mul isMul t t w
  obtain ⟨s, hs⟩ := angQ_ex z w 25
  exact ⟨z, s, hz, hs, hl, Or.inr ⟨nan_left _ isMul ht, hv⟩⟩
theorem slope_up {t v : Nat} (w : World) (hc : Fl.leF t 4601130706800738304 = false) (hl : v < 18446744073709551616) (h : ∃ a b u w x, opR .sub t 4607182418800017408 a ∧ opR .add t 4607182418800017408 b ∧ opR .quo a b u ∧ angU u w ∧ opR .add w 4359948597267291143 x ∧ opR .add 4605249457297304856 x v) : angR t v := by
  unfold angR
  cases hn : Fl.nan t
  · rw [le_lt (by decide) hn] at hc
    rw [if_pos (by simpa using hc)]; exact h
  · rw [if_neg (by unfold Fl.ltF; rw [hn]; simp)]
    obtain ⟨a, b, u, y, x, h1, h2, h3, ⟨z, s, h4, h5, h6⟩, h7, h8⟩ := h
    have na := h1.nan (nan_left _ isSub hn)
    have nu := h3.nan (nan_left _ isQuo na)
    have ny := h6.nan (nan_left _ isMul nu)
    have nx := h7.nan (nan_left _ isAdd ny)
    exact angU_nan w hn (h8.nan (nan_right _ isAdd nx)) hl
set_option maxHeartbeats 4000000 in
theorem slope_any (t : Nat) (w : World) : Calls Tryz.prog 112 #[.float .f64 t] w fun e w' => ∃ v, e = .returned (.float .f64 v) ∧ angR t v ∧ v < 18446744073709551616 ∧ Bw w w' := by
  have o := Fl.o_le t 4601130706800738304
  cases c0 : Fl.leF t 4601130706800738304
  · rw [c0] at o
    have HA : Hid (∀ v, v < 18446744073709551616 → (∃ a b u w x, opR .sub t 4607182418800017408 a ∧ opR .add t 4607182418800017408 b ∧ opR .quo a b u ∧ angU u w ∧ opR .add w 4359948597267291143 x ∧ opR .add 4605249457297304856 x v) → angR t v) := fun v hl h => slope_up w c0 hl h
    clear c0
    obtain ⟨a, v1, ha, k1, y1⟩ := op_run .sub isSub t 4607182418800017408 w
    obtain ⟨b, v2, hb, k2, y2⟩ := op_run .add isAdd t 4607182418800017408 v1
    obtain ⟨u, v3, hu, k3, y3⟩ := op_run .quo isQuo a b v2
    have G := bw_trans (bw_trans y1 y2) y3
    have r1 := h4 25
    have r2 := l4 25
    clear y1 y2 y3
    go_enter Tryz.func112, Tryz.ntmps112
    go_wp2_with (first | (go_at_call 111; refine (pi_any _).mono ?_; rintro e' w9 ⟨rfl, hw9⟩; subst hw9) | fail)
    refine (arc_any u _).mono ?_
    rintro e w1 ⟨v, rfl, hv, hvl, bb⟩
    obtain ⟨x, w2, hx, k4, y4⟩ := op_run .add isAdd v 4359948597267291143 w1
    obtain ⟨r, w3, hr, k5, y5⟩ := op_run .add isAdd 4605249457297304856 x w2
    have B := bw_trans (bw_trans (bw_trans G bb) y4) y5
    have hrl := hr.1
    have HF : Hid (angR t r) := HA.out r hrl ⟨a, b, u, v, x, ha, hb, hu, hv, hx, hr⟩
    clear HA hv bb G y4 y5 ha hb hu hx hr
    go_wp2
    go_ret
    exact ⟨r, rfl, HF.out, hrl, B⟩
  · rw [c0] at o
    have HA : Hid (∀ v, angU t v → angR t v) := fun v h => by
      unfold angR
      have hn : Fl.nan t = false := by
        unfold Fl.leF at c0
        rw [Bool.and_eq_true, Bool.and_eq_true] at c0
        simpa using c0.1.1
      rw [le_lt (by decide) hn] at c0
      rw [if_neg (by rw [Bool.not_eq_true']at c0; rw [c0]; decide)]; exact h
    clear c0
    go_enter Tryz.func112, Tryz.ntmps112
    go_wp2_with fail
    refine (arc_any t _).mono ?_
    rintro e w1 ⟨v, rfl, hv, hvl, b⟩
    have HF : Hid (angR t v) := HA.out v hv
    clear HA hv
    go_wp2
    go_ret
    exact ⟨v, rfl, HF.out, hvl, b⟩
theorem across_any (b : Nat) (w : World) : Calls Tryz.prog 104 #[.float .f64 b] w fun e w' => ∃ r, e = .returned (.float .f64 r) ∧ (∃ d, opR .sub b 4368955796522032135 d ∧ opR .sub 4614256656552045848 d r) ∧ r < 18446744073709551616 ∧ Bw w w' := by
  obtain ⟨d, w1, hd, k1, y1⟩ := op_run .sub isSub b 4368955796522032135 w
  obtain ⟨r, w2, hr, k2, y2⟩ := op_run .sub isSub 4614256656552045848 d w1
  have B := bw_trans y1 y2
  have HF : Hid (∃ d, opR .sub b 4368955796522032135 d ∧ opR .sub 4614256656552045848 d r) := ⟨d, hd, hr⟩
  have hrl := hr.1
  clear y1 y2 hd hr
  go_enter Tryz.func104, Tryz.ntmps104
  go_wp2_with (go_at_call 111; refine (pi_any _).mono ?_; rintro e' w9 ⟨rfl, hw9⟩; subst hw9)
  go_ret
  exact ⟨r, rfl, HF.out, hrl, B⟩
set_option maxHeartbeats 4000000 in
theorem first_any (p q : Nat) (w : World) (hp : p < 9223372036854775808) (hql : q < 18446744073709551616) (np : Fl.nan p = false) : Calls Tryz.prog 102 #[.float .f64 p, .float .f64 q] w fun e w' => ∃ b, e = .returned (.float .f64 b) ∧ basR p q b ∧ b < 18446744073709551616 ∧ Bw w w' := by
  have hpl : p < 18446744073709551616 := by omega
  have pz : Fl.rg p = p := by unfold Fl.rg; omega
  have g2 := Fl.o_eq p 0
  rw [(up_tests hpl np).2.1, pz] at g2
  have g3 := Fl.o_le p q
  have IP : Hid (∀ wz, Calls Tryz.prog 96 #[.float .f64 p, .int .i64 1] wz fun e w' => e = .returned (.bool (decide (p = 9218868437227405312))) ∧ w' = wz) := fun wz => isInf_up p wz hpl
  have IQ : Hid (∀ wz, Calls Tryz.prog 96 #[.float .f64 q, .int .i64 1] wz fun e w' => e = .returned (.bool (decide (q = 9218868437227405312))) ∧ w' = wz) := fun wz => isInf_up q wz hql
  clear np pz hpl hp
  by_cases c1 : p = 0
  · rw [decide_eq_true c1] at g2
    have BA : Hid (basR p q 0) := by show basR _ _ _; unfold basR; rw [if_pos c1]
    clear g3 IP IQ c1
    go_enter Tryz.func102, Tryz.ntmps102
    go_wp2_with (go_at_call 111; refine (pi_any _).mono ?_; rintro e' w9 ⟨rfl, hw9⟩; subst hw9)
    go_ret
    exact ⟨0, rfl, BA.out, by decide, Bw.refl _⟩
  · rw [decide_eq_false c1] at g2
    by_cases c2 : p = 9218868437227405312 ∧ q = 9218868437227405312
    · have BA : Hid (basR p q 4605249457297304856) := by show basR _ _ _; unfold basR; rw [if_neg c1, if_pos c2]
      rw [decide_eq_true c2.1] at IP
      rw [decide_eq_true c2.2] at IQ
      have r1 := h4 25
      clear g3 c1 c2
      go_enter Tryz.func102, Tryz.ntmps102
      go_wp2_with (first | (go_at_call 111; refine (pi_any _).mono ?_; rintro e' w9 ⟨rfl, hw9⟩; subst hw9) | fail)
      refine (IP.out _).mono ?_
      rintro e' w ⟨rfl, rfl⟩
      go_wp2_with fail
      refine (IQ.out _).mono ?_
      rintro e' w ⟨rfl, rfl⟩
      go_wp2
      go_ret
      exact ⟨_, rfl, BA.out, by decide, Bw.refl _⟩
    · cases c3 : Fl.leF p q
      · rw [c3] at g3
        have BA : Hid (∀ b, (∃ t v d, opR .quo q p t ∧ angR t v ∧ opR .sub v 4364452196894661639 d ∧ opR .sub 4609753056924675352 d b) → basR p q b) := fun b h => by unfold basR; rw [if_neg c1, if_neg c2, if_neg (by rw [c3]; decide)]; exact h
        obtain ⟨t, v1, ht, k1, y1⟩ := op_run .quo isQuo q p w
        have r1 := h2 25
        have r2 := l2 25
        have rest : ∀ (P : Prop), (P ↔ True) → True := fun _ _ => trivial
        by_cases c4 : p = 9218868437227405312
        · have c5 : ¬ q = 9218868437227405312 := fun h => c2 ⟨c4, h⟩
          rw [decide_eq_true c4] at IP
          rw [decide_eq_false c5] at IQ
          clear c1 c2 c3 c4 c5 rest
          go_enter Tryz.func102, Tryz.ntmps102
          go_wp2_with (first | (go_at_call 111; refine (pi_any _).mono ?_; rintro e' w9 ⟨rfl, hw9⟩; subst hw9) | fail)
          refine (IP.out _).mono ?_
          rintro e' w ⟨rfl, rfl⟩
          go_wp2_with fail
          refine (IQ.out _).mono ?_
          rintro e' w ⟨rfl, rfl⟩
          go_wp2_with fail
          refine (slope_any t _).mono ?_
          rintro e w2 ⟨v, rfl, hv, hvl, bb⟩
          obtain ⟨d, w3, hd, k2, y2⟩ := op_run .sub isSub v 4364452196894661639 w2
          obtain ⟨b, w4, hb, k3, y3⟩ := op_run .sub isSub 4609753056924675352 d w3
          have B := bw_trans (bw_trans (bw_trans y1 bb) y2) y3
          have HF : Hid (basR p q b) := BA.out b ⟨t, v, d, ht, hv, hd, hb⟩
          have hbl := hb.1
          clear BA ht hv hd hb bb y1 y2 y3
          go_wp2
          go_ret
          exact ⟨b, rfl, HF.out, hbl, B⟩
        · rw [decide_eq_false c4] at IP
          clear c1 c2 c3 c4 IQ rest
          go_enter Tryz.func102, Tryz.ntmps102
          go_wp2_with (first | (go_at_call 111; refine (pi_any _).mono ?_; rintro e' w9 ⟨rfl, hw9⟩; subst hw9) | fail)
          refine (IP.out _).mono ?_
          rintro e' w ⟨rfl, rfl⟩
          go_wp2_with fail
          refine (slope_any t _).mono ?_
          rintro e w2 ⟨v, rfl, hv, hvl, bb⟩
          obtain ⟨d, w3, hd, k2, y2⟩ := op_run .sub isSub v 4364452196894661639 w2
          obtain ⟨b, w4, hb, k3, y3⟩ := op_run .sub isSub 4609753056924675352 d w3
          have B := bw_trans (bw_trans (bw_trans y1 bb) y2) y3
          have HF : Hid (basR p q b) := BA.out b ⟨t, v, d, ht, hv, hd, hb⟩
          have hbl := hb.1
          clear BA ht hv hd hb bb y1 y2 y3
          go_wp2
          go_ret
          exact ⟨b, rfl, HF.out, hbl, B⟩
      · rw [c3] at g3
        have BA : Hid (∀ b, (∃ t, opR .quo p q t ∧ angR t b) → basR p q b) := fun b h => by unfold basR; rw [if_neg c1, if_neg c2, if_pos c3]; exact h
        obtain ⟨t, v1, ht, k1, y1⟩ := op_run .quo isQuo p q w
        by_cases c4 : p = 9218868437227405312
        · have c5 : ¬ q = 9218868437227405312 := fun h => c2 ⟨c4, h⟩
          rw [decide_eq_true c4] at IP
          rw [decide_eq_false c5] at IQ
          clear c1 c2 c3 c4 c5
          go_enter Tryz.func102, Tryz.ntmps102
          go_wp2_with (first | (go_at_call 111; refine (pi_any _).mono ?_; rintro e' w9 ⟨rfl, hw9⟩; subst hw9) | fail)
          refine (IP.out _).mono ?_
          rintro e' w ⟨rfl, rfl⟩
          go_wp2_with fail
          refine (IQ.out _).mono ?_
          rintro e' w ⟨rfl, rfl⟩
          go_wp2_with fail
          refine (slope_any t _).mono ?_
          rintro e w2 ⟨b, rfl, hv, hbl, bb⟩
          have B := bw_trans y1 bb
          have HF : Hid (basR p q b) := BA.out b ⟨t, ht, hv⟩
          clear BA ht hv bb y1
          go_wp2
          go_ret
          exact ⟨b, rfl, HF.out, hbl, B⟩
        · rw [decide_eq_false c4] at IP
          clear c1 c2 c3 c4 IQ
          go_enter Tryz.func102, Tryz.ntmps102
          go_wp2_with (first | (go_at_call 111; refine (pi_any _).mono ?_; rintro e' w9 ⟨rfl, hw9⟩; subst hw9) | fail)
          refine (IP.out _).mono ?_
          rintro e' w ⟨rfl, rfl⟩
          go_wp2_with fail
          refine (slope_any t _).mono ?_
          rintro e w2 ⟨b, rfl, hv, hbl, bb⟩
          have B := bw_trans y1 bb
          have HF : Hid (basR p q b) := BA.out b ⟨t, ht, hv⟩
          clear BA ht hv bb y1
          go_wp2
          go_ret
          exact ⟨b, rfl, HF.out, hbl, B⟩
set_option maxHeartbeats 4000000 in
theorem of_any (y x : Nat) (w : World) (hy : y < 18446744073709551616) (hx : x < 18446744073709551616) : Calls Tryz.prog 81 #[.float .f64 y, .float .f64 x] w fun e w' => ∃ r, e = .returned (.float .f64 r) ∧ offR y x r ∧ r < 18446744073709551616 ∧ Bw w w' := by
  by_cases c0 : (Fl.nan y || Fl.nan x) = true
  · have HF : Hid (offR y x 9221120237041090561) := by show offR _ _ _; unfold offR; rw [if_pos c0]; decide
    have NY : Hid (∀ wz, Calls Tryz.prog 82 #[.float .f64 y] wz fun e w' => e = .returned (.bool (Fl.nan y)) ∧ w' = wz) := fun wz => isNaN_any y wz
    have NX : Hid (∀ wz, Calls Tryz.prog 82 #[.float .f64 x] wz fun e w' => e = .returned (.bool (Fl.nan x)) ∧ w' = wz) := fun wz => isNaN_any x wz
    cases c1 : Fl.nan y
    · rw [c1, Bool.false_or] at c0
      rw [c1] at NY
      rw [c0] at NX
      clear c0 c1
      go_enter Tryz.func81, Tryz.ntmps81
      go_wp2_with fail
      refine (NY.out _).mono ?_
      rintro e' w ⟨rfl, rfl⟩
      go_wp2_with fail
      refine (NX.out _).mono ?_
      rintro e' w ⟨rfl, rfl⟩
      go_wp2_with (go_at_call 92; refine (nan5_any _).mono ?_; rintro e' w9 ⟨rfl, hw9⟩; subst hw9)
      go_ret
      exact ⟨_, rfl, HF.out, by decide, Bw.refl _⟩
    · rw [c1] at NY
      clear c0 c1 NX
      go_enter Tryz.func81, Tryz.ntmps81
      go_wp2_with fail
      refine (NY.out _).mono ?_
      rintro e' w ⟨rfl, rfl⟩
      go_wp2_with (go_at_call 92; refine (nan5_any _).mono ?_; rintro e' w9 ⟨rfl, hw9⟩; subst hw9)
      go_ret
      exact ⟨_, rfl, HF.out, by decide, Bw.refl _⟩
  · have HO : Hid (∀ b s r, basR (Fl.rg y) (Fl.rg x) b → sidR x b s → r = (if Fl.sg y = true then Fl.ng s else s) → offR y x r) := by
      intro b s r h1 h2 h3
      unfold offR
      rw [if_neg c0]
      exact ⟨b, s, h1, h2, h3⟩
    have hc := Bool.eq_false_iff.2 c0
    rw [Bool.or_eq_false_iff] at hc
    have NY : Hid (∀ wz, Calls Tryz.prog 82 #[.float .f64 y] wz fun e w' => e = .returned (.bool false) ∧ w' = wz) := fun wz => by have k := isNaN_any y wz; rw [hc.1] at k; exact k
    have NX : Hid (∀ wz, Calls Tryz.prog 82 #[.float .f64 x] wz fun e w' => e = .returned (.bool false) ∧ w' = wz) := fun wz => by have k := isNaN_any x wz; rw [hc.2] at k; exact k
    have AY : Hid (∀ wz, Calls Tryz.prog 35 #[.float .f64 y] wz fun e w' => e = .returned (.float .f64 (Fl.rg y)) ∧ w' = wz) := fun wz => abs_any y wz hy
    have AX : Hid (∀ wz, Calls Tryz.prog 35 #[.float .f64 x] wz fun e w' => e = .returned (.float .f64 (Fl.rg x)) ∧ w' = wz) := fun wz => abs_any x wz hx
    have sy : Fl.minusB y = Fl.sg y := by unfold Fl.minusB; rw [hc.1]; rfl
    have sx : Fl.minusB x = Fl.sg x := by unfold Fl.minusB; rw [hc.2]; rfl
    have SY : Hid (∀ wz, Calls Tryz.prog 103 #[.float .f64 y] wz fun e w' => e = .returned (.bool (Fl.sg y)) ∧ w' = wz) := fun wz => by have k := minus_any y wz hy; rw [sy] at k; exact k
    have SX : Hid (∀ wz, Calls Tryz.prog 103 #[.float .f64 x] wz fun e w' => e = .returned (.bool (Fl.sg x)) ∧ w' = wz) := fun wz => by have k := minus_any x wz hx; rw [sx] at k; exact k
    have FI : Hid (∀ wz, Calls Tryz.prog 102 #[.float .f64 (Fl.rg y), .float .f64 (Fl.rg x)] wz fun e w' => ∃ b, e = .returned (.float .f64 b) ∧ basR (Fl.rg y) (Fl.rg x) b ∧ b < 18446744073709551616 ∧ Bw wz w') := fun wz => first_any (Fl.rg y) (Fl.rg x) wz (Fl.rg_lt y) (by have := Fl.rg_lt x; omega) (by rw [Fl.nan_rg]; exact hc.1)
    clear c0 hc sy sx
    generalize hp : Fl.rg y = p at *
    generalize hq : Fl.rg x = q at *
    clear hp hq
    go_enter Tryz.func81, Tryz.ntmps81
    go_wp2_with fail
    refine (NY.out _).mono ?_
    rintro e' w ⟨rfl, rfl⟩
    go_wp2_with fail
    refine (NX.out _).mono ?_
    rintro e' w ⟨rfl, rfl⟩
    go_wp2_with fail
    refine (AY.out _).mono ?_
    rintro e' w ⟨rfl, rfl⟩
    go_wp2_with fail
    refine (AX.out _).mono ?_
    rintro e' w ⟨rfl, rfl⟩
    go_wp2_with fail
    refine (FI.out _).mono ?_
    rintro e w1 ⟨b, rfl, hb, hbl, B1⟩
    have HO2 : Hid (∀ s r, sidR x b s → r = (if Fl.sg y = true then Fl.ng s else s) → offR y x r) := fun s r h k => HO.out b s r hb h k
    clear HO hb NY NX AY AX FI
    go_wp2_with fail
    refine (SX.out _).mono ?_
    rintro e' w1 ⟨rfl, rfl⟩
    go_wp2_with fail
    refine (SY.out _).mono ?_
    rintro e' w1 ⟨rfl, rfl⟩
    clear SX SY
    cases c4 : Fl.sg x
    · have HB : Hid (∀ r, r = (if Fl.sg y = true then Fl.ng b else b) → offR y x r) := fun r hr => HO2.out b r (by unfold sidR; rw [if_neg (by rw [c4]; decide)]) hr
      clear HO2 c4
      cases c5 : Fl.sg y
      · have HF : Hid (offR y x b) := HB.out _ (by rw [if_neg (by rw [c5]; decide)])
        clear HB c5
        go_wp2
        go_ret
        exact ⟨_, rfl, HF.out, hbl, B1⟩
      · have HF : Hid (offR y x (Fl.ng b)) := HB.out _ (by rw [if_pos c5])
        have nb := Fl.neg_eq (x := b) hbl
        have nbl := Fl.ng_lt (x := b) hbl
        clear HB c5
        go_wp2
        go_ret
        exact ⟨_, rfl, HF.out, nbl, B1⟩
    · have HB : Hid (∀ s r, (∃ d, opR .sub b 4368955796522032135 d ∧ opR .sub 4614256656552045848 d s) → r = (if Fl.sg y = true then Fl.ng s else s) → offR y x r) := fun s r h hr => HO2.out s r (by unfold sidR; rw [if_pos c4]; exact h) hr
      clear HO2 c4
      cases c5 : Fl.sg y
      · have HC : Hid (∀ s, (∃ d, opR .sub b 4368955796522032135 d ∧ opR .sub 4614256656552045848 d s) → offR y x s) := fun s h => HB.out s s h (by rw [if_neg (by rw [c5]; decide)])
        clear HB c5
        go_wp2_with fail
        refine (across_any b _).mono ?_
        rintro e w2 ⟨s, rfl, hs, hsl, b2⟩
        have HF : Hid (offR y x s) := HC.out s hs
        have B := bw_trans B1 b2
        clear HC hs b2 B1
        go_wp2
        go_ret
        exact ⟨_, rfl, HF.out, hsl, B⟩
      · have HC : Hid (∀ s, (∃ d, opR .sub b 4368955796522032135 d ∧ opR .sub 4614256656552045848 d s) → offR y x (Fl.ng s)) := fun s h => HB.out s _ h (by rw [if_pos c5])
        clear HB c5
        go_wp2_with fail
        refine (across_any b _).mono ?_
        rintro e w2 ⟨s, rfl, hs, hsl, b2⟩
        have HF : Hid (offR y x (Fl.ng s)) := HC.out s hs
        have B := bw_trans B1 b2
        have nb := Fl.neg_eq (x := s) hsl
        have nbl := Fl.ng_lt (x := s) hsl
        clear HC hs b2 B1
        go_wp2
        go_ret
        exact ⟨_, rfl, HF.out, nbl, B⟩
end Go.Proofs.YtgljnklaabbidaaGreat
