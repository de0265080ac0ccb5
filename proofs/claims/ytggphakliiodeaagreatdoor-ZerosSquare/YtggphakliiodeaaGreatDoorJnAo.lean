/-
  OWN TEXT: the reference's cosine, quarter, turn (eddyref05.cosine, Quarter, Turn), for every float.
-/
import Derived.Test.YtggphakliiodeaaGreatDoorJnAn
import Derived.Test.YtggphakliiodeaaGreatDoorJnAd
namespace Go.Proofs.YtggphakliiodeaaGreatDoor
open Go.ChangeShapes Go.WideShapes Go.ChangeAt Go.RowKit
set_option linter.unusedVariables false
attribute [local go_sem] frombits_call tobits_call run_neg
theorem mod4 (q : Int) (h1 : -4194304 ≤ q) (h2 : q ≤ 4194304) : q.tmod 4 = (if q.tmod 4 < 0 then q % 4 - 4 else q % 4) ∧ -4 < q.tmod 4 ∧ q.tmod 4 < 4 := by
  have a := Int.tmod_eq_emod (a := q) (b := 4)
  have b := Int.emod_nonneg q (b := 4) (by decide)
  have c := Int.emod_lt_of_pos q (b := 4) (by decide)
  have d := Int.lt_tmod_of_pos q (b := 4) (by decide)
  have e := Int.tmod_lt_of_pos q (b := 4) (by decide)
  refine ⟨?_, by omega, by omega⟩
  rw [a]
  split <;> split <;> omega
end Go.Proofs.YtggphakliiodeaaGreatDoor
/-
  OWN TEXT: package angle's sine, cosine, pieces of quarters (eddy/angle.sine, cosine, fit, without), for every float.
-/
namespace Go.Proofs.YtggphakliiodeaaGreatDoor
open Go.ChangeShapes Go.WideShapes Go.ChangeAt Go.RowKit
set_option linter.unusedVariables false
attribute [local go_sem] frombits_call tobits_call run_neg
theorem pi_any (w : World) : Calls Tryz.prog 65 #[] w fun e w' => e = .returned (.tuple #[.float .f64 4614256656552045848, .float .f64 4368955796522032135]) ∧ w' = w := by
  go_enter Tryz.func65, Tryz.ntmps65
  go_wp2_with go_in
  go_ret2
  exact ⟨rfl, rfl⟩
theorem nan5_any (w : World) : Calls Tryz.prog 58 #[] w fun e w' => e = .returned (.float .f64 9221120237041090561) ∧ w' = w := by
  go_enter Tryz.func58, Tryz.ntmps58
  go_wp2_with go_in
  go_ret
  exact ⟨rfl, rfl⟩
theorem fit5_any (x : Nat) (w : World) (hx : x < 18446744073709551616) : Calls Tryz.prog 142 #[.float .f64 x] w fun e w' => e = .returned (.bool (fitB x)) ∧ w' = w := by
  have eb : Fl.withinB x 4697254411347427328 = fitB x := by
    unfold Fl.withinB fitB Fl.leF
    rw [Fl.nan_rg]
    have hl := Fl.rg_lt x
    have hs : Fl.sg (Fl.rg x) = false := by rw [Fl.sg_lt (by omega)]; exact decide_eq_false (by omega)
    have hk : Fl.key (Fl.rg x) = (Fl.rg x : Int) := by unfold Fl.key; rw [hs, if_neg (by decide), Fl.rg_rg]
    rw [hk]
  have AB : Hid (∀ wz, Calls Tryz.prog 92 #[.float .f64 x, .float .f64 4697254411347427328] wz fun e w' => e = .returned (.bool (fitB x)) ∧ w' = wz) := by
    intro wz
    rw [← eb]
    exact within_any x 4697254411347427328 wz hx
  clear eb
  generalize fitB x = b at *
  go_enter Tryz.func142, Tryz.ntmps142
  go_wp2_with (go_at_call 92; refine (AB.out _).mono ?_; rintro e w ⟨rfl, rfl⟩)
  go_ret
  exact ⟨rfl, rfl⟩
theorem tw_sin : ∀ i : Nat, i < 9 → floatBits .add .f64 (floatOfInt .f64 (2 * (9 - (i : Int)))) 4607182418800017408 = some (floatOfInt .f64 (2 * (9 - (i : Int)) + 1)) ∧ floatBits .mul .f64 (floatOfInt .f64 (2 * (9 - (i : Int)))) (floatOfInt .f64 (2 * (9 - (i : Int)) + 1)) = some (floatOfInt .f64 (2 * (9 - (i : Int)) * (2 * (9 - (i : Int)) + 1))) := by decide +kernel
theorem tw_cos : ∀ i : Nat, i < 9 → floatBits .sub .f64 (floatOfInt .f64 (2 * (9 - (i : Int)))) 4607182418800017408 = some (floatOfInt .f64 (2 * (9 - (i : Int)) - 1)) ∧ floatBits .mul .f64 (floatOfInt .f64 (2 * (9 - (i : Int)) - 1)) (floatOfInt .f64 (2 * (9 - (i : Int)))) = some (floatOfInt .f64 ((2 * (9 - (i : Int)) - 1) * (2 * (9 - (i : Int))))) := by decide +kernel
set_option maxHeartbeats 4000000 in
theorem sine5_any (y : Nat) (w : World) : Calls Tryz.prog 138 #[.float .f64 y] w fun e w' => ∃ s, e = .returned (.float .f64 s) ∧ sinR y s ∧ s < 18446744073709551616 ∧ Bw w w' := by
  obtain ⟨z, w1, hz, e1, g1⟩ := op_run .mul isMul y y w
  go_enter Tryz.func138, Tryz.ntmps138
  go_wp2
  go_loopw [4, 10] (fun t k wr => ∃ (i n : Nat), i ≤ 9 ∧ t = .float .f64 n ∧ k = .int .i64 (i : Int) ∧ sinQ z i n ∧ Bw w wr) (fun _ k _ => 9 - (intOf k).toNat)
  case atStart => exact ⟨0, 4607182418800017408, by omega, rfl, rfl, rfl, g1⟩
  case round =>
    obtain ⟨i, n, hi, rfl, rfl, hq, hg⟩ := hrel
    have HQ : Hid (sinQ z i n) := hq
    clear hq e1
    by_cases c : i < 9
    · obtain ⟨t1, t2⟩ := tw_sin i c
      have r1 := fun (ty : TypeId) w => run_float_arith (P := Tryz.prog) w .add ty .f64 _ _ _ t1
      have r2 := fun (ty : TypeId) w => run_float_arith (P := Tryz.prog) w .mul ty .f64 _ _ _ t2
      clear t1 t2
      obtain ⟨d, w2, hd, e2, g2⟩ := op_run .quo isQuo z (floatOfInt .f64 (2 * (9 - (i : Int)) * (2 * (9 - (i : Int)) + 1))) wr
      obtain ⟨p, w3, hp, e3, g3⟩ := op_run .mul isMul d n w2
      obtain ⟨t', w4, ht', e4, g4⟩ := op_run .sub isSub 4607182418800017408 p w3
      have hgg := bw_trans (bw_trans (bw_trans hg g2) g3) g4
      have R : ∃ (i' n' : Nat), i' ≤ 9 ∧ Value.float .f64 t' = .float .f64 n' ∧ Value.int .i64 ((i : Int) + 1) = .int .i64 (i' : Int) ∧ sinQ z i' n' ∧ Bw w w4 :=
        ⟨i + 1, t', by omega, rfl, by rw [show (i : Int) + 1 = ((i + 1 : Nat) : Int) by omega], ⟨n, d, p, HQ.out, hd, hp, ht'⟩, hgg⟩
      have HR : Hid _ := R
      clear R hd hp ht' g2 g3 g4 hg HQ hgg hi
      go_wp2
      go_roundw
      case rel => exact HR.out
      case measure => simp [intOf]; omega
    · have hi' : i = 9 := by omega
      subst hi'
      obtain ⟨s, w2, hs, e2, g2⟩ := op_run .mul isMul y n wr
      have hgg := bw_trans hg g2
      have HF : Hid (sinR y s) := ⟨z, n, hz, HQ.out, hs⟩
      have hsl := hs.1
      clear g2 hg HQ hs hz
      go_wp2
      go_ret
      exact ⟨s, rfl, HF.out, hsl, hgg⟩
set_option maxHeartbeats 4000000 in
theorem cosine5_any (y : Nat) (w : World) : Calls Tryz.prog 139 #[.float .f64 y] w fun e w' => ∃ s, e = .returned (.float .f64 s) ∧ cosR y s ∧ s < 18446744073709551616 ∧ Bw w w' := by
  obtain ⟨z, w1, hz, e1, g1⟩ := op_run .mul isMul y y w
  go_enter Tryz.func139, Tryz.ntmps139
  go_wp2
  go_loopw [4, 10] (fun t k wr => ∃ (i n : Nat), i ≤ 9 ∧ t = .float .f64 n ∧ k = .int .i64 (i : Int) ∧ cosQ z i n ∧ Bw w wr) (fun _ k _ => 9 - (intOf k).toNat)
  case atStart => exact ⟨0, 4607182418800017408, by omega, rfl, rfl, rfl, g1⟩
  case round =>
    obtain ⟨i, n, hi, rfl, rfl, hq, hg⟩ := hrel
    have HQ : Hid (cosQ z i n) := hq
    clear hq e1
    by_cases c : i < 9
    · obtain ⟨t1, t2⟩ := tw_cos i c
      have r1 := fun (ty : TypeId) w => run_float_arith (P := Tryz.prog) w .sub ty .f64 _ _ _ t1
      have r2 := fun (ty : TypeId) w => run_float_arith (P := Tryz.prog) w .mul ty .f64 _ _ _ t2
      clear t1 t2
      obtain ⟨d, w2, hd, e2, g2⟩ := op_run .quo isQuo z (floatOfInt .f64 ((2 * (9 - (i : Int)) - 1) * (2 * (9 - (i : Int))))) wr
      obtain ⟨p, w3, hp, e3, g3⟩ := op_run .mul isMul d n w2
      obtain ⟨t', w4, ht', e4, g4⟩ := op_run .sub isSub 4607182418800017408 p w3
      have hgg := bw_trans (bw_trans (bw_trans hg g2) g3) g4
      have R : ∃ (i' n' : Nat), i' ≤ 9 ∧ Value.float .f64 t' = .float .f64 n' ∧ Value.int .i64 ((i : Int) + 1) = .int .i64 (i' : Int) ∧ cosQ z i' n' ∧ Bw w w4 :=
        ⟨i + 1, t', by omega, rfl, by rw [show (i : Int) + 1 = ((i + 1 : Nat) : Int) by omega], ⟨n, d, p, HQ.out, hd, hp, ht'⟩, hgg⟩
      have HR : Hid _ := R
      clear R hd hp ht' g2 g3 g4 hg HQ hgg hi
      go_wp2
      go_roundw
      case rel => exact HR.out
      case measure => simp [intOf]; omega
    · have hi' : i = 9 := by omega
      subst hi'
      have hsl := cosQ_lt _ _ HQ.out
      have HF : Hid (cosR y n) := ⟨z, hz, HQ.out⟩
      clear HQ hz
      go_wp2
      go_ret
      exact ⟨n, rfl, HF.out, hsl, hg⟩
theorem piece5_0 (w : World) : (Instr.index 136 (.agg #[.int .u64 4609753056924401664, .int .u64 4454258360616747008, .int .u64 4297306550709518336]) (.int .i64 0)).run Tryz.prog w = .ok (.int .u64 4609753056924401664) w := by kernel_rfl
theorem piece5_1 (w : World) : (Instr.index 136 (.agg #[.int .u64 4609753056924401664, .int .u64 4454258360616747008, .int .u64 4297306550709518336]) (.int .i64 1)).run Tryz.prog w = .ok (.int .u64 4454258360616747008) w := by kernel_rfl
theorem piece5_2 (w : World) : (Instr.index 136 (.agg #[.int .u64 4609753056924401664, .int .u64 4454258360616747008, .int .u64 4297306550709518336]) (.int .i64 2)).run Tryz.prog w = .ok (.int .u64 4297306550709518336) w := by kernel_rfl
attribute [local go_sem] piece5_0 piece5_1 piece5_2
set_option maxHeartbeats 4000000 in
theorem les5_any (x m t a b c : Nat) (w : World) (ha : floatBits .mul .f64 t 4609753056924401664 = some a) (hb : floatBits .mul .f64 t 4454258360616747008 = some b) (hc : floatBits .mul .f64 t 4297306550709518336 = some c) :
    Calls Tryz.prog 144 #[.float .f64 x, .float .f64 m, .float .f64 t] w fun e w' => ∃ y, e = .returned (.float .f64 y) ∧ lesR x m a b c y ∧ Bw w w' := by
  have ra := fun (ty : TypeId) w => run_float_arith (P := Tryz.prog) w .mul ty .f64 _ _ _ ha
  have rb := fun (ty : TypeId) w => run_float_arith (P := Tryz.prog) w .mul ty .f64 _ _ _ hb
  have rc := fun (ty : TypeId) w => run_float_arith (P := Tryz.prog) w .mul ty .f64 _ _ _ hc
  clear ha hb hc
  go_enter Tryz.func144, Tryz.ntmps144
  go_wp2
  go_loopw [0, 10] (fun v k wr => ∃ (i n : Nat), i ≤ 3 ∧ v = .float .f64 n ∧ k = .int .i64 (i : Int) ∧ lesQ x m a b c i n ∧ Bw w wr) (fun _ k _ => 3 - (intOf k).toNat)
  case atStart => exact ⟨0, x, by omega, rfl, rfl, rfl, Bw.refl _⟩
  case round =>
    obtain ⟨i, n, hi, rfl, rfl, hq, hg⟩ := hrel
    rcases (show i = 0 ∨ i = 1 ∨ i = 2 ∨ i = 3 by omega) with rfl | rfl | rfl | rfl
    · obtain ⟨p, w2, hp, e2, g2⟩ := op_run .mul isMul m a wr
      obtain ⟨d, w3, hd, e3, g3⟩ := op_run .sub isSub n p w2
      have hgg := bw_trans (bw_trans hg g2) g3
      have e0 : n = x := hq
      subst e0
      have HR : Hid (lesQ n m a b c 1 d) := ⟨p, hp, hd⟩
      clear hp hd g2 g3 hg hq rb rc
      go_wp2_with go_in
      go_roundw
      case rel => exact ⟨1, d, by omega, rfl, rfl, HR.out, hgg⟩
      case measure => simp [intOf]
    · obtain ⟨p, w2, hp, e2, g2⟩ := op_run .mul isMul m b wr
      obtain ⟨d, w3, hd, e3, g3⟩ := op_run .sub isSub n p w2
      have hgg := bw_trans (bw_trans hg g2) g3
      obtain ⟨p0, q1, q2⟩ := hq
      have HR : Hid (lesQ x m a b c 2 d) := ⟨p0, n, p, q1, q2, hp, hd⟩
      clear hp hd g2 g3 hg q1 q2 ra rc
      go_wp2_with go_in
      go_roundw
      case rel => exact ⟨2, d, by omega, rfl, rfl, HR.out, hgg⟩
      case measure => simp [intOf]
    · obtain ⟨p, w2, hp, e2, g2⟩ := op_run .mul isMul m c wr
      obtain ⟨d, w3, hd, e3, g3⟩ := op_run .sub isSub n p w2
      have hgg := bw_trans (bw_trans hg g2) g3
      obtain ⟨p0, d0, q0, q1, q2, q3, q4⟩ := hq
      have HR : Hid (lesQ x m a b c 3 d) := ⟨p0, d0, q0, n, p, q1, q2, q3, q4, hp, hd⟩
      clear hp hd g2 g3 hg q1 q2 q3 q4 ra rb
      go_wp2_with go_in
      go_roundw
      case rel => exact ⟨3, d, by omega, rfl, rfl, HR.out, hgg⟩
      case measure => simp [intOf]
    · have HR : Hid (lesR x m a b c n) := hq
      clear hq ra rb rc
      go_wp2
      go_ret
      exact ⟨n, rfl, HR.out, hg⟩
end Go.Proofs.YtggphakliiodeaaGreatDoor
/-
  OWN TEXT: package angle's quarters and turns (eddy/angle.Quarter, Turn), for every float.
-/
namespace Go.Proofs.YtggphakliiodeaaGreatDoor
open Go.ChangeShapes Go.WideShapes Go.ChangeAt Go.RowKit
set_option linter.unusedVariables false
attribute [local go_sem] frombits_call tobits_call run_neg
theorem fol_p {x c p : Nat} (hc : Fl.rg c ≤ 4607182418800017408) (hr : Fl.rg x ≤ 4697254411347427328) (h1 : opR .mul x c p) : Fl.nan p = false := by
  have hm := Fl.mul_fin (x := x) (y := c) (by omega) (by omega)
  have e1 : p = Fl.wd (Fl.sg x ^^ Fl.sg c) (Fl.rq (Fl.vl (Fl.rg x) * Fl.vl (Fl.rg c)) 1074) := by
    rcases h1.2 with k | k
    · exact (Option.some.inj (hm.symm.trans k)).symm
    · exact absurd (hm.symm.trans k.1) (by intro c; cases c)
  rw [e1]
  exact Fl.nan_wd _ _ (Fl.rq_le _ _)
theorem whR_num (p : Nat) (hp : p < 18446744073709551616) (h : Fl.nan p = false) : whR p (Fl.whF p) := ⟨(Fl.whF_ng hp h).2.1, by rw [if_neg (by rw [h]; decide)]⟩
theorem and3 (n : Int) : bits .and .i64 n 3 = n % 4 := by
  have h3 : (BitVec.ofInt 64 3).toNat = 2 ^ 2 - 1 := by decide
  have key : (BitVec.ofInt 64 n &&& BitVec.ofInt 64 3).toNat = (n % ((2 ^ 64 : Nat) : Int)).toNat % 2 ^ 2 := by
    rw [BitVec.toNat_and, BitVec.toNat_ofInt, h3, Nat.and_two_pow_sub_one_eq_mod]
  show IntKind.i64.wrap ((BitVec.ofInt 64 n &&& BitVec.ofInt 64 3).toNat : Nat) = n % 4
  rw [key, IntKind.wrap_i64]
  omega
set_option maxHeartbeats 4000000 in
theorem quarter_any (x : Nat) (w : World) (hx : x < 18446744073709551616) : Calls Tryz.prog 137 #[.float .f64 x] w fun e w' => ∃ y n, e = .returned (.tuple #[.float .f64 y, .int .i64 n]) ∧ quaR x y n ∧ Bw w w' := by
  have FI : Hid (∀ wz, Calls Tryz.prog 142 #[.float .f64 x] wz fun e w' => e = .returned (.bool (fitB x)) ∧ w' = wz) := fun wz => fit5_any x wz hx
  cases c : fitB x
  · rw [c] at FI
    have HQ : Hid (quaR x 9221120237041090561 0) := ⟨by decide, by rw [if_neg (by rw [c]; decide)]; exact ⟨by decide, rfl⟩⟩
    clear c
    go_enter Tryz.func137, Tryz.ntmps137
    go_wp2_with (first | (go_at_call 142; refine (FI.out _).mono ?_; rintro e' w9 ⟨rfl, hw9⟩; subst hw9) | (go_at_call 58; refine (nan5_any _).mono ?_; rintro e' w9 ⟨rfl, hw9⟩; subst hw9))
    go_ret2
    exact ⟨_, _, rfl, HQ.out, Bw.refl _⟩
  · rw [c] at FI
    obtain ⟨p, w1, hp, e1, g1⟩ := op_run .mul isMul x 4603909380684499075 w
    have np := fol_p (by decide) (fit_rg hx c).2 hp
    have hwh := whR_num p hp.1 np
    have WH : Hid (∀ wz, Calls Tryz.prog 143 #[.float .f64 p] wz fun e w' => e = .returned (.float .f64 (Fl.whF p)) ∧ w' = wz) := fun wz => whole_num p wz np
    generalize Fl.whF p = m at *
    have hf : folR x 4603909380684499075 m := ⟨p, hp, hwh⟩
    obtain ⟨nm, hml, q, q1, q2, hq⟩ := fol_int (by decide) (fit_rg hx c).2 hf
    have g3 := Fl.o_eq m 0
    cases c2 : Fl.eqF m 0
    · rw [c2] at g3
      have HQ : Hid (∀ y, y < 18446744073709551616 → lesR x m 4609753056924401664 4454258360616747008 4297306550709518336 y → quaR x y (q % 4)) := fun y hy hl => ⟨hy, by rw [if_pos c]; exact ⟨m, hf, by rw [if_neg (by rw [c2]; decide)]; exact ⟨hl, q, hq, rfl⟩⟩⟩
      clear c c2 hp hwh hf nm np
      have hcv := fun w => run_convert_float_int (P := Tryz.prog) w 35 3 .f64 .i64 m q (by kernel_rfl) (by kernel_rfl) hq
      have M4 : Hid (bits .and .i64 q 3 = q % 4) := and3 q
      have LS : Hid (∀ wz, Calls Tryz.prog 144 #[.float .f64 x, .float .f64 m, .float .f64 4607182418800017408] wz fun e w' => ∃ y, e = .returned (.float .f64 y) ∧ lesR x m 4609753056924401664 4454258360616747008 4297306550709518336 y ∧ Bw wz w') := fun wz => les5_any x m 4607182418800017408 4609753056924401664 4454258360616747008 4297306550709518336 wz (by decide +kernel) (by decide +kernel) (by decide +kernel)
      go_enter Tryz.func137, Tryz.ntmps137
      go_wp2_with (first | (go_at_call 142; refine (FI.out _).mono ?_; rintro e' w9 ⟨rfl, hw9⟩; subst hw9) | (go_at_call 143; refine (WH.out _).mono ?_; rintro e' w9 ⟨rfl, hw9⟩; subst hw9) | (go_at_call 100; refine (from_any 4603909380684499075 _).mono ?_; rintro e' w9 ⟨rfl, hw9⟩; subst hw9) | fail)
      refine (LS.out _).mono ?_
      rintro e w2 ⟨y, rfl, hy, b2⟩
      have B := bw_trans g1 b2
      have hyl := les_lt hy
      have HE : Hid (quaR x y (q % 4)) := HQ.out y hyl hy
      clear HQ hy b2 g1 LS
      go_wp2
      go_ret2
      exact ⟨y, q % 4, by rw [← M4.out]; rfl, HE.out, B⟩
    · rw [c2] at g3
      have HQ : Hid (quaR x x 0) := ⟨hx, by rw [if_pos c]; exact ⟨m, hf, by rw [if_pos c2]; exact ⟨rfl, rfl⟩⟩⟩
      clear c c2 hp hwh hf nm np
      go_enter Tryz.func137, Tryz.ntmps137
      go_wp2_with (first | (go_at_call 142; refine (FI.out _).mono ?_; rintro e' w9 ⟨rfl, hw9⟩; subst hw9) | (go_at_call 143; refine (WH.out _).mono ?_; rintro e' w9 ⟨rfl, hw9⟩; subst hw9) | (go_at_call 100; refine (from_any 4603909380684499075 _).mono ?_; rintro e' w9 ⟨rfl, hw9⟩; subst hw9))
      go_ret2
      exact ⟨x, 0, rfl, HQ.out, g1⟩
theorem sinR_nan {y s : Nat} (h : sinR y s) (hn : Fl.nan y = true) : Fl.nan s = true := by
  obtain ⟨z, t, _, _, h3⟩ := h
  exact h3.nan (nan_left _ isMul hn)
theorem cosR_nan {y s : Nat} (h : cosR y s) (hn : Fl.nan y = true) : Fl.nan s = true := by
  obtain ⟨z, h1, h2⟩ := h
  have hz := h1.nan (nan_left _ isMul hn)
  obtain ⟨t, d, p, _, k2, k3, k4⟩ := h2
  have hd := k2.nan (nan_left _ isQuo hz)
  have hp := k3.nan (nan_left _ isMul hd)
  exact k4.nan (nan_right _ isSub hp)
set_option maxHeartbeats 4000000 in
theorem turn_any (x : Nat) (w : World) (hx : x < 18446744073709551616) : Calls Tryz.prog 125 #[.float .f64 x] w fun e w' => ∃ a b, e = .returned (.tuple #[.float .f64 a, .float .f64 b]) ∧ turR x a b ∧ Bw w w' := by
  have HT : Hid (∀ y n s c a b, quaR x y n → sinR y s → cosR y c → turnAt n s c a b → a < 18446744073709551616 → b < 18446744073709551616 → turR x a b) := by
    intro y n s d a b h1 h2 h3 h4 h5 h6
    refine ⟨h5, h6, ?_⟩
    by_cases c : fitB x = true
    · rw [if_pos c]; exact ⟨y, n, s, d, h1, h2, h3, h4⟩
    · rw [if_neg c]
      obtain ⟨_, k⟩ := h1
      rw [if_neg c] at k
      have e1 := sinR_nan h2 k.1
      have e2 := cosR_nan h3 k.1
      rcases h4 with ⟨_, rfl, rfl⟩ | ⟨_, rfl, rfl⟩ | ⟨_, rfl, rfl⟩ | ⟨_, rfl, rfl⟩ <;> constructor <;> first | exact e1 | exact e2 | (rw [Fl.nan_ng]; first | exact e1 | exact e2)
  go_enter Tryz.func125, Tryz.ntmps125
  go_wp2_with fail
  refine (quarter_any x _ hx).mono ?_
  rintro e w1 ⟨y, n, rfl, hq, b1⟩
  have hr := hq.range
  have HQ : Hid (quaR x y n) := hq
  clear hq
  go_wp2_with fail
  refine (sine5_any y _).mono ?_
  rintro e w2 ⟨s, rfl, hs, hsl, b2⟩
  have HS : Hid (sinR y s) := hs
  clear hs
  go_wp2_with fail
  refine (cosine5_any y _).mono ?_
  rintro e w3 ⟨c, rfl, hc, hcl, b3⟩
  have B := bw_trans (bw_trans b1 b2) b3
  have HA : Hid (∀ a b, turnAt n s c a b → a < 18446744073709551616 → b < 18446744073709551616 → turR x a b) := fun a b h h5 h6 => HT.out y n s c a b HQ.out HS.out hc h h5 h6
  have nsl := Fl.ng_lt hsl
  have ncl := Fl.ng_lt hcl
  have ns := Fl.neg_eq hsl
  have nc := Fl.neg_eq hcl
  have nns := Fl.neg_eq nsl
  rw [Fl.ng_ng hsl] at nns
  clear HQ HS hc HT b1 b2 b3
  rcases (show n = 0 ∨ n = 1 ∨ n = 2 ∨ n = 3 by omega) with rfl | rfl | rfl | rfl
  · go_wp2
    go_ret2
    exact ⟨s, c, rfl, HA.out _ _ (Or.inl ⟨rfl, rfl, rfl⟩) hsl hcl, B⟩
  · go_wp2
    go_ret2
    exact ⟨c, Fl.ng s, rfl, HA.out _ _ (Or.inr (Or.inl ⟨rfl, rfl, rfl⟩)) hcl nsl, B⟩
  · go_wp2
    go_ret2
    exact ⟨Fl.ng s, Fl.ng c, rfl, HA.out _ _ (Or.inr (Or.inr (Or.inl ⟨rfl, rfl, rfl⟩))) nsl ncl, B⟩
  · go_wp2
    go_ret2
    exact ⟨Fl.ng c, s, rfl, HA.out _ _ (Or.inr (Or.inr (Or.inr ⟨rfl, rfl, rfl⟩))) ncl hsl, B⟩
end Go.Proofs.YtggphakliiodeaaGreatDoor
