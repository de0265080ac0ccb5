/-
  OWN TEXT: the reference's cosine, quarter, turn (eddyref05.cosine, Quarter, Turn), for every float.
-/
import Derived.Test.YtdbfhbpillgacaaJnAv
import Derived.Test.YtdbfhbpillgacaaJnAe
namespace Go.Proofs.Ytdbfhbpillgacaa
open Go.ChangeShapes Go.WideShapes Go.ChangeAt Go.RowKit
set_option linter.unusedVariables false
attribute [local go_sem] frombits_call tobits_call run_neg
theorem mod4 (q : Int) (h1 : -4194304 ≤ q) (h2 : q ≤ 4194304) : q.tmod 4 = (if q.tmod 4 < 0 then q % 4 - 4 else q % 4) ∧ -4 < q.tmod 4 ∧ q.tmod 4 < 4 := by
  have a := Int.tmod_eq_emod (a := q) (b := 4)
  have b := Int.emod_nonneg q (b := 4) (by decide)
  have c := Int.emod_lt_of_pos q (b := 4) (by decide)
  have d := Int.lt_tmod_of_pos q (b := 4) (by decide)
  have e := Int.tmod_lt_of_pos q (b := 4) (by decide)
  refine ⟨?_, by omega, by omega⟩
  rw [a]
  split <;> split <;> omega
end Go.Proofs.Ytdbfhbpillgacaa
/-
  OWN TEXT: package angle's sine, cosine, pieces of quarters (eddy/angle.sine, cosine, fit, without), for every float.
-/
namespace Go.Proofs.Ytdbfhbpillgacaa
open Go.ChangeShapes Go.WideShapes Go.ChangeAt Go.RowKit
set_option linter.unusedVariables false
attribute [local go_sem] frombits_call tobits_call run_neg
theorem pi_any (w : World) : Calls Try.prog 7 #[] w fun e w' => e = .returned (.tuple #[.float .f64 4614256656552045848, .float .f64 4368955796522032135]) ∧ w' = w := by
  go_enter Try.func7, Try.ntmps7
  go_wp2_with go_in
  go_ret2
  exact ⟨rfl, rfl⟩
theorem nan5_any (w : World) : Calls Try.prog 9 #[] w fun e w' => e = .returned (.float .f64 9221120237041090561) ∧ w' = w := by
  go_enter Try.func9, Try.ntmps9
  go_wp2_with go_in
  go_ret
  exact ⟨rfl, rfl⟩
theorem fit5_any (x : Nat) (w : World) (hx : x < 18446744073709551616) : Calls Try.prog 72 #[.float .f64 x] w fun e w' => e = .returned (.bool (fitB x)) ∧ w' = w := by
  have eb : Fl.withinB x 4697254411347427328 = fitB x := by
    unfold Fl.withinB fitB Fl.leF
    rw [Fl.nan_rg]
    have hl := Fl.rg_lt x
    have hs : Fl.sg (Fl.rg x) = false := by rw [Fl.sg_lt (by omega)]; exact decide_eq_false (by omega)
    have hk : Fl.key (Fl.rg x) = (Fl.rg x : Int) := by unfold Fl.key; rw [hs, if_neg (by decide), Fl.rg_rg]
    rw [hk]
  have AB : Hid (∀ wz, Calls Try.prog 66 #[.float .f64 x, .float .f64 4697254411347427328] wz fun e w' => e = .returned (.bool (fitB x)) ∧ w' = wz) := by
    intro wz
    rw [← eb]
    exact within_any x 4697254411347427328 wz hx
  clear eb
  generalize fitB x = b at *
  go_enter Try.func72, Try.ntmps72
  go_wp2_with (go_at_call 66; refine (AB.out _).mono ?_; rintro e w ⟨rfl, rfl⟩)
  go_ret
  exact ⟨rfl, rfl⟩
theorem tw_sin : ∀ i : Nat, i < 9 → floatBits .add .f64 (floatOfInt .f64 (2 * (9 - (i : Int)))) 4607182418800017408 = some (floatOfInt .f64 (2 * (9 - (i : Int)) + 1)) ∧ floatBits .mul .f64 (floatOfInt .f64 (2 * (9 - (i : Int)))) (floatOfInt .f64 (2 * (9 - (i : Int)) + 1)) = some (floatOfInt .f64 (2 * (9 - (i : Int)) * (2 * (9 - (i : Int)) + 1))) := by decide +kernel
theorem tw_cos : ∀ i : Nat, i < 9 → floatBits .sub .f64 (floatOfInt .f64 (2 * (9 - (i : Int)))) 4607182418800017408 = some (floatOfInt .f64 (2 * (9 - (i : Int)) - 1)) ∧ floatBits .mul .f64 (floatOfInt .f64 (2 * (9 - (i : Int)) - 1)) (floatOfInt .f64 (2 * (9 - (i : Int)))) = some (floatOfInt .f64 ((2 * (9 - (i : Int)) - 1) * (2 * (9 - (i : Int))))) := by decide +kernel
set_option maxHeartbeats 4000000 in
theorem sine5_any (y : Nat) (w : World) : Calls Try.prog 56 #[.float .f64 y] w fun e w' => ∃ s, e = .returned (.float .f64 s) ∧ sinR y s ∧ s < 18446744073709551616 ∧ Bw w w' := by
  obtain ⟨z, w1, hz, e1, g1⟩ := op_run .mul isMul y y w
  go_enter Try.func56, Try.ntmps56
  go_wp2
  go_loopw [4, 10] (fun t k wr => ∃ (i n : Nat), i ≤ 9 ∧ t = .float .f64 n ∧ k = .int .i64 (i : Int) ∧ sinQ z i n ∧ Bw w wr) (fun _ k _ => 9 - (intOf k).toNat)
  case atStart => exact ⟨0, 4607182418800017408, by omega, rfl, rfl, rfl, g1⟩
  case round =>
    obtain ⟨i, n, hi, rfl, rfl, hq, hg⟩ := hrel
    have HQ : Hid (sinQ z i n) := hq
    clear hq e1
    by_cases c : i < 9
    · obtain ⟨t1, t2⟩ := tw_sin i c
      have r1 := fun (ty : TypeId) w => run_float_arith (P := Try.prog) w .add ty .f64 _ _ _ t1
      have r2 := fun (ty : TypeId) w => run_float_arith (P := Try.prog) w .mul ty .f64 _ _ _ t2
      clear t1 t2
      obtain ⟨d, w2, hd, e2, g2⟩ := op_run .quo isQuo z (floatOfInt .f64 (2 * (9 - (i : Int)) * (2 * (9 - (i : Int)) + 1))) wr
      obtain ⟨p, w3, hp, e3, g3⟩ := op_run .mul isMul d n w2
      obtain ⟨t', w4, ht', e4, g4⟩ := op_run .sub isSub 4607182418800017408 p w3
      have hgg := bw_trans (bw_trans (bw_trans hg g2) g3) g4
      have R : ∃ (i' n' : Nat), i' ≤ 9 ∧ Value.float .f64 t' = .float .f64 n' ∧ Value.int .i64 ((i : Int) + 1) = .int .i64 (i' : Int) ∧ sinQ z i' n' ∧ Bw w w4 :=
        ⟨i + 1, t', by omega, rfl, by rw [show (i : Int) + 1 = ((i + 1 : Nat) : Int) by omega], ⟨n, d, p, HQ.out, hd, hp, ht'⟩, hgg⟩
      have HR : Hid _ := R
      clear R hd hp ht' g2 g3 g4 hg HQ hgg hi
      go_wp2
      go_roundw
      case rel => exact HR.out
      case measure => simp [intOf]; omega
    · have hi' : i = 9 := by omega
      subst hi'
      obtain ⟨s, w2, hs, e2, g2⟩ := op_run .mul isMul y n wr
      have hgg := bw_trans hg g2
      have HF : Hid (sinR y s) := ⟨z, n, hz, HQ.out, hs⟩
      have hsl := hs.1
      clear g2 hg HQ hs hz
      go_wp2
      go_ret
      exact ⟨s, rfl, HF.out, hsl, hgg⟩
set_option maxHeartbeats 4000000 in
theorem cosine5_any (y : Nat) (w : World) : Calls Try.prog 57 #[.float .f64 y] w fun e w' => ∃ s, e = .returned (.float .f64 s) ∧ cosR y s ∧ s < 18446744073709551616 ∧ Bw w w' := by
  obtain ⟨z, w1, hz, e1, g1⟩ := op_run .mul isMul y y w
  go_enter Try.func57, Try.ntmps57
  go_wp2
  go_loopw [4, 10] (fun t k wr => ∃ (i n : Nat), i ≤ 9 ∧ t = .float .f64 n ∧ k = .int .i64 (i : Int) ∧ cosQ z i n ∧ Bw w wr) (fun _ k _ => 9 - (intOf k).toNat)
  case atStart => exact ⟨0, 4607182418800017408, by omega, rfl, rfl, rfl, g1⟩
  case round =>
    obtain ⟨i, n, hi, rfl, rfl, hq, hg⟩ := hrel
    have HQ : Hid (cosQ z i n) := hq
    clear hq e1
    by_cases c : i < 9
    · obtain ⟨t1, t2⟩ := tw_cos i c
      have r1 := fun (ty : TypeId) w => run_float_arith (P := Try.prog) w .sub ty .f64 _ _ _ t1
      have r2 := fun (ty : TypeId) w => run_float_arith (P := Try.prog) w .mul ty .f64 _ _ _ t2
      clear t1 t2
      obtain ⟨d, w2, hd, e2, g2⟩ := op_run .quo isQuo z (floatOfInt .f64 ((2 * (9 - (i : Int)) - 1) * (2 * (9 - (i : Int))))) wr
      obtain ⟨p, w3, hp, e3, g3⟩ := op_run .mul isMul d n w2
      obtain ⟨t', w4, ht', e4, g4⟩ := op_run .sub isSub 4607182418800017408 p w3
      have hgg := bw_trans (bw_trans (bw_trans hg g2) g3) g4
      have R : ∃ (i' n' : Nat), i' ≤ 9 ∧ Value.float .f64 t' = .float .f64 n' ∧ Value.int .i64 ((i : Int) + 1) = .int .i64 (i' : Int) ∧ cosQ z i' n' ∧ Bw w w4 :=
        ⟨i + 1, t', by omega, rfl, by rw [show (i : Int) + 1 = ((i + 1 : Nat) : Int) by omega], ⟨n, d, p, HQ.out, hd, hp, ht'⟩, hgg⟩
      have HR : Hid _ := R
      clear R hd hp ht' g2 g3 g4 hg HQ hgg hi
      go_wp2
      go_roundw
      case rel => exact HR.out
      case measure => simp [intOf]; omega
    · have hi' : i = 9 := by omega
      subst hi'
      have hsl := cosQ_lt _ _ HQ.out
      have HF : Hid (cosR y n) := ⟨z, hz, HQ.out⟩
      clear HQ hz
      go_wp2
      go_ret
      exact ⟨n, rfl, HF.out, hsl, hg⟩
theorem piece5_0 (w : World) : (Instr.index 62 (.agg #[.int .u64 4609753056924401664, .int .u64 4454258360616747008, .int .u64 4297306550709518336]) (.int .i64 0)).run Try.prog w = .ok (.int .u64 4609753056924401664) w := by kernel_rfl
theorem piece5_1 (w : World) : (Instr.index 62 (.agg #[.int .u64 4609753056924401664, .int .u64 4454258360616747008, .int .u64 4297306550709518336]) (.int .i64 1)).run Try.prog w = .ok (.int .u64 4454258360616747008) w := by kernel_rfl
theorem piece5_2 (w : World) : (Instr.index 62 (.agg #[.int .u64 4609753056924401664, .int .u64 4454258360616747008, .int .u64 4297306550709518336]) (.int .i64 2)).run Try.prog w = .ok (.int .u64 4297306550709518336) w := by kernel_rfl
attribute [local go_sem] piece5_0 piece5_1 piece5_2
set_option maxHeartbeats 4000000 in
theorem les5_any (x m t a b c : Nat) (w : World) (ha : floatBits .mul .f64 t 4609753056924401664 = some a) (hb : floatBits .mul .f64 t 4454258360616747008 = some b) (hc : floatBits .mul .f64 t 4297306550709518336 = some c) :
    Calls Try.prog 73 #[.float .f64 x, .float .f64 m, .float .f64 t] w fun e w' => ∃ y, e = .returned (.float .f64 y) ∧ lesR x m a b c y ∧ Bw w w' := by
  have ra := fun (ty : TypeId) w => run_float_arith (P := Try.prog) w .mul ty .f64 _ _ _ ha
  have rb := fun (ty : TypeId) w => run_float_arith (P := Try.prog) w .mul ty .f64 _ _ _ hb
  have rc := fun (ty : TypeId) w => run_float_arith (P := Try.prog) w .mul ty .f64 _ _ _ hc
  clear ha hb hc
  go_enter Try.func73, Try.ntmps73
  go_wp2
  go_loopw [0, 10] (fun v k wr => ∃ (i n : Nat), i ≤ 3 ∧ v = .float .f64 n ∧ k = .int .i64 (i : Int) ∧ lesQ x m a b c i n ∧ Bw w wr) (fun _ k _ => 3 - (intOf k).toNat)
  case atStart => exact ⟨0, x, by omega, rfl, rfl, rfl, Bw.refl _⟩
  case round =>
    obtain ⟨i, n, hi, rfl, rfl, hq, hg⟩ := hrel
    rcases (show i = 0 ∨ i = 1 ∨ i = 2 ∨ i = 3 by omega) with rfl | rfl | rfl | rfl
    · obtain ⟨p, w2, hp, e2, g2⟩ := op_run .mul isMul m a wr
      obtain ⟨d, w3, hd, e3, g3⟩ := op_run .sub isSub n p w2
      have hgg := bw_trans (bw_trans hg g2) g3
      have e0 : n = x := hq
      subst e0
      have HR : Hid (lesQ n m a b c 1 d) := ⟨p, hp, hd⟩
      clear hp hd g2 g3 hg hq rb rc
      go_wp2_with go_in
      go_roundw
      case rel => exact ⟨1, d, by omega, rfl, rfl, HR.out, hgg⟩
      case measure => simp [intOf]
    · obtain ⟨p, w2, hp, e2, g2⟩ := op_run .mul isMul m b wr
      obtain ⟨d, w3, hd, e3, g3⟩ := op_run .sub isSub n p w2
      have hgg := bw_trans (bw_trans hg g2) g3
      obtain ⟨p0, q1, q2⟩ := hq
      have HR : Hid (lesQ x m a b c 2 d) := ⟨p0, n, p, q1, q2, hp, hd⟩
      clear hp hd g2 g3 hg q1 q2 ra rc
      go_wp2_with go_in
      go_roundw
      case rel => exact ⟨2, d, by omega, rfl, rfl, HR.out, hgg⟩
      case measure => simp [intOf]
    · obtain ⟨p, w2, hp, e2, g2⟩ := op_run .mul isMul m c wr
      obtain ⟨d, w3, hd, e3, g3⟩ := op_run .sub isSub n p w2
      have hgg := bw_trans (bw_trans hg g2) g3
      obtain ⟨p0, d0, q0, q1, q2, q3, q4⟩ := hq
      have HR : Hid (lesQ x m a b c 3 d) := ⟨p0, d0, q0, n, p, q1, q2, q3, q4, hp, hd⟩
      clear hp hd g2 g3 hg q1 q2 q3 q4 ra rb
      go_wp2_with go_in
      go_roundw
      case rel => exact ⟨3, d, by omega, rfl, rfl, HR.out, hgg⟩
      case measure => simp [intOf]
    · have HR : Hid (lesR x m a b c n) := hq
      clear hq ra rb rc
      go_wp2
      go_ret
      exact ⟨n, rfl, HR.out, hg⟩
end Go.Proofs.Ytdbfhbpillgacaa
