/-
  OWN TEXT: the reference's float made whole (eddyref01.Whole), for every float.
-/
import Derived.Test.YtlbikopancleoaaGreatDoorJnAu
import Derived.Test.YtlbikopancleoaaGreatDoorJnAh
namespace Go.Proofs.YtlbikopancleoaaGreatDoor
open Go.ChangeShapes Go.WideShapes Go.ChangeAt Go.RowKit
set_option linter.unusedVariables false
theorem same_self (z : Nat) : Fl.sameB z z = true := by unfold Fl.sameB; simp
/-- what both answer of a float made whole -/
theorem rwhole_any (x : Nat) (w : World) (hx : x < 18446744073709551616) : Calls Tryz.prog 100 #[.float .f64 x] w fun e w' => e = .returned (.float .f64 (if Fl.nan x then x else Fl.whF x)) ∧ w' = w := by
  cases hn : Fl.nan x
  · rw [if_neg (by decide)]
    by_cases c : Fl.rg x = 0 ∨ 4841369599423283200 ≤ Fl.rg x
    · rw [wh_stay x 1074 rfl hx hn c]
      exact rwhole_stay x w hx (Or.inr c)
    · exact rwhole_small x w hx (by omega) (by omega)
  · rw [if_pos rfl]
    exact rwhole_stay x w hx (Or.inl hn)
end Go.Proofs.YtlbikopancleoaaGreatDoor
/-
  OWN TEXT: the reference's quarters, sines, cosines (eddyref05.Quarter, Turn), for every float.
-/
namespace Go.Proofs.YtlbikopancleoaaGreatDoor
open Go.ChangeShapes Go.WideShapes Go.ChangeAt Go.RowKit
set_option linter.unusedVariables false
attribute [local go_sem] frombits_call tobits_call run_neg
theorem rnone_any (w : World) : Calls Tryz.prog 62 #[] w fun e w' => e = .returned (.float .f64 9221120237041090561) ∧ w' = w := by
  go_enter Tryz.func62, Tryz.ntmps62
  go_wp2_with go_in
  go_ret
  exact ⟨rfl, rfl⟩
theorem rhigh_any (w : World) : Calls Tryz.prog 87 #[] w fun e w' => e = .returned (.float .f64 4614256656552045848) ∧ w' = w := by
  go_enter Tryz.func87, Tryz.ntmps87
  go_wp2_with go_in
  go_ret
  exact ⟨rfl, rfl⟩
theorem rlow_any (w : World) : Calls Tryz.prog 89 #[] w fun e w' => e = .returned (.float .f64 4368955796522032135) ∧ w' = w := by
  go_enter Tryz.func89, Tryz.ntmps89
  go_wp2_with go_in
  go_ret
  exact ⟨rfl, rfl⟩
theorem rpiece0 (w : World) : Calls Tryz.prog 127 #[.int .i64 0] w fun e w' => e = .returned (.float .f64 4609753056924401664) ∧ w' = w := by
  go_enter Tryz.func127, Tryz.ntmps127
  go_wp2_with go_in
  go_ret
  exact ⟨rfl, rfl⟩
theorem rpiece1 (w : World) : Calls Tryz.prog 127 #[.int .i64 1] w fun e w' => e = .returned (.float .f64 4454258360616747008) ∧ w' = w := by
  go_enter Tryz.func127, Tryz.ntmps127
  go_wp2_with go_in
  go_ret
  exact ⟨rfl, rfl⟩
theorem rpiece2 (w : World) : Calls Tryz.prog 127 #[.int .i64 2] w fun e w' => e = .returned (.float .f64 4297306550709518336) ∧ w' = w := by
  go_enter Tryz.func127, Tryz.ntmps127
  go_wp2_with go_in
  go_ret
  exact ⟨rfl, rfl⟩
theorem rbits_t (n : Nat) (w : World) : Calls Tryz.prog 105 #[.int .u64 (n : Int)] w fun e w' => e = .returned (.float .f64 n) ∧ w' = w := by
  go_enter Tryz.func105, Tryz.ntmps105
  go_wp2
  go_ret
  exact ⟨rfl, rfl⟩
theorem rfit_any (x : Nat) (w : World) (hx : x < 18446744073709551616) : Calls Tryz.prog 61 #[.float .f64 x] w fun e w' => e = .returned (.bool (fitB x)) ∧ w' = w := by
  have o := Fl.o_le (Fl.rg x) 4697254411347427328
  have AB : Hid (∀ wz, Calls Tryz.prog 78 #[.float .f64 x] wz fun e w' => e = .returned (.float .f64 (Fl.rg x)) ∧ w' = wz) := fun wz => abs_any x wz hx
  unfold fitB
  generalize Fl.leF (Fl.rg x) 4697254411347427328 = b at *
  generalize Fl.rg x = r at *
  go_enter Tryz.func61, Tryz.ntmps61
  go_wp2_with (go_at_call 78; refine (AB.out _).mono ?_; rintro e w ⟨rfl, rfl⟩)
  go_ret
  exact ⟨rfl, rfl⟩
def lesQ (x m a b c : Nat) : Nat → Nat → Prop
  | 0, y => y = x
  | 1, y => ∃ p, opR .mul m a p ∧ opR .sub x p y
  | 2, y => ∃ p d q, opR .mul m a p ∧ opR .sub x p d ∧ opR .mul m b q ∧ opR .sub d q y
  | _, y => lesR x m a b c y
set_option maxHeartbeats 4000000 in
theorem rles_any (x m t a b c : Nat) (w : World) (ha : floatBits .mul .f64 t 4609753056924401664 = some a) (hb : floatBits .mul .f64 t 4454258360616747008 = some b) (hc : floatBits .mul .f64 t 4297306550709518336 = some c) :
    Calls Tryz.prog 106 #[.float .f64 x, .float .f64 m, .float .f64 t] w fun e w' => ∃ y, e = .returned (.float .f64 y) ∧ lesR x m a b c y ∧ Bw w w' := by
  have ra := fun (ty : TypeId) w => run_float_arith (P := Tryz.prog) w .mul ty .f64 _ _ _ ha
  have rb := fun (ty : TypeId) w => run_float_arith (P := Tryz.prog) w .mul ty .f64 _ _ _ hb
  have rc := fun (ty : TypeId) w => run_float_arith (P := Tryz.prog) w .mul ty .f64 _ _ _ hc
  clear ha hb hc
  go_enter Tryz.func106, Tryz.ntmps106
  go_wp2
  go_loopw [7, 8] (fun v k wr => ∃ (i n : Nat), i ≤ 3 ∧ v = .float .f64 n ∧ k = .int .i64 (i : Int) ∧ lesQ x m a b c i n ∧ Bw w wr) (fun _ k _ => 3 - (intOf k).toNat)
  case atStart => exact ⟨0, x, by omega, rfl, rfl, rfl, Bw.refl _⟩
  case round =>
    obtain ⟨i, n, hi, rfl, rfl, hq, hg⟩ := hrel
    rcases (show i = 0 ∨ i = 1 ∨ i = 2 ∨ i = 3 by omega) with rfl | rfl | rfl | rfl
    · obtain ⟨p, w2, hp, e2, g2⟩ := op_run .mul isMul m a wr
      obtain ⟨d, w3, hd, e3, g3⟩ := op_run .sub isSub n p w2
      have hgg := bw_trans (bw_trans hg g2) g3
      have e0 : n = x := hq
      subst e0
      have HR : Hid (lesQ n m a b c 1 d) := ⟨p, hp, hd⟩
      clear hp hd g2 g3 hg hq rb rc
      go_wp2_with (go_at_call 127; refine (rpiece0 _).mono ?_; rintro e' w9 ⟨rfl, hw9⟩; subst hw9)
      go_roundw
      case rel => exact ⟨1, d, by omega, rfl, rfl, HR.out, hgg⟩
      case measure => simp [intOf]
    · obtain ⟨p, w2, hp, e2, g2⟩ := op_run .mul isMul m b wr
      obtain ⟨d, w3, hd, e3, g3⟩ := op_run .sub isSub n p w2
      have hgg := bw_trans (bw_trans hg g2) g3
      obtain ⟨p0, q1, q2⟩ := hq
      have HR : Hid (lesQ x m a b c 2 d) := ⟨p0, n, p, q1, q2, hp, hd⟩
      clear hp hd g2 g3 hg q1 q2 ra rc
      go_wp2_with (go_at_call 127; refine (rpiece1 _).mono ?_; rintro e' w9 ⟨rfl, hw9⟩; subst hw9)
      go_roundw
      case rel => exact ⟨2, d, by omega, rfl, rfl, HR.out, hgg⟩
      case measure => simp [intOf]
    · obtain ⟨p, w2, hp, e2, g2⟩ := op_run .mul isMul m c wr
      obtain ⟨d, w3, hd, e3, g3⟩ := op_run .sub isSub n p w2
      have hgg := bw_trans (bw_trans hg g2) g3
      obtain ⟨p0, d0, q0, q1, q2, q3, q4⟩ := hq
      have HR : Hid (lesQ x m a b c 3 d) := ⟨p0, d0, q0, n, p, q1, q2, q3, q4, hp, hd⟩
      clear hp hd g2 g3 hg q1 q2 q3 q4 ra rb
      go_wp2_with (go_at_call 127; refine (rpiece2 _).mono ?_; rintro e' w9 ⟨rfl, hw9⟩; subst hw9)
      go_roundw
      case rel => exact ⟨3, d, by omega, rfl, rfl, HR.out, hgg⟩
      case measure => simp [intOf]
    · have HR : Hid (lesR x m a b c n) := hq
      clear hq ra rb rc
      go_wp2
      go_ret
      exact ⟨n, rfl, HR.out, hg⟩
set_option maxHeartbeats 4000000 in
theorem rsine_any (y : Nat) (w : World) : Calls Tryz.prog 64 #[.float .f64 y] w fun e w' => ∃ s, e = .returned (.float .f64 s) ∧ sinR y s ∧ s < 18446744073709551616 ∧ Bw w w' := by
  obtain ⟨z, w1, hz, e1, g1⟩ := op_run .mul isMul y y w
  go_enter Tryz.func64, Tryz.ntmps64
  go_wp2
  go_loopw [4, 5] (fun t k wr => ∃ (i n : Nat), i ≤ 9 ∧ t = .float .f64 n ∧ k = .int .i64 (9 - (i : Int)) ∧ sinQ z i n ∧ Bw w wr) (fun _ k _ => (intOf k).toNat)
  case atStart => exact ⟨0, 4607182418800017408, by omega, rfl, rfl, rfl, g1⟩
  case round =>
    obtain ⟨i, n, hi, rfl, rfl, hq, hg⟩ := hrel
    have HQ : Hid (sinQ z i n) := hq
    clear hq e1
    by_cases c : i < 9
    · have hk : (1 : Int) ≤ 9 - (i : Int) := by omega
      have hkb : 9 - (i : Int) ≤ 9 := by omega
      obtain ⟨d, w2, hd, e2, g2⟩ := op_run .quo isQuo z (floatOfInt .f64 (2 * (9 - (i : Int)) * (2 * (9 - (i : Int)) + 1))) wr
      obtain ⟨p, w3, hp, e3, g3⟩ := op_run .mul isMul d n w2
      obtain ⟨t', w4, ht', e4, g4⟩ := op_run .sub isSub 4607182418800017408 p w3
      have hgg := bw_trans (bw_trans (bw_trans hg g2) g3) g4
      have R : ∃ (i' n' : Nat), i' ≤ 9 ∧ Value.float .f64 t' = .float .f64 n' ∧ Value.int .i64 (9 - (i : Int) - 1) = .int .i64 (9 - (i' : Int)) ∧ sinQ z i' n' ∧ Bw w w4 :=
        ⟨i + 1, t', by omega, rfl, by rw [show 9 - (i : Int) - 1 = 9 - ((i + 1 : Nat) : Int) by omega], ⟨n, d, p, HQ.out, hd, hp, ht'⟩, hgg⟩
      have HR : Hid _ := R
      clear R hd hp ht' g2 g3 g4 hg HQ hgg hi c
      generalize hK : 9 - (i : Int) = K at *
      have kp : 2 * K * (2 * K + 1) ≤ 9223372036854775807 := by rcases (show K = 1 ∨ K = 2 ∨ K = 3 ∨ K = 4 ∨ K = 5 ∨ K = 6 ∨ K = 7 ∨ K = 8 ∨ K = 9 by omega) with h | h | h | h | h | h | h | h | h <;> rw [h] <;> decide
      have kn : -9223372036854775808 ≤ 2 * K * (2 * K + 1) := by rcases (show K = 1 ∨ K = 2 ∨ K = 3 ∨ K = 4 ∨ K = 5 ∨ K = 6 ∨ K = 7 ∨ K = 8 ∨ K = 9 by omega) with h | h | h | h | h | h | h | h | h <;> rw [h] <;> decide
      go_wp2
      go_roundw
      case rel => exact HR.out
      case measure => simp [intOf]; omega
    · have hi' : i = 9 := by omega
      subst hi'
      obtain ⟨s, w2, hs, e2, g2⟩ := op_run .mul isMul y n wr
      have hgg := bw_trans hg g2
      have HF : Hid (sinR y s) := ⟨z, n, hz, HQ.out, hs⟩
      have hsl := hs.1
      clear g2 hg HQ hs hz
      go_wp2
      go_ret
      exact ⟨s, rfl, HF.out, hsl, hgg⟩
end Go.Proofs.YtlbikopancleoaaGreatDoor
