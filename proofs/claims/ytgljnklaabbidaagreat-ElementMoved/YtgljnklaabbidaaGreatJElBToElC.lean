/-
  OWN TEXT: powers by squares, of small whole exponents: as functions of one row of bits a part.
-/
import Derived.Test.YtgljnklaabbidaaGreatJElA
import Derived.Test.YtgljnklaabbidaaGreatJXxAToXxH
import Derived.Test.YtgljnklaabbidaaGreatJEqC
import Derived.Test.YtgljnklaabbidaaGreatJFnWhole
import Derived.Test.YtgljnklaabbidaaGreatJBhL
namespace Go.Proofs.YtgljnklaabbidaaGreat
open Go.ChangeShapes Go.WideShapes Go.ChangeAt Go.RowKit
set_option linter.unusedVariables false
attribute [local go_sem] frombits_call tobits_call run_neg
namespace El
def zst (a x : Z) (b : Bool) : Z := if b then zmul (zmul x x) a else zmul x x
def zp (a : Z) : Z → List Bool → Z
  | x, [] => x
  | x, b :: l => zp a (zst a x b) l
def pbits (n : Nat) : List Bool := match n with
  | 2 => [false]
  | 3 => [true]
  | 4 => [false, false]
  | 5 => [false, true]
  | 6 => [true, false]
  | 7 => [true, true]
  | 8 => [false, false, false]
  | 9 => [false, false, true]
  | 10 => [false, true, false]
  | _ => []
/-- a to the power of n, n from 0 to 10 -/
def zpow (a : Z) (n : Nat) : Z := if n = 0 then (4607182418800017408, 0) else zp a a (pbits n)
end El
set_option maxRecDepth 1000000
theorem len64_1 (w : World) : Calls Tryz.prog 76 #[.int .u64 1] w fun e w' => e = .returned (.int .i64 1) ∧ Bw w w' :=
  xevaluated exF_ok plainX mixedX (by decide) kpF hsF 100000 40 (args := [.int .u64 1]) (v := .int .i64 1) rfl rfl (by decide +kernel) w (fun g l h => by cases h) (fun g l h => by cases h)
theorem len64_2 (w : World) : Calls Tryz.prog 76 #[.int .u64 2] w fun e w' => e = .returned (.int .i64 2) ∧ Bw w w' :=
  xevaluated exF_ok plainX mixedX (by decide) kpF hsF 100000 40 (args := [.int .u64 2]) (v := .int .i64 2) rfl rfl (by decide +kernel) w (fun g l h => by cases h) (fun g l h => by cases h)
theorem len64_3 (w : World) : Calls Tryz.prog 76 #[.int .u64 3] w fun e w' => e = .returned (.int .i64 2) ∧ Bw w w' :=
  xevaluated exF_ok plainX mixedX (by decide) kpF hsF 100000 40 (args := [.int .u64 3]) (v := .int .i64 2) rfl rfl (by decide +kernel) w (fun g l h => by cases h) (fun g l h => by cases h)
theorem len64_4 (w : World) : Calls Tryz.prog 76 #[.int .u64 4] w fun e w' => e = .returned (.int .i64 3) ∧ Bw w w' :=
  xevaluated exF_ok plainX mixedX (by decide) kpF hsF 100000 40 (args := [.int .u64 4]) (v := .int .i64 3) rfl rfl (by decide +kernel) w (fun g l h => by cases h) (fun g l h => by cases h)
theorem len64_5 (w : World) : Calls Tryz.prog 76 #[.int .u64 5] w fun e w' => e = .returned (.int .i64 3) ∧ Bw w w' :=
  xevaluated exF_ok plainX mixedX (by decide) kpF hsF 100000 40 (args := [.int .u64 5]) (v := .int .i64 3) rfl rfl (by decide +kernel) w (fun g l h => by cases h) (fun g l h => by cases h)
theorem len64_6 (w : World) : Calls Tryz.prog 76 #[.int .u64 6] w fun e w' => e = .returned (.int .i64 3) ∧ Bw w w' :=
  xevaluated exF_ok plainX mixedX (by decide) kpF hsF 100000 40 (args := [.int .u64 6]) (v := .int .i64 3) rfl rfl (by decide +kernel) w (fun g l h => by cases h) (fun g l h => by cases h)
theorem len64_7 (w : World) : Calls Tryz.prog 76 #[.int .u64 7] w fun e w' => e = .returned (.int .i64 3) ∧ Bw w w' :=
  xevaluated exF_ok plainX mixedX (by decide) kpF hsF 100000 40 (args := [.int .u64 7]) (v := .int .i64 3) rfl rfl (by decide +kernel) w (fun g l h => by cases h) (fun g l h => by cases h)
theorem len64_8 (w : World) : Calls Tryz.prog 76 #[.int .u64 8] w fun e w' => e = .returned (.int .i64 4) ∧ Bw w w' :=
  xevaluated exF_ok plainX mixedX (by decide) kpF hsF 100000 40 (args := [.int .u64 8]) (v := .int .i64 4) rfl rfl (by decide +kernel) w (fun g l h => by cases h) (fun g l h => by cases h)
theorem len64_9 (w : World) : Calls Tryz.prog 76 #[.int .u64 9] w fun e w' => e = .returned (.int .i64 4) ∧ Bw w w' :=
  xevaluated exF_ok plainX mixedX (by decide) kpF hsF 100000 40 (args := [.int .u64 9]) (v := .int .i64 4) rfl rfl (by decide +kernel) w (fun g l h => by cases h) (fun g l h => by cases h)
theorem len64_10 (w : World) : Calls Tryz.prog 76 #[.int .u64 10] w fun e w' => e = .returned (.int .i64 4) ∧ Bw w w' :=
  xevaluated exF_ok plainX mixedX (by decide) kpF hsF 100000 40 (args := [.int .u64 10]) (v := .int .i64 4) rfl rfl (by decide +kernel) w (fun g l h => by cases h) (fun g l h => by cases h)
set_option maxHeartbeats 4000000 in
theorem zwp_1 (p q : Nat) (w : World) (hp : p < 18446744073709551616) (hq : q < 18446744073709551616) : Calls Tryz.prog 72 #[.complex .f64 p q, .int .u64 1] w fun e w' => ∃ x y, e = .returned (.complex .f64 x y) ∧ El.c2 x y = El.zpow (El.c2 p q) 1 ∧ x < 18446744073709551616 ∧ y < 18446744073709551616 ∧ Bw w w' := by
  go_enter Tryz.func72, Tryz.ntmps72
  go_wp2_with fail
  refine (len64_1 _).mono ?_
  rintro e w1 ⟨rfl, b1⟩
  go_wp2
  go_loopw [5, 7, 13] (fun x i j wr => ∃ k : Nat, k ≤ 0 ∧ j = .int .i64 (k : Int) ∧ ∃ u v, x = .complex .f64 u v ∧ Hid (El.c2 u v = El.zp (El.c2 p q) (El.c2 p q) ([].take k)) ∧ u < 18446744073709551616 ∧ v < 18446744073709551616 ∧ Bw w wr) (fun _ _ j _ => 0 - (intOf j).toNat)
  case atStart => exact ⟨0, by omega, rfl, p, q, rfl, El.hid rfl, hp, hq, b1⟩
  case round =>
    obtain ⟨k, hk, rfl, u, v, rfl, hz, hu, hv, bw⟩ := hrel
    obtain rfl : k = 0 := by omega
    go_wp2
    go_ret
    exact ⟨u, v, rfl, hz.out, hu, hv, bw⟩
set_option maxHeartbeats 4000000 in
theorem zwp_2 (p q : Nat) (w : World) (hp : p < 18446744073709551616) (hq : q < 18446744073709551616) : Calls Tryz.prog 72 #[.complex .f64 p q, .int .u64 2] w fun e w' => ∃ x y, e = .returned (.complex .f64 x y) ∧ El.c2 x y = El.zpow (El.c2 p q) 2 ∧ x < 18446744073709551616 ∧ y < 18446744073709551616 ∧ Bw w w' := by
  go_enter Tryz.func72, Tryz.ntmps72
  go_wp2_with fail
  refine (len64_2 _).mono ?_
  rintro e w1 ⟨rfl, b1⟩
  go_wp2
  go_loopw [5, 7, 13] (fun x i j wr => ∃ k : Nat, k ≤ 1 ∧ j = .int .i64 (k : Int) ∧ ∃ u v, x = .complex .f64 u v ∧ Hid (El.c2 u v = El.zp (El.c2 p q) (El.c2 p q) ([false].take k)) ∧ u < 18446744073709551616 ∧ v < 18446744073709551616 ∧ Bw w wr) (fun _ _ j _ => 1 - (intOf j).toNat)
  case atStart => exact ⟨0, by omega, rfl, p, q, rfl, El.hid rfl, hp, hq, b1⟩
  case round =>
    obtain ⟨k, hk, rfl, u, v, rfl, hz, hu, hv, bw⟩ := hrel
    rcases (show k = 0 ∨ k = 1 by omega) with rfl | rfl
    · go_wp2_with fail
      refine (zmul_any u v u v _).mono ?_
      rintro e w2 ⟨x2, y2, rfl, h2, l2, m2, b2⟩
      have H2 := El.hid h2
      clear h2
      go_wp2
      go_roundw
      case rel =>
        refine ⟨1, by omega, rfl, x2, y2, rfl, El.hid ?_, l2, m2, bw_trans bw b2⟩
        rw [H2.out, hz.out]; rfl
      case measure => simp [intOf]
    · go_wp2
      go_ret
      exact ⟨u, v, rfl, hz.out, hu, hv, bw⟩
set_option maxHeartbeats 4000000 in
theorem zwp_3 (p q : Nat) (w : World) (hp : p < 18446744073709551616) (hq : q < 18446744073709551616) : Calls Tryz.prog 72 #[.complex .f64 p q, .int .u64 3] w fun e w' => ∃ x y, e = .returned (.complex .f64 x y) ∧ El.c2 x y = El.zpow (El.c2 p q) 3 ∧ x < 18446744073709551616 ∧ y < 18446744073709551616 ∧ Bw w w' := by
  go_enter Tryz.func72, Tryz.ntmps72
  go_wp2_with fail
  refine (len64_3 _).mono ?_
  rintro e w1 ⟨rfl, b1⟩
  go_wp2
  go_loopw [5, 7, 13] (fun x i j wr => ∃ k : Nat, k ≤ 1 ∧ j = .int .i64 (k : Int) ∧ ∃ u v, x = .complex .f64 u v ∧ Hid (El.c2 u v = El.zp (El.c2 p q) (El.c2 p q) ([true].take k)) ∧ u < 18446744073709551616 ∧ v < 18446744073709551616 ∧ Bw w wr) (fun _ _ j _ => 1 - (intOf j).toNat)
  case atStart => exact ⟨0, by omega, rfl, p, q, rfl, El.hid rfl, hp, hq, b1⟩
  case round =>
    obtain ⟨k, hk, rfl, u, v, rfl, hz, hu, hv, bw⟩ := hrel
    rcases (show k = 0 ∨ k = 1 by omega) with rfl | rfl
    · go_wp2_with fail
      refine (zmul_any u v u v _).mono ?_
      rintro e w2 ⟨x2, y2, rfl, h2, l2, m2, b2⟩
      have H2 := El.hid h2
      clear h2
      go_wp2_with fail
      refine (zmul_any x2 y2 p q _).mono ?_
      rintro e w3 ⟨x3, y3, rfl, h3, l3, m3, b3⟩
      have H3 := El.hid h3
      clear h3
      go_wp2
      go_roundw
      case rel =>
        refine ⟨1, by omega, rfl, x3, y3, rfl, El.hid ?_, l3, m3, bw_trans (bw_trans bw b2) b3⟩
        rw [H3.out, H2.out, hz.out]; rfl
      case measure => simp [intOf]
    · go_wp2
      go_ret
      exact ⟨u, v, rfl, hz.out, hu, hv, bw⟩
set_option maxHeartbeats 4000000 in
theorem zwp_4 (p q : Nat) (w : World) (hp : p < 18446744073709551616) (hq : q < 18446744073709551616) : Calls Tryz.prog 72 #[.complex .f64 p q, .int .u64 4] w fun e w' => ∃ x y, e = .returned (.complex .f64 x y) ∧ El.c2 x y = El.zpow (El.c2 p q) 4 ∧ x < 18446744073709551616 ∧ y < 18446744073709551616 ∧ Bw w w' := by
  go_enter Tryz.func72, Tryz.ntmps72
  go_wp2_with fail
  refine (len64_4 _).mono ?_
  rintro e w1 ⟨rfl, b1⟩
  go_wp2
  go_loopw [5, 7, 13] (fun x i j wr => ∃ k : Nat, k ≤ 2 ∧ j = .int .i64 (k : Int) ∧ ∃ u v, x = .complex .f64 u v ∧ Hid (El.c2 u v = El.zp (El.c2 p q) (El.c2 p q) ([false, false].take k)) ∧ u < 18446744073709551616 ∧ v < 18446744073709551616 ∧ Bw w wr) (fun _ _ j _ => 2 - (intOf j).toNat)
  case atStart => exact ⟨0, by omega, rfl, p, q, rfl, El.hid rfl, hp, hq, b1⟩
  case round =>
    obtain ⟨k, hk, rfl, u, v, rfl, hz, hu, hv, bw⟩ := hrel
    rcases (show k = 0 ∨ k = 1 ∨ k = 2 by omega) with rfl | rfl | rfl
    · go_wp2_with fail
      refine (zmul_any u v u v _).mono ?_
      rintro e w2 ⟨x2, y2, rfl, h2, l2, m2, b2⟩
      have H2 := El.hid h2
      clear h2
      go_wp2
      go_roundw
      case rel =>
        refine ⟨1, by omega, rfl, x2, y2, rfl, El.hid ?_, l2, m2, bw_trans bw b2⟩
        rw [H2.out, hz.out]; rfl
      case measure => simp [intOf]
    · go_wp2_with fail
      refine (zmul_any u v u v _).mono ?_
      rintro e w2 ⟨x2, y2, rfl, h2, l2, m2, b2⟩
      have H2 := El.hid h2
      clear h2
      go_wp2
      go_roundw
      case rel =>
        refine ⟨2, by omega, rfl, x2, y2, rfl, El.hid ?_, l2, m2, bw_trans bw b2⟩
        rw [H2.out, hz.out]; rfl
      case measure => simp [intOf]
    · go_wp2
      go_ret
      exact ⟨u, v, rfl, hz.out, hu, hv, bw⟩
set_option maxHeartbeats 4000000 in
theorem zwp_5 (p q : Nat) (w : World) (hp : p < 18446744073709551616) (hq : q < 18446744073709551616) : Calls Tryz.prog 72 #[.complex .f64 p q, .int .u64 5] w fun e w' => ∃ x y, e = .returned (.complex .f64 x y) ∧ El.c2 x y = El.zpow (El.c2 p q) 5 ∧ x < 18446744073709551616 ∧ y < 18446744073709551616 ∧ Bw w w' := by
  go_enter Tryz.func72, Tryz.ntmps72
  go_wp2_with fail
  refine (len64_5 _).mono ?_
  rintro e w1 ⟨rfl, b1⟩
  go_wp2
  go_loopw [5, 7, 13] (fun x i j wr => ∃ k : Nat, k ≤ 2 ∧ j = .int .i64 (k : Int) ∧ ∃ u v, x = .complex .f64 u v ∧ Hid (El.c2 u v = El.zp (El.c2 p q) (El.c2 p q) ([false, true].take k)) ∧ u < 18446744073709551616 ∧ v < 18446744073709551616 ∧ Bw w wr) (fun _ _ j _ => 2 - (intOf j).toNat)
  case atStart => exact ⟨0, by omega, rfl, p, q, rfl, El.hid rfl, hp, hq, b1⟩
  case round =>
    obtain ⟨k, hk, rfl, u, v, rfl, hz, hu, hv, bw⟩ := hrel
    rcases (show k = 0 ∨ k = 1 ∨ k = 2 by omega) with rfl | rfl | rfl
    · go_wp2_with fail
      refine (zmul_any u v u v _).mono ?_
      rintro e w2 ⟨x2, y2, rfl, h2, l2, m2, b2⟩
      have H2 := El.hid h2
      clear h2
      go_wp2
      go_roundw
      case rel =>
        refine ⟨1, by omega, rfl, x2, y2, rfl, El.hid ?_, l2, m2, bw_trans bw b2⟩
        rw [H2.out, hz.out]; rfl
      case measure => simp [intOf]
    · go_wp2_with fail
      refine (zmul_any u v u v _).mono ?_
      rintro e w2 ⟨x2, y2, rfl, h2, l2, m2, b2⟩
      have H2 := El.hid h2
      clear h2
      go_wp2_with fail
      refine (zmul_any x2 y2 p q _).mono ?_
      rintro e w3 ⟨x3, y3, rfl, h3, l3, m3, b3⟩
      have H3 := El.hid h3
      clear h3
      go_wp2
      go_roundw
      case rel =>
        refine ⟨2, by omega, rfl, x3, y3, rfl, El.hid ?_, l3, m3, bw_trans (bw_trans bw b2) b3⟩
        rw [H3.out, H2.out, hz.out]; rfl
      case measure => simp [intOf]
    · go_wp2
      go_ret
      exact ⟨u, v, rfl, hz.out, hu, hv, bw⟩
set_option maxHeartbeats 4000000 in
theorem zwp_6 (p q : Nat) (w : World) (hp : p < 18446744073709551616) (hq : q < 18446744073709551616) : Calls Tryz.prog 72 #[.complex .f64 p q, .int .u64 6] w fun e w' => ∃ x y, e = .returned (.complex .f64 x y) ∧ El.c2 x y = El.zpow (El.c2 p q) 6 ∧ x < 18446744073709551616 ∧ y < 18446744073709551616 ∧ Bw w w' := by
  go_enter Tryz.func72, Tryz.ntmps72
  go_wp2_with fail
  refine (len64_6 _).mono ?_
  rintro e w1 ⟨rfl, b1⟩
  go_wp2
  go_loopw [5, 7, 13] (fun x i j wr => ∃ k : Nat, k ≤ 2 ∧ j = .int .i64 (k : Int) ∧ ∃ u v, x = .complex .f64 u v ∧ Hid (El.c2 u v = El.zp (El.c2 p q) (El.c2 p q) ([true, false].take k)) ∧ u < 18446744073709551616 ∧ v < 18446744073709551616 ∧ Bw w wr) (fun _ _ j _ => 2 - (intOf j).toNat)
  case atStart => exact ⟨0, by omega, rfl, p, q, rfl, El.hid rfl, hp, hq, b1⟩
  case round =>
    obtain ⟨k, hk, rfl, u, v, rfl, hz, hu, hv, bw⟩ := hrel
    rcases (show k = 0 ∨ k = 1 ∨ k = 2 by omega) with rfl | rfl | rfl
    · go_wp2_with fail
      refine (zmul_any u v u v _).mono ?_
      rintro e w2 ⟨x2, y2, rfl, h2, l2, m2, b2⟩
      have H2 := El.hid h2
      clear h2
      go_wp2_with fail
      refine (zmul_any x2 y2 p q _).mono ?_
      rintro e w3 ⟨x3, y3, rfl, h3, l3, m3, b3⟩
      have H3 := El.hid h3
      clear h3
      go_wp2
      go_roundw
      case rel =>
        refine ⟨1, by omega, rfl, x3, y3, rfl, El.hid ?_, l3, m3, bw_trans (bw_trans bw b2) b3⟩
        rw [H3.out, H2.out, hz.out]; rfl
      case measure => simp [intOf]
    · go_wp2_with fail
      refine (zmul_any u v u v _).mono ?_
      rintro e w2 ⟨x2, y2, rfl, h2, l2, m2, b2⟩
      have H2 := El.hid h2
      clear h2
      go_wp2
      go_roundw
      case rel =>
        refine ⟨2, by omega, rfl, x2, y2, rfl, El.hid ?_, l2, m2, bw_trans bw b2⟩
        rw [H2.out, hz.out]; rfl
      case measure => simp [intOf]
    · go_wp2
      go_ret
      exact ⟨u, v, rfl, hz.out, hu, hv, bw⟩
set_option maxHeartbeats 4000000 in
theorem zwp_7 (p q : Nat) (w : World) (hp : p < 18446744073709551616) (hq : q < 18446744073709551616) : Calls Tryz.prog 72 #[.complex .f64 p q, .int .u64 7] w fun e w' => ∃ x y, e = .returned (.complex .f64 x y) ∧ El.c2 x y = El.zpow (El.c2 p q) 7 ∧ x < 18446744073709551616 ∧ y < 18446744073709551616 ∧ Bw w w' := by
  go_enter Tryz.func72, Tryz.ntmps72
  go_wp2_with fail
  refine (len64_7 _).mono ?_
  rintro e w1 ⟨rfl, b1⟩
  go_wp2
  go_loopw [5, 7, 13] (fun x i j wr => ∃ k : Nat, k ≤ 2 ∧ j = .int .i64 (k : Int) ∧ ∃ u v, x = .complex .f64 u v ∧ Hid (El.c2 u v = El.zp (El.c2 p q) (El.c2 p q) ([true, true].take k)) ∧ u < 18446744073709551616 ∧ v < 18446744073709551616 ∧ Bw w wr) (fun _ _ j _ => 2 - (intOf j).toNat)
  case atStart => exact ⟨0, by omega, rfl, p, q, rfl, El.hid rfl, hp, hq, b1⟩
  case round =>
    obtain ⟨k, hk, rfl, u, v, rfl, hz, hu, hv, bw⟩ := hrel
    rcases (show k = 0 ∨ k = 1 ∨ k = 2 by omega) with rfl | rfl | rfl
    · go_wp2_with fail
      refine (zmul_any u v u v _).mono ?_
      rintro e w2 ⟨x2, y2, rfl, h2, l2, m2, b2⟩
      have H2 := El.hid h2
      clear h2
      go_wp2_with fail
      refine (zmul_any x2 y2 p q _).mono ?_
      rintro e w3 ⟨x3, y3, rfl, h3, l3, m3, b3⟩
      have H3 := El.hid h3
      clear h3
      go_wp2
      go_roundw
      case rel =>
        refine ⟨1, by omega, rfl, x3, y3, rfl, El.hid ?_, l3, m3, bw_trans (bw_trans bw b2) b3⟩
        rw [H3.out, H2.out, hz.out]; rfl
      case measure => simp [intOf]
    · go_wp2_with fail
      refine (zmul_any u v u v _).mono ?_
      rintro e w2 ⟨x2, y2, rfl, h2, l2, m2, b2⟩
      have H2 := El.hid h2
      clear h2
      go_wp2_with fail
      refine (zmul_any x2 y2 p q _).mono ?_
      rintro e w3 ⟨x3, y3, rfl, h3, l3, m3, b3⟩
      have H3 := El.hid h3
      clear h3
      go_wp2
      go_roundw
      case rel =>
        refine ⟨2, by omega, rfl, x3, y3, rfl, El.hid ?_, l3, m3, bw_trans (bw_trans bw b2) b3⟩
        rw [H3.out, H2.out, hz.out]; rfl
      case measure => simp [intOf]
    · go_wp2
      go_ret
      exact ⟨u, v, rfl, hz.out, hu, hv, bw⟩
set_option maxHeartbeats 4000000 in
theorem zwp_8 (p q : Nat) (w : World) (hp : p < 18446744073709551616) (hq : q < 18446744073709551616) : Calls Tryz.prog 72 #[.complex .f64 p q, .int .u64 8] w fun e w' => ∃ x y, e = .returned (.complex .f64 x y) ∧ El.c2 x y = El.zpow (El.c2 p q) 8 ∧ x < 18446744073709551616 ∧ y < 18446744073709551616 ∧ Bw w w' := by
  go_enter Tryz.func72, Tryz.ntmps72
  go_wp2_with fail
  refine (len64_8 _).mono ?_
  rintro e w1 ⟨rfl, b1⟩
  go_wp2
  go_loopw [5, 7, 13] (fun x i j wr => ∃ k : Nat, k ≤ 3 ∧ j = .int .i64 (k : Int) ∧ ∃ u v, x = .complex .f64 u v ∧ Hid (El.c2 u v = El.zp (El.c2 p q) (El.c2 p q) ([false, false, false].take k)) ∧ u < 18446744073709551616 ∧ v < 18446744073709551616 ∧ Bw w wr) (fun _ _ j _ => 3 - (intOf j).toNat)
  case atStart => exact ⟨0, by omega, rfl, p, q, rfl, El.hid rfl, hp, hq, b1⟩
  case round =>
    obtain ⟨k, hk, rfl, u, v, rfl, hz, hu, hv, bw⟩ := hrel
    rcases (show k = 0 ∨ k = 1 ∨ k = 2 ∨ k = 3 by omega) with rfl | rfl | rfl | rfl
    · go_wp2_with fail
      refine (zmul_any u v u v _).mono ?_
      rintro e w2 ⟨x2, y2, rfl, h2, l2, m2, b2⟩
      have H2 := El.hid h2
      clear h2
      go_wp2
      go_roundw
      case rel =>
        refine ⟨1, by omega, rfl, x2, y2, rfl, El.hid ?_, l2, m2, bw_trans bw b2⟩
        rw [H2.out, hz.out]; rfl
      case measure => simp [intOf]
    · go_wp2_with fail
      refine (zmul_any u v u v _).mono ?_
      rintro e w2 ⟨x2, y2, rfl, h2, l2, m2, b2⟩
      have H2 := El.hid h2
      clear h2
      go_wp2
      go_roundw
      case rel =>
        refine ⟨2, by omega, rfl, x2, y2, rfl, El.hid ?_, l2, m2, bw_trans bw b2⟩
        rw [H2.out, hz.out]; rfl
      case measure => simp [intOf]
    · go_wp2_with fail
      refine (zmul_any u v u v _).mono ?_
      rintro e w2 ⟨x2, y2, rfl, h2, l2, m2, b2⟩
      have H2 := El.hid h2
      clear h2
      go_wp2
      go_roundw
      case rel =>
        refine ⟨3, by omega, rfl, x2, y2, rfl, El.hid ?_, l2, m2, bw_trans bw b2⟩
        rw [H2.out, hz.out]; rfl
      case measure => simp [intOf]
    · go_wp2
      go_ret
      exact ⟨u, v, rfl, hz.out, hu, hv, bw⟩
set_option maxHeartbeats 4000000 in
theorem zwp_9 (p q : Nat) (w : World) (hp : p < 18446744073709551616) (hq : q < 18446744073709551616) : Calls Tryz.prog 72 #[.complex .f64 p q, .int .u64 9] w fun e w' => ∃ x y, e = .returned (.complex .f64 x y) ∧ El.c2 x y = El.zpow (El.c2 p q) 9 ∧ x < 18446744073709551616 ∧ y < 18446744073709551616 ∧ Bw w w' := by
  go_enter Tryz.func72, Tryz.ntmps72
  go_wp2_with fail
  refine (len64_9 _).mono ?_
  rintro e w1 ⟨rfl, b1⟩
  go_wp2
  go_loopw [5, 7, 13] (fun x i j wr => ∃ k : Nat, k ≤ 3 ∧ j = .int .i64 (k : Int) ∧ ∃ u v, x = .complex .f64 u v ∧ Hid (El.c2 u v = El.zp (El.c2 p q) (El.c2 p q) ([false, false, true].take k)) ∧ u < 18446744073709551616 ∧ v < 18446744073709551616 ∧ Bw w wr) (fun _ _ j _ => 3 - (intOf j).toNat)
  case atStart => exact ⟨0, by omega, rfl, p, q, rfl, El.hid rfl, hp, hq, b1⟩
  case round =>
    obtain ⟨k, hk, rfl, u, v, rfl, hz, hu, hv, bw⟩ := hrel
    rcases (show k = 0 ∨ k = 1 ∨ k = 2 ∨ k = 3 by omega) with rfl | rfl | rfl | rfl
    · go_wp2_with fail
      refine (zmul_any u v u v _).mono ?_
      rintro e w2 ⟨x2, y2, rfl, h2, l2, m2, b2⟩
      have H2 := El.hid h2
      clear h2
      go_wp2
      go_roundw
      case rel =>
        refine ⟨1, by omega, rfl, x2, y2, rfl, El.hid ?_, l2, m2, bw_trans bw b2⟩
        rw [H2.out, hz.out]; rfl
      case measure => simp [intOf]
    · go_wp2_with fail
      refine (zmul_any u v u v _).mono ?_
      rintro e w2 ⟨x2, y2, rfl, h2, l2, m2, b2⟩
      have H2 := El.hid h2
      clear h2
      go_wp2
      go_roundw
      case rel =>
        refine ⟨2, by omega, rfl, x2, y2, rfl, El.hid ?_, l2, m2, bw_trans bw b2⟩
        rw [H2.out, hz.out]; rfl
      case measure => simp [intOf]
    · go_wp2_with fail
      refine (zmul_any u v u v _).mono ?_
      rintro e w2 ⟨x2, y2, rfl, h2, l2, m2, b2⟩
      have H2 := El.hid h2
      clear h2
      go_wp2_with fail
      refine (zmul_any x2 y2 p q _).mono ?_
      rintro e w3 ⟨x3, y3, rfl, h3, l3, m3, b3⟩
      have H3 := El.hid h3
      clear h3
      go_wp2
      go_roundw
      case rel =>
        refine ⟨3, by omega, rfl, x3, y3, rfl, El.hid ?_, l3, m3, bw_trans (bw_trans bw b2) b3⟩
        rw [H3.out, H2.out, hz.out]; rfl
      case measure => simp [intOf]
    · go_wp2
      go_ret
      exact ⟨u, v, rfl, hz.out, hu, hv, bw⟩
set_option maxHeartbeats 4000000 in
theorem zwp_10 (p q : Nat) (w : World) (hp : p < 18446744073709551616) (hq : q < 18446744073709551616) : Calls Tryz.prog 72 #[.complex .f64 p q, .int .u64 10] w fun e w' => ∃ x y, e = .returned (.complex .f64 x y) ∧ El.c2 x y = El.zpow (El.c2 p q) 10 ∧ x < 18446744073709551616 ∧ y < 18446744073709551616 ∧ Bw w w' := by
  go_enter Tryz.func72, Tryz.ntmps72
  go_wp2_with fail
  refine (len64_10 _).mono ?_
  rintro e w1 ⟨rfl, b1⟩
  go_wp2
  go_loopw [5, 7, 13] (fun x i j wr => ∃ k : Nat, k ≤ 3 ∧ j = .int .i64 (k : Int) ∧ ∃ u v, x = .complex .f64 u v ∧ Hid (El.c2 u v = El.zp (El.c2 p q) (El.c2 p q) ([false, true, false].take k)) ∧ u < 18446744073709551616 ∧ v < 18446744073709551616 ∧ Bw w wr) (fun _ _ j _ => 3 - (intOf j).toNat)
  case atStart => exact ⟨0, by omega, rfl, p, q, rfl, El.hid rfl, hp, hq, b1⟩
  case round =>
    obtain ⟨k, hk, rfl, u, v, rfl, hz, hu, hv, bw⟩ := hrel
    rcases (show k = 0 ∨ k = 1 ∨ k = 2 ∨ k = 3 by omega) with rfl | rfl | rfl | rfl
    · go_wp2_with fail
      refine (zmul_any u v u v _).mono ?_
      rintro e w2 ⟨x2, y2, rfl, h2, l2, m2, b2⟩
      have H2 := El.hid h2
      clear h2
      go_wp2
      go_roundw
      case rel =>
        refine ⟨1, by omega, rfl, x2, y2, rfl, El.hid ?_, l2, m2, bw_trans bw b2⟩
        rw [H2.out, hz.out]; rfl
      case measure => simp [intOf]
    · go_wp2_with fail
      refine (zmul_any u v u v _).mono ?_
      rintro e w2 ⟨x2, y2, rfl, h2, l2, m2, b2⟩
      have H2 := El.hid h2
      clear h2
      go_wp2_with fail
      refine (zmul_any x2 y2 p q _).mono ?_
      rintro e w3 ⟨x3, y3, rfl, h3, l3, m3, b3⟩
      have H3 := El.hid h3
      clear h3
      go_wp2
      go_roundw
      case rel =>
        refine ⟨2, by omega, rfl, x3, y3, rfl, El.hid ?_, l3, m3, bw_trans (bw_trans bw b2) b3⟩
        rw [H3.out, H2.out, hz.out]; rfl
      case measure => simp [intOf]
    · go_wp2_with fail
      refine (zmul_any u v u v _).mono ?_
      rintro e w2 ⟨x2, y2, rfl, h2, l2, m2, b2⟩
      have H2 := El.hid h2
      clear h2
      go_wp2
      go_roundw
      case rel =>
        refine ⟨3, by omega, rfl, x2, y2, rfl, El.hid ?_, l2, m2, bw_trans bw b2⟩
        rw [H2.out, hz.out]; rfl
      case measure => simp [intOf]
    · go_wp2
      go_ret
      exact ⟨u, v, rfl, hz.out, hu, hv, bw⟩
set_option maxHeartbeats 4000000 in
theorem zwhole_any (p q n : Nat) (w : World) (hn : n ≤ 10) (hp : p < 18446744073709551616) (hq : q < 18446744073709551616) : Calls Tryz.prog 68 #[.complex .f64 p q, .int .i64 (n : Int)] w fun e w' => ∃ x y, e = .returned (.complex .f64 x y) ∧ El.c2 x y = El.zpow (El.c2 p q) n ∧ x < 18446744073709551616 ∧ y < 18446744073709551616 ∧ Bw w w' := by
  rcases (show n = 0 ∨ n = 1 ∨ n = 2 ∨ n = 3 ∨ n = 4 ∨ n = 5 ∨ n = 6 ∨ n = 7 ∨ n = 8 ∨ n = 9 ∨ n = 10 by omega) with rfl | rfl | rfl | rfl | rfl | rfl | rfl | rfl | rfl | rfl | rfl
  · go_enter Tryz.func68, Tryz.ntmps68
    go_wp2
    go_ret
    exact ⟨_, _, rfl, rfl, by decide, by decide, Bw.refl _⟩
  · go_enter Tryz.func68, Tryz.ntmps68
    go_wp2_with fail
    refine (zwp_1 p q _ hp hq).mono ?_
    rintro e w1 ⟨x, y, rfl, h, l, m, b⟩
    have H := El.hid h
    clear h
    go_wp2
    go_ret
    exact ⟨x, y, rfl, H.out, l, m, b⟩
  · go_enter Tryz.func68, Tryz.ntmps68
    go_wp2_with fail
    refine (zwp_2 p q _ hp hq).mono ?_
    rintro e w1 ⟨x, y, rfl, h, l, m, b⟩
    have H := El.hid h
    clear h
    go_wp2
    go_ret
    exact ⟨x, y, rfl, H.out, l, m, b⟩
  · go_enter Tryz.func68, Tryz.ntmps68
    go_wp2_with fail
    refine (zwp_3 p q _ hp hq).mono ?_
    rintro e w1 ⟨x, y, rfl, h, l, m, b⟩
    have H := El.hid h
    clear h
    go_wp2
    go_ret
    exact ⟨x, y, rfl, H.out, l, m, b⟩
  · go_enter Tryz.func68, Tryz.ntmps68
    go_wp2_with fail
    refine (zwp_4 p q _ hp hq).mono ?_
    rintro e w1 ⟨x, y, rfl, h, l, m, b⟩
    have H := El.hid h
    clear h
    go_wp2
    go_ret
    exact ⟨x, y, rfl, H.out, l, m, b⟩
  · go_enter Tryz.func68, Tryz.ntmps68
    go_wp2_with fail
    refine (zwp_5 p q _ hp hq).mono ?_
    rintro e w1 ⟨x, y, rfl, h, l, m, b⟩
    have H := El.hid h
    clear h
    go_wp2
    go_ret
    exact ⟨x, y, rfl, H.out, l, m, b⟩
  · go_enter Tryz.func68, Tryz.ntmps68
    go_wp2_with fail
    refine (zwp_6 p q _ hp hq).mono ?_
    rintro e w1 ⟨x, y, rfl, h, l, m, b⟩
    have H := El.hid h
    clear h
    go_wp2
    go_ret
    exact ⟨x, y, rfl, H.out, l, m, b⟩
  · go_enter Tryz.func68, Tryz.ntmps68
    go_wp2_with fail
    refine (zwp_7 p q _ hp hq).mono ?_
    rintro e w1 ⟨x, y, rfl, h, l, m, b⟩
    have H := El.hid h
    clear h
    go_wp2
    go_ret
    exact ⟨x, y, rfl, H.out, l, m, b⟩
  · go_enter Tryz.func68, Tryz.ntmps68
    go_wp2_with fail
    refine (zwp_8 p q _ hp hq).mono ?_
    rintro e w1 ⟨x, y, rfl, h, l, m, b⟩
    have H := El.hid h
    clear h
    go_wp2
    go_ret
    exact ⟨x, y, rfl, H.out, l, m, b⟩
  · go_enter Tryz.func68, Tryz.ntmps68
    go_wp2_with fail
    refine (zwp_9 p q _ hp hq).mono ?_
    rintro e w1 ⟨x, y, rfl, h, l, m, b⟩
    have H := El.hid h
    clear h
    go_wp2
    go_ret
    exact ⟨x, y, rfl, H.out, l, m, b⟩
  · go_enter Tryz.func68, Tryz.ntmps68
    go_wp2_with fail
    refine (zwp_10 p q _ hp hq).mono ?_
    rintro e w1 ⟨x, y, rfl, h, l, m, b⟩
    have H := El.hid h
    clear h
    go_wp2
    go_ret
    exact ⟨x, y, rfl, H.out, l, m, b⟩
end Go.Proofs.YtgljnklaabbidaaGreat
/-
  OWN TEXT: package element's small functions: places, noughts, whole powers, what is told; the kinds.
-/
namespace Go.Proofs.YtgljnklaabbidaaGreat
open Go.ChangeShapes Go.WideShapes Go.ChangeAt Go.RowKit
set_option linter.unusedVariables false
attribute [local go_sem] frombits_call tobits_call run_neg
namespace El
/-- is a float, without its sign, at most 2^40? -/
def wi (x : Nat) : Bool := Fl.withinB x 4787326403894837248
theorem wi_nan {x : Nat} (h : wi x = true) : Fl.nan x = false := by
  unfold wi Fl.withinB at h
  cases c : Fl.nan x with
  | false => rfl
  | true => rw [c] at h; cases h
/-- is a float whole? -/
def wh (p : Nat) : Bool := !Fl.nan p && Fl.eqF (Fl.whF p) p
/-- an element -/
def E (k : Int) (a b s t p : Nat) : Value := .agg #[.int .u8 k, .complex .f64 a b, .complex .f64 s t, .float .f64 p]
theorem run_store_cx {P : Program} {w : World} {a : Addr} {m : Mode} (x y : Nat) : (store a (.complex .f64 x y) m).run P w = stored P w a (.complex .f64 x y) m := run_store P w a _ m rfl
theorem run_store_fl {P : Program} {w : World} {a : Addr} {m : Mode} (x : Nat) : (store a (.float .f64 x) m).run P w = stored P w a (.float .f64 x) m := run_store P w a _ m rfl
end El
attribute [local go_sem] El.run_store_cx El.run_store_fl
theorem eplace_any (x y : Nat) (w : World) (hx : x < 18446744073709551616) (hy : y < 18446744073709551616) : Calls Tryz.prog 29 #[.complex .f64 x y] w fun e w' => e = .returned (.bool (El.wi x && El.wi y)) ∧ w' = w := by
  have A1 : Hid (∀ wz, Calls Tryz.prog 30 #[.float .f64 x, .float .f64 4787326403894837248] wz fun e w' => e = .returned (.bool (El.wi x)) ∧ w' = wz) := fun wz => within_any x 4787326403894837248 wz hx
  have A2 : Hid (∀ wz, Calls Tryz.prog 30 #[.float .f64 y, .float .f64 4787326403894837248] wz fun e w' => e = .returned (.bool (El.wi y)) ∧ w' = wz) := fun wz => within_any y 4787326403894837248 wz hy
  generalize El.wi x = p at *
  generalize El.wi y = q at *
  have P : Hid (∀ wz, Calls Tryz.prog 34 #[.complex .f64 x y, .float .f64 4787326403894837248] wz fun e w' => e = .returned (.bool (p && q)) ∧ w' = wz) := by
    intro wz
    cases p with
    | false =>
      go_enter Tryz.func34, Tryz.ntmps34
      go_wp2_with fail
      refine (A1.out _).mono ?_
      rintro e' w ⟨rfl, rfl⟩
      go_wp2
      go_ret
      exact ⟨rfl, rfl⟩
    | true =>
      cases q with
      | false =>
        go_enter Tryz.func34, Tryz.ntmps34
        go_wp2_with fail
        refine (A1.out _).mono ?_
        rintro e' w ⟨rfl, rfl⟩
        go_wp2_with fail
        refine (A2.out _).mono ?_
        rintro e' w ⟨rfl, rfl⟩
        go_wp2
        go_ret
        exact ⟨rfl, rfl⟩
      | true =>
        go_enter Tryz.func34, Tryz.ntmps34
        go_wp2_with fail
        refine (A1.out _).mono ?_
        rintro e' w ⟨rfl, rfl⟩
        go_wp2_with fail
        refine (A2.out _).mono ?_
        rintro e' w ⟨rfl, rfl⟩
        go_wp2
        go_ret
        exact ⟨rfl, rfl⟩
  clear A1 A2
  go_enter Tryz.func29, Tryz.ntmps29
  go_wp2_with fail
  refine (P.out _).mono ?_
  rintro e' w ⟨rfl, rfl⟩
  go_wp2
  go_ret
  exact ⟨rfl, rfl⟩
theorem alike0_any (x : Nat) (w : World) (hx : x < 18446744073709551616) (nx : Fl.nan x = false) : Calls Tryz.prog 60 #[.float .f64 x, .float .f64 0] w fun e w' => e = .returned (.bool (Fl.eqF x 0)) ∧ w' = w := by
  have o := Fl.o_eq x 0
  cases c : Fl.eqF x 0 with
  | true =>
    rw [c] at o
    clear c
    go_enter Tryz.func60, Tryz.ntmps60
    go_wp2
    go_ret
    exact ⟨rfl, rfl⟩
  | false =>
    rw [c] at o
    have S : Hid (∀ wz, Calls Tryz.prog 24 #[.float .f64 x, .float .f64 0] wz fun e w' => e = .returned (.bool false) ∧ w' = wz) := fun wz => by
      have m := same_any x 0 wz
      have hs : Fl.sameB x 0 = false := by
        cases q : Fl.sameB x 0 with
        | false => rfl
        | true =>
          exfalso
          have : x = 0 := by
            unfold Fl.sameB at q
            rw [nx] at q
            simp at q
            exact q.2
          rw [this] at c
          exact absurd c (by decide)
      rw [hs] at m
      exact m
    clear c nx
    go_enter Tryz.func60, Tryz.ntmps60
    go_wp2_with fail
    refine (S.out _).mono ?_
    rintro e' w ⟨rfl, rfl⟩
    go_wp2
    go_ret
    exact ⟨rfl, rfl⟩
theorem enought_any (x y : Nat) (w : World) (hx : x < 18446744073709551616) (hy : y < 18446744073709551616) (nx : Fl.nan x = false) (ny : Fl.nan y = false) : Calls Tryz.prog 58 #[.complex .f64 x y] w fun e w' => e = .returned (.bool (Fl.eqF x 0 && Fl.eqF y 0)) ∧ w' = w := by
  have A1 := El.hid (fun wz => alike0_any x wz hx nx)
  have A2 := El.hid (fun wz => alike0_any y wz hy ny)
  generalize Fl.eqF x 0 = p at *
  generalize Fl.eqF y 0 = q at *
  have P : Hid (∀ wz, Calls Tryz.prog 59 #[.complex .f64 x y, .complex .f64 0 0] wz fun e w' => e = .returned (.bool (p && q)) ∧ w' = wz) := by
    intro wz
    cases p with
    | false =>
      go_enter Tryz.func59, Tryz.ntmps59
      go_wp2_with fail
      refine (A1.out _).mono ?_
      rintro e' w ⟨rfl, rfl⟩
      go_wp2
      go_ret
      exact ⟨rfl, rfl⟩
    | true =>
      cases q with
      | false =>
        go_enter Tryz.func59, Tryz.ntmps59
        go_wp2_with fail
        refine (A1.out _).mono ?_
        rintro e' w ⟨rfl, rfl⟩
        go_wp2_with fail
        refine (A2.out _).mono ?_
        rintro e' w ⟨rfl, rfl⟩
        go_wp2
        go_ret
        exact ⟨rfl, rfl⟩
      | true =>
        go_enter Tryz.func59, Tryz.ntmps59
        go_wp2_with fail
        refine (A1.out _).mono ?_
        rintro e' w ⟨rfl, rfl⟩
        go_wp2_with fail
        refine (A2.out _).mono ?_
        rintro e' w ⟨rfl, rfl⟩
        go_wp2
        go_ret
        exact ⟨rfl, rfl⟩
  clear A1 A2
  go_enter Tryz.func58, Tryz.ntmps58
  go_wp2_with fail
  refine (P.out _).mono ?_
  rintro e' w ⟨rfl, rfl⟩
  go_wp2
  go_ret
  exact ⟨rfl, rfl⟩
theorem ewhole_any (p : Nat) (w : World) (hp : p < 18446744073709551616) (np : Fl.nan p = false) : Calls Tryz.prog 67 #[.float .f64 p] w fun e w' => e = .returned (.bool (El.wh p)) ∧ w' = w := by
  have A1 := El.hid (fun wz => whole_num p wz np)
  have o := Fl.o_eq (Fl.whF p) p
  have ho : Hid (El.wh p = Fl.eqF (Fl.whF p) p) := by unfold El.wh; show _ = _; rw [np]; rfl
  rw [← ho.out] at o
  clear ho np
  generalize El.wh p = q at *
  generalize Fl.whF p = u at *
  go_enter Tryz.func67, Tryz.ntmps67
  go_wp2_with fail
  refine (A1.out _).mono ?_
  rintro e' w ⟨rfl, rfl⟩
  go_wp2
  go_ret
  exact ⟨rfl, rfl⟩
theorem told_any (x y : Nat) (w : World) (hx : x < 18446744073709551616) (hy : y < 18446744073709551616) : Calls Tryz.prog 23 #[.complex .f64 x y] w fun e w' => e = .returned (.tuple #[.complex .f64 (if El.fin (El.c2 x y) then x else 0) (if El.fin (El.c2 x y) then y else 0), .int .i64 (if El.fin (El.c2 x y) then 0 else 6)]) ∧ w' = w := by
  have A1 := El.hid (fun wz => pfinite_any x y wz hx hy)
  rw [El.fin_c] at A1
  cases c : El.fin (El.c2 x y) with
  | true =>
    rw [c] at A1
    clear c
    go_enter Tryz.func23, Tryz.ntmps23
    go_wp2_with fail
    refine (A1.out _).mono ?_
    rintro e' w ⟨rfl, rfl⟩
    go_wp2
    go_ret2
    exact ⟨rfl, rfl⟩
  | false =>
    rw [c] at A1
    clear c
    go_enter Tryz.func23, Tryz.ntmps23
    go_wp2_with fail
    refine (A1.out _).mono ?_
    rintro e' w ⟨rfl, rfl⟩
    go_wp2
    go_ret2
    exact ⟨rfl, rfl⟩
theorem kindof1 (a b s t p : Nat) (w : World) : Calls Tryz.prog 28 #[El.E 1 a b s t p] w fun e w' => e = .returned (.tuple #[.iface 60 (El.E 1 a b s t p), .bool true]) ∧ Bw w w' := by
  unfold El.E
  go_enter Tryz.func28, Tryz.ntmps28
  go_wp2
  go_ret2
  exact ⟨rfl, Below.alloc (Bw.refl w) (Nat.le_refl _) _⟩
theorem kindof2 (a b s t p : Nat) (w : World) : Calls Tryz.prog 28 #[El.E 2 a b s t p] w fun e w' => e = .returned (.tuple #[.iface 63 (El.E 2 a b s t p), .bool true]) ∧ Bw w w' := by
  unfold El.E
  go_enter Tryz.func28, Tryz.ntmps28
  go_wp2
  go_ret2
  exact ⟨rfl, Below.alloc (Bw.refl w) (Nat.le_refl _) _⟩
theorem kindof3 (a b s t p : Nat) (w : World) : Calls Tryz.prog 28 #[El.E 3 a b s t p] w fun e w' => e = .returned (.tuple #[.iface 64 (El.E 3 a b s t p), .bool true]) ∧ Bw w w' := by
  unfold El.E
  go_enter Tryz.func28, Tryz.ntmps28
  go_wp2
  go_ret2
  exact ⟨rfl, Below.alloc (Bw.refl w) (Nat.le_refl _) _⟩
theorem kindof4 (a b s t p : Nat) (w : World) : Calls Tryz.prog 28 #[El.E 4 a b s t p] w fun e w' => e = .returned (.tuple #[.iface 61 (El.E 4 a b s t p), .bool true]) ∧ Bw w w' := by
  unfold El.E
  go_enter Tryz.func28, Tryz.ntmps28
  go_wp2
  go_ret2
  exact ⟨rfl, Below.alloc (Bw.refl w) (Nat.le_refl _) _⟩
theorem kindof0 (k : Int) (a b s t p : Nat) (w : World) (h1 : ¬ k = 1) (h2 : ¬ k = 2) (h3 : ¬ k = 3) (h4 : ¬ k = 4) : Calls Tryz.prog 28 #[El.E k a b s t p] w fun e w' => e = .returned (.tuple #[.nilIface, .bool false]) ∧ Bw w w' := by
  unfold El.E
  go_enter Tryz.func28, Tryz.ntmps28
  go_wp2
  go_ret2
  exact ⟨rfl, Below.alloc (Bw.refl w) (Nat.le_refl _) _⟩
theorem nature1 (a b s t p : Nat) (w : World) : Calls Tryz.prog 21 #[.iface 60 (El.E 1 a b s t p)] w fun e w' => e = .returned (.tuple #[.bool false, .bool false]) ∧ Bw w w' := by
  unfold El.E
  have ta_stream : ∀ w, (Instr.typeAssert (.iface 60 (.agg #[.int .u8 1, .complex .f64 a b, .complex .f64 s t, .float .f64 p])) 44 60 true).run Tryz.prog w = .ok (.tuple #[(.agg #[.int .u8 1, .complex .f64 a b, .complex .f64 s t, .float .f64 p]), .bool true]) w := fun _ => by kernel_rfl
  have ta_corner : ∀ w, (Instr.typeAssert (.iface 60 (.agg #[.int .u8 1, .complex .f64 a b, .complex .f64 s t, .float .f64 p])) 44 61 true).run Tryz.prog w = .ok (.tuple #[(.agg #[.int .u8 0, .complex .f64 0 0, .complex .f64 0 0, .float .f64 0]), .bool false]) w := fun _ => by kernel_rfl
  go_enter Tryz.func21, Tryz.ntmps21
  go_wp2
  go_ret2
  first | exact ⟨rfl, Below.alloc (Bw.refl w) (Nat.le_refl _) _⟩ | exact ⟨rfl, Bw.refl w⟩
theorem nature2 (a b s t p : Nat) (w : World) : Calls Tryz.prog 21 #[.iface 63 (El.E 2 a b s t p)] w fun e w' => e = .returned (.tuple #[.bool true, .bool true]) ∧ Bw w w' := by
  unfold El.E
  have ta_stream : ∀ w, (Instr.typeAssert (.iface 63 (.agg #[.int .u8 2, .complex .f64 a b, .complex .f64 s t, .float .f64 p])) 44 60 true).run Tryz.prog w = .ok (.tuple #[(.agg #[.int .u8 0, .complex .f64 0 0, .complex .f64 0 0, .float .f64 0]), .bool false]) w := fun _ => by kernel_rfl
  have ta_corner : ∀ w, (Instr.typeAssert (.iface 63 (.agg #[.int .u8 2, .complex .f64 a b, .complex .f64 s t, .float .f64 p])) 44 61 true).run Tryz.prog w = .ok (.tuple #[(.agg #[.int .u8 0, .complex .f64 0 0, .complex .f64 0 0, .float .f64 0]), .bool false]) w := fun _ => by kernel_rfl
  go_enter Tryz.func21, Tryz.ntmps21
  go_wp2
  go_ret2
  first | exact ⟨rfl, Below.alloc (Bw.refl w) (Nat.le_refl _) _⟩ | exact ⟨rfl, Bw.refl w⟩
theorem nature3 (a b s t p : Nat) (w : World) : Calls Tryz.prog 21 #[.iface 64 (El.E 3 a b s t p)] w fun e w' => e = .returned (.tuple #[.bool true, .bool true]) ∧ Bw w w' := by
  unfold El.E
  have ta_stream : ∀ w, (Instr.typeAssert (.iface 64 (.agg #[.int .u8 3, .complex .f64 a b, .complex .f64 s t, .float .f64 p])) 44 60 true).run Tryz.prog w = .ok (.tuple #[(.agg #[.int .u8 0, .complex .f64 0 0, .complex .f64 0 0, .float .f64 0]), .bool false]) w := fun _ => by kernel_rfl
  have ta_corner : ∀ w, (Instr.typeAssert (.iface 64 (.agg #[.int .u8 3, .complex .f64 a b, .complex .f64 s t, .float .f64 p])) 44 61 true).run Tryz.prog w = .ok (.tuple #[(.agg #[.int .u8 0, .complex .f64 0 0, .complex .f64 0 0, .float .f64 0]), .bool false]) w := fun _ => by kernel_rfl
  go_enter Tryz.func21, Tryz.ntmps21
  go_wp2
  go_ret2
  first | exact ⟨rfl, Below.alloc (Bw.refl w) (Nat.le_refl _) _⟩ | exact ⟨rfl, Bw.refl w⟩
theorem nature4 (a b s t p : Nat) (w : World) : Calls Tryz.prog 21 #[.iface 61 (El.E 4 a b s t p)] w fun e w' => e = .returned (.tuple #[.bool true, .bool (Fl.ltF p 4607182418800017408)]) ∧ Bw w w' := by
  unfold El.E
  have o := Fl.o_lt p 4607182418800017408
  generalize Fl.ltF p 4607182418800017408 = q at *
  have ta_stream : ∀ w, (Instr.typeAssert (.iface 61 (.agg #[.int .u8 4, .complex .f64 a b, .complex .f64 s t, .float .f64 p])) 44 60 true).run Tryz.prog w = .ok (.tuple #[(.agg #[.int .u8 0, .complex .f64 0 0, .complex .f64 0 0, .float .f64 0]), .bool false]) w := fun _ => by kernel_rfl
  have ta_corner : ∀ w, (Instr.typeAssert (.iface 61 (.agg #[.int .u8 4, .complex .f64 a b, .complex .f64 s t, .float .f64 p])) 44 61 true).run Tryz.prog w = .ok (.tuple #[(.agg #[.int .u8 4, .complex .f64 a b, .complex .f64 s t, .float .f64 p]), .bool true]) w := fun _ => by kernel_rfl
  have S0 : (w.alloc (.cells #[.int .u8 4, .complex .f64 a b, .complex .f64 s t, .float .f64 p] 61)).drew.cell? ⟨w.heap.size, 3, none⟩ = some (.float .f64 p) := by simp
  have G : Bw w (w.alloc (.cells #[.int .u8 4, .complex .f64 a b, .complex .f64 s t, .float .f64 p] 61)).drew := (Below.alloc (Bw.refl w) (Nat.le_refl _) _).drew
  go_enter Tryz.func21, Tryz.ntmps21
  go_wp2_with fail
  refine wp_region_K (fun w' => w'.cell? ⟨w.heap.size, 3, none⟩ = some (.float .f64 p)) 5 6 #[false, false, false, false, false, false] (by kernel_rfl) (by kernel_rfl) (by kernel_rfl) ?_
  generalize (w.alloc (.cells #[.int .u8 4, .complex .f64 a b, .complex .f64 s t, .float .f64 p] 61)).drew = W at *
  refine wpAnyK_take 0 13 (v := ?v0) rfl (by kernel_rfl) (by kernel_rfl) (by kernel_rfl) (by kernel_rfl) (by kernel_rfl) (fun _ _ _ h => h) rfl (Or.inl ⟨by rfl, ?h0⟩) (by assumption) ?r0
  case h0 => (intro w hSw; go_simp; with_reducible rfl)
  simp only [Act.put, List.setIfInBounds_toArray, List.set_cons_zero, List.set_cons_succ]
  refine wpAnyK_take 1 14 (v := ?v1) rfl (by kernel_rfl) (by kernel_rfl) (by kernel_rfl) (by kernel_rfl) (by kernel_rfl) (fun _ _ _ h => h) rfl (Or.inl ⟨by rfl, ?h1⟩) (by assumption) ?r1
  case h1 => (intro w hSw; go_simp; with_reducible rfl)
  simp only [Act.put, List.setIfInBounds_toArray, List.set_cons_zero, List.set_cons_succ]
  refine wpAnyK_take 2 15 (v := ?v2) rfl (by kernel_rfl) (by kernel_rfl) (by kernel_rfl) (by kernel_rfl) (by kernel_rfl) (fun _ _ _ h => h) rfl (Or.inl ⟨by rfl, ?h2⟩) (by assumption) ?r2
  case h2 => (intro w hSw; go_simp; with_reducible rfl)
  simp only [Act.put, List.setIfInBounds_toArray, List.set_cons_zero, List.set_cons_succ]
  refine wpAnyK_take 3 16 (v := ?v3) rfl (by kernel_rfl) (by kernel_rfl) (by kernel_rfl) (by kernel_rfl) (by kernel_rfl) (fun _ _ _ h => h) rfl (Or.inl ⟨by rfl, ?h3⟩) (by assumption) ?r3
  case h3 => (intro w hSw; go_simp; with_reducible rfl)
  simp only [Act.put, List.setIfInBounds_toArray, List.set_cons_zero, List.set_cons_succ]
  refine wpAnyK_take 4 2 (v := ?v4) rfl (by kernel_rfl) (by kernel_rfl) (by kernel_rfl) (by kernel_rfl) (by kernel_rfl) (fun _ _ _ h => h) rfl (Or.inl ⟨by rfl, ?h4⟩) (by assumption) ?r4
  case h4 => (intro w hSw; go_simp; with_reducible rfl)
  simp only [Act.put, List.setIfInBounds_toArray, List.set_cons_zero, List.set_cons_succ]
  refine wpAnyK_one 5 (by kernel_rfl) rfl (fun K hK => ?_)
  go_simp
  refine hK.out _ _ (fun h => absurd rfl h) ?_
  clear hK K
  simp only [List.setIfInBounds_toArray, List.set_cons_zero, List.set_cons_succ]
  refine wpAnyK_done (by kernel_rfl) ?_ _
  go_wp2
  go_ret2
  exact ⟨rfl, G⟩
end Go.Proofs.YtgljnklaabbidaaGreat
