/-
 OWN TEXT: powers by squares, of small whole exponents: as functions of one row of bits a part.
-/
import Derived.Test.YtjpllggchjgjpaaGreatJElA
import Derived.Test.YtjpllggchjgjpaaGreatJXxAToXxH
import Derived.Test.YtjpllggchjgjpaaGreatJEoEToFnSame
import Derived.Test.YtjpllggchjgjpaaGreatJFnWholeToEqA
import Derived.Test.YtjpllggchjgjpaaGreatJBhL
import Derived.Laws.FloatArith
namespace Go.Proofs.YtjpllggchjgjpaaGreat
open Go.ChangeShapes Go.WideShapes Go.ChangeAt Go.RowKit
set_option linter.unusedVariables false
attribute [local go_sem] frombits_call tobits_call run_neg
namespace El
def zst (a x : Z) (b : Bool) : Z := if b then zmul (zmul x x) a else zmul x x
def zp (a : Z) : Z → List Bool → Z
 | x, [] => x
 | x, b :: l => zp a (zst a x b) l
def pbits (n : Nat) : List Bool := match n with
 | 2 => [false]
 | 3 => [true]
 | 4 => [false, false]
 | 5 => [false, true]
 | 6 => [true, false]
 | 7 => [true, true]
 | 8 => [false, false, false]
 | 9 => [false, false, true]
 | 10 => [false, true, false]
 | _ => []
/-- a to the power of n, n from 0 to 10 -/
def zpow (a : Z) (n : Nat) : Z := if n = 0 then (4607182418800017408, 0) else zp a a (pbits n)
end El
set_option maxRecDepth 1000000
theorem len64_1 (w : World) : Calls Tryz.prog 137 #[.int .u64 1] w fun e w' => e = .returned (.int .i64 1) ∧ Bw w w' :=
 xevaluated exF_ok plainX mixedX (by decide) kpF hsF 100000 40 (args := [.int .u64 1]) (v := .int .i64 1) rfl rfl (by decide +kernel) w (fun g l h => by cases h) (fun g l h => by cases h)
theorem len64_2 (w : World) : Calls Tryz.prog 137 #[.int .u64 2] w fun e w' => e = .returned (.int .i64 2) ∧ Bw w w' :=
 xevaluated exF_ok plainX mixedX (by decide) kpF hsF 100000 40 (args := [.int .u64 2]) (v := .int .i64 2) rfl rfl (by decide +kernel) w (fun g l h => by cases h) (fun g l h => by cases h)
theorem len64_3 (w : World) : Calls Tryz.prog 137 #[.int .u64 3] w fun e w' => e = .returned (.int .i64 2) ∧ Bw w w' :=
 xevaluated exF_ok plainX mixedX (by decide) kpF hsF 100000 40 (args := [.int .u64 3]) (v := .int .i64 2) rfl rfl (by decide +kernel) w (fun g l h => by cases h) (fun g l h => by cases h)
theorem len64_4 (w : World) : Calls Tryz.prog 137 #[.int .u64 4] w fun e w' => e = .returned (.int .i64 3) ∧ Bw w w' :=
 xevaluated exF_ok plainX mixedX (by decide) kpF hsF 100000 40 (args := [.int .u64 4]) (v := .int .i64 3) rfl rfl (by decide +kernel) w (fun g l h => by cases h) (fun g l h => by cases h)
theorem len64_5 (w : World) : Calls Tryz.prog 137 #[.int .u64 5] w fun e w' => e = .returned (.int .i64 3) ∧ Bw w w' :=
 xevaluated exF_ok plainX mixedX (by decide) kpF hsF 100000 40 (args := [.int .u64 5]) (v := .int .i64 3) rfl rfl (by decide +kernel) w (fun g l h => by cases h) (fun g l h => by cases h)
theorem len64_6 (w : World) : Calls Tryz.prog 137 #[.int .u64 6] w fun e w' => e = .returned (.int .i64 3) ∧ Bw w w' :=
 xevaluated exF_ok plainX mixedX (by decide) kpF hsF 100000 40 (args := [.int .u64 6]) (v := .int .i64 3) rfl rfl (by decide +kernel) w (fun g l h => by cases h) (fun g l h => by cases h)
theorem len64_7 (w : World) : Calls Tryz.prog 137 #[.int .u64 7] w fun e w' => e = .returned (.int .i64 3) ∧ Bw w w' :=
 xevaluated exF_ok plainX mixedX (by decide) kpF hsF 100000 40 (args := [.int .u64 7]) (v := .int .i64 3) rfl rfl (by decide +kernel) w (fun g l h => by cases h) (fun g l h => by cases h)
theorem len64_8 (w : World) : Calls Tryz.prog 137 #[.int .u64 8] w fun e w' => e = .returned (.int .i64 4) ∧ Bw w w' :=
 xevaluated exF_ok plainX mixedX (by decide) kpF hsF 100000 40 (args := [.int .u64 8]) (v := .int .i64 4) rfl rfl (by decide +kernel) w (fun g l h => by cases h) (fun g l h => by cases h)
theorem len64_9 (w : World) : Calls Tryz.prog 137 #[.int .u64 9] w fun e w' => e = .returned (.int .i64 4) ∧ Bw w w' :=
 xevaluated exF_ok plainX mixedX (by decide) kpF hsF 100000 40 (args := [.int .u64 9]) (v := .int .i64 4) rfl rfl (by decide +kernel) w (fun g l h => by cases h) (fun g l h => by cases h)
theorem len64_10 (w : World) : Calls Tryz.prog 137 #[.int .u64 10] w fun e w' => e = .returned (.int .i64 4) ∧ Bw w w' :=
 xevaluated exF_ok plainX mixedX (by decide) kpF hsF 100000 40 (args := [.int .u64 10]) (v := .int .i64 4) rfl rfl (by decide +kernel) w (fun g l h => by cases h) (fun g l h => by cases h)
set_option maxHeartbeats 4000000 in
theorem zwp_1 (p q : Nat) (w : World) (hp : p < 18446744073709551616) (hq : q < 18446744073709551616) : Calls Tryz.prog 133 #[.complex .f64 p q, .int .u64 1] w fun e w' => ∃ x y, e = .returned (.complex .f64 x y) ∧ El.c2 x y = El.zpow (El.c2 p q) 1 ∧ x < 18446744073709551616 ∧ y < 18446744073709551616 ∧ Bw w w' := by
 go_enter Tryz.func133, Tryz.ntmps133
 go_wp2_with fail
 refine (len64_1 _).mono ?_
 rintro e w1 ⟨rfl, b1⟩
 go_wp2
 go_loopw [5, 7, 13] (fun x i j wr => ∃ k : Nat, k ≤ 0 ∧ j = .int .i64 (k : Int) ∧ ∃ u v, x = .complex .f64 u v ∧ Hid (El.c2 u v = El.zp (El.c2 p q) (El.c2 p q) ([].take k)) ∧ u < 18446744073709551616 ∧ v < 18446744073709551616 ∧ Bw w wr) (fun _ _ j _ => 0 - (intOf j).toNat)
 case atStart => exact ⟨0, by omega, rfl, p, q, rfl, El.hid rfl, hp, hq, b1⟩
 case round =>
  obtain ⟨k, hk, rfl, u, v, rfl, hz, hu, hv, bw⟩ := hrel
  obtain rfl : k = 0 := by omega
  go_wp2
  go_ret
  exact ⟨u, v, rfl, hz.out, hu, hv, bw⟩
set_option maxHeartbeats 4000000 in
theorem zwp_2 (p q : Nat) (w : World) (hp : p < 18446744073709551616) (hq : q < 18446744073709551616) : Calls Tryz.prog 133 #[.complex .f64 p q, .int .u64 2] w fun e w' => ∃ x y, e = .returned (.complex .f64 x y) ∧ El.c2 x y = El.zpow (El.c2 p q) 2 ∧ x < 18446744073709551616 ∧ y < 18446744073709551616 ∧ Bw w w' := by
 go_enter Tryz.func133, Tryz.ntmps133
 go_wp2_with fail
 refine (len64_2 _).mono ?_
 rintro e w1 ⟨rfl, b1⟩
 go_wp2
 go_loopw [5, 7, 13] (fun x i j wr => ∃ k : Nat, k ≤ 1 ∧ j = .int .i64 (k : Int) ∧ ∃ u v, x = .complex .f64 u v ∧ Hid (El.c2 u v = El.zp (El.c2 p q) (El.c2 p q) ([false].take k)) ∧ u < 18446744073709551616 ∧ v < 18446744073709551616 ∧ Bw w wr) (fun _ _ j _ => 1 - (intOf j).toNat)
 case atStart => exact ⟨0, by omega, rfl, p, q, rfl, El.hid rfl, hp, hq, b1⟩
 case round =>
  obtain ⟨k, hk, rfl, u, v, rfl, hz, hu, hv, bw⟩ := hrel
  rcases (show k = 0 ∨ k = 1 by omega) with rfl | rfl
  ·
   go_wp2_with fail
   refine (zmul_any u v u v _).mono ?_
   rintro e w2 ⟨x2, y2, rfl, h2, l2, m2, b2⟩
   have H2 := El.hid h2
   clear h2
   go_wp2
   go_roundw
   case rel =>
    refine ⟨1, by omega, rfl, x2, y2, rfl, El.hid ?_, l2, m2, bw_trans bw b2⟩
    rw [H2.out, hz.out]; rfl
   case measure => simp [intOf]
  ·
   go_wp2
   go_ret
   exact ⟨u, v, rfl, hz.out, hu, hv, bw⟩
set_option maxHeartbeats 4000000 in
theorem zwp_3 (p q : Nat) (w : World) (hp : p < 18446744073709551616) (hq : q < 18446744073709551616) : Calls Tryz.prog 133 #[.complex .f64 p q, .int .u64 3] w fun e w' => ∃ x y, e = .returned (.complex .f64 x y) ∧ El.c2 x y = El.zpow (El.c2 p q) 3 ∧ x < 18446744073709551616 ∧ y < 18446744073709551616 ∧ Bw w w' := by
 go_enter Tryz.func133, Tryz.ntmps133
 go_wp2_with fail
 refine (len64_3 _).mono ?_
 rintro e w1 ⟨rfl, b1⟩
 go_wp2
 go_loopw [5, 7, 13] (fun x i j wr => ∃ k : Nat, k ≤ 1 ∧ j = .int .i64 (k : Int) ∧ ∃ u v, x = .complex .f64 u v ∧ Hid (El.c2 u v = El.zp (El.c2 p q) (El.c2 p q) ([true].take k)) ∧ u < 18446744073709551616 ∧ v < 18446744073709551616 ∧ Bw w wr) (fun _ _ j _ => 1 - (intOf j).toNat)
 case atStart => exact ⟨0, by omega, rfl, p, q, rfl, El.hid rfl, hp, hq, b1⟩
 case round =>
  obtain ⟨k, hk, rfl, u, v, rfl, hz, hu, hv, bw⟩ := hrel
  rcases (show k = 0 ∨ k = 1 by omega) with rfl | rfl
  ·
   go_wp2_with fail
   refine (zmul_any u v u v _).mono ?_
   rintro e w2 ⟨x2, y2, rfl, h2, l2, m2, b2⟩
   have H2 := El.hid h2
   clear h2
   go_wp2_with fail
   refine (zmul_any x2 y2 p q _).mono ?_
   rintro e w3 ⟨x3, y3, rfl, h3, l3, m3, b3⟩
   have H3 := El.hid h3
   clear h3
   go_wp2
   go_roundw
   case rel =>
    refine ⟨1, by omega, rfl, x3, y3, rfl, El.hid ?_, l3, m3, bw_trans (bw_trans bw b2) b3⟩
    rw [H3.out, H2.out, hz.out]; rfl
   case measure => simp [intOf]
  ·
   go_wp2
   go_ret
   exact ⟨u, v, rfl, hz.out, hu, hv, bw⟩
set_option maxHeartbeats 4000000 in
theorem zwp_4 (p q : Nat) (w : World) (hp : p < 18446744073709551616) (hq : q < 18446744073709551616) : Calls Tryz.prog 133 #[.complex .f64 p q, .int .u64 4] w fun e w' => ∃ x y, e = .returned (.complex .f64 x y) ∧ El.c2 x y = El.zpow (El.c2 p q) 4 ∧ x < 18446744073709551616 ∧ y < 18446744073709551616 ∧ Bw w w' := by
 go_enter Tryz.func133, Tryz.ntmps133
 go_wp2_with fail
 refine (len64_4 _).mono ?_
 rintro e w1 ⟨rfl, b1⟩
 go_wp2
 go_loopw [5, 7, 13] (fun x i j wr => ∃ k : Nat, k ≤ 2 ∧ j = .int .i64 (k : Int) ∧ ∃ u v, x = .complex .f64 u v ∧ Hid (El.c2 u v = El.zp (El.c2 p q) (El.c2 p q) ([false, false].take k)) ∧ u < 18446744073709551616 ∧ v < 18446744073709551616 ∧ Bw w wr) (fun _ _ j _ => 2 - (intOf j).toNat)
 case atStart => exact ⟨0, by omega, rfl, p, q, rfl, El.hid rfl, hp, hq, b1⟩
 case round =>
  obtain ⟨k, hk, rfl, u, v, rfl, hz, hu, hv, bw⟩ := hrel
  rcases (show k = 0 ∨ k = 1 ∨ k = 2 by omega) with rfl | rfl | rfl
  ·
   go_wp2_with fail
   refine (zmul_any u v u v _).mono ?_
   rintro e w2 ⟨x2, y2, rfl, h2, l2, m2, b2⟩
   have H2 := El.hid h2
   clear h2
   go_wp2
   go_roundw
   case rel =>
    refine ⟨1, by omega, rfl, x2, y2, rfl, El.hid ?_, l2, m2, bw_trans bw b2⟩
    rw [H2.out, hz.out]; rfl
   case measure => simp [intOf]
  ·
   go_wp2_with fail
   refine (zmul_any u v u v _).mono ?_
   rintro e w2 ⟨x2, y2, rfl, h2, l2, m2, b2⟩
   have H2 := El.hid h2
   clear h2
   go_wp2
   go_roundw
   case rel =>
    refine ⟨2, by omega, rfl, x2, y2, rfl, El.hid ?_, l2, m2, bw_trans bw b2⟩
    rw [H2.out, hz.out]; rfl
   case measure => simp [intOf]
  ·
   go_wp2
   go_ret
   exact ⟨u, v, rfl, hz.out, hu, hv, bw⟩
set_option maxHeartbeats 4000000 in
theorem zwp_5 (p q : Nat) (w : World) (hp : p < 18446744073709551616) (hq : q < 18446744073709551616) : Calls Tryz.prog 133 #[.complex .f64 p q, .int .u64 5] w fun e w' => ∃ x y, e = .returned (.complex .f64 x y) ∧ El.c2 x y = El.zpow (El.c2 p q) 5 ∧ x < 18446744073709551616 ∧ y < 18446744073709551616 ∧ Bw w w' := by
 go_enter Tryz.func133, Tryz.ntmps133
 go_wp2_with fail
 refine (len64_5 _).mono ?_
 rintro e w1 ⟨rfl, b1⟩
 go_wp2
 go_loopw [5, 7, 13] (fun x i j wr => ∃ k : Nat, k ≤ 2 ∧ j = .int .i64 (k : Int) ∧ ∃ u v, x = .complex .f64 u v ∧ Hid (El.c2 u v = El.zp (El.c2 p q) (El.c2 p q) ([false, true].take k)) ∧ u < 18446744073709551616 ∧ v < 18446744073709551616 ∧ Bw w wr) (fun _ _ j _ => 2 - (intOf j).toNat)
 case atStart => exact ⟨0, by omega, rfl, p, q, rfl, El.hid rfl, hp, hq, b1⟩
 case round =>
  obtain ⟨k, hk, rfl, u, v, rfl, hz, hu, hv, bw⟩ := hrel
  rcases (show k = 0 ∨ k = 1 ∨ k = 2 by omega) with rfl | rfl | rfl
  ·
   go_wp2_with fail
   refine (zmul_any u v u v _).mono ?_
   rintro e w2 ⟨x2, y2, rfl, h2, l2, m2, b2⟩
   have H2 := El.hid h2
   clear h2
   go_wp2
   go_roundw
   case rel =>
    refine ⟨1, by omega, rfl, x2, y2, rfl, El.hid ?_, l2, m2, bw_trans bw b2⟩
    rw [H2.out, hz.out]; rfl
   case measure => simp [intOf]
  ·
   go_wp2_with fail
   refine (zmul_any u v u v _).mono ?_
   rintro e w2 ⟨x2, y2, rfl, h2, l2, m2, b2⟩
   have H2 := El.hid h2
   clear h2
   go_wp2_with fail
   refine (zmul_any x2 y2 p q _).mono ?_
   rintro e w3 ⟨x3, y3, rfl, h3, l3, m3, b3⟩
   have H3 := El.hid h3
   clear h3
   go_wp2
   go_roundw
   case rel =>
    refine ⟨2, by omega, rfl, x3, y3, rfl, El.hid ?_, l3, m3, bw_trans (bw_trans bw b2) b3⟩
    rw [H3.out, H2.out, hz.out]; rfl
   case measure => simp [intOf]
  ·
   go_wp2
   go_ret
   exact ⟨u, v, rfl, hz.out, hu, hv, bw⟩
set_option maxHeartbeats 4000000 in
theorem zwp_6 (p q : Nat) (w : World) (hp : p < 18446744073709551616) (hq : q < 18446744073709551616) : Calls Tryz.prog 133 #[.complex .f64 p q, .int .u64 6] w fun e w' => ∃ x y, e = .returned (.complex .f64 x y) ∧ El.c2 x y = El.zpow (El.c2 p q) 6 ∧ x < 18446744073709551616 ∧ y < 18446744073709551616 ∧ Bw w w' := by
 go_enter Tryz.func133, Tryz.ntmps133
 go_wp2_with fail
 refine (len64_6 _).mono ?_
 rintro e w1 ⟨rfl, b1⟩
 go_wp2
 go_loopw [5, 7, 13] (fun x i j wr => ∃ k : Nat, k ≤ 2 ∧ j = .int .i64 (k : Int) ∧ ∃ u v, x = .complex .f64 u v ∧ Hid (El.c2 u v = El.zp (El.c2 p q) (El.c2 p q) ([true, false].take k)) ∧ u < 18446744073709551616 ∧ v < 18446744073709551616 ∧ Bw w wr) (fun _ _ j _ => 2 - (intOf j).toNat)
 case atStart => exact ⟨0, by omega, rfl, p, q, rfl, El.hid rfl, hp, hq, b1⟩
 case round =>
  obtain ⟨k, hk, rfl, u, v, rfl, hz, hu, hv, bw⟩ := hrel
  rcases (show k = 0 ∨ k = 1 ∨ k = 2 by omega) with rfl | rfl | rfl
  ·
   go_wp2_with fail
   refine (zmul_any u v u v _).mono ?_
   rintro e w2 ⟨x2, y2, rfl, h2, l2, m2, b2⟩
   have H2 := El.hid h2
   clear h2
   go_wp2_with fail
   refine (zmul_any x2 y2 p q _).mono ?_
   rintro e w3 ⟨x3, y3, rfl, h3, l3, m3, b3⟩
   have H3 := El.hid h3
   clear h3
   go_wp2
   go_roundw
   case rel =>
    refine ⟨1, by omega, rfl, x3, y3, rfl, El.hid ?_, l3, m3, bw_trans (bw_trans bw b2) b3⟩
    rw [H3.out, H2.out, hz.out]; rfl
   case measure => simp [intOf]
  ·
   go_wp2_with fail
   refine (zmul_any u v u v _).mono ?_
   rintro e w2 ⟨x2, y2, rfl, h2, l2, m2, b2⟩
   have H2 := El.hid h2
   clear h2
   go_wp2
   go_roundw
   case rel =>
    refine ⟨2, by omega, rfl, x2, y2, rfl, El.hid ?_, l2, m2, bw_trans bw b2⟩
    rw [H2.out, hz.out]; rfl
   case measure => simp [intOf]
  ·
   go_wp2
   go_ret
   exact ⟨u, v, rfl, hz.out, hu, hv, bw⟩
set_option maxHeartbeats 4000000 in
theorem zwp_7 (p q : Nat) (w : World) (hp : p < 18446744073709551616) (hq : q < 18446744073709551616) : Calls Tryz.prog 133 #[.complex .f64 p q, .int .u64 7] w fun e w' => ∃ x y, e = .returned (.complex .f64 x y) ∧ El.c2 x y = El.zpow (El.c2 p q) 7 ∧ x < 18446744073709551616 ∧ y < 18446744073709551616 ∧ Bw w w' := by
 go_enter Tryz.func133, Tryz.ntmps133
 go_wp2_with fail
 refine (len64_7 _).mono ?_
 rintro e w1 ⟨rfl, b1⟩
 go_wp2
 go_loopw [5, 7, 13] (fun x i j wr => ∃ k : Nat, k ≤ 2 ∧ j = .int .i64 (k : Int) ∧ ∃ u v, x = .complex .f64 u v ∧ Hid (El.c2 u v = El.zp (El.c2 p q) (El.c2 p q) ([true, true].take k)) ∧ u < 18446744073709551616 ∧ v < 18446744073709551616 ∧ Bw w wr) (fun _ _ j _ => 2 - (intOf j).toNat)
 case atStart => exact ⟨0, by omega, rfl, p, q, rfl, El.hid rfl, hp, hq, b1⟩
 case round =>
  obtain ⟨k, hk, rfl, u, v, rfl, hz, hu, hv, bw⟩ := hrel
  rcases (show k = 0 ∨ k = 1 ∨ k = 2 by omega) with rfl | rfl | rfl
  ·
   go_wp2_with fail
   refine (zmul_any u v u v _).mono ?_
   rintro e w2 ⟨x2, y2, rfl, h2, l2, m2, b2⟩
   have H2 := El.hid h2
   clear h2
   go_wp2_with fail
   refine (zmul_any x2 y2 p q _).mono ?_
   rintro e w3 ⟨x3, y3, rfl, h3, l3, m3, b3⟩
   have H3 := El.hid h3
   clear h3
   go_wp2
   go_roundw
   case rel =>
    refine ⟨1, by omega, rfl, x3, y3, rfl, El.hid ?_, l3, m3, bw_trans (bw_trans bw b2) b3⟩
    rw [H3.out, H2.out, hz.out]; rfl
   case measure => simp [intOf]
  ·
   go_wp2_with fail
   refine (zmul_any u v u v _).mono ?_
   rintro e w2 ⟨x2, y2, rfl, h2, l2, m2, b2⟩
   have H2 := El.hid h2
   clear h2
   go_wp2_with fail
   refine (zmul_any x2 y2 p q _).mono ?_
   rintro e w3 ⟨x3, y3, rfl, h3, l3, m3, b3⟩
   have H3 := El.hid h3
   clear h3
   go_wp2
   go_roundw
   case rel =>
    refine ⟨2, by omega, rfl, x3, y3, rfl, El.hid ?_, l3, m3, bw_trans (bw_trans bw b2) b3⟩
    rw [H3.out, H2.out, hz.out]; rfl
   case measure => simp [intOf]
  ·
   go_wp2
   go_ret
   exact ⟨u, v, rfl, hz.out, hu, hv, bw⟩
set_option maxHeartbeats 4000000 in
theorem zwp_8 (p q : Nat) (w : World) (hp : p < 18446744073709551616) (hq : q < 18446744073709551616) : Calls Tryz.prog 133 #[.complex .f64 p q, .int .u64 8] w fun e w' => ∃ x y, e = .returned (.complex .f64 x y) ∧ El.c2 x y = El.zpow (El.c2 p q) 8 ∧ x < 18446744073709551616 ∧ y < 18446744073709551616 ∧ Bw w w' := by
 go_enter Tryz.func133, Tryz.ntmps133
 go_wp2_with fail
 refine (len64_8 _).mono ?_
 rintro e w1 ⟨rfl, b1⟩
 go_wp2
 go_loopw [5, 7, 13] (fun x i j wr => ∃ k : Nat, k ≤ 3 ∧ j = .int .i64 (k : Int) ∧ ∃ u v, x = .complex .f64 u v ∧ Hid (El.c2 u v = El.zp (El.c2 p q) (El.c2 p q) ([false, false, false].take k)) ∧ u < 18446744073709551616 ∧ v < 18446744073709551616 ∧ Bw w wr) (fun _ _ j _ => 3 - (intOf j).toNat)
 case atStart => exact ⟨0, by omega, rfl, p, q, rfl, El.hid rfl, hp, hq, b1⟩
 case round =>
  obtain ⟨k, hk, rfl, u, v, rfl, hz, hu, hv, bw⟩ := hrel
  rcases (show k = 0 ∨ k = 1 ∨ k = 2 ∨ k = 3 by omega) with rfl | rfl | rfl | rfl
  ·
   go_wp2_with fail
   refine (zmul_any u v u v _).mono ?_
   rintro e w2 ⟨x2, y2, rfl, h2, l2, m2, b2⟩
   have H2 := El.hid h2
   clear h2
   go_wp2
   go_roundw
   case rel =>
    refine ⟨1, by omega, rfl, x2, y2, rfl, El.hid ?_, l2, m2, bw_trans bw b2⟩
    rw [H2.out, hz.out]; rfl
   case measure => simp [intOf]
  ·
   go_wp2_with fail
   refine (zmul_any u v u v _).mono ?_
   rintro e w2 ⟨x2, y2, rfl, h2, l2, m2, b2⟩
   have H2 := El.hid h2
   clear h2
   go_wp2
   go_roundw
   case rel =>
    refine ⟨2, by omega, rfl, x2, y2, rfl, El.hid ?_, l2, m2, bw_trans bw b2⟩
    rw [H2.out, hz.out]; rfl
   case measure => simp [intOf]
  ·
   go_wp2_with fail
   refine (zmul_any u v u v _).mono ?_
   rintro e w2 ⟨x2, y2, rfl, h2, l2, m2, b2⟩
   have H2 := El.hid h2
   clear h2
   go_wp2
   go_roundw
   case rel =>
    refine ⟨3, by omega, rfl, x2, y2, rfl, El.hid ?_, l2, m2, bw_trans bw b2⟩
    rw [H2.out, hz.out]; rfl
   case measure => simp [intOf]
  ·
   go_wp2
   go_ret
   exact ⟨u, v, rfl, hz.out, hu, hv, bw⟩
set_option maxHeartbeats 4000000 in
theorem zwp_9 (p q : Nat) (w : World) (hp : p < 18446744073709551616) (hq : q < 18446744073709551616) : Calls Tryz.prog 133 #[.complex .f64 p q, .int .u64 9] w fun e w' => ∃ x y, e = .returned (.complex .f64 x y) ∧ El.c2 x y = El.zpow (El.c2 p q) 9 ∧ x < 18446744073709551616 ∧ y < 18446744073709551616 ∧ Bw w w' := by
 go_enter Tryz.func133, Tryz.ntmps133
 go_wp2_with fail
 refine (len64_9 _).mono ?_
 rintro e w1 ⟨rfl, b1⟩
 go_wp2
 go_loopw [5, 7, 13] (fun x i j wr => ∃ k : Nat, k ≤ 3 ∧ j = .int .i64 (k : Int) ∧ ∃ u v, x = .complex .f64 u v ∧ Hid (El.c2 u v = El.zp (El.c2 p q) (El.c2 p q) ([false, false, true].take k)) ∧ u < 18446744073709551616 ∧ v < 18446744073709551616 ∧ Bw w wr) (fun _ _ j _ => 3 - (intOf j).toNat)
 case atStart => exact ⟨0, by omega, rfl, p, q, rfl, El.hid rfl, hp, hq, b1⟩
 case round =>
  obtain ⟨k, hk, rfl, u, v, rfl, hz, hu, hv, bw⟩ := hrel
  rcases (show k = 0 ∨ k = 1 ∨ k = 2 ∨ k = 3 by omega) with rfl | rfl | rfl | rfl
  ·
   go_wp2_with fail
   refine (zmul_any u v u v _).mono ?_
   rintro e w2 ⟨x2, y2, rfl, h2, l2, m2, b2⟩
   have H2 := El.hid h2
   clear h2
   go_wp2
   go_roundw
   case rel =>
    refine ⟨1, by omega, rfl, x2, y2, rfl, El.hid ?_, l2, m2, bw_trans bw b2⟩
    rw [H2.out, hz.out]; rfl
   case measure => simp [intOf]
  ·
   go_wp2_with fail
   refine (zmul_any u v u v _).mono ?_
   rintro e w2 ⟨x2, y2, rfl, h2, l2, m2, b2⟩
   have H2 := El.hid h2
   clear h2
   go_wp2
   go_roundw
   case rel =>
    refine ⟨2, by omega, rfl, x2, y2, rfl, El.hid ?_, l2, m2, bw_trans bw b2⟩
    rw [H2.out, hz.out]; rfl
   case measure => simp [intOf]
  ·
   go_wp2_with fail
   refine (zmul_any u v u v _).mono ?_
   rintro e w2 ⟨x2, y2, rfl, h2, l2, m2, b2⟩
   have H2 := El.hid h2
   clear h2
   go_wp2_with fail
   refine (zmul_any x2 y2 p q _).mono ?_
   rintro e w3 ⟨x3, y3, rfl, h3, l3, m3, b3⟩
   have H3 := El.hid h3
   clear h3
   go_wp2
   go_roundw
   case rel =>
    refine ⟨3, by omega, rfl, x3, y3, rfl, El.hid ?_, l3, m3, bw_trans (bw_trans bw b2) b3⟩
    rw [H3.out, H2.out, hz.out]; rfl
   case measure => simp [intOf]
  ·
   go_wp2
   go_ret
   exact ⟨u, v, rfl, hz.out, hu, hv, bw⟩
set_option maxHeartbeats 4000000 in
theorem zwp_10 (p q : Nat) (w : World) (hp : p < 18446744073709551616) (hq : q < 18446744073709551616) : Calls Tryz.prog 133 #[.complex .f64 p q, .int .u64 10] w fun e w' => ∃ x y, e = .returned (.complex .f64 x y) ∧ El.c2 x y = El.zpow (El.c2 p q) 10 ∧ x < 18446744073709551616 ∧ y < 18446744073709551616 ∧ Bw w w' := by
 go_enter Tryz.func133, Tryz.ntmps133
 go_wp2_with fail
 refine (len64_10 _).mono ?_
 rintro e w1 ⟨rfl, b1⟩
 go_wp2
 go_loopw [5, 7, 13] (fun x i j wr => ∃ k : Nat, k ≤ 3 ∧ j = .int .i64 (k : Int) ∧ ∃ u v, x = .complex .f64 u v ∧ Hid (El.c2 u v = El.zp (El.c2 p q) (El.c2 p q) ([false, true, false].take k)) ∧ u < 18446744073709551616 ∧ v < 18446744073709551616 ∧ Bw w wr) (fun _ _ j _ => 3 - (intOf j).toNat)
 case atStart => exact ⟨0, by omega, rfl, p, q, rfl, El.hid rfl, hp, hq, b1⟩
 case round =>
  obtain ⟨k, hk, rfl, u, v, rfl, hz, hu, hv, bw⟩ := hrel
  rcases (show k = 0 ∨ k = 1 ∨ k = 2 ∨ k = 3 by omega) with rfl | rfl | rfl | rfl
  ·
   go_wp2_with fail
   refine (zmul_any u v u v _).mono ?_
   rintro e w2 ⟨x2, y2, rfl, h2, l2, m2, b2⟩
   have H2 := El.hid h2
   clear h2
   go_wp2
   go_roundw
   case rel =>
    refine ⟨1, by omega, rfl, x2, y2, rfl, El.hid ?_, l2, m2, bw_trans bw b2⟩
    rw [H2.out, hz.out]; rfl
   case measure => simp [intOf]
  ·
   go_wp2_with fail
   refine (zmul_any u v u v _).mono ?_
   rintro e w2 ⟨x2, y2, rfl, h2, l2, m2, b2⟩
   have H2 := El.hid h2
   clear h2
   go_wp2_with fail
   refine (zmul_any x2 y2 p q _).mono ?_
   rintro e w3 ⟨x3, y3, rfl, h3, l3, m3, b3⟩
   have H3 := El.hid h3
   clear h3
   go_wp2
   go_roundw
   case rel =>
    refine ⟨2, by omega, rfl, x3, y3, rfl, El.hid ?_, l3, m3, bw_trans (bw_trans bw b2) b3⟩
    rw [H3.out, H2.out, hz.out]; rfl
   case measure => simp [intOf]
  ·
   go_wp2_with fail
   refine (zmul_any u v u v _).mono ?_
   rintro e w2 ⟨x2, y2, rfl, h2, l2, m2, b2⟩
   have H2 := El.hid h2
   clear h2
   go_wp2
   go_roundw
   case rel =>
    refine ⟨3, by omega, rfl, x2, y2, rfl, El.hid ?_, l2, m2, bw_trans bw b2⟩
    rw [H2.out, hz.out]; rfl
   case measure => simp [intOf]
  ·
   go_wp2
   go_ret
   exact ⟨u, v, rfl, hz.out, hu, hv, bw⟩
set_option maxHeartbeats 4000000 in
theorem zwhole_any (p q n : Nat) (w : World) (hn : n ≤ 10) (hp : p < 18446744073709551616) (hq : q < 18446744073709551616) : Calls Tryz.prog 130 #[.complex .f64 p q, .int .i64 (n : Int)] w fun e w' => ∃ x y, e = .returned (.complex .f64 x y) ∧ El.c2 x y = El.zpow (El.c2 p q) n ∧ x < 18446744073709551616 ∧ y < 18446744073709551616 ∧ Bw w w' := by
 rcases (show n = 0 ∨ n = 1 ∨ n = 2 ∨ n = 3 ∨ n = 4 ∨ n = 5 ∨ n = 6 ∨ n = 7 ∨ n = 8 ∨ n = 9 ∨ n = 10 by omega) with rfl | rfl | rfl | rfl | rfl | rfl | rfl | rfl | rfl | rfl | rfl
 ·
  go_enter Tryz.func130, Tryz.ntmps130
  go_wp2
  go_ret
  exact ⟨_, _, rfl, rfl, by decide, by decide, Bw.refl _⟩
 ·
  go_enter Tryz.func130, Tryz.ntmps130
  go_wp2_with fail
  refine (zwp_1 p q _ hp hq).mono ?_
  rintro e w1 ⟨x, y, rfl, h, l, m, b⟩
  have H := El.hid h
  clear h
  go_wp2
  go_ret
  exact ⟨x, y, rfl, H.out, l, m, b⟩
 ·
  go_enter Tryz.func130, Tryz.ntmps130
  go_wp2_with fail
  refine (zwp_2 p q _ hp hq).mono ?_
  rintro e w1 ⟨x, y, rfl, h, l, m, b⟩
  have H := El.hid h
  clear h
  go_wp2
  go_ret
  exact ⟨x, y, rfl, H.out, l, m, b⟩
 ·
  go_enter Tryz.func130, Tryz.ntmps130
  go_wp2_with fail
  refine (zwp_3 p q _ hp hq).mono ?_
  rintro e w1 ⟨x, y, rfl, h, l, m, b⟩
  have H := El.hid h
  clear h
  go_wp2
  go_ret
  exact ⟨x, y, rfl, H.out, l, m, b⟩
 ·
  go_enter Tryz.func130, Tryz.ntmps130
  go_wp2_with fail
  refine (zwp_4 p q _ hp hq).mono ?_
  rintro e w1 ⟨x, y, rfl, h, l, m, b⟩
  have H := El.hid h
  clear h
  go_wp2
  go_ret
  exact ⟨x, y, rfl, H.out, l, m, b⟩
 ·
  go_enter Tryz.func130, Tryz.ntmps130
  go_wp2_with fail
  refine (zwp_5 p q _ hp hq).mono ?_
  rintro e w1 ⟨x, y, rfl, h, l, m, b⟩
  have H := El.hid h
  clear h
  go_wp2
  go_ret
  exact ⟨x, y, rfl, H.out, l, m, b⟩
 ·
  go_enter Tryz.func130, Tryz.ntmps130
  go_wp2_with fail
  refine (zwp_6 p q _ hp hq).mono ?_
  rintro e w1 ⟨x, y, rfl, h, l, m, b⟩
  have H := El.hid h
  clear h
  go_wp2
  go_ret
  exact ⟨x, y, rfl, H.out, l, m, b⟩
 ·
  go_enter Tryz.func130, Tryz.ntmps130
  go_wp2_with fail
  refine (zwp_7 p q _ hp hq).mono ?_
  rintro e w1 ⟨x, y, rfl, h, l, m, b⟩
  have H := El.hid h
  clear h
  go_wp2
  go_ret
  exact ⟨x, y, rfl, H.out, l, m, b⟩
 ·
  go_enter Tryz.func130, Tryz.ntmps130
  go_wp2_with fail
  refine (zwp_8 p q _ hp hq).mono ?_
  rintro e w1 ⟨x, y, rfl, h, l, m, b⟩
  have H := El.hid h
  clear h
  go_wp2
  go_ret
  exact ⟨x, y, rfl, H.out, l, m, b⟩
 ·
  go_enter Tryz.func130, Tryz.ntmps130
  go_wp2_with fail
  refine (zwp_9 p q _ hp hq).mono ?_
  rintro e w1 ⟨x, y, rfl, h, l, m, b⟩
  have H := El.hid h
  clear h
  go_wp2
  go_ret
  exact ⟨x, y, rfl, H.out, l, m, b⟩
 ·
  go_enter Tryz.func130, Tryz.ntmps130
  go_wp2_with fail
  refine (zwp_10 p q _ hp hq).mono ?_
  rintro e w1 ⟨x, y, rfl, h, l, m, b⟩
  have H := El.hid h
  clear h
  go_wp2
  go_ret
  exact ⟨x, y, rfl, H.out, l, m, b⟩
end Go.Proofs.YtjpllggchjgjpaaGreat

/-
 OWN TEXT: package element's small functions: places, noughts, whole powers, what is told; the kinds.
-/
namespace Go.Proofs.YtjpllggchjgjpaaGreat
open Go.ChangeShapes Go.WideShapes Go.ChangeAt Go.RowKit
set_option linter.unusedVariables false
attribute [local go_sem] frombits_call tobits_call run_neg
namespace El
/-- is a float, without its sign, at most 2^40? -/
def wi (x : Nat) : Bool := Fl.withinB x 4787326403894837248
theorem wi_nan {x : Nat} (h : wi x = true) : Fl.nan x = false := by
 unfold wi Fl.withinB at h
 cases c : Fl.nan x with
 | false => rfl
 | true => rw [c] at h; cases h
/-- is a float whole? -/
def wh (p : Nat) : Bool := !Fl.nan p && Fl.eqF (Fl.whF p) p
/-- an element -/
def E (k : Int) (a b s t p : Nat) : Value := .agg #[.int .u8 k, .complex .f64 a b, .complex .f64 s t, .float .f64 p]
theorem run_store_cx {P : Program} {w : World} {a : Addr} {m : Mode} (x y : Nat) : (store a (.complex .f64 x y) m).run P w = stored P w a (.complex .f64 x y) m := run_store P w a _ m rfl
theorem run_store_fl {P : Program} {w : World} {a : Addr} {m : Mode} (x : Nat) : (store a (.float .f64 x) m).run P w = stored P w a (.float .f64 x) m := run_store P w a _ m rfl
end El
attribute [local go_sem] El.run_store_cx El.run_store_fl
theorem eplace_any (x y : Nat) (w : World) (hx : x < 18446744073709551616) (hy : y < 18446744073709551616) : Calls Tryz.prog 77 #[.complex .f64 x y] w fun e w' => e = .returned (.bool (El.wi x && El.wi y)) ∧ w' = w := by
 have A1 : Hid (∀ wz, Calls Tryz.prog 80 #[.float .f64 x, .float .f64 4787326403894837248] wz fun e w' => e = .returned (.bool (El.wi x)) ∧ w' = wz) := fun wz => within_any x 4787326403894837248 wz hx
 have A2 : Hid (∀ wz, Calls Tryz.prog 80 #[.float .f64 y, .float .f64 4787326403894837248] wz fun e w' => e = .returned (.bool (El.wi y)) ∧ w' = wz) := fun wz => within_any y 4787326403894837248 wz hy
 generalize El.wi x = p at *
 generalize El.wi y = q at *
 have P : Hid (∀ wz, Calls Tryz.prog 51 #[.complex .f64 x y, .float .f64 4787326403894837248] wz fun e w' => e = .returned (.bool (p && q)) ∧ w' = wz) := by
  intro wz
  cases p with
  | false =>
   go_enter Tryz.func51, Tryz.ntmps51
   go_wp2_with fail
   refine (A1.out _).mono ?_
   rintro e' w ⟨rfl, rfl⟩
   go_wp2
   go_ret
   exact ⟨rfl, rfl⟩
  | true =>
   cases q with
   | false =>
    go_enter Tryz.func51, Tryz.ntmps51
    go_wp2_with fail
    refine (A1.out _).mono ?_
    rintro e' w ⟨rfl, rfl⟩
    go_wp2_with fail
    refine (A2.out _).mono ?_
    rintro e' w ⟨rfl, rfl⟩
    go_wp2
    go_ret
    exact ⟨rfl, rfl⟩
   | true =>
    go_enter Tryz.func51, Tryz.ntmps51
    go_wp2_with fail
    refine (A1.out _).mono ?_
    rintro e' w ⟨rfl, rfl⟩
    go_wp2_with fail
    refine (A2.out _).mono ?_
    rintro e' w ⟨rfl, rfl⟩
    go_wp2
    go_ret
    exact ⟨rfl, rfl⟩
 clear A1 A2
 go_enter Tryz.func77, Tryz.ntmps77
 go_wp2_with fail
 refine (P.out _).mono ?_
 rintro e' w ⟨rfl, rfl⟩
 go_wp2
 go_ret
 exact ⟨rfl, rfl⟩
theorem alike0_any (x : Nat) (w : World) (hx : x < 18446744073709551616) (nx : Fl.nan x = false) : Calls Tryz.prog 82 #[.float .f64 x, .float .f64 0] w fun e w' => e = .returned (.bool (Fl.eqF x 0)) ∧ w' = w := by
 have o := Fl.o_eq x 0
 cases c : Fl.eqF x 0 with
 | true =>
  rw [c] at o
  clear c
  go_enter Tryz.func82, Tryz.ntmps82
  go_wp2
  go_ret
  exact ⟨rfl, rfl⟩
 | false =>
  rw [c] at o
  have S : Hid (∀ wz, Calls Tryz.prog 94 #[.float .f64 x, .float .f64 0] wz fun e w' => e = .returned (.bool false) ∧ w' = wz) := fun wz => by
   have m := same_any x 0 wz
   have hs : Fl.sameB x 0 = false := by
    cases q : Fl.sameB x 0 with
    | false => rfl
    | true =>
     exfalso
     have : x = 0 := by
      unfold Fl.sameB at q
      rw [nx] at q
      simp at q
      exact q.2
     rw [this] at c
     exact absurd c (by decide)
   rw [hs] at m
   exact m
  clear c nx
  go_enter Tryz.func82, Tryz.ntmps82
  go_wp2_with fail
  refine (S.out _).mono ?_
  rintro e' w ⟨rfl, rfl⟩
  go_wp2
  go_ret
  exact ⟨rfl, rfl⟩
theorem enought_any (x y : Nat) (w : World) (hx : x < 18446744073709551616) (hy : y < 18446744073709551616) (nx : Fl.nan x = false) (ny : Fl.nan y = false) : Calls Tryz.prog 122 #[.complex .f64 x y] w fun e w' => e = .returned (.bool (Fl.eqF x 0 && Fl.eqF y 0)) ∧ w' = w := by
 have A1 := El.hid (fun wz => alike0_any x wz hx nx)
 have A2 := El.hid (fun wz => alike0_any y wz hy ny)
 generalize Fl.eqF x 0 = p at *
 generalize Fl.eqF y 0 = q at *
 have P : Hid (∀ wz, Calls Tryz.prog 55 #[.complex .f64 x y, .complex .f64 0 0] wz fun e w' => e = .returned (.bool (p && q)) ∧ w' = wz) := by
  intro wz
  cases p with
  | false =>
   go_enter Tryz.func55, Tryz.ntmps55
   go_wp2_with fail
   refine (A1.out _).mono ?_
   rintro e' w ⟨rfl, rfl⟩
   go_wp2
   go_ret
   exact ⟨rfl, rfl⟩
  | true =>
   cases q with
   | false =>
    go_enter Tryz.func55, Tryz.ntmps55
    go_wp2_with fail
    refine (A1.out _).mono ?_
    rintro e' w ⟨rfl, rfl⟩
    go_wp2_with fail
    refine (A2.out _).mono ?_
    rintro e' w ⟨rfl, rfl⟩
    go_wp2
    go_ret
    exact ⟨rfl, rfl⟩
   | true =>
    go_enter Tryz.func55, Tryz.ntmps55
    go_wp2_with fail
    refine (A1.out _).mono ?_
    rintro e' w ⟨rfl, rfl⟩
    go_wp2_with fail
    refine (A2.out _).mono ?_
    rintro e' w ⟨rfl, rfl⟩
    go_wp2
    go_ret
    exact ⟨rfl, rfl⟩
 clear A1 A2
 go_enter Tryz.func122, Tryz.ntmps122
 go_wp2_with fail
 refine (P.out _).mono ?_
 rintro e' w ⟨rfl, rfl⟩
 go_wp2
 go_ret
 exact ⟨rfl, rfl⟩
theorem ewhole_any (p : Nat) (w : World) (hp : p < 18446744073709551616) (np : Fl.nan p = false) : Calls Tryz.prog 129 #[.float .f64 p] w fun e w' => e = .returned (.bool (El.wh p)) ∧ w' = w := by
 have A1 := El.hid (fun wz => whole_num p wz np)
 have o := Fl.o_eq (Fl.whF p) p
 have ho : Hid (El.wh p = Fl.eqF (Fl.whF p) p) := by unfold El.wh; show _ = _; rw [np]; rfl
 rw [← ho.out] at o
 clear ho np
 generalize El.wh p = q at *
 generalize Fl.whF p = u at *
 go_enter Tryz.func129, Tryz.ntmps129
 go_wp2_with fail
 refine (A1.out _).mono ?_
 rintro e' w ⟨rfl, rfl⟩
 go_wp2
 go_ret
 exact ⟨rfl, rfl⟩
theorem told_any (x y : Nat) (w : World) (hx : x < 18446744073709551616) (hy : y < 18446744073709551616) : Calls Tryz.prog 47 #[.complex .f64 x y] w fun e w' => e = .returned (.tuple #[.complex .f64 (if El.fin (El.c2 x y) then x else 0) (if El.fin (El.c2 x y) then y else 0), .int .i64 (if El.fin (El.c2 x y) then 0 else 6)]) ∧ w' = w := by
 have A1 := El.hid (fun wz => pfinite_any x y wz hx hy)
 rw [El.fin_c] at A1
 cases c : El.fin (El.c2 x y) with
 | true =>
  rw [c] at A1
  clear c
  go_enter Tryz.func47, Tryz.ntmps47
  go_wp2_with fail
  refine (A1.out _).mono ?_
  rintro e' w ⟨rfl, rfl⟩
  go_wp2
  go_ret2
  exact ⟨rfl, rfl⟩
 | false =>
  rw [c] at A1
  clear c
  go_enter Tryz.func47, Tryz.ntmps47
  go_wp2_with fail
  refine (A1.out _).mono ?_
  rintro e' w ⟨rfl, rfl⟩
  go_wp2
  go_ret2
  exact ⟨rfl, rfl⟩
theorem kindof1 (a b s t p : Nat) (w : World) : Calls Tryz.prog 81 #[El.E 1 a b s t p] w fun e w' => e = .returned (.tuple #[.iface 117 (El.E 1 a b s t p), .bool true]) ∧ Bw w w' := by
 unfold El.E
 go_enter Tryz.func81, Tryz.ntmps81
 go_wp2
 go_ret2
 exact ⟨rfl, Below.alloc (Bw.refl w) (Nat.le_refl _) _⟩
theorem kindof3 (a b s t p : Nat) (w : World) : Calls Tryz.prog 81 #[El.E 3 a b s t p] w fun e w' => e = .returned (.tuple #[.iface 129 (El.E 3 a b s t p), .bool true]) ∧ Bw w w' := by
 unfold El.E
 go_enter Tryz.func81, Tryz.ntmps81
 go_wp2
 go_ret2
 exact ⟨rfl, Below.alloc (Bw.refl w) (Nat.le_refl _) _⟩
theorem kindof4 (a b s t p : Nat) (w : World) : Calls Tryz.prog 81 #[El.E 4 a b s t p] w fun e w' => e = .returned (.tuple #[.iface 118 (El.E 4 a b s t p), .bool true]) ∧ Bw w w' := by
 unfold El.E
 go_enter Tryz.func81, Tryz.ntmps81
 go_wp2
 go_ret2
 exact ⟨rfl, Below.alloc (Bw.refl w) (Nat.le_refl _) _⟩
end Go.Proofs.YtjpllggchjgjpaaGreat

/-
 OWN TEXT: package element: which elements may be; what the methods of the four kinds return, as functions of one row of bits a part.
-/
namespace Go.Proofs.YtjpllggchjgjpaaGreat
open Go.ChangeShapes Go.WideShapes Go.ChangeAt Go.RowKit
set_option linter.unusedVariables false
attribute [local go_sem] frombits_call tobits_call run_neg El.run_store_cx El.run_store_fl
namespace El
/-- an element lies at a block -/
structure St (w : World) (B : Nat) (k : Int) (a b s t p : Nat) : Prop where
 lt : B < w.heap.size
 c0 : w.cell? ⟨B, 0, none⟩ = some (.int .u8 k)
 c1 : w.cell? ⟨B, 1, none⟩ = some (.complex .f64 a b)
 c2 : w.cell? ⟨B, 2, none⟩ = some (.complex .f64 s t)
 c3 : w.cell? ⟨B, 3, none⟩ = some (.float .f64 p)
theorem St.bw {w w' : World} {B : Nat} {k : Int} {a b s t p : Nat} (h : St w B k a b s t p) (g : Bw w w') : St w' B k a b s t p :=
 ⟨Nat.lt_of_lt_of_le h.lt g.size, (Below.cell g (p := ⟨B, 0, none⟩) h.lt).trans h.c0, (Below.cell g (p := ⟨B, 1, none⟩) h.lt).trans h.c1, (Below.cell g (p := ⟨B, 2, none⟩) h.lt).trans h.c2, (Below.cell g (p := ⟨B, 3, none⟩) h.lt).trans h.c3⟩
theorem St.new (w : World) (k : Int) (a b s t p : Nat) (T : TypeId) : St (w.alloc (.cells #[.int .u8 k, .complex .f64 a b, .complex .f64 s t, .float .f64 p] T)) w.heap.size k a b s t p :=
 ⟨by simp, by simp, by simp, by simp, by simp⟩
theorem bw_new (w : World) (o : Obj) : Bw w (w.alloc o) := Below.alloc (Bw.refl w) (Nat.le_refl _) _
/-- 1 / (2 * H) -/
def H1 : Nat := 4594902181429758083
/-- a whole power's number -/
def toN (p : Nat) : Nat := match floatToIntVal .f64 p .i64 with | some n => n.toNat | none => 0
/-- what a doublet's formula comes to -/
def dterm (s t p dx dy times more : Nat) : Z := zdiv (zscale (c2 s t) (Fl.bitsF times)) (zpow (c2 dx dy) (toN p + more))
/-- what a corner's formula comes to -/
noncomputable def cterm (s t p dx dy times q : Nat) : Z :=
 if wh p = true then zmul (zscale (c2 s t) (Fl.bitsF times)) (zpow (c2 dx dy) (toN q))
 else if (Fl.eqF dx 0 && Fl.eqF dy 0 && Fl.ltF 0 q) = true then (0, 0) else zmul (zscale (c2 s t) (Fl.bitsF times)) (zreal dx dy q)
end El
set_option maxHeartbeats 4000000 in
theorem may1 (a b s t p : Nat) (w : World) (ha : a < 18446744073709551616) (hb : b < 18446744073709551616) (na : Fl.nan a = false) (nb : Fl.nan b = false) : Calls Tryz.prog 118 #[El.E 1 a b s t p] w fun e w' => e = .returned (.bool ((Fl.eqF a 0 && Fl.eqF b 0) && Fl.eqF p 0)) ∧ Bw w w' := by
 have A1 := El.hid (fun wz => enought_any a b wz ha hb na nb)
 have o := Fl.o_eq p 0
 clear na nb
 generalize (Fl.eqF a 0 && Fl.eqF b 0) = q at *
 generalize Fl.eqF p 0 = r at *
 have G := El.bw_new w (.cells #[.int .u8 1, .complex .f64 a b, .complex .f64 s t, .float .f64 p] 117)
 unfold El.E
 cases q
 ·
  go_enter Tryz.func118, Tryz.ntmps118
  go_wp2_with fail
  refine (A1.out _).mono ?_
  rintro e' w1 ⟨rfl, hw⟩
  subst hw
  go_wp2
  go_ret
  exact ⟨rfl, G⟩
 ·
  go_enter Tryz.func118, Tryz.ntmps118
  go_wp2_with fail
  refine (A1.out _).mono ?_
  rintro e' w1 ⟨rfl, hw⟩
  subst hw
  go_wp2
  go_ret
  exact ⟨rfl, G⟩
set_option maxHeartbeats 4000000 in
theorem may3 (a b s t p : Nat) (w : World) (hp : p < 18446744073709551616) (np : Fl.nan p = false) : Calls Tryz.prog 183 #[El.E 3 a b s t p] w fun e w' => e = .returned (.bool (El.wh p && Fl.leF 4607182418800017408 p && Fl.leF p 4620693217682128896)) ∧ Bw w w' := by
 have A1 := El.hid (fun wz => ewhole_any p wz hp np)
 have o := Fl.o_ge p 4607182418800017408
 have o' := Fl.o_le p 4620693217682128896
 clear np hp
 generalize El.wh p = q at *
 generalize Fl.leF 4607182418800017408 p = r at *
 generalize Fl.leF p 4620693217682128896 = r' at *
 have G := El.bw_new w (.cells #[.int .u8 3, .complex .f64 a b, .complex .f64 s t, .float .f64 p] 129)
 unfold El.E
 cases q <;> cases r
 ·
  go_enter Tryz.func183, Tryz.ntmps183
  go_wp2_with fail
  refine (A1.out _).mono ?_
  rintro e' w1 ⟨rfl, hw⟩
  subst hw
  go_wp2
  go_ret
  exact ⟨rfl, G⟩
 ·
  go_enter Tryz.func183, Tryz.ntmps183
  go_wp2_with fail
  refine (A1.out _).mono ?_
  rintro e' w1 ⟨rfl, hw⟩
  subst hw
  go_wp2
  go_ret
  exact ⟨rfl, G⟩
 ·
  go_enter Tryz.func183, Tryz.ntmps183
  go_wp2_with fail
  refine (A1.out _).mono ?_
  rintro e' w1 ⟨rfl, hw⟩
  subst hw
  go_wp2
  go_ret
  exact ⟨rfl, G⟩
 ·
  go_enter Tryz.func183, Tryz.ntmps183
  go_wp2_with fail
  refine (A1.out _).mono ?_
  rintro e' w1 ⟨rfl, hw⟩
  subst hw
  go_wp2
  go_ret
  exact ⟨rfl, G⟩
set_option maxHeartbeats 4000000 in
theorem may4 (a b s t p : Nat) (w : World) : Calls Tryz.prog 123 #[El.E 4 a b s t p] w fun e w' => e = .returned (.bool (Fl.leF 4598175219545276416 p && Fl.leF p 4616189618054758400)) ∧ Bw w w' := by
 have o := Fl.o_ge p 4598175219545276416
 have o' := Fl.o_le p 4616189618054758400
 generalize Fl.leF 4598175219545276416 p = r at *
 generalize Fl.leF p 4616189618054758400 = r' at *
 have G := El.bw_new w (.cells #[.int .u8 4, .complex .f64 a b, .complex .f64 s t, .float .f64 p] 118)
 unfold El.E
 cases r
 ·
  go_enter Tryz.func123, Tryz.ntmps123
  go_wp2
  go_ret
  exact ⟨rfl, G⟩
 ·
  go_enter Tryz.func123, Tryz.ntmps123
  go_wp2
  go_ret
  exact ⟨rfl, G⟩
theorem spd1 (a b s t p x y : Nat) (w : World) : Calls Tryz.prog 121 #[El.E 1 a b s t p, .complex .f64 x y] w fun e w' => e = .returned (.complex .f64 s t) ∧ Bw w w' := by
 have G := El.bw_new w (.cells #[.int .u8 1, .complex .f64 a b, .complex .f64 s t, .float .f64 p] 117)
 unfold El.E
 go_enter Tryz.func121, Tryz.ntmps121
 go_wp2
 go_ret
 exact ⟨rfl, G⟩
end Go.Proofs.YtjpllggchjgjpaaGreat

/-
 OWN TEXT: package element: what the methods of doublets and corners return, as functions of one row of bits a part.
-/
namespace Go.Proofs.YtjpllggchjgjpaaGreat
open Go.ChangeShapes Go.WideShapes Go.ChangeAt Go.RowKit
set_option linter.unusedVariables false
attribute [local go_sem] frombits_call tobits_call run_neg El.run_store_cx El.run_store_fl
theorem El.conv_run {b : Nat} {n : Int} (h : floatToIntVal .f64 b .i64 = some n) (w : World) : (convert 27 3 (.float .f64 b)).run Tryz.prog w = .ok (.int .i64 n) w :=
 run_convert_float_int (P := Tryz.prog) w 27 3 .f64 .i64 b n (by kernel_rfl) (by kernel_rfl) h
theorem El.toN_of {p n : Nat} (h : floatToIntVal .f64 p .i64 = some (n : Int)) : El.toN p = n := by
 unfold El.toN
 rw [h]
 simp
theorem El.ar {op : BinOp} {a b x : Nat} (e : floatBits op .f64 a b = some x) (t : TypeId) (w : World) : (binOp op t (.float .f64 a) (.float .f64 b)).run Tryz.prog w = .ok (.float .f64 x) w := run_float_arith (P := Tryz.prog) w op t .f64 _ _ _ e
set_option maxHeartbeats 16000000 in
theorem dterm_any (a b s t p x y dx dy times more n : Nat) (w : World) (hd : Hid (∀ wz, Calls Tryz.prog 128 #[.complex .f64 x y, .complex .f64 a b] wz fun e w' => e = .returned (.complex .f64 dx dy) ∧ w' = wz)) (hx : dx < 18446744073709551616) (hy : dy < 18446744073709551616) (hn : floatToIntVal .f64 p .i64 = some (n : Int)) (h8 : n ≤ 8) (hm : more ≤ 2) : Calls Tryz.prog 187 #[El.E 3 a b s t p, .complex .f64 x y, .float .f64 times, .int .i64 (more : Int)] w fun e w' => ∃ u v, e = .returned (.complex .f64 u v) ∧ El.c2 u v = El.dterm s t p dx dy times more ∧ u < 18446744073709551616 ∧ v < 18446744073709551616 ∧ Bw w w' := by
 have S0 := (El.St.new w 3 a b s t p 129).bw (Bw.refl _).drew
 have G : Bw w (w.alloc (.cells #[.int .u8 3, .complex .f64 a b, .complex .f64 s t, .float .f64 p] 129)).drew := (El.bw_new w _).drew
 have CV := El.conv_run hn
 have TN := El.hid (El.toN_of hn)
 obtain ⟨km, hkm⟩ : ∃ km, km = n + more := ⟨_, rfl⟩
 have K1 : (n : Int) + (more : Int) = (km : Int) := by omega
 have K2 : IntKind.i64.wrap (km : Int) = (km : Int) := by simp [IntKind.wrap, IntKind.bits, IntKind.signed]; omega
 have K3 := El.hid (show km ≤ 10 by omega)
 have K4 := El.hid hkm
 clear hn h8 hm hkm
 unfold El.E
 go_enter Tryz.func187, Tryz.ntmps187
 go_wp2_with fail
 refine (hd.out _).mono ?_
 rintro e' w9 ⟨rfl, hw9⟩
 subst hw9
 go_wp2_with fail
 refine wp_region_K (fun w' => El.St w' w.heap.size 3 a b s t p) 14 15 #[false, false, false, false, false, false, false, false, false, false, false, false, false, false, false] (by kernel_rfl) (by kernel_rfl) (by kernel_rfl) ?_
 generalize hW : (w.alloc (.cells #[.int .u8 3, .complex .f64 a b, .complex .f64 s t, .float .f64 p] 129)).drew = W at *
 generalize w.heap.size = B at *
 clear hW
 refine wpAnyK_take 0 15 (v := ?v0) rfl (by kernel_rfl) (by kernel_rfl) (by kernel_rfl) (by kernel_rfl) (by kernel_rfl) (fun _ _ _ h => h) rfl (Or.inl ⟨by rfl, ?h0⟩) (by assumption) ?r0
 case h0 => (intro w hSw; obtain ⟨_, h0, h1, h2, h3⟩ := hSw; go_simp; with_reducible rfl)
 simp only [Act.put, List.setIfInBounds_toArray, List.set_cons_zero, List.set_cons_succ]
 refine wpAnyK_take 1 16 (v := ?v1) rfl (by kernel_rfl) (by kernel_rfl) (by kernel_rfl) (by kernel_rfl) (by kernel_rfl) (fun _ _ _ h => h) rfl (Or.inl ⟨by rfl, ?h1⟩) (by assumption) ?r1
 case h1 => (intro w hSw; obtain ⟨_, h0, h1, h2, h3⟩ := hSw; go_simp; with_reducible rfl)
 simp only [Act.put, List.setIfInBounds_toArray, List.set_cons_zero, List.set_cons_succ]
 refine wpAnyK_take 2 17 (v := ?v2) rfl (by kernel_rfl) (by kernel_rfl) (by kernel_rfl) (by kernel_rfl) (by kernel_rfl) (fun _ _ _ h => h) rfl (Or.inl ⟨by rfl, ?h2⟩) (by assumption) ?r2
 case h2 => (intro w hSw; obtain ⟨_, h0, h1, h2, h3⟩ := hSw; go_simp; with_reducible rfl)
 simp only [Act.put, List.setIfInBounds_toArray, List.set_cons_zero, List.set_cons_succ]
 refine wpAnyK_take 3 18 (v := ?v3) rfl (by kernel_rfl) (by kernel_rfl) (by kernel_rfl) (by kernel_rfl) (by kernel_rfl) (fun _ _ _ h => h) rfl (Or.inl ⟨by rfl, ?h3⟩) (by assumption) ?r3
 case h3 => (intro w hSw; obtain ⟨_, h0, h1, h2, h3⟩ := hSw; go_simp; with_reducible rfl)
 simp only [Act.put, List.setIfInBounds_toArray, List.set_cons_zero, List.set_cons_succ]
 refine wpAnyK_take 5 20 (v := ?v5) rfl (by kernel_rfl) (by kernel_rfl) (by kernel_rfl) (by kernel_rfl) (by kernel_rfl) (fun _ _ _ h => h) rfl (Or.inl ⟨by rfl, ?h5⟩) (by assumption) ?r5
 case h5 => (intro w hSw; obtain ⟨_, h0, h1, h2, h3⟩ := hSw; go_simp; with_reducible rfl)
 simp only [Act.put, List.setIfInBounds_toArray, List.set_cons_zero, List.set_cons_succ]
 refine wpAnyK_take 6 21 (v := ?v6) rfl (by kernel_rfl) (by kernel_rfl) (by kernel_rfl) (by kernel_rfl) (by kernel_rfl) (fun _ _ _ h => h) rfl (Or.inl ⟨by rfl, ?h6⟩) (by assumption) ?r6
 case h6 => (intro w hSw; obtain ⟨_, h0, h1, h2, h3⟩ := hSw; go_simp; with_reducible rfl)
 simp only [Act.put, List.setIfInBounds_toArray, List.set_cons_zero, List.set_cons_succ]
 refine wpAnyK_take 7 22 (v := ?v7) rfl (by kernel_rfl) (by kernel_rfl) (by kernel_rfl) (by kernel_rfl) (by kernel_rfl) (fun _ _ _ h => h) rfl (Or.inl ⟨by rfl, ?h7⟩) (by assumption) ?r7
 case h7 => (intro w hSw; obtain ⟨_, h0, h1, h2, h3⟩ := hSw; go_simp; with_reducible rfl)
 simp only [Act.put, List.setIfInBounds_toArray, List.set_cons_zero, List.set_cons_succ]
 refine wpAnyK_take 8 23 (v := ?v8) rfl (by kernel_rfl) (by kernel_rfl) (by kernel_rfl) (by kernel_rfl) (by kernel_rfl) (fun _ _ _ h => h) rfl (Or.inl ⟨by rfl, ?h8⟩) (by assumption) ?r8
 case h8 => (intro w hSw; obtain ⟨_, h0, h1, h2, h3⟩ := hSw; go_simp; with_reducible rfl)
 simp only [Act.put, List.setIfInBounds_toArray, List.set_cons_zero, List.set_cons_succ]
 refine wpAnyK_take 9 24 (v := ?v9) rfl (by kernel_rfl) (by kernel_rfl) (by kernel_rfl) (by kernel_rfl) (by kernel_rfl) (fun _ _ _ h => h) rfl (Or.inl ⟨by rfl, ?h9⟩) (by assumption) ?r9
 case h9 => (intro w hSw; obtain ⟨_, h0, h1, h2, h3⟩ := hSw; go_simp; with_reducible rfl)
 simp only [Act.put, List.setIfInBounds_toArray, List.set_cons_zero, List.set_cons_succ]
 refine wpAnyK_take 10 25 (v := ?v10) rfl (by kernel_rfl) (by kernel_rfl) (by kernel_rfl) (by kernel_rfl) (by kernel_rfl) (fun _ _ _ h => h) rfl (Or.inl ⟨by rfl, ?h10⟩) (by assumption) ?r10
 case h10 => (intro w hSw; obtain ⟨_, h0, h1, h2, h3⟩ := hSw; go_simp; with_reducible rfl)
 simp only [Act.put, List.setIfInBounds_toArray, List.set_cons_zero, List.set_cons_succ]
 refine wpAnyK_take 11 26 (v := ?v11) rfl (by kernel_rfl) (by kernel_rfl) (by kernel_rfl) (by kernel_rfl) (by kernel_rfl) (fun _ _ _ h => h) rfl (Or.inl ⟨by rfl, ?h11⟩) (by assumption) ?r11
 case h11 => (intro w hSw; obtain ⟨_, h0, h1, h2, h3⟩ := hSw; go_simp; with_reducible rfl)
 simp only [Act.put, List.setIfInBounds_toArray, List.set_cons_zero, List.set_cons_succ]
 refine wpAnyK_one 4 (by kernel_rfl) rfl (fun K hK => ?_)
 go_simp
 go_wp2_with (go_at_call 66; refine (zscale_any s t times _).mono ?_; rintro e' w1 ⟨u, v, rfl, h1, l1, m1, b1⟩)
 have S1 := S0.bw b1
 have Q1 := El.hid h1
 clear h1
 refine hK.out _ _ (fun _ _ => S1) ?_
 clear hK K
 simp only [List.setIfInBounds_toArray, List.set_cons_zero, List.set_cons_succ]
 refine wpAnyK_one 12 (by kernel_rfl) rfl (fun K hK => ?_)
 go_simp
 go_wp2_with (go_at_call 130; refine (zwhole_any dx dy km _ K3.out hx hy).mono ?_; rintro e' w2 ⟨u2, v2, rfl, h2, l2, m2, b2⟩)
 have S2 := S1.bw b2
 have Q2 := El.hid h2
 clear h2
 refine hK.out _ _ (fun _ _ => S2) ?_
 clear hK K
 simp only [List.setIfInBounds_toArray, List.set_cons_zero, List.set_cons_succ]
 refine wpAnyK_one 13 (by kernel_rfl) rfl (fun K hK => ?_)
 go_simp
 go_wp2_with (go_at_call 76; refine (zdiv_any u v u2 v2 _ l2 m2).mono ?_; rintro e' w3 ⟨u3, v3, rfl, h3, l3, m3, b3⟩)
 have S3 := S2.bw b3
 have Q3 := El.hid h3
 clear h3
 refine hK.out _ _ (fun _ _ => S3) ?_
 clear hK K
 simp only [List.setIfInBounds_toArray, List.set_cons_zero, List.set_cons_succ]
 refine wpAnyK_one 14 (by kernel_rfl) rfl (fun K hK => ?_)
 go_simp
 refine hK.out _ _ (fun h => absurd rfl h) ?_
 clear hK K
 simp only [List.setIfInBounds_toArray, List.set_cons_zero, List.set_cons_succ]
 refine wpAnyK_done (by kernel_rfl) ?_ _
 go_wp2
 go_ret
 refine ⟨u3, v3, rfl, ?_, l3, m3, bw_trans (bw_trans (bw_trans G b1) b2) b3⟩
 unfold El.dterm
 rw [Q3.out, Q2.out, Q1.out, TN.out, ← K4.out]
set_option maxHeartbeats 8000000 in
theorem spd3 (a b s t p x y dx dy n : Nat) (w : World) (hd : Hid (∀ wz, Calls Tryz.prog 128 #[.complex .f64 x y, .complex .f64 a b] wz fun e w' => e = .returned (.complex .f64 dx dy) ∧ w' = wz)) (hx : dx < 18446744073709551616) (hy : dy < 18446744073709551616) (hn : floatToIntVal .f64 p .i64 = some (n : Int)) (h8 : n ≤ 8) : Calls Tryz.prog 186 #[El.E 3 a b s t p, .complex .f64 x y] w fun e w' => ∃ u v, e = .returned (.complex .f64 u v) ∧ El.c2 u v = El.dterm s t p dx dy (Op.negFloat .f64 p) 1 ∧ u < 18446744073709551616 ∧ v < 18446744073709551616 ∧ Bw w w' := by
 have G := El.bw_new w (.cells #[.int .u8 3, .complex .f64 a b, .complex .f64 s t, .float .f64 p] 129)
 have D := El.hid (fun times more w (hm : more ≤ 2) => dterm_any a b s t p x y dx dy times more n w hd hx hy hn h8 hm)
 clear hd hn h8
 unfold El.E at *
 go_enter Tryz.func186, Tryz.ntmps186
 go_wp2_with fail
 refine (D.out (Op.negFloat .f64 p) 1 _ (by decide)).mono ?_
 rintro e' w1 ⟨u, v, rfl, h, l, m, b1⟩
 have Q := El.hid h
 clear h
 go_wp2
 go_ret
 exact ⟨u, v, rfl, Q.out, l, m, bw_trans G b1⟩
set_option maxHeartbeats 8000000 in
theorem ctermW (a b s t p x y dx dy times q n : Nat) (w : World) (hd : Hid (∀ wz, Calls Tryz.prog 128 #[.complex .f64 x y, .complex .f64 a b] wz fun e w' => e = .returned (.complex .f64 dx dy) ∧ w' = wz)) (hx : dx < 18446744073709551616) (hy : dy < 18446744073709551616) (hp : p < 18446744073709551616) (np : Fl.nan p = false) (hw : El.wh p = true) (hn : floatToIntVal .f64 q .i64 = some (n : Int)) (h8 : n ≤ 10) : Calls Tryz.prog 127 #[El.E 4 a b s t p, .complex .f64 x y, .float .f64 times, .float .f64 q] w fun e w' => ∃ u v, e = .returned (.complex .f64 u v) ∧ El.c2 u v = El.cterm s t p dx dy times q ∧ u < 18446744073709551616 ∧ v < 18446744073709551616 ∧ Bw w w' := by
 have S0 := El.St.new w 4 a b s t p 118
 have G := El.bw_new w (.cells #[.int .u8 4, .complex .f64 a b, .complex .f64 s t, .float .f64 p] 118)
 have A1 := El.hid (fun wz => ewhole_any p wz hp np)
 rw [hw] at A1
 have CV := El.conv_run hn
 have HV : Hid (∀ z, El.zmul (El.zscale (El.c2 s t) (Fl.bitsF times)) (El.zpow (El.c2 dx dy) n) = z → z = El.cterm s t p dx dy times q) := by
  intro z hz
  unfold El.cterm
  rw [if_pos hw, El.toN_of hn]
  exact hz.symm
 have K := El.hid h8
 clear hn h8 hw np
 unfold El.E
 go_enter Tryz.func127, Tryz.ntmps127
 go_wp2_with fail
 refine (hd.out _).mono ?_
 rintro e' w9 ⟨rfl, hw9⟩
 subst hw9
 go_wp2_with fail
 refine (zscale_any s t times _).mono ?_
 rintro e' w1 ⟨u, v, rfl, h1, l1, m1, b1⟩
 have Q1 := El.hid h1
 replace G := bw_trans G b1
 obtain ⟨_, c0, c1, c2, c3⟩ := S0.bw b1
 clear h1 S0 b1
 go_wp2_with fail
 refine (A1.out _).mono ?_
 rintro e' w9 ⟨rfl, hw9⟩
 subst hw9
 go_wp2_with fail
 refine (zwhole_any dx dy n _ K.out hx hy).mono ?_
 rintro e' w2 ⟨u2, v2, rfl, h2, l2, m2, b2⟩
 have Q2 := El.hid h2
 replace G := bw_trans G b2
 clear h2 b2 c0 c1 c2 c3
 go_wp2_with fail
 refine (zmul_any u v u2 v2 _).mono ?_
 rintro e' w3 ⟨u3, v3, rfl, h3, l3, m3, b3⟩
 have Q3 := El.hid h3
 replace G := bw_trans G b3
 clear h3 b3
 go_wp2
 go_ret
 refine ⟨u3, v3, rfl, HV.out _ ?_, l3, m3, G⟩
 rw [Q3.out, Q1.out, Q2.out]
set_option maxHeartbeats 8000000 in
theorem spd4 (a b s t p x y dx dy : Nat) (w : World) {p1 : Nat} (h1 : floatBits .sub .f64 p 4607182418800017408 = some p1) (D : Hid (∀ w, Calls Tryz.prog 127 #[El.E 4 a b s t p, .complex .f64 x y, .float .f64 p, .float .f64 p1] w fun e w' => ∃ u v, e = .returned (.complex .f64 u v) ∧ El.c2 u v = El.cterm s t p dx dy p p1 ∧ u < 18446744073709551616 ∧ v < 18446744073709551616 ∧ Bw w w')) : Calls Tryz.prog 126 #[El.E 4 a b s t p, .complex .f64 x y] w fun e w' => ∃ u v, e = .returned (.complex .f64 u v) ∧ El.c2 u v = El.cterm s t p dx dy p p1 ∧ u < 18446744073709551616 ∧ v < 18446744073709551616 ∧ Bw w w' := by
 have G := El.bw_new w (.cells #[.int .u8 4, .complex .f64 a b, .complex .f64 s t, .float .f64 p] 118)
 have e1 := El.ar h1
 clear h1
 unfold El.E at *
 go_enter Tryz.func126, Tryz.ntmps126
 go_wp2_with fail
 refine (D.out _).mono ?_
 rintro e' w1 ⟨u, v, rfl, h, l, m, b1⟩
 have Q := El.hid h
 clear h
 go_wp2
 go_ret
 exact ⟨u, v, rfl, Q.out, l, m, bw_trans G b1⟩
end Go.Proofs.YtjpllggchjgjpaaGreat

