/-
  OWN TEXT: the reference's powers and sheets of complex numbers (eddyref07), for every number.
-/
import Derived.Test.YtlbikopancleoaaDoorPoB
namespace Go.Proofs.YtlbikopancleoaaDoor
open Go.ChangeShapes Go.WideShapes Go.ChangeAt Go.RowKit
open Bg
set_option linter.unusedVariables false
attribute [local go_sem] frombits_call tobits_call run_neg
set_option maxHeartbeats 4000000 in
theorem rcsheet_any (a b : Nat) (n : Int) (w : World) (ha : a < 18446744073709551616) (hb : b < 18446744073709551616) (hT : Tab w) (hw : 2 ≤ w.heap.size) (hn : -9223372036854775808 ≤ n) (hn' : n ≤ 9223372036854775807) : Calls Tryd.prog 6 #[.complex .f64 a b, .int .i64 n] w fun e w' => ∃ re im o, e = .returned (.tuple #[.complex .f64 re im, .bool o]) ∧ sheR a b n re im o ∧ Bw w w' := by
  have T : Hid (Tab w) := hT
  clear hT
  go_enter Tryd.func6, Tryd.ntmps6
  go_wp2_with fail
  refine (rclog_any a b _ ha hb T.out hw).mono ?_
  rintro e w1 ⟨x, y, rfl, h1, b1⟩
  have HS : Hid (∀ re im o, (if (Fl.finB x && Fl.finB y && !decide (n < -1048576) && !decide (1048576 < n)) = true then o = true ∧ re = x ∧ ∃ t, opR .mul (floatOfInt .f64 n) 4618760256179416344 t ∧ opR .add y t im else o = false ∧ re = 0 ∧ im = 0) → sheR a b n re im o) := fun re im o h => ⟨x, y, h1, h⟩
  have FI : Hid (∀ wz, Calls Tryd.prog 13 #[.complex .f64 x y] wz fun e w' => e = .returned (.bool (Fl.finB x && Fl.finB y)) ∧ w' = wz) := fun wz => rfinite2_any x y wz
  clear h1 T
  cases c : (Fl.finB x && Fl.finB y)
  · rw [c] at FI
    have HF : Hid (sheR a b n 0 0 false) := HS.out 0 0 false (by rw [c, if_neg (by simp)]; exact ⟨rfl, rfl, rfl⟩)
    clear HS c
    go_wp2_with fail
    refine (FI.out _).mono ?_
    rintro e' w1 ⟨rfl, rfl⟩
    go_wp2
    go_ret2
    exact ⟨_, _, _, rfl, HF.out, b1⟩
  · rw [c] at FI
    by_cases c1 : n < -1048576
    · have HF : Hid (sheR a b n 0 0 false) := HS.out 0 0 false (by rw [c, decide_eq_true c1, if_neg (by simp)]; exact ⟨rfl, rfl, rfl⟩)
      clear HS c
      go_wp2_with fail
      refine (FI.out _).mono ?_
      rintro e' w1 ⟨rfl, rfl⟩
      go_wp2
      go_ret2
      exact ⟨_, _, _, rfl, HF.out, b1⟩
    · by_cases c2 : 1048576 < n
      · have HF : Hid (sheR a b n 0 0 false) := HS.out 0 0 false (by rw [c, decide_eq_true c2, if_neg (by simp)]; exact ⟨rfl, rfl, rfl⟩)
        clear HS c
        go_wp2_with fail
        refine (FI.out _).mono ?_
        rintro e' w1 ⟨rfl, rfl⟩
        go_wp2
        go_ret2
        exact ⟨_, _, _, rfl, HF.out, b1⟩
      · obtain ⟨t, w2, ht, e2, b2⟩ := op_run .mul isMul (floatOfInt .f64 n) 4618760256179416344 w1
        obtain ⟨im, w3, him, e3, b3⟩ := op_run .add isAdd y t w2
        have rhh := fun (ty : TypeId) w => run_float_arith (P := Tryd.prog) w .mul ty .f64 4611686018427387904 4614256656552045848 4618760256179416344 (by decide +kernel)
        have HF : Hid (sheR a b n x im true) := HS.out x im true (by rw [c, decide_eq_false c1, decide_eq_false c2, if_pos (by decide)]; exact ⟨rfl, rfl, t, ht, him⟩)
        have B := bw_trans (bw_trans b1 b2) b3
        clear HS c ht him b1 b2 b3
        go_wp2_with fail
        refine (FI.out _).mono ?_
        rintro e' w1 ⟨rfl, rfl⟩
        go_wp2_with fail
        refine (rhigh_any _).mono ?_
        rintro e' w1 ⟨rfl, rfl⟩
        go_wp2_with (go_at_call 15; refine (rof2_any _ _ _).mono ?_; rintro e' w9 ⟨rfl, hw9⟩; subst hw9)
        go_ret2
        exact ⟨_, _, _, rfl, HF.out, B⟩
theorem rsame7_any {a b c d : Nat} (h1 : simR a c) (h2 : simR b d) (w : World) : Calls Tryd.prog 7 #[.complex .f64 a b, .complex .f64 c d] w fun e w' => e = .returned (.bool true) ∧ w' = w := by
  have FA : Hid (∀ wz, Calls Tryd.prog 16 #[.float .f64 a, .float .f64 c] wz fun e w' => e = .returned (.bool true) ∧ w' = wz) := fun wz => by have k := rsame_any a c wz; rw [h1.same] at k; exact k
  have FB : Hid (∀ wz, Calls Tryd.prog 16 #[.float .f64 b, .float .f64 d] wz fun e w' => e = .returned (.bool true) ∧ w' = wz) := fun wz => by have k := rsame_any b d wz; rw [h2.same] at k; exact k
  go_enter Tryd.func7, Tryd.ntmps7
  go_wp2_with fail
  refine (FA.out _).mono ?_
  rintro e' w ⟨rfl, rfl⟩
  go_wp2_with fail
  refine (FB.out _).mono ?_
  rintro e' w ⟨rfl, rfl⟩
  go_wp2
  go_ret
  exact ⟨rfl, rfl⟩
end Go.Proofs.YtlbikopancleoaaDoor
