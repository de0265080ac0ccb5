/-
  OWN TEXT: the reference's exponentials, logarithms, powers, sines of complex numbers (eddyref07), for every number.
-/
import Derived.Test.YtlbikopancleoaaDoorJnAq
import Derived.Test.YtlbikopancleoaaDoorJnBr
import Derived.Test.YtlbikopancleoaaDoorEqEr
import Derived.Test.YtlbikopancleoaaDoorJnAp
namespace Go.Proofs.YtlbikopancleoaaDoor
open Go.ChangeShapes Go.WideShapes Go.ChangeAt Go.RowKit
open Bg
set_option linter.unusedVariables false
attribute [local go_sem] frombits_call tobits_call run_neg
theorem rof2_any (x y : Nat) (w : World) : Calls Tryd.prog 15 #[.float .f64 x, .float .f64 y] w fun e w' => e = .returned (.complex .f64 x y) ∧ w' = w := by
  go_enter Tryd.func15, Tryd.ntmps15
  go_wp2
  go_ret
  exact ⟨rfl, rfl⟩
theorem exp_lt {x y : Nat} (h : expR x y) : y < 18446744073709551616 := h.1
set_option maxHeartbeats 4000000 in
theorem rclog_any (a b : Nat) (w : World) (ha : a < 18446744073709551616) (hb : b < 18446744073709551616) (hT : Tab w) (hw : 2 ≤ w.heap.size) : Calls Tryd.prog 12 #[.complex .f64 a b] w fun e w' => ∃ re im, e = .returned (.complex .f64 re im) ∧ cloR a b re im ∧ Bw w w' := by
  have T : Hid (Tab w) := hT
  clear hT
  go_enter Tryd.func12, Tryd.ntmps12
  go_wp2_with fail
  refine (rlength_any a b _ ha hb T.out hw).mono ?_
  rintro e w1 ⟨l, rfl, hl, b1⟩
  have hll := hl.1
  have HL : Hid (lenR a b l) := hl
  clear hl T
  go_wp2_with fail
  refine (rlog_any l _ hll).mono ?_
  rintro e w2 ⟨x, rfl, hx, b2⟩
  have HX : Hid (logR l x) := hx
  clear hx
  go_wp2_with fail
  refine (rof_any b a _ hb ha).mono ?_
  rintro e w3 ⟨y, rfl, hy, hyl, b3⟩
  have B := bw_trans (bw_trans b1 b2) b3
  have HF : Hid (cloR a b x y) := ⟨l, HL.out, HX.out, hy, hyl⟩
  clear HL HX hy b1 b2 b3
  go_wp2_with (go_at_call 15; refine (rof2_any _ _ _).mono ?_; rintro e' w9 ⟨rfl, hw9⟩; subst hw9)
  go_ret
  exact ⟨x, y, rfl, HF.out, B⟩
theorem xor_top {x : Nat} (h : x < 18446744073709551616) : bits .xor .u64 (x : Int) 9223372036854775808 = ((Fl.ng x : Nat) : Int) := by
  have e := u64_xor_nat x 9223372036854775808 h (by omega)
  rw [show ((9223372036854775808 : Nat) : Int) = 9223372036854775808 from rfl] at e
  rw [e]
  have h1 : (x ^^^ 2 ^ 63) / 2 ^ 63 = (x / 2 ^ 63) ^^^ 1 := by
    rw [Nat.xor_div_two_pow, Nat.div_self (Nat.two_pow_pos 63)]
  have h2 : (x ^^^ 2 ^ 63) % 2 ^ 63 = x % 2 ^ 63 := by rw [Nat.xor_mod_two_pow]; simp
  have h3 : x / 2 ^ 63 = 0 ∨ x / 2 ^ 63 = 1 := by omega
  have e2 : (x ^^^ 2 ^ 63) = Fl.ng x := by
    generalize (x ^^^ 2 ^ 63) = y at *
    unfold Fl.ng
    rcases h3 with h3 | h3
    · rw [h3, show (0 : Nat) ^^^ 1 = 1 by decide] at h1
      rw [if_pos (by omega)]; omega
    · rw [h3, show (1 : Nat) ^^^ 1 = 0 by decide] at h1
      rw [if_neg (by omega)]; omega
  rw [← e2]
end Go.Proofs.YtlbikopancleoaaDoor
