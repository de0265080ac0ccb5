/-
  OWN TEXT: the reference's exponentials, logarithms, powers, sines of complex numbers (eddyref07), for every number.
-/
import Derived.Test.YtlbikopancleoaaGreatDoorJnAq
import Derived.Test.YtlbikopancleoaaGreatDoorJnBs
import Derived.Test.YtlbikopancleoaaGreatDoorEqEr
import Derived.Test.YtlbikopancleoaaGreatDoorJnAp
namespace Go.Proofs.YtlbikopancleoaaGreatDoor
open Go.ChangeShapes Go.WideShapes Go.ChangeAt Go.RowKit
open Bg
set_option linter.unusedVariables false
attribute [local go_sem] frombits_call tobits_call run_neg
theorem rof2_any (x y : Nat) (w : World) : Calls Tryz.prog 29 #[.float .f64 x, .float .f64 y] w fun e w' => e = .returned (.complex .f64 x y) ∧ w' = w := by
  go_enter Tryz.func29, Tryz.ntmps29
  go_wp2
  go_ret
  exact ⟨rfl, rfl⟩
theorem exp_lt {x y : Nat} (h : expR x y) : y < 18446744073709551616 := h.1
set_option maxHeartbeats 4000000 in
theorem rcexp_any (a b : Nat) (w : World) (ha : a < 18446744073709551616) (hb : b < 18446744073709551616) (hT : Tab w) (hw : 2 ≤ w.heap.size) : Calls Tryz.prog 9 #[.complex .f64 a b] w fun e w' => ∃ re im, e = .returned (.complex .f64 re im) ∧ cexR a b re im ∧ re < 18446744073709551616 ∧ im < 18446744073709551616 ∧ Bw w w' := by
  have T : Hid (Tab w) := hT
  clear hT
  have o := Fl.o_eq b 0
  go_enter Tryz.func9, Tryz.ntmps9
  go_wp2_with fail
  refine (rexp_any a _ ha T.out hw).mono ?_
  rintro e w1 ⟨x, rfl, hx, b1⟩
  have hxl := hx.1
  have HX : Hid (expR a x) := hx
  clear hx T
  cases c : Fl.eqF b 0
  · rw [c] at o
    go_wp2_with fail
    refine (rturn_any b _ hb).mono ?_
    rintro e w2 ⟨s, d, rfl, h2, b2⟩
    obtain ⟨re, w3, hre, e3, b3⟩ := op_run .mul isMul x d w2
    obtain ⟨im, w4, him, e4, b4⟩ := op_run .mul isMul x s w3
    have B := bw_trans (bw_trans (bw_trans b1 b2) b3) b4
    have HF : Hid (cexR a b re im) := ⟨x, HX.out, by rw [c, if_neg (by decide)]; exact ⟨s, d, h2, hre, him⟩⟩
    have l1 := hre.1
    have l2 := him.1
    clear HX h2 hre him b1 b2 b3 b4 c
    go_wp2_with (go_at_call 29; refine (rof2_any _ _ _).mono ?_; rintro e' w9 ⟨rfl, hw9⟩; subst hw9)
    go_ret
    exact ⟨re, im, rfl, HF.out, l1, l2, B⟩
  · rw [c] at o
    have HF : Hid (cexR a b x b) := ⟨x, HX.out, by rw [if_pos c]; exact ⟨rfl, rfl⟩⟩
    clear HX c
    go_wp2_with (go_at_call 29; refine (rof2_any _ _ _).mono ?_; rintro e' w9 ⟨rfl, hw9⟩; subst hw9)
    go_ret
    exact ⟨x, b, rfl, HF.out, hxl, hb, b1⟩
set_option maxHeartbeats 4000000 in
theorem rclog_any (a b : Nat) (w : World) (ha : a < 18446744073709551616) (hb : b < 18446744073709551616) (hT : Tab w) (hw : 2 ≤ w.heap.size) : Calls Tryz.prog 11 #[.complex .f64 a b] w fun e w' => ∃ re im, e = .returned (.complex .f64 re im) ∧ cloR a b re im ∧ Bw w w' := by
  have T : Hid (Tab w) := hT
  clear hT
  go_enter Tryz.func11, Tryz.ntmps11
  go_wp2_with fail
  refine (rlength_any a b _ ha hb T.out hw).mono ?_
  rintro e w1 ⟨l, rfl, hl, b1⟩
  have hll := hl.1
  have HL : Hid (lenR a b l) := hl
  clear hl T
  go_wp2_with fail
  refine (rlog_any l _ hll).mono ?_
  rintro e w2 ⟨x, rfl, hx, b2⟩
  have HX : Hid (logR l x) := hx
  clear hx
  go_wp2_with fail
  refine (rof_any b a _ hb ha).mono ?_
  rintro e w3 ⟨y, rfl, hy, hyl, b3⟩
  have B := bw_trans (bw_trans b1 b2) b3
  have HF : Hid (cloR a b x y) := ⟨l, HL.out, HX.out, hy, hyl⟩
  clear HL HX hy b1 b2 b3
  go_wp2_with (go_at_call 29; refine (rof2_any _ _ _).mono ?_; rintro e' w9 ⟨rfl, hw9⟩; subst hw9)
  go_ret
  exact ⟨x, y, rfl, HF.out, B⟩
set_option maxHeartbeats 4000000 in
theorem rcsin_any (a b : Nat) (w : World) (ha : a < 18446744073709551616) (hb : b < 18446744073709551616) (hT : Tab w) (hw : 2 ≤ w.heap.size) : Calls Tryz.prog 17 #[.complex .f64 a b] w fun e w' => ∃ re im, e = .returned (.complex .f64 re im) ∧ csiR a b re im ∧ Bw w w' := by
  have T : Hid (Tab w) := hT
  clear hT
  go_enter Tryz.func17, Tryz.ntmps17
  go_wp2_with fail
  refine (rturn_any a _ ha).mono ?_
  rintro e w1 ⟨s, c, rfl, h1, B⟩
  have H1 : Hid (turR a s c) := h1
  have z := Below.size B
  clear h1
  go_wp2_with fail
  refine (rcosh_any b _ hb (T.out.bw6 hw B) (by omega)).mono ?_
  rintro e w2 ⟨ch, rfl, hch, b9⟩
  have Hch : Hid (coshR b ch) := hch
  replace B := bw_trans B b9
  have z2 := Below.size B
  clear b9 hch
  obtain ⟨re, w3, hre, e3, b9⟩ := op_run .mul isMul s ch w2
  have Hre : Hid (opR .mul s ch re) := hre
  have lre := hre.1
  replace B := bw_trans B b9
  have z3 := Below.size B
  clear b9 hre
  go_wp2_with fail
  refine (rsinh_any b _ hb (T.out.bw6 hw B) (by omega)).mono ?_
  rintro e w4 ⟨sh, rfl, hsh, b9⟩
  have Hsh : Hid (sinhR b sh) := hsh
  replace B := bw_trans B b9
  have z4 := Below.size B
  clear b9 hsh
  obtain ⟨im, w5, him, e5, b9⟩ := op_run .mul isMul c sh w4
  have Him : Hid (opR .mul c sh im) := him
  have lim := him.1
  replace B := bw_trans B b9
  have z5 := Below.size B
  clear b9 him
  have HF : Hid (csiR a b re im) := ⟨s, c, ch, sh, ⟨H1.out, Hch.out, Hsh.out⟩, Hre.out, Him.out⟩
  clear H1 Hch Hsh Hre Him T
  go_wp2_with (go_at_call 29; refine (rof2_any _ _ _).mono ?_; rintro e' w9 ⟨rfl, hw9⟩; subst hw9)
  go_ret
  exact ⟨_, _, rfl, HF.out, B⟩
set_option maxHeartbeats 4000000 in
theorem rcsinh_any (a b : Nat) (w : World) (ha : a < 18446744073709551616) (hb : b < 18446744073709551616) (hT : Tab w) (hw : 2 ≤ w.heap.size) : Calls Tryz.prog 21 #[.complex .f64 a b] w fun e w' => ∃ re im, e = .returned (.complex .f64 re im) ∧ cshR a b re im ∧ Bw w w' := by
  have T : Hid (Tab w) := hT
  clear hT
  go_enter Tryz.func21, Tryz.ntmps21
  go_wp2_with fail
  refine (rturn_any b _ hb).mono ?_
  rintro e w1 ⟨s, c, rfl, h1, B⟩
  have H1 : Hid (turR b s c) := h1
  have z := Below.size B
  clear h1
  go_wp2_with fail
  refine (rsinh_any a _ ha (T.out.bw6 hw B) (by omega)).mono ?_
  rintro e w2 ⟨sh, rfl, hsh, b9⟩
  have Hsh : Hid (sinhR a sh) := hsh
  replace B := bw_trans B b9
  have z2 := Below.size B
  clear b9 hsh
  obtain ⟨re, w3, hre, e3, b9⟩ := op_run .mul isMul sh c w2
  have Hre : Hid (opR .mul sh c re) := hre
  have lre := hre.1
  replace B := bw_trans B b9
  have z3 := Below.size B
  clear b9 hre
  go_wp2_with fail
  refine (rcosh_any a _ ha (T.out.bw6 hw B) (by omega)).mono ?_
  rintro e w4 ⟨ch, rfl, hch, b9⟩
  have Hch : Hid (coshR a ch) := hch
  replace B := bw_trans B b9
  have z4 := Below.size B
  clear b9 hch
  obtain ⟨im, w5, him, e5, b9⟩ := op_run .mul isMul ch s w4
  have Him : Hid (opR .mul ch s im) := him
  have lim := him.1
  replace B := bw_trans B b9
  have z5 := Below.size B
  clear b9 him
  have HF : Hid (cshR a b re im) := ⟨s, c, ch, sh, ⟨H1.out, Hch.out, Hsh.out⟩, Hre.out, Him.out⟩
  clear H1 Hch Hsh Hre Him T
  go_wp2_with (go_at_call 29; refine (rof2_any _ _ _).mono ?_; rintro e' w9 ⟨rfl, hw9⟩; subst hw9)
  go_ret
  exact ⟨_, _, rfl, HF.out, B⟩
set_option maxHeartbeats 4000000 in
theorem rccosh_any (a b : Nat) (w : World) (ha : a < 18446744073709551616) (hb : b < 18446744073709551616) (hT : Tab w) (hw : 2 ≤ w.heap.size) : Calls Tryz.prog 23 #[.complex .f64 a b] w fun e w' => ∃ re im, e = .returned (.complex .f64 re im) ∧ cchR a b re im ∧ Bw w w' := by
  have T : Hid (Tab w) := hT
  clear hT
  go_enter Tryz.func23, Tryz.ntmps23
  go_wp2_with fail
  refine (rturn_any b _ hb).mono ?_
  rintro e w1 ⟨s, c, rfl, h1, B⟩
  have H1 : Hid (turR b s c) := h1
  have z := Below.size B
  clear h1
  go_wp2_with fail
  refine (rcosh_any a _ ha (T.out.bw6 hw B) (by omega)).mono ?_
  rintro e w2 ⟨ch, rfl, hch, b9⟩
  have Hch : Hid (coshR a ch) := hch
  replace B := bw_trans B b9
  have z2 := Below.size B
  clear b9 hch
  obtain ⟨re, w3, hre, e3, b9⟩ := op_run .mul isMul ch c w2
  have Hre : Hid (opR .mul ch c re) := hre
  have lre := hre.1
  replace B := bw_trans B b9
  have z3 := Below.size B
  clear b9 hre
  go_wp2_with fail
  refine (rsinh_any a _ ha (T.out.bw6 hw B) (by omega)).mono ?_
  rintro e w4 ⟨sh, rfl, hsh, b9⟩
  have Hsh : Hid (sinhR a sh) := hsh
  replace B := bw_trans B b9
  have z4 := Below.size B
  clear b9 hsh
  obtain ⟨im, w5, him, e5, b9⟩ := op_run .mul isMul sh s w4
  have Him : Hid (opR .mul sh s im) := him
  have lim := him.1
  replace B := bw_trans B b9
  have z5 := Below.size B
  clear b9 him
  have HF : Hid (cchR a b re im) := ⟨s, c, ch, sh, ⟨H1.out, Hch.out, Hsh.out⟩, Hre.out, Him.out⟩
  clear H1 Hch Hsh Hre Him T
  go_wp2_with (go_at_call 29; refine (rof2_any _ _ _).mono ?_; rintro e' w9 ⟨rfl, hw9⟩; subst hw9)
  go_ret
  exact ⟨_, _, rfl, HF.out, B⟩
theorem xor_top {x : Nat} (h : x < 18446744073709551616) : bits .xor .u64 (x : Int) 9223372036854775808 = ((Fl.ng x : Nat) : Int) := by
  have e := u64_xor_nat x 9223372036854775808 h (by omega)
  rw [show ((9223372036854775808 : Nat) : Int) = 9223372036854775808 from rfl] at e
  rw [e]
  have h1 : (x ^^^ 2 ^ 63) / 2 ^ 63 = (x / 2 ^ 63) ^^^ 1 := by
    rw [Nat.xor_div_two_pow, Nat.div_self (Nat.two_pow_pos 63)]
  have h2 : (x ^^^ 2 ^ 63) % 2 ^ 63 = x % 2 ^ 63 := by rw [Nat.xor_mod_two_pow]; simp
  have h3 : x / 2 ^ 63 = 0 ∨ x / 2 ^ 63 = 1 := by omega
  have e2 : (x ^^^ 2 ^ 63) = Fl.ng x := by
    generalize (x ^^^ 2 ^ 63) = y at *
    unfold Fl.ng
    rcases h3 with h3 | h3
    · rw [h3, show (0 : Nat) ^^^ 1 = 1 by decide] at h1
      rw [if_pos (by omega)]; omega
    · rw [h3, show (1 : Nat) ^^^ 1 = 0 by decide] at h1
      rw [if_neg (by omega)]; omega
  rw [← e2]
theorem rturned_any (x : Nat) (w : World) (hx : x < 18446744073709551616) : Calls Tryz.prog 45 #[.float .f64 x] w fun e w' => e = .returned (.float .f64 (Fl.ng x)) ∧ w' = w := by
  have h : bits .xor .u64 (x : Int) 9223372036854775808 = ((Fl.ng x : Nat) : Int) := xor_top hx
  go_enter Tryz.func45, Tryz.ntmps45
  go_wp2
  go_ret
  exact ⟨rfl, rfl⟩
set_option maxHeartbeats 4000000 in
theorem rccos_any (a b : Nat) (w : World) (ha : a < 18446744073709551616) (hb : b < 18446744073709551616) (hT : Tab w) (hw : 2 ≤ w.heap.size) : Calls Tryz.prog 19 #[.complex .f64 a b] w fun e w' => ∃ re im, e = .returned (.complex .f64 re im) ∧ ccoR a b re im ∧ Bw w w' := by
  have T : Hid (Tab w) := hT
  clear hT
  go_enter Tryz.func19, Tryz.ntmps19
  go_wp2_with fail
  refine (rturn_any a _ ha).mono ?_
  rintro e w1 ⟨s, c, rfl, h1, B⟩
  have H1 : Hid (turR a s c) := h1
  have z := Below.size B
  clear h1
  go_wp2_with fail
  refine (rcosh_any b _ hb (T.out.bw6 hw B) (by omega)).mono ?_
  rintro e w2 ⟨ch, rfl, hch, b9⟩
  have Hch : Hid (coshR b ch) := hch
  replace B := bw_trans B b9
  have z2 := Below.size B
  clear b9 hch
  obtain ⟨re, w3, hre, e3, b9⟩ := op_run .mul isMul c ch w2
  have Hre : Hid (opR .mul c ch re) := hre
  have lre := hre.1
  replace B := bw_trans B b9
  have z3 := Below.size B
  clear b9 hre
  go_wp2_with fail
  refine (rsinh_any b _ hb (T.out.bw6 hw B) (by omega)).mono ?_
  rintro e w4 ⟨sh, rfl, hsh, b9⟩
  have Hsh : Hid (sinhR b sh) := hsh
  replace B := bw_trans B b9
  have z4 := Below.size B
  clear b9 hsh
  obtain ⟨m, w5, hm, e5, b9⟩ := op_run .mul isMul s sh w4
  have Hm : Hid (opR .mul s sh m) := hm
  have lm := hm.1
  replace B := bw_trans B b9
  have z5 := Below.size B
  clear b9 hm
  have HF : Hid (ccoR a b re (Fl.ng m)) := ⟨s, c, ch, sh, m, ⟨H1.out, Hch.out, Hsh.out⟩, Hre.out, Hm.out, rfl⟩
  clear H1 Hch Hsh Hre Hm T
  go_wp2_with (first | (go_at_call 45; refine (rturned_any _ _ (by assumption)).mono ?_; rintro e' w9 ⟨rfl, hw9⟩; subst hw9) | (go_at_call 29; refine (rof2_any _ _ _).mono ?_; rintro e' w9 ⟨rfl, hw9⟩; subst hw9))
  go_ret
  exact ⟨_, _, rfl, HF.out, B⟩
end Go.Proofs.YtlbikopancleoaaGreatDoor
