/-
  OWN TEXT: package power, as it landed: logarithms, sines, cosines, their hyperbolic ones, sheets, for every number.
-/
import Derived.Test.YtdbfhbpillgacaaPoT
import Derived.Test.YtdbfhbpillgacaaRpA
namespace Go.Proofs.Ytdbfhbpillgacaa
open Go.ChangeShapes Go.WideShapes Go.ChangeAt Go.RowKit
set_option linter.unusedVariables false
attribute [local go_sem] frombits_call tobits_call run_neg
theorem csin_any (a b : Nat) (w : World) (ha : a < 18446744073709551616) (hb : b < 18446744073709551616) : Calls Try.prog 18 #[.complex .f64 a b] w fun e w' => ∃ re im, e = .returned (.complex .f64 re im) ∧ csiR a b re im ∧ Bw w w' := by
  go_enter Try.func18, Try.ntmps18
  go_wp2_with fail
  refine (prod03 a b _ ha hb).mono ?_
  rintro e' w1 ⟨re, rfl, hr, b1⟩
  have HR : Hid (∃ p q, (∃ c, turR a p c) ∧ coshR b q ∧ opR .mul p q re) := hr
  clear hr
  go_wp2_with fail
  refine (prod12 a b _ ha hb).mono ?_
  rintro e' w2 ⟨im, rfl, hi, b2⟩
  have HF : Hid (csiR a b re im) := by
    obtain ⟨p, q, x1, x2, x3⟩ := HR.out
    obtain ⟨u, v, y1, y2, y3⟩ := hi
    obtain ⟨c', x1⟩ := x1
    obtain ⟨s', y1⟩ := y1
    exact ⟨p, u, q, v, ⟨tur_mix ha x1 y1, x2, y2⟩, x3, y3⟩
  have il : im < 18446744073709551616 := by obtain ⟨_, _, _, _, h⟩ := hi; exact h.1
  have G := bw_trans b1 b2
  clear hi b1 b2 HR
  go_wp2
  go_ret
  exact ⟨_, _, rfl, HF.out, G⟩
theorem ccos_any (a b : Nat) (w : World) (ha : a < 18446744073709551616) (hb : b < 18446744073709551616) : Calls Try.prog 15 #[.complex .f64 a b] w fun e w' => ∃ re im, e = .returned (.complex .f64 re im) ∧ ccoR a b re im ∧ Bw w w' := by
  go_enter Try.func15, Try.ntmps15
  go_wp2_with fail
  refine (prod13 a b _ ha hb).mono ?_
  rintro e' w1 ⟨re, rfl, hr, b1⟩
  have HR : Hid (∃ p q, (∃ s, turR a s p) ∧ coshR b q ∧ opR .mul p q re) := hr
  clear hr
  go_wp2_with fail
  refine (prod02 a b _ ha hb).mono ?_
  rintro e' w2 ⟨im, rfl, hi, b2⟩
  have HF : Hid (ccoR a b re (Fl.ng im)) := by
    obtain ⟨p, q, x1, x2, x3⟩ := HR.out
    obtain ⟨u, v, y1, y2, y3⟩ := hi
    obtain ⟨s', x1⟩ := x1
    obtain ⟨c', y1⟩ := y1
    exact ⟨u, p, q, v, im, ⟨tur_mix ha y1 x1, x2, y2⟩, x3, y3, rfl⟩
  have il : im < 18446744073709551616 := by obtain ⟨_, _, _, _, h⟩ := hi; exact h.1
  have G := bw_trans b1 b2
  clear hi b1 b2 HR
  go_wp2_with fail
  refine (conj_any re im _ il).mono ?_
  rintro e' w9 ⟨rfl, hw9⟩
  subst hw9
  go_wp2
  go_ret
  exact ⟨_, _, rfl, HF.out, G⟩
theorem csinh_any (a b : Nat) (w : World) (ha : a < 18446744073709551616) (hb : b < 18446744073709551616) : Calls Try.prog 19 #[.complex .f64 a b] w fun e w' => ∃ re im, e = .returned (.complex .f64 re im) ∧ cshR a b re im ∧ Bw w w' := by
  go_enter Try.func19, Try.ntmps19
  go_wp2_with fail
  refine (prod21 a b _ ha hb).mono ?_
  rintro e' w1 ⟨re, rfl, hr, b1⟩
  have HR : Hid (∃ p q, sinhR a p ∧ (∃ s, turR b s q) ∧ opR .mul p q re) := hr
  clear hr
  go_wp2_with fail
  refine (prod30 a b _ ha hb).mono ?_
  rintro e' w2 ⟨im, rfl, hi, b2⟩
  have HF : Hid (cshR a b re im) := by
    obtain ⟨p, q, x1, x2, x3⟩ := HR.out
    obtain ⟨u, v, y1, y2, y3⟩ := hi
    obtain ⟨s', x2⟩ := x2
    obtain ⟨c', y2⟩ := y2
    exact ⟨v, q, u, p, ⟨tur_mix hb y2 x2, y1, x1⟩, x3, y3⟩
  have il : im < 18446744073709551616 := by obtain ⟨_, _, _, _, h⟩ := hi; exact h.1
  have G := bw_trans b1 b2
  clear hi b1 b2 HR
  go_wp2
  go_ret
  exact ⟨_, _, rfl, HF.out, G⟩
theorem ccosh_any (a b : Nat) (w : World) (ha : a < 18446744073709551616) (hb : b < 18446744073709551616) : Calls Try.prog 20 #[.complex .f64 a b] w fun e w' => ∃ re im, e = .returned (.complex .f64 re im) ∧ cchR a b re im ∧ Bw w w' := by
  go_enter Try.func20, Try.ntmps20
  go_wp2_with fail
  refine (prod31 a b _ ha hb).mono ?_
  rintro e' w1 ⟨re, rfl, hr, b1⟩
  have HR : Hid (∃ p q, coshR a p ∧ (∃ s, turR b s q) ∧ opR .mul p q re) := hr
  clear hr
  go_wp2_with fail
  refine (prod20 a b _ ha hb).mono ?_
  rintro e' w2 ⟨im, rfl, hi, b2⟩
  have HF : Hid (cchR a b re im) := by
    obtain ⟨p, q, x1, x2, x3⟩ := HR.out
    obtain ⟨u, v, y1, y2, y3⟩ := hi
    obtain ⟨s', x2⟩ := x2
    obtain ⟨c', y2⟩ := y2
    exact ⟨v, q, p, u, ⟨tur_mix hb y2 x2, x1, y1⟩, x3, y3⟩
  have il : im < 18446744073709551616 := by obtain ⟨_, _, _, _, h⟩ := hi; exact h.1
  have G := bw_trans b1 b2
  clear hi b1 b2 HR
  go_wp2
  go_ret
  exact ⟨_, _, rfl, HF.out, G⟩
theorem clog_any (a b : Nat) (w : World) (ha : a < 18446744073709551616) (hb : b < 18446744073709551616) : Calls Try.prog 13 #[.complex .f64 a b] w fun e w' => ∃ re im, e = .returned (.complex .f64 re im) ∧ cloR a b re im ∧ re < 18446744073709551616 ∧ Bw w w' := by
  go_enter Try.func13, Try.ntmps13
  go_wp2_with fail
  refine (length_any a b _ ha hb).mono ?_
  rintro e' w1 ⟨l, rfl, hl, b1⟩
  have hll := hl.1
  have HL : Hid (lenR a b l) := hl
  clear hl
  go_wp2_with fail
  refine (log_word_any l _ hll).mono ?_
  rintro e' w2 ⟨re, rfl, hr, hrl, b2⟩
  have HR : Hid (logR l re) := hr
  clear hr
  go_wp2_with fail
  refine (of_any b a _ hb ha).mono ?_
  rintro e' w3 ⟨im, rfl, hi, hil, b3⟩
  have HF : Hid (cloR a b re im) := ⟨l, HL.out, HR.out, hi, hil⟩
  have G := bw_trans (bw_trans b1 b2) b3
  clear hi b1 b2 b3 HL HR
  go_wp2
  go_ret
  exact ⟨_, _, rfl, HF.out, hrl, G⟩
set_option maxHeartbeats 4000000 in
theorem csheet_any (a b : Nat) (n : Int) (w : World) (ha : a < 18446744073709551616) (hb : b < 18446744073709551616) (hn : -9223372036854775808 ≤ n) (hn' : n ≤ 9223372036854775807) : Calls Try.prog 21 #[.complex .f64 a b, .int .i64 n] w fun e w' => ∃ re im o, e = .returned (.tuple #[.complex .f64 re im, .bool o]) ∧ sheR a b n re im o ∧ Bw w w' := by
  go_enter Try.func21, Try.ntmps21
  go_wp2_with fail
  refine (clog_any a b _ ha hb).mono ?_
  rintro e' w1 ⟨x, y, rfl, hl, hx, b1⟩
  have hy : y < 18446744073709551616 := by obtain ⟨l, _, _, _, h⟩ := hl; exact h
  have HL : Hid (cloR a b x y) := hl
  clear hl
  go_wp2_with fail
  refine (pfinite_any x y _ hx hy).mono ?_
  rintro e' w9 ⟨rfl, hw9⟩
  subst hw9
  cases f : (Fl.finB x && Fl.finB y)
  · have HF : Hid (sheR a b n 0 0 false) := ⟨x, y, HL.out, by rw [if_neg (by rw [f]; simp)]; exact ⟨rfl, rfl, rfl⟩⟩
    clear HL f
    go_wp2
    go_ret2
    exact ⟨_, _, _, rfl, HF.out, b1⟩
  · by_cases c1 : n < -1048576
    · have HF : Hid (sheR a b n 0 0 false) := ⟨x, y, HL.out, by rw [if_neg (by rw [decide_eq_true c1]; simp)]; exact ⟨rfl, rfl, rfl⟩⟩
      clear HL f
      go_wp2
      go_ret2
      exact ⟨_, _, _, rfl, HF.out, b1⟩
    · by_cases c2 : 1048576 < n
      · have HF : Hid (sheR a b n 0 0 false) := ⟨x, y, HL.out, by rw [if_neg (by rw [decide_eq_true c2]; simp)]; exact ⟨rfl, rfl, rfl⟩⟩
        clear HL f
        go_wp2
        go_ret2
        exact ⟨_, _, _, rfl, HF.out, b1⟩
      · obtain ⟨u, w5, h5, e5, b5⟩ := op_run .mul isMul 4611686018427387904 4614256656552045848 w9
        have eu : u = 4618760256179416344 := by
          have k : floatBits .mul .f64 4611686018427387904 4614256656552045848 = some 4618760256179416344 := by decide +kernel
          rcases h5.2 with q | q
          · rw [k] at q; exact (Option.some.inj q).symm
          · rw [k] at q; cases q.1
        subst eu
        obtain ⟨t, w2, h2, e2, b2⟩ := op_run .mul isMul (floatOfInt .f64 n) 4618760256179416344 w5
        obtain ⟨im, w3, h3, e3, b3⟩ := op_run .add isAdd y t w2
        have HF : Hid (sheR a b n x im true) := ⟨x, y, HL.out, by rw [if_pos (by rw [f, decide_eq_false c1, decide_eq_false c2]; rfl)]; exact ⟨rfl, rfl, t, h2, h3⟩⟩
        have G := bw_trans (bw_trans (bw_trans b1 b5) b2) b3
        clear HL f h2 h3 b1 b2 b3 h5 b5
        go_wp2_with fail
        refine (pi_any _).mono ?_
        rintro e' w9 ⟨rfl, hw9⟩
        subst hw9
        go_wp2
        go_ret2
        exact ⟨_, _, _, rfl, HF.out, G⟩
end Go.Proofs.Ytdbfhbpillgacaa
