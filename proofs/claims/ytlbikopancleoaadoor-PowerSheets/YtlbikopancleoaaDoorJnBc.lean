/-
  OWN TEXT: package power, as it landed: logarithms, sines, cosines, their hyperbolic ones, sheets, for every number.
-/
import Derived.Test.YtlbikopancleoaaDoorJnBb
import Derived.Test.YtlbikopancleoaaDoorJnAs
import Derived.Test.YtlbikopancleoaaDoorJnAo
import Derived.Test.YtlbikopancleoaaDoorJnAr
import Derived.Test.YtlbikopancleoaaDoorJnAm
import Derived.Laws.Cover3
namespace Go.Proofs.YtlbikopancleoaaDoor
open Go.ChangeShapes Go.WideShapes Go.ChangeAt Go.RowKit
set_option linter.unusedVariables false
attribute [local go_sem] frombits_call tobits_call run_neg
theorem clog_any (a b : Nat) (w : World) (ha : a < 18446744073709551616) (hb : b < 18446744073709551616) : Calls Tryd.prog 8 #[.complex .f64 a b] w fun e w' => ∃ re im, e = .returned (.complex .f64 re im) ∧ cloR a b re im ∧ re < 18446744073709551616 ∧ Bw w w' := by
  go_enter Tryd.func8, Tryd.ntmps8
  go_wp2_with fail
  refine (length_any a b _ ha hb).mono ?_
  rintro e' w1 ⟨l, rfl, hl, b1⟩
  have hll := hl.1
  have HL : Hid (lenR a b l) := hl
  clear hl
  go_wp2_with fail
  refine (log_word_any l _ hll).mono ?_
  rintro e' w2 ⟨re, rfl, hr, hrl, b2⟩
  have HR : Hid (logR l re) := hr
  clear hr
  go_wp2_with fail
  refine (of_any b a _ hb ha).mono ?_
  rintro e' w3 ⟨im, rfl, hi, hil, b3⟩
  have HF : Hid (cloR a b re im) := ⟨l, HL.out, HR.out, hi, hil⟩
  have G := bw_trans (bw_trans b1 b2) b3
  clear hi b1 b2 b3 HL HR
  go_wp2
  go_ret
  exact ⟨_, _, rfl, HF.out, hrl, G⟩
set_option maxHeartbeats 4000000 in
theorem csheet_any (a b : Nat) (n : Int) (w : World) (ha : a < 18446744073709551616) (hb : b < 18446744073709551616) (hn : -9223372036854775808 ≤ n) (hn' : n ≤ 9223372036854775807) : Calls Tryd.prog 4 #[.complex .f64 a b, .int .i64 n] w fun e w' => ∃ re im o, e = .returned (.tuple #[.complex .f64 re im, .bool o]) ∧ sheR a b n re im o ∧ Bw w w' := by
  go_enter Tryd.func4, Tryd.ntmps4
  go_wp2_with fail
  refine (clog_any a b _ ha hb).mono ?_
  rintro e' w1 ⟨x, y, rfl, hl, hx, b1⟩
  have hy : y < 18446744073709551616 := by obtain ⟨l, _, _, _, h⟩ := hl; exact h
  have HL : Hid (cloR a b x y) := hl
  clear hl
  go_wp2_with fail
  refine (pfinite_any x y _ hx hy).mono ?_
  rintro e' w9 ⟨rfl, hw9⟩
  subst hw9
  cases f : (Fl.finB x && Fl.finB y)
  · have HF : Hid (sheR a b n 0 0 false) := ⟨x, y, HL.out, by rw [if_neg (by rw [f]; simp)]; exact ⟨rfl, rfl, rfl⟩⟩
    clear HL f
    go_wp2
    go_ret2
    exact ⟨_, _, _, rfl, HF.out, b1⟩
  · by_cases c1 : n < -1048576
    · have HF : Hid (sheR a b n 0 0 false) := ⟨x, y, HL.out, by rw [if_neg (by rw [decide_eq_true c1]; simp)]; exact ⟨rfl, rfl, rfl⟩⟩
      clear HL f
      go_wp2
      go_ret2
      exact ⟨_, _, _, rfl, HF.out, b1⟩
    · by_cases c2 : 1048576 < n
      · have HF : Hid (sheR a b n 0 0 false) := ⟨x, y, HL.out, by rw [if_neg (by rw [decide_eq_true c2]; simp)]; exact ⟨rfl, rfl, rfl⟩⟩
        clear HL f
        go_wp2
        go_ret2
        exact ⟨_, _, _, rfl, HF.out, b1⟩
      · obtain ⟨u, w5, h5, e5, b5⟩ := op_run .mul isMul 4611686018427387904 4614256656552045848 w9
        have eu : u = 4618760256179416344 := by
          have k : floatBits .mul .f64 4611686018427387904 4614256656552045848 = some 4618760256179416344 := by decide +kernel
          rcases h5.2 with q | q
          · rw [k] at q; exact (Option.some.inj q).symm
          · rw [k] at q; cases q.1
        subst eu
        obtain ⟨t, w2, h2, e2, b2⟩ := op_run .mul isMul (floatOfInt .f64 n) 4618760256179416344 w5
        obtain ⟨im, w3, h3, e3, b3⟩ := op_run .add isAdd y t w2
        have HF : Hid (sheR a b n x im true) := ⟨x, y, HL.out, by rw [if_pos (by rw [f, decide_eq_false c1, decide_eq_false c2]; rfl)]; exact ⟨rfl, rfl, t, h2, h3⟩⟩
        have G := bw_trans (bw_trans (bw_trans b1 b5) b2) b3
        clear HL f h2 h3 b1 b2 b3 h5 b5
        go_wp2_with fail
        refine (pi_any _).mono ?_
        rintro e' w9 ⟨rfl, hw9⟩
        subst hw9
        go_wp2
        go_ret2
        exact ⟨_, _, _, rfl, HF.out, G⟩
end Go.Proofs.YtlbikopancleoaaDoor
/-
  OWN TEXT: the reference's parts of complex numbers (eddyref06.Square, greater, together).
-/
namespace Go.Proofs.YtlbikopancleoaaDoor
open Go.ChangeShapes Go.WideShapes Go.ChangeAt Go.RowKit
set_option linter.unusedVariables false
attribute [local go_sem] frombits_call tobits_call run_neg
theorem rtogether_any (u v : Nat) (w : World) : Calls Tryd.prog 53 #[.float .f64 u, .float .f64 v] w fun e w' => ∃ r, e = .returned (.float .f64 r) ∧ togR u v r ∧ Bw w w' := by
  obtain ⟨p, w1, hp, e1, g1⟩ := op_run .mul isMul u u w
  obtain ⟨q, w2, hq, e2, g2⟩ := op_run .mul isMul v v w1
  obtain ⟨s, w3, hs, e3, g3⟩ := op_run .add isAdd p q w2
  have G := bw_trans (bw_trans g1 g2) g3
  have HS : Hid (sqaR u v s) := ⟨p, q, hp, hq, hs⟩
  clear hp hq hs g1 g2 g3
  go_enter Tryd.func53, Tryd.ntmps53
  go_wp2_with fail
  refine (sqrt_any s _).mono ?_
  rintro e w4 ⟨r, rfl, hr, g4⟩
  have HR : Hid (togR u v r) := ⟨s, HS.out, hr⟩
  have G2 := bw_trans G g4
  clear HS hr g4 G
  go_wp2
  go_ret
  exact ⟨r, rfl, HR.out, G2⟩
theorem rgreater_any (a b : Nat) (w : World) (ha : a < 18446744073709551616) (hb : b < 18446744073709551616) : Calls Tryd.prog 51 #[.complex .f64 a b] w fun e w' => e = .returned (.tuple #[.float .f64 (bigF a b), .float .f64 (smaF a b)]) ∧ w' = w := by
  have AA : Hid (∀ wz, Calls Tryd.prog 43 #[.float .f64 a] wz fun e w' => e = .returned (.float .f64 (Fl.rg a)) ∧ w' = wz) := fun wz => abs_any a wz ha
  have AB : Hid (∀ wz, Calls Tryd.prog 43 #[.float .f64 b] wz fun e w' => e = .returned (.float .f64 (Fl.rg b)) ∧ w' = wz) := fun wz => abs_any b wz hb
  have o := Fl.o_gt (Fl.rg b) (Fl.rg a)
  unfold bigF smaF
  cases c : Fl.ltF (Fl.rg a) (Fl.rg b)
  all_goals
    rw [c] at o
    clear c
    generalize Fl.rg a = p at *
    generalize Fl.rg b = q at *
    go_enter Tryd.func51, Tryd.ntmps51
    go_wp2_with fail
    refine (AA.out _).mono ?_
    rintro e w ⟨rfl, rfl⟩
    go_wp2_with fail
    refine (AB.out _).mono ?_
    rintro e w ⟨rfl, rfl⟩
    go_wp2
    go_ret2
    exact ⟨rfl, rfl⟩
theorem rendless_any (a : Nat) (w : World) (ha : a < 18446744073709551616) : Calls Tryd.prog 49 #[.float .f64 a] w fun e w' => e = .returned (.bool (decide (Fl.rg a = 9218868437227405312))) ∧ w' = w := by
  have o1 := Fl.o_gt a 9218868437227405311
  have o2 := Fl.o_lt a 18442240474082181119
  have k : Fl.ltF 9218868437227405311 a = (decide (Fl.rg a = 9218868437227405312) && !Fl.sg a) ∧ Fl.ltF a 18442240474082181119 = (decide (Fl.rg a = 9218868437227405312) && Fl.sg a) := by
    unfold Fl.ltF
    rw [show Fl.nan 9218868437227405311 = false by decide, show Fl.nan 18442240474082181119 = false by decide, show Fl.key 9218868437227405311 = 9218868437227405311 by decide, show Fl.key 18442240474082181119 = -9218868437227405311 by decide]
    unfold Fl.nan Fl.key
    have := Fl.rg_lt a
    cases Fl.sg a
    · rw [if_neg (by decide)]
      constructor
      · by_cases z : Fl.rg a = 9218868437227405312
        · rw [z]; decide
        · rw [decide_eq_false z, Bool.false_and]
          by_cases y : 9218868437227405312 < Fl.rg a
          · rw [decide_eq_true y]; rfl
          · rw [decide_eq_false y, decide_eq_false (by omega)]; rfl
      · rw [Bool.and_false]
        rw [decide_eq_false (by omega : ¬ ((Fl.rg a : Nat) : Int) < -9218868437227405311), Bool.and_false]
    · rw [if_pos rfl]
      constructor
      · rw [decide_eq_false (by omega : ¬ (9218868437227405311 : Int) < -((Fl.rg a : Nat) : Int))]
        simp
      · by_cases z : Fl.rg a = 9218868437227405312
        · rw [z]; decide
        · rw [decide_eq_false z, Bool.false_and]
          by_cases y : 9218868437227405312 < Fl.rg a
          · rw [decide_eq_true y]; rfl
          · rw [decide_eq_false y, decide_eq_false (by omega)]; rfl
  rw [k.1] at o1
  rw [k.2] at o2
  clear k
  generalize decide (Fl.rg a = 9218868437227405312) = z at *
  generalize Fl.sg a = s at *
  cases z <;> cases s <;> simp only [Bool.and_true, Bool.and_false, Bool.not_true, Bool.not_false] at o1 o2
  all_goals
    go_enter Tryd.func49, Tryd.ntmps49
    go_wp2
    go_ret
    exact ⟨rfl, rfl⟩
theorem rnone6_any (a : Nat) (w : World) : Calls Tryd.prog 50 #[.float .f64 a] w fun e w' => e = .returned (.bool (Fl.nan a)) ∧ w' = w := by
  have o := Fl.o_ne a a
  rw [Fl.eqF_self, Bool.not_not] at o
  generalize Fl.nan a = b at *
  go_enter Tryd.func50, Tryd.ntmps50
  go_wp2
  go_ret
  exact ⟨rfl, rfl⟩
end Go.Proofs.YtlbikopancleoaaDoor
