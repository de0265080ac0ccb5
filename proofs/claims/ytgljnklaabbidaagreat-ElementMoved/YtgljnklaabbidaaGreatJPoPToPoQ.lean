/-
  OWN TEXT: package power, as it landed: logarithms, sines, cosines, their hyperbolic ones, sheets, for every number.
-/
import Derived.Test.YtgljnklaabbidaaGreatJPoTToRpA
namespace Go.Proofs.YtgljnklaabbidaaGreat
open Go.ChangeShapes Go.WideShapes Go.ChangeAt Go.RowKit
set_option linter.unusedVariables false
attribute [local go_sem] frombits_call tobits_call run_neg
theorem clog_any (a b : Nat) (w : World) (ha : a < 18446744073709551616) (hb : b < 18446744073709551616) : Calls Tryz.prog 74 #[.complex .f64 a b] w fun e w' => ∃ re im, e = .returned (.complex .f64 re im) ∧ cloR a b re im ∧ re < 18446744073709551616 ∧ Bw w w' := by
  go_enter Tryz.func74, Tryz.ntmps74
  go_wp2_with fail
  refine (length_any a b _ ha hb).mono ?_
  rintro e' w1 ⟨l, rfl, hl, b1⟩
  have hll := hl.1
  have HL : Hid (lenR a b l) := hl
  clear hl
  go_wp2_with fail
  refine (log_word_any l _ hll).mono ?_
  rintro e' w2 ⟨re, rfl, hr, hrl, b2⟩
  have HR : Hid (logR l re) := hr
  clear hr
  go_wp2_with fail
  refine (of_any b a _ hb ha).mono ?_
  rintro e' w3 ⟨im, rfl, hi, hil, b3⟩
  have HF : Hid (cloR a b re im) := ⟨l, HL.out, HR.out, hi, hil⟩
  have G := bw_trans (bw_trans b1 b2) b3
  clear hi b1 b2 b3 HL HR
  go_wp2
  go_ret
  exact ⟨_, _, rfl, HF.out, hrl, G⟩
end Go.Proofs.YtgljnklaabbidaaGreat
/-
  OWN TEXT: package power, as it landed: exponentials and powers, for every number.
-/
namespace Go.Proofs.YtgljnklaabbidaaGreat
open Go.ChangeShapes Go.WideShapes Go.ChangeAt Go.RowKit
set_option linter.unusedVariables false
attribute [local go_sem] frombits_call tobits_call run_neg
theorem cexp_any (a b : Nat) (w : World) (ha : a < 18446744073709551616) (hb : b < 18446744073709551616) : Calls Tryz.prog 73 #[.complex .f64 a b] w fun e w' => ∃ re im, e = .returned (.complex .f64 re im) ∧ cexR a b re im ∧ re < 18446744073709551616 ∧ im < 18446744073709551616 ∧ Bw w w' := by
  have o := Fl.o_eq b 0
  cases c : Fl.eqF b 0
  · rw [c] at o
    go_enter Tryz.func73, Tryz.ntmps73
    go_wp2_with fail
    refine (exp_any a _ ha).mono ?_
    rintro e' w1 ⟨e, rfl, he, b1⟩
    have HE : Hid (expR a e) := he
    clear he
    go_wp2_with fail
    refine (turn_any b _ hb).mono ?_
    rintro e' w2 ⟨s, c1, rfl, ht, b2⟩
    obtain ⟨re, w3, h3, e3, b3⟩ := op_run .mul isMul e c1 w2
    obtain ⟨im, w4, h4, e4, b4⟩ := op_run .mul isMul e s w3
    have HF : Hid (cexR a b re im) := ⟨e, HE.out, by rw [if_neg (by rw [c]; decide)]; exact ⟨s, c1, ht, h3, h4⟩⟩
    have HR := h3.1
    have HI := h4.1
    have G := bw_trans (bw_trans (bw_trans b1 b2) b3) b4
    clear ht h3 h4 b1 b2 b3 b4 c HE
    go_wp2
    go_ret
    exact ⟨re, im, rfl, HF.out, HR, HI, G⟩
  · rw [c] at o
    go_enter Tryz.func73, Tryz.ntmps73
    go_wp2_with fail
    refine (exp_any a _ ha).mono ?_
    rintro e' w1 ⟨e, rfl, he, b1⟩
    have hel := he.1
    have HF : Hid (cexR a b e b) := ⟨e, he, by rw [if_pos c]; exact ⟨rfl, rfl⟩⟩
    clear he c
    go_wp2
    go_ret
    exact ⟨_, _, rfl, HF.out, hel, hb, b1⟩
theorem pscale_any (a b s : Nat) (w : World) : Calls Tryz.prog 66 #[.complex .f64 a b, .float .f64 s] w fun e w' => ∃ x y, e = .returned (.complex .f64 x y) ∧ opR .mul a s x ∧ opR .mul b s y ∧ Bw w w' := by
  obtain ⟨x, w1, h1, e1, b1⟩ := op_run .mul isMul a s w
  obtain ⟨y, w2, h2, e2, b2⟩ := op_run .mul isMul b s w1
  have H1 : Hid (opR .mul a s x) := h1
  have H2 : Hid (opR .mul b s y) := h2
  have G := bw_trans b1 b2
  clear h1 h2 b1 b2
  go_enter Tryz.func66, Tryz.ntmps66
  go_wp2
  go_ret
  exact ⟨_, _, rfl, H1.out, H2.out, G⟩
theorem pmul_any (p q r s : Nat) (w : World) : Calls Tryz.prog 15 #[.complex .f64 p q, .complex .f64 r s] w fun e w' => ∃ x y, e = .returned (.complex .f64 x y) ∧ cmuR p q r s x y ∧ Bw w w' := by
  obtain ⟨a, w1, h1, e1, b1⟩ := op_run .mul isMul p r w
  obtain ⟨b, w2, h2, e2, b2⟩ := op_run .mul isMul q s w1
  obtain ⟨x, w3, h3, e3, b3⟩ := op_run .sub isSub a b w2
  obtain ⟨c, w4, h4, e4, b4⟩ := op_run .mul isMul p s w3
  obtain ⟨d, w5, h5, e5, b5⟩ := op_run .mul isMul q r w4
  obtain ⟨y, w6, h6, e6, b6⟩ := op_run .add isAdd c d w5
  have HM : Hid (cmuR p q r s x y) := ⟨a, b, c, d, h1, h2, h3, h4, h5, h6⟩
  have G := bw_trans (bw_trans (bw_trans (bw_trans (bw_trans b1 b2) b3) b4) b5) b6
  clear h1 h2 h3 h4 h5 h6 b1 b2 b3 b4 b5 b6
  go_enter Tryz.func15, Tryz.ntmps15
  go_wp2
  go_ret
  exact ⟨_, _, rfl, HM.out, G⟩
theorem clo_lt {a b x y : Nat} (h : cloR a b x y) : y < 18446744073709551616 := by obtain ⟨_, _, _, _, h⟩ := h; exact h
theorem creal_any (a b p : Nat) (w : World) (ha : a < 18446744073709551616) (hb : b < 18446744073709551616) : Calls Tryz.prog 69 #[.complex .f64 a b, .float .f64 p] w fun e w' => ∃ re im, e = .returned (.complex .f64 re im) ∧ creR a b p re im ∧ Bw w w' := by
  have o := Fl.o_eq p 0
  cases c : Fl.eqF p 0
  · rw [c] at o
    have HC : Hid (∀ x y u v re im, cloR a b x y → opR .mul x p u → opR .mul y p v → cexR u v re im → creR a b p re im) := by
      intro x y u v re im h1 h2 h3 h4
      unfold creR
      rw [if_neg (by rw [c]; decide)]
      exact ⟨x, y, u, v, h1, h2, h3, h4⟩
    clear c
    go_enter Tryz.func69, Tryz.ntmps69
    go_wp2_with fail
    refine (clog_any a b _ ha hb).mono ?_
    rintro e' w1 ⟨x, y, rfl, hl, hx, b1⟩
    have HL : Hid (cloR a b x y) := hl
    clear hl
    go_wp2_with fail
    refine (pscale_any x y p _).mono ?_
    rintro e' w2 ⟨u, v, rfl, h2, h3, b2⟩
    have hu := h2.1
    have hv := h3.1
    have HD : Hid (∀ re im, cexR u v re im → creR a b p re im) := fun re im h4 => HC.out x y u v re im HL.out h2 h3 h4
    clear h2 h3 HC HL
    go_wp2_with fail
    refine (cexp_any u v _ hu hv).mono ?_
    rintro e' w3 ⟨re, im, rfl, h4, _, _, b3⟩
    have HF : Hid (creR a b p re im) := HD.out re im h4
    have G := bw_trans (bw_trans b1 b2) b3
    clear h4 HD b1 b2 b3
    go_wp2
    go_ret
    exact ⟨_, _, rfl, HF.out, G⟩
  · rw [c] at o
    have HF : Hid (creR a b p 4607182418800017408 0) := by
      show creR _ _ _ _ _
      unfold creR
      rw [if_pos c]
      exact ⟨rfl, rfl⟩
    clear c
    go_enter Tryz.func69, Tryz.ntmps69
    go_wp2
    go_ret
    exact ⟨_, _, rfl, HF.out, Bw.refl _⟩
end Go.Proofs.YtgljnklaabbidaaGreat
