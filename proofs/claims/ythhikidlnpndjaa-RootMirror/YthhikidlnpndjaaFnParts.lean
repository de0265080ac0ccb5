/-
  OWN TEXT: what math.Frexp and Parts of package float return, for every float.
-/
import Derived.Test.YthhikidlnpndjaaFnLdexp
namespace Go.Proofs.Ythhikidlnpndjaa
open Go.ChangeShapes Go.WideShapes Go.ChangeAt Go.RowKit
set_option linter.unusedVariables false
attribute [local go_sem] frombits_call tobits_call run_neg
theorem field_u {y : Nat} (hy : y < 18446744073709551616) : bits BinOp.and IntKind.u64 ((y : Int) / 4503599627370496) 2047 = ((Fl.rg y / 4503599627370496 : Nat) : Int) := by
  have e := u64_and_nat (y / 4503599627370496) 2047 (by omega) (by omega)
  rw [show ((2047 : Nat) : Int) = 2047 from rfl, show ((y / 4503599627370496 : Nat) : Int) = (y : Int) / 4503599627370496 from by omega] at e
  rw [e]
  have h := Nat.and_two_pow_sub_one_eq_mod (y / 4503599627370496) 11
  rw [show 2 ^ 11 - 1 = 2047 from rfl] at h
  rw [h]
  unfold Fl.rg
  omega
/-- a float's part from 1/2 to below 1, and its power of two -/
def ptF (x : Nat) : Nat := Fl.wd (Fl.sg x) (4602678819172646912 + Fl.rg (nmF x) % 4503599627370496)
def ptE (x : Nat) : Int := nmE x + (((Fl.rg (nmF x) / 4503599627370496 : Nat) : Int) - 1023 + 1)
theorem frexp_fin (x : Nat) (w : World) (hx : x < 18446744073709551616) (hf : Fl.rg x < 9218868437227405312) (hz : ¬ Fl.rg x = 0) :
    Calls Try.prog 54 #[.float .f64 x] w fun e w' => e = .returned (.tuple #[.float .f64 (ptF x), .int .i64 (ptE x)]) ∧ w' = w := by
  have na : Fl.nan x = false := by unfold Fl.nan; exact decide_eq_false (by omega)
  have g1 : (FloatKind.f64.format.order x 0 == some .eq) = false := by rw [Fl.o_eq, (up_tests hx na).2.1]; exact decide_eq_false hz
  have g2 : infB x 0 = false := decide_eq_false (by omega)
  obtain ⟨y1, y2, y3, y4, c1, c2, v1⟩ := nm_facts hx hf hz
  have eF := field_u y1
  have eS := Fl.and_exp y1
  have hr : Fl.rg (nmF x) = nmF x % 9223372036854775808 := rfl
  have eZ := Fl.or_field (nmF x / 9223372036854775808) 1022 (nmF x % 4503599627370496) (by omega) (by omega) (by omega)
  have H1 : Hid (ptF x = nmF x / 9223372036854775808 * 9223372036854775808 + (1022 * 4503599627370496 + nmF x % 4503599627370496)) := by
    show ptF x = _
    unfold ptF
    rw [← y2, Fl.wd_sg y1, show Fl.rg (nmF x) % 4503599627370496 = nmF x % 4503599627370496 by omega]
  have f1 : 1 ≤ Fl.rg (nmF x) / 4503599627370496 := by omega
  have f2 : Fl.rg (nmF x) / 4503599627370496 ≤ 2046 := by omega
  have H2 : Hid (ptE x = nmE x + (((Fl.rg (nmF x) / 4503599627370496 : Nat) : Int) - 1023 + 1)) := rfl
  rw [show ((1022 * 4503599627370496 : Nat) : Int) = 4602678819172646912 from rfl] at eZ
  generalize nmF x / 9223372036854775808 * 9223372036854775808 + (1022 * 4503599627370496 + nmF x % 4503599627370496) = Z at *
  generalize nmF x / 9223372036854775808 * 9223372036854775808 + nmF x % 4503599627370496 = S at *
  generalize Fl.rg (nmF x) / 4503599627370496 = F at *
  generalize ec : nmE x = c at *
  clear y2 y3 y4 v1 hr hz
  go_enter Try.func54, Try.ntmps54
  go_wp2_with (first
    | (go_at_call 23; refine (isInf_any _ _ _ (by assumption) (by decide)).mono ?_; rintro e w' ⟨rfl, rfl⟩)
    | (go_at_call 37; refine (isNaN_any _ _).mono ?_; rintro e w' ⟨rfl, rfl⟩)
    | (go_at_call 55; refine (normalize_any _ _ (by assumption) (by assumption)).mono ?_; rintro e w' ⟨rfl, rfl⟩))
  go_ret2
  refine ⟨?_, rfl⟩
  rw [H1.out, H2.out]
  rfl
theorem frexp_stay (x : Nat) (w : World) (hx : x < 18446744073709551616) (h : Fl.rg x = 0 ∨ 9218868437227405312 ≤ Fl.rg x) :
    Calls Try.prog 54 #[.float .f64 x] w fun e w' => e = .returned (.tuple #[.float .f64 x, .int .i64 0]) ∧ w' = w := by
  cases na : Fl.nan x
  · have hl := Fl.nan_le na
    have g1 : (FloatKind.f64.format.order x 0 == some .eq) = decide (Fl.rg x = 0) := by rw [Fl.o_eq, (up_tests hx na).2.1]
    by_cases c : Fl.rg x = 0
    · rw [decide_eq_true c] at g1
      clear h hl c
      go_enter Try.func54, Try.ntmps54
      go_wp2
      go_ret2
      exact ⟨rfl, rfl⟩
    · rw [decide_eq_false c] at g1
      have g2 : infB x 0 = true := decide_eq_true (by omega)
      clear h hl c
      go_enter Try.func54, Try.ntmps54
      go_wp2_with (go_at_call 23; refine (isInf_any _ _ _ (by assumption) (by decide)).mono ?_; rintro e w' ⟨rfl, rfl⟩)
      go_ret2
      exact ⟨rfl, rfl⟩
  · have g1 : (FloatKind.f64.format.order x 0 == some .eq) = false := by rw [Fl.o_eq]; simp [Fl.eqF, na]
    have hl := Fl.nan_lt na
    have g2 : infB x 0 = false := decide_eq_false (by omega)
    clear h hl
    go_enter Try.func54, Try.ntmps54
    go_wp2_with (first | (go_at_call 23; refine (isInf_any _ _ _ (by assumption) (by decide)).mono ?_; rintro e w' ⟨rfl, rfl⟩) | (go_at_call 37; refine (isNaN_any _ _).mono ?_; rintro e w' ⟨rfl, rfl⟩))
    go_ret2
    exact ⟨rfl, rfl⟩
/-- what Parts tells -/
def paF (x : Nat) : Nat := if Fl.rg x = 0 ∨ 9218868437227405312 ≤ Fl.rg x then x else ptF x
def paE (x : Nat) : Int := if Fl.rg x = 0 ∨ 9218868437227405312 ≤ Fl.rg x then 0 else ptE x
theorem parts_any (x : Nat) (w : World) (hx : x < 18446744073709551616) :
    Calls Try.prog 40 #[.float .f64 x] w fun e w' => e = .returned (.tuple #[.float .f64 (paF x), .int .i64 (paE x)]) ∧ w' = w := by
  have key : ∀ w, Calls Try.prog 54 #[.float .f64 x] w fun e w' => e = .returned (.tuple #[.float .f64 (paF x), .int .i64 (paE x)]) ∧ w' = w := by
    intro w
    unfold paF paE
    by_cases h : Fl.rg x = 0 ∨ 9218868437227405312 ≤ Fl.rg x
    · rw [if_pos h, if_pos h]; exact frexp_stay x w hx h
    · rw [if_neg h, if_neg h]; exact frexp_fin x w hx (by omega) (by omega)
  have K : Hid (∀ w, Calls Try.prog 54 #[.float .f64 x] w fun e w' => e = .returned (.tuple #[.float .f64 (paF x), .int .i64 (paE x)]) ∧ w' = w) := key
  clear key
  go_enter Try.func40, Try.ntmps40
  go_wp2_with (first | (go_at_call 54; refine (K.out _).mono ?_; rintro e w' ⟨rfl, rfl⟩) | go_in)
  go_ret2
  exact ⟨rfl, rfl⟩
end Go.Proofs.Ythhikidlnpndjaa
