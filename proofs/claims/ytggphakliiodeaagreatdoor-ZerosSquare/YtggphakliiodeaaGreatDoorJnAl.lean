/-
  OWN TEXT: what Same, Minus, Signed and the reference of layer 1 return, for every float.
-/
import Derived.Test.YtggphakliiodeaaGreatDoorJnAk
import Derived.Test.YtggphakliiodeaaGreatDoorJnAh
import Derived.Test.YtggphakliiodeaaGreatDoorJnAj
import Derived.Laws.Cover3
import Derived.Test.YtggphakliiodeaaGreatDoorJnAe
namespace Go.Proofs.YtggphakliiodeaaGreatDoor
open Go.ChangeShapes Go.WideShapes Go.ChangeAt Go.RowKit
attribute [local go_sem] frombits_call tobits_call run_neg
theorem minus_any (x : Nat) (w : World) (hx : x < 18446744073709551616) : Calls Tryz.prog 118 #[.float .f64 x] w fun e w' => e = .returned (.bool (Fl.minusB x)) ∧ w' = w := by
  go_enter Tryz.func118, Tryz.ntmps118
  go_wp2_with (go_at_call 124; refine (bits_any _ _).mono ?_; rintro e w' ⟨rfl, rfl⟩)
  go_ret
  exact ⟨rb (by
    show (bits BinOp.and IntKind.u64 (↑(Fl.bitsF x)) 9223372036854775808 != 0) = _
    rw [Fl.sign_bits (Fl.bitsF_lt hx)]
    unfold Fl.minusB Fl.bitsF
    cases h : Fl.nan x <;> simp; decide), rfl⟩
/-- a with b's sign, as the reference has it -/
def rsignedF (x y : Nat) : Nat := if Fl.minusB x != Fl.minusB y && !Fl.nan x then Fl.ng x else x
/-- a with b's sign, as the program has it -/
def signedF (x y : Nat) : Nat := if Fl.minusB y then Fl.ng (Fl.rg x) else Fl.rg x
theorem signed_any (x y : Nat) (w : World) (hx : x < 18446744073709551616) (hy : y < 18446744073709551616) : Calls Tryz.prog 89 #[.float .f64 x, .float .f64 y] w fun e w' => e = .returned (.float .f64 (signedF x y)) ∧ w' = w := by
  have hn := Fl.neg_eq (x := Fl.rg x) (by have := Fl.rg_lt x; omega)
  cases h2 : Fl.minusB y
  all_goals
    go_enter Tryz.func89, Tryz.ntmps89
    go_wp2_with (first | (go_at_call 53; refine (abs_any _ _ (by assumption)).mono ?_; rintro e w' ⟨rfl, rfl⟩) | (go_at_call 118; refine (minus_any _ _ (by assumption)).mono ?_; rintro e w' ⟨rfl, rfl⟩))
    go_ret
    exact ⟨rf (by simp [signedF, h2]), rfl⟩
theorem same_signed (x y : Nat) (hx : x < 18446744073709551616) : Fl.sameB (signedF x y) (rsignedF x y) = true := by
  have hl := Fl.rg_lt x
  have hs := Fl.sg_lt hx
  have e1 : Fl.nan (signedF x y) = Fl.nan x := by unfold signedF; split <;> simp [Fl.nan_ng, Fl.nan_rg]
  have e2 : Fl.nan (rsignedF x y) = Fl.nan x := by unfold rsignedF; split <;> simp [Fl.nan_ng]
  unfold Fl.sameB
  rw [e1, e2]
  cases hn : Fl.nan x
  · simp only [Bool.false_and, Bool.not_false, Bool.true_and, Bool.false_or, decide_eq_true_eq]
    unfold signedF rsignedF
    rw [show Fl.minusB x = decide (9223372036854775808 ≤ x) by simp [Fl.minusB, hn, hs]]
    have hr : Fl.rg x = if 9223372036854775808 ≤ x then x - 9223372036854775808 else x := by unfold Fl.rg; split <;> omega
    rw [hr, hn]
    unfold Fl.ng
    cases Fl.minusB y <;> by_cases h : 9223372036854775808 ≤ x <;> simp [h] <;> omega
  · rfl
end Go.Proofs.YtggphakliiodeaaGreatDoor
/-
  OWN TEXT: the root of a float (math.Sqrt); math.Inf(1), math.NaN.
-/
namespace Go.Proofs.YtggphakliiodeaaGreatDoor
open Go.ChangeShapes Go.WideShapes Go.ChangeAt Go.RowKit
set_option linter.unusedVariables false
attribute [local go_sem] frombits_call tobits_call run_neg
theorem sqrt_call (x : Nat) (w : World) : (callFunc 122 #[.float .f64 x]).run Tryz.prog w = ((Extern.MathSqrt.sqrt #[.float .f64 x]).run Tryz.prog w).andThen fun v w' => .ok (.value v) w' := by
  rw [run_callFunc_extern Tryz.func122 (by kernel_rfl) (by kernel_rfl) (by kernel_rfl) (show Extern.find Tryz.f122 = some Extern.MathSqrt.sqrt by kernel_rfl)]
theorem sqrt_lt {x r : Nat} (h : Ieee.double.sqrt x = some r) : r < 18446744073709551616 := by
  unfold Ieee.Format.sqrt at h
  cases e : (Ieee.double.read x).root (Ieee.double.fractionBits + 2) with
  | none => rw [e] at h; cases h
  | some d =>
    rw [e] at h
    have hr : Ieee.double.write d = r := Option.some.inj h
    cases d with
    | number s m i =>
      obtain ⟨q, hq, hw⟩ := Fl.write_num s m i
      rw [hw] at hr
      rw [← hr]; exact Fl.wd_lt _ _ (by omega)
    | infinity s => rw [← hr]; cases s <;> decide
    | nan s t =>
      exfalso
      unfold Ieee.Datum.root at e
      split at e <;> (try (split at e)) <;> (try (split at e)) <;> cases e
theorem sqrt_run (x : Nat) (w : World) : ∃ y w1, sqtR x y ∧ (callFunc 122 #[.float .f64 x]).run Tryz.prog w = .ok (.value (.float .f64 y)) w1 ∧ Bw w w1 := by
  rw [sqrt_call]
  cases h : Ieee.double.sqrt x with
  | some r =>
    refine ⟨r, w, ⟨sqrt_lt h, Or.inl h⟩, ?_, Bw.refl _⟩
    have e : Extern.MathSqrt.sqrt #[.float .f64 x] = pure (.float .f64 r) := by
      have h' : FloatKind.f64.format.sqrt x = some r := h
      change (Extern.MathSqrt.sqrt.match_1 _ (FloatKind.f64.format.sqrt x) _ _) = _
      rw [h']
    rw [e]; rfl
  | none =>
    refine ⟨(Question.nanBits .f64 x x).cut (w.tape w.drawn (.nanBits .f64 x x)), w.drew, ⟨?_, Or.inr ⟨h, ?_⟩⟩, ?_, (Bw.refl _).drew⟩
    · simp only [Question.cut]; omega
    · unfold Fl.nan
      refine decide_eq_true ?_
      simp only [Question.cut, Fl.rg]
      generalize w.tape w.drawn (Question.nanBits FloatKind.f64 x x) = t
      have h2 : t / 2 % (2 ^ 52 - 1) < 2 ^ 52 - 1 := Nat.mod_lt _ (by decide)
      generalize t / 2 % (2 ^ 52 - 1) = q at h2
      have h1 : t % 2 = 0 ∨ t % 2 = 1 := by omega
      rcases h1 with h1 | h1 <;> rw [h1] <;> omega
    · have h' : FloatKind.f64.format.sqrt x = none := h
      have e : Extern.MathSqrt.sqrt #[.float .f64 x] = (choose (.nanBits .f64 x x)).bind fun b => pure (.float .f64 b) := by
        change (Extern.MathSqrt.sqrt.match_1 _ (FloatKind.f64.format.sqrt x) _ _) = _
        rw [h']
        rfl
      rw [e]
      rfl
theorem sqrt_any (x : Nat) (w : World) : Calls Tryz.prog 95 #[.float .f64 x] w fun e w' => ∃ y, e = .returned (.float .f64 y) ∧ sqtR x y ∧ Bw w w' := by
  obtain ⟨y, w1, hy, c, g⟩ := sqrt_run x w
  have HY : Hid (sqtR x y) := hy
  clear hy
  go_enter Tryz.func95, Tryz.ntmps95
  go_wp2
  go_ret
  exact ⟨y, rfl, HY.out, g⟩
theorem infp6 (w : World) : Calls Tryz.prog 56 #[.int .i64 1] w fun e w' => e = .returned (.float .f64 9218868437227405312) ∧ w' = w := by
  go_enter Tryz.func56, Tryz.ntmps56
  go_wp2
  go_ret
  exact ⟨rfl, rfl⟩
theorem nan6 (w : World) : Calls Tryz.prog 58 #[] w fun e w' => e = .returned (.float .f64 9221120237041090561) ∧ w' = w := by
  go_enter Tryz.func58, Tryz.ntmps58
  go_wp2
  go_ret
  exact ⟨rfl, rfl⟩
end Go.Proofs.YtggphakliiodeaaGreatDoor
/-
  OWN TEXT: two complex numbers are the same (eddyref02.Same, eddylaw06.same).
-/
namespace Go.Proofs.YtggphakliiodeaaGreatDoor
open Go.ChangeShapes Go.WideShapes Go.ChangeAt Go.RowKit
set_option linter.unusedVariables false
attribute [local go_sem] frombits_call tobits_call run_neg
end Go.Proofs.YtggphakliiodeaaGreatDoor
