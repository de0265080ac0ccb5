/-
  OWN TEXT: the root of a float (math.Sqrt); math.Inf(1), math.NaN.
-/
import Derived.Test.YtpfaaimfembhdaaJRoA
import Derived.Test.YtpfaaimfembhdaaJAnM
import Derived.Test.YtpfaaimfembhdaaJFnEqToFnSame
import Derived.Laws.Cover3
namespace Go.Proofs.Ytpfaaimfembhdaa
open Go.ChangeShapes Go.WideShapes Go.ChangeAt Go.RowKit
set_option linter.unusedVariables false
attribute [local go_sem] frombits_call tobits_call run_neg
theorem sqrt_call (x : Nat) (w : World) : (callFunc 69 #[.float .f64 x]).run Try.prog w = ((Extern.MathSqrt.sqrt #[.float .f64 x]).run Try.prog w).andThen fun v w' => .ok (.value v) w' := by
  rw [run_callFunc_extern Try.func69 (by kernel_rfl) (by kernel_rfl) (by kernel_rfl) (show Extern.find Try.f69 = some Extern.MathSqrt.sqrt by kernel_rfl)]
theorem sqrt_lt {x r : Nat} (h : Ieee.double.sqrt x = some r) : r < 18446744073709551616 := by
  unfold Ieee.Format.sqrt at h
  cases e : (Ieee.double.read x).root (Ieee.double.fractionBits + 2) with
  | none => rw [e] at h; cases h
  | some d =>
    rw [e] at h
    have hr : Ieee.double.write d = r := Option.some.inj h
    cases d with
    | number s m i =>
      obtain ⟨q, hq, hw⟩ := Fl.write_num s m i
      rw [hw] at hr
      rw [← hr]; exact Fl.wd_lt _ _ (by omega)
    | infinity s => rw [← hr]; cases s <;> decide
    | nan s t =>
      exfalso
      unfold Ieee.Datum.root at e
      split at e <;> (try (split at e)) <;> (try (split at e)) <;> cases e
theorem sqrt_run (x : Nat) (w : World) : ∃ y w1, sqtR x y ∧ (callFunc 69 #[.float .f64 x]).run Try.prog w = .ok (.value (.float .f64 y)) w1 ∧ Bw w w1 := by
  rw [sqrt_call]
  cases h : Ieee.double.sqrt x with
  | some r =>
    refine ⟨r, w, ⟨sqrt_lt h, Or.inl h⟩, ?_, Bw.refl _⟩
    have e : Extern.MathSqrt.sqrt #[.float .f64 x] = pure (.float .f64 r) := by
      have h' : FloatKind.f64.format.sqrt x = some r := h
      change (Extern.MathSqrt.sqrt.match_1 _ (FloatKind.f64.format.sqrt x) _ _) = _
      rw [h']
    rw [e]; rfl
  | none =>
    refine ⟨(Question.nanBits .f64 x x).cut (w.tape w.drawn (.nanBits .f64 x x)), w.drew, ⟨?_, Or.inr ⟨h, ?_⟩⟩, ?_, (Bw.refl _).drew⟩
    · simp only [Question.cut]; omega
    · unfold Fl.nan
      refine decide_eq_true ?_
      simp only [Question.cut, Fl.rg]
      generalize w.tape w.drawn (Question.nanBits FloatKind.f64 x x) = t
      have h2 : t / 2 % (2 ^ 52 - 1) < 2 ^ 52 - 1 := Nat.mod_lt _ (by decide)
      generalize t / 2 % (2 ^ 52 - 1) = q at h2
      have h1 : t % 2 = 0 ∨ t % 2 = 1 := by omega
      rcases h1 with h1 | h1 <;> rw [h1] <;> omega
    · have h' : FloatKind.f64.format.sqrt x = none := h
      have e : Extern.MathSqrt.sqrt #[.float .f64 x] = (choose (.nanBits .f64 x x)).bind fun b => pure (.float .f64 b) := by
        change (Extern.MathSqrt.sqrt.match_1 _ (FloatKind.f64.format.sqrt x) _ _) = _
        rw [h']
        rfl
      rw [e]
      rfl
theorem sqrt_any (x : Nat) (w : World) : Calls Try.prog 56 #[.float .f64 x] w fun e w' => ∃ y, e = .returned (.float .f64 y) ∧ sqtR x y ∧ Bw w w' := by
  obtain ⟨y, w1, hy, c, g⟩ := sqrt_run x w
  have HY : Hid (sqtR x y) := hy
  clear hy
  go_enter Try.func56, Try.ntmps56
  go_wp2
  go_ret
  exact ⟨y, rfl, HY.out, g⟩
theorem infp6 (w : World) : Calls Try.prog 27 #[.int .i64 1] w fun e w' => e = .returned (.float .f64 9218868437227405312) ∧ w' = w := by
  go_enter Try.func27, Try.ntmps27
  go_wp2
  go_ret
  exact ⟨rfl, rfl⟩
theorem nan6 (w : World) : Calls Try.prog 29 #[] w fun e w' => e = .returned (.float .f64 9221120237041090561) ∧ w' = w := by
  go_enter Try.func29, Try.ntmps29
  go_wp2
  go_ret
  exact ⟨rfl, rfl⟩
end Go.Proofs.Ytpfaaimfembhdaa
