/-
  OWN TEXT: what Whole of package float returns, for every float.
-/
import Derived.Test.YtpfaaimfembhdaaJFnToFnStairs
import Derived.Test.YtpfaaimfembhdaaJFlCToFlG
namespace Go.Proofs.Ytpfaaimfembhdaa
open Go.ChangeShapes Go.WideShapes Go.ChangeAt Go.RowKit
theorem even_of (x : Nat) (d : Ieee.Datum) (h : FloatKind.f64.decode x = d) (hn : d.isNaN = false) : Extern.MathFloor.toIntegral "math.RoundToEven" .even #[.float .f64 x] = pure (.float .f64 (FloatKind.f64.encode (d.integral .even))) := by
  change (Extern.MathFloor.toIntegral.match_1 _ (FloatKind.f64.decode x) _ _) = _
  rw [h]
  cases d with
  | number s m i => rfl
  | infinity s => rfl
  | nan s t => cases hn
theorem even_none (x : Nat) (s : Bool) (t : Nat) (h : FloatKind.f64.decode x = .nan s t) : ∃ q, q.forced = false ∧ Extern.MathFloor.toIntegral "math.RoundToEven" .even #[.float .f64 x] = if FloatKind.f64.format.quiet t = t then pure (.float .f64 x) else (choose q).bind fun kept => pure (.float .f64 (if kept == 1 then x else FloatKind.f64.encode (.nan s (FloatKind.f64.format.quiet t)))) := by
  refine ⟨?q, ?_, ?_⟩
  rotate_left 2
  · change (Extern.MathFloor.toIntegral.match_1 _ (FloatKind.f64.decode x) _ _) = _
    rw [h]
    rfl
  · rfl
theorem quiet_nan (s : Bool) (t : Nat) (ht : t < 4503599627370496) : Fl.nan (FloatKind.f64.encode (.nan s (FloatKind.f64.format.quiet t))) = true ∧ FloatKind.f64.encode (.nan s (FloatKind.f64.format.quiet t)) < 18446744073709551616 := by
  have e : FloatKind.f64.encode (.nan s (FloatKind.f64.format.quiet t)) = Fl.wd s (9218868437227405312 + (t ||| 2 ^ 51) % 4503599627370496) := by cases s <;> rfl
  have h1 : (t ||| 2 ^ 51) < 2 ^ 52 := Nat.or_lt_two_pow (by omega) (by omega)
  have h2 : 2 ^ 51 ≤ t ||| 2 ^ 51 := Nat.right_le_or
  rw [e, Nat.mod_eq_of_lt (by omega)]
  generalize (t ||| 2 ^ 51) = a at *
  refine ⟨?_, Fl.wd_lt _ _ (by omega)⟩
  unfold Fl.nan
  rw [Fl.rg_wd _ _ (by omega)]
  exact decide_eq_true (by omega)
end Go.Proofs.Ytpfaaimfembhdaa
