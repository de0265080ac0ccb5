/-
  OWN TEXT: what the small functions of package float (isNone, Bits, From, Within, Finite) and math.Abs return, for every float.
-/
import Derived.Test.YthhikidlnpndjaaRows
import Derived.Test.YthhikidlnpndjaaFlB
import Derived.WalkKit
import Derived.ProofKit
import Derived.OpenShut
import Derived.WalkLawsBesides
import Derived.Laws.Externs
namespace Go.Proofs.Ythhikidlnpndjaa
open Go.ChangeShapes Go.WideShapes Go.ChangeAt Go.RowKit
theorem frombits_call (n : Int) (w : World) : (callFunc 22 #[.int .u64 n]).run Try.prog w = .ok (.value (.float .f64 n.toNat)) w := by
  rw [run_callFunc_extern Try.func22 (by kernel_rfl) (by kernel_rfl) (by kernel_rfl) (show Extern.find Try.f22 = some Extern.MathFloatBits.float64frombits by kernel_rfl)]; rfl
theorem tobits_call (n : Nat) (w : World) : (callFunc 36 #[.float .f64 n]).run Try.prog w = .ok (.value (.int .u64 n)) w := by
  rw [run_callFunc_extern Try.func36 (by kernel_rfl) (by kernel_rfl) (by kernel_rfl) (show Extern.find Try.f36 = some Extern.MathFloatBits.float64bits by kernel_rfl)]; rfl
theorem run_neg (P : Program) (x : Nat) (w : World) : (Op.unary .neg (.float .f64 x)).run P w = .ok (.float .f64 (Op.negFloat .f64 x)) w := rfl
attribute [local go_sem] frombits_call tobits_call run_neg
theorem rb {a b : Bool} (h : a = b) : Ending.returned (.bool a) = .returned (.bool b) := by rw [h]
theorem rf {a b : Nat} (h : a = b) : Ending.returned (.float .f64 a) = .returned (.float .f64 b) := by rw [h]
theorem ri {k : IntKind} {a b : Int} (h : a = b) : Ending.returned (.int k a) = .returned (.int k b) := by rw [h]

theorem isNone_any (x : Nat) (w : World) : Calls Try.prog 56 #[.float .f64 x] w fun e w' => e = .returned (.bool (Fl.nan x)) ∧ w' = w := by
  go_enter Try.func56, Try.ntmps56
  go_wp2
  go_ret
  exact ⟨rb (by rw [Fl.o_ne, Fl.eqF_self]; simp), rfl⟩
theorem bits_any (x : Nat) (w : World) : Calls Try.prog 50 #[.float .f64 x] w fun e w' => e = .returned (.int .u64 (Fl.bitsF x)) ∧ w' = w := by
  by_cases h : Fl.nan x = true
  all_goals
    go_enter Try.func50, Try.ntmps50
    go_wp2_with (go_at_call 56; refine (isNone_any _ _).mono ?_; rintro e w' ⟨rfl, rfl⟩)
    go_ret
    exact ⟨ri (by simp [Fl.bitsF, h]), rfl⟩
theorem abs_any (x : Nat) (w : World) (hx : x < 18446744073709551616) : Calls Try.prog 15 #[.float .f64 x] w fun e w' => e = .returned (.float .f64 (Fl.rg x)) ∧ w' = w := by
  go_enter Try.func15, Try.ntmps15
  go_wp2
  go_ret
  exact ⟨rf (Fl.abs_bits hx), rfl⟩
theorem within_any (x y : Nat) (w : World) (hx : x < 18446744073709551616) : Calls Try.prog 52 #[.float .f64 x, .float .f64 y] w fun e w' => e = .returned (.bool (Fl.withinB x y)) ∧ w' = w := by
  go_enter Try.func52, Try.ntmps52
  go_wp2_with (go_at_call 15; refine (abs_any _ _ hx).mono ?_; rintro e w' ⟨rfl, rfl⟩)
  go_ret
  exact ⟨rb (by
    show (FloatKind.f64.format.order (Fl.rg x) y == some .lt || FloatKind.f64.format.order (Fl.rg x) y == some .eq) = _
    rw [Fl.o_le]; unfold Fl.leF Fl.withinB; rw [Fl.nan_rg, Fl.key_rg]), rfl⟩
theorem withinB_fin (x : Nat) : Fl.withinB x 9218868437227405311 = Fl.finB x := by
  unfold Fl.withinB Fl.finB
  rw [show Fl.nan 9218868437227405311 = false from by decide, show Fl.key 9218868437227405311 = 9218868437227405311 from by decide]
  rw [Bool.eq_iff_iff]; simp [Fl.nan]; omega
theorem finite_any (x : Nat) (w : World) (hx : x < 18446744073709551616) : Calls Try.prog 45 #[.float .f64 x] w fun e w' => e = .returned (.bool (Fl.finB x)) ∧ w' = w := by
  go_enter Try.func45, Try.ntmps45
  go_wp2_with (go_at_call 52; refine (within_any _ _ _ hx).mono ?_; rintro e w' ⟨rfl, rfl⟩)
  go_ret
  exact ⟨rb (withinB_fin x), rfl⟩
end Go.Proofs.Ythhikidlnpndjaa
