/-
  OWN TEXT: what the small functions of package float (isNone, Bits, From, Within, Finite) and math.Abs return, for every float.
-/
import Derived.Test.YtpfgboinjjobpaaRows
import Derived.Test.YtpfgboinjjobpaaFlB
import Derived.WalkKit
import Derived.ProofKit
import Derived.OpenShut
import Derived.WalkLawsBesides
import Derived.Laws.Externs
namespace Go.Proofs.Ytpfgboinjjobpaa
open Go.ChangeShapes Go.WideShapes Go.ChangeAt Go.RowKit
theorem frombits_call (n : Int) (w : World) : (callFunc 44 #[.int .u64 n]).run Try.prog w = .ok (.value (.float .f64 n.toNat)) w := by
  rw [run_callFunc_extern Try.func44 (by kernel_rfl) (by kernel_rfl) (by kernel_rfl) (show Extern.find Try.f44 = some Extern.MathFloatBits.float64frombits by kernel_rfl)]; rfl
theorem tobits_call (n : Nat) (w : World) : (callFunc 60 #[.float .f64 n]).run Try.prog w = .ok (.value (.int .u64 n)) w := by
  rw [run_callFunc_extern Try.func60 (by kernel_rfl) (by kernel_rfl) (by kernel_rfl) (show Extern.find Try.f60 = some Extern.MathFloatBits.float64bits by kernel_rfl)]; rfl
theorem run_neg (P : Program) (x : Nat) (w : World) : (Op.unary .neg (.float .f64 x)).run P w = .ok (.float .f64 (Op.negFloat .f64 x)) w := rfl
attribute [local go_sem] frombits_call tobits_call run_neg
theorem rb {a b : Bool} (h : a = b) : Ending.returned (.bool a) = .returned (.bool b) := by rw [h]
theorem rf {a b : Nat} (h : a = b) : Ending.returned (.float .f64 a) = .returned (.float .f64 b) := by rw [h]
theorem ri {k : IntKind} {a b : Int} (h : a = b) : Ending.returned (.int k a) = .returned (.int k b) := by rw [h]

theorem isNone_any (x : Nat) (w : World) : Calls Try.prog 52 #[.float .f64 x] w fun e w' => e = .returned (.bool (Fl.nan x)) ∧ w' = w := by
  go_enter Try.func52, Try.ntmps52
  go_wp2
  go_ret
  exact ⟨rb (by rw [Fl.o_ne, Fl.eqF_self]; simp), rfl⟩
theorem bits_any (x : Nat) (w : World) : Calls Try.prog 54 #[.float .f64 x] w fun e w' => e = .returned (.int .u64 (Fl.bitsF x)) ∧ w' = w := by
  by_cases h : Fl.nan x = true
  all_goals
    go_enter Try.func54, Try.ntmps54
    go_wp2_with (go_at_call 52; refine (isNone_any _ _).mono ?_; rintro e w' ⟨rfl, rfl⟩)
    go_ret
    exact ⟨ri (by simp [Fl.bitsF, h]), rfl⟩
theorem from_any (x : Int) (w : World) : Calls Try.prog 53 #[.int .u64 x] w fun e w' => e = .returned (.float .f64 x.toNat) ∧ w' = w := by
  go_enter Try.func53, Try.ntmps53
  go_wp2
  go_ret
  exact ⟨rfl, rfl⟩
theorem abs_any (x : Nat) (w : World) (hx : x < 18446744073709551616) : Calls Try.prog 55 #[.float .f64 x] w fun e w' => e = .returned (.float .f64 (Fl.rg x)) ∧ w' = w := by
  go_enter Try.func55, Try.ntmps55
  go_wp2
  go_ret
  exact ⟨rf (Fl.abs_bits hx), rfl⟩
theorem within_any (x y : Nat) (w : World) (hx : x < 18446744073709551616) : Calls Try.prog 56 #[.float .f64 x, .float .f64 y] w fun e w' => e = .returned (.bool (Fl.withinB x y)) ∧ w' = w := by
  go_enter Try.func56, Try.ntmps56
  go_wp2_with (go_at_call 55; refine (abs_any _ _ hx).mono ?_; rintro e w' ⟨rfl, rfl⟩)
  go_ret
  exact ⟨rb (by
    show (FloatKind.f64.format.order (Fl.rg x) y == some .lt || FloatKind.f64.format.order (Fl.rg x) y == some .eq) = _
    rw [Fl.o_le]; unfold Fl.leF Fl.withinB; rw [Fl.nan_rg, Fl.key_rg]), rfl⟩
theorem withinB_fin (x : Nat) : Fl.withinB x 9218868437227405311 = Fl.finB x := by
  unfold Fl.withinB Fl.finB
  rw [show Fl.nan 9218868437227405311 = false from by decide, show Fl.key 9218868437227405311 = 9218868437227405311 from by decide]
  rw [Bool.eq_iff_iff]; simp [Fl.nan]; omega
theorem finite_any (x : Nat) (w : World) (hx : x < 18446744073709551616) : Calls Try.prog 43 #[.float .f64 x] w fun e w' => e = .returned (.bool (Fl.finB x)) ∧ w' = w := by
  go_enter Try.func43, Try.ntmps43
  go_wp2_with (go_at_call 56; refine (within_any _ _ _ hx).mono ?_; rintro e w' ⟨rfl, rfl⟩)
  go_ret
  exact ⟨rb (withinB_fin x), rfl⟩
end Go.Proofs.Ytpfgboinjjobpaa
