/-
  OWN TEXT: what the small functions of package float (isNone, Bits, From, Within, Finite) and math.Abs return, for every float.
-/
import Derived.Test.YtmbjgakehghdjaaRows
import Derived.Test.YtmbjgakehghdjaaJaa
import Derived.WalkKit
import Derived.ProofKit
import Derived.OpenShut
import Derived.WalkLawsBesides
import Derived.Laws.Externs
namespace Go.Proofs.Ytmbjgakehghdjaa
open Go.ChangeShapes Go.WideShapes Go.ChangeAt Go.RowKit
theorem frombits_call (n : Int) (w : World) : (callFunc 31 #[.int .u64 n]).run Try.prog w = .ok (.value (.float .f64 n.toNat)) w := by
  rw [run_callFunc_extern Try.func31 (by kernel_rfl) (by kernel_rfl) (by kernel_rfl) (show Extern.find Try.f31 = some Extern.MathFloatBits.float64frombits by kernel_rfl)]; rfl
theorem tobits_call (n : Nat) (w : World) : (callFunc 56 #[.float .f64 n]).run Try.prog w = .ok (.value (.int .u64 n)) w := by
  rw [run_callFunc_extern Try.func56 (by kernel_rfl) (by kernel_rfl) (by kernel_rfl) (show Extern.find Try.f56 = some Extern.MathFloatBits.float64bits by kernel_rfl)]; rfl
theorem run_neg (P : Program) (x : Nat) (w : World) : (Op.unary .neg (.float .f64 x)).run P w = .ok (.float .f64 (Op.negFloat .f64 x)) w := rfl
attribute [local go_sem] frombits_call tobits_call run_neg
theorem rb {a b : Bool} (h : a = b) : Ending.returned (.bool a) = .returned (.bool b) := by rw [h]
theorem rf {a b : Nat} (h : a = b) : Ending.returned (.float .f64 a) = .returned (.float .f64 b) := by rw [h]
theorem ri {k : IntKind} {a b : Int} (h : a = b) : Ending.returned (.int k a) = .returned (.int k b) := by rw [h]

theorem isNone_any (x : Nat) (w : World) : Calls Try.prog 81 #[.float .f64 x] w fun e w' => e = .returned (.bool (Fl.nan x)) ∧ w' = w := by
  go_enter Try.func81, Try.ntmps81
  go_wp2
  go_ret
  exact ⟨rb (by rw [Fl.o_ne, Fl.eqF_self]; simp), rfl⟩
theorem bits_any (x : Nat) (w : World) : Calls Try.prog 71 #[.float .f64 x] w fun e w' => e = .returned (.int .u64 (Fl.bitsF x)) ∧ w' = w := by
  by_cases h : Fl.nan x = true
  all_goals
    go_enter Try.func71, Try.ntmps71
    go_wp2_with (go_at_call 81; refine (isNone_any _ _).mono ?_; rintro e w' ⟨rfl, rfl⟩)
    go_ret
    exact ⟨ri (by simp [Fl.bitsF, h]), rfl⟩
theorem abs_any (x : Nat) (w : World) (hx : x < 18446744073709551616) : Calls Try.prog 27 #[.float .f64 x] w fun e w' => e = .returned (.float .f64 (Fl.rg x)) ∧ w' = w := by
  go_enter Try.func27, Try.ntmps27
  go_wp2
  go_ret
  exact ⟨rf (Fl.abs_bits hx), rfl⟩
theorem within_any (x y : Nat) (w : World) (hx : x < 18446744073709551616) : Calls Try.prog 82 #[.float .f64 x, .float .f64 y] w fun e w' => e = .returned (.bool (Fl.withinB x y)) ∧ w' = w := by
  go_enter Try.func82, Try.ntmps82
  go_wp2_with (go_at_call 27; refine (abs_any _ _ hx).mono ?_; rintro e w' ⟨rfl, rfl⟩)
  go_ret
  exact ⟨rb (by
    show (FloatKind.f64.format.order (Fl.rg x) y == some .lt || FloatKind.f64.format.order (Fl.rg x) y == some .eq) = _
    rw [Fl.o_le]; unfold Fl.leF Fl.withinB; rw [Fl.nan_rg, Fl.key_rg]), rfl⟩
theorem withinB_fin (x : Nat) : Fl.withinB x 9218868437227405311 = Fl.finB x := by
  unfold Fl.withinB Fl.finB
  rw [show Fl.nan 9218868437227405311 = false from by decide, show Fl.key 9218868437227405311 = 9218868437227405311 from by decide]
  rw [Bool.eq_iff_iff]; simp [Fl.nan]; omega
theorem finite_any (x : Nat) (w : World) (hx : x < 18446744073709551616) : Calls Try.prog 73 #[.float .f64 x] w fun e w' => e = .returned (.bool (Fl.finB x)) ∧ w' = w := by
  go_enter Try.func73, Try.ntmps73
  go_wp2_with (go_at_call 82; refine (within_any _ _ _ hx).mono ?_; rintro e w' ⟨rfl, rfl⟩)
  go_ret
  exact ⟨rb (withinB_fin x), rfl⟩
end Go.Proofs.Ytmbjgakehghdjaa
/-
  OWN TEXT: what Up and Down of package float return, for every float.
-/
namespace Go.Proofs.Ytmbjgakehghdjaa
open Go.ChangeShapes Go.WideShapes Go.ChangeAt Go.RowKit
attribute [local go_sem] frombits_call tobits_call run_neg
/-- the least word above -/
def upF (x : Nat) : Nat :=
  if Fl.nan x then x else if x = 9218868437227405312 then x else if Fl.rg x = 0 then 1 else if 9223372036854775808 ≤ x then x - 1 else x + 1
theorem upF_lt {x : Nat} (hx : x < 18446744073709551616) : upF x < 18446744073709551616 := by
  unfold upF
  by_cases h1 : Fl.nan x = true
  · rw [if_pos h1]; exact hx
  · rw [if_neg h1]
    have h2 := Fl.nan_le (Bool.eq_false_iff.2 h1)
    have h3 := Fl.sg_key hx
    repeat' split
    all_goals omega
theorem up_tests {x : Nat} (hx : x < 18446744073709551616) (hn : Fl.nan x = false) :
    Fl.ltF 9218868437227405311 x = decide (x = 9218868437227405312) ∧ Fl.eqF x 0 = decide (Fl.rg x = 0) ∧ Fl.ltF x 0 = decide (9223372036854775808 < x) := by
  have hk := Fl.sg_key hx
  have hl := Fl.nan_le hn
  unfold Fl.ltF Fl.eqF
  rw [hn, show Fl.nan 9218868437227405311 = false from by decide, show Fl.key 9218868437227405311 = 9218868437227405311 from by decide, show Fl.nan 0 = false from by decide, show Fl.key 0 = 0 from by decide]
  simp only [Bool.not_false, Bool.true_and, decide_eq_decide]
  refine ⟨?_, ?_, ?_⟩ <;> omega
/-- the greatest word below -/
def downF (x : Nat) : Nat := Fl.ng (upF (Fl.ng x))
end Go.Proofs.Ytmbjgakehghdjaa
/-
  OWN TEXT: eddylaw01.alive returns true.
-/
namespace Go.Proofs.Ytmbjgakehghdjaa
open Go.ChangeShapes Go.WideShapes Go.ChangeAt Go.RowKit
attribute [local go_sem] frombits_call tobits_call run_neg
end Go.Proofs.Ytmbjgakehghdjaa
