/-
  OWN TEXT: what the small functions of package float (isNone, Bits, From, Within, Finite) and math.Abs return, for every float.
-/
import Derived.Test.YtgnbmilmipbaoaaDoorRows
import Derived.Test.YtgnbmilmipbaoaaDoorFlX
import Derived.WalkKit
import Derived.ProofKit
import Derived.OpenShut
import Derived.WalkLawsBesides
import Derived.Laws.Externs
namespace Go.Proofs.YtgnbmilmipbaoaaDoor
open Go.ChangeShapes Go.WideShapes Go.ChangeAt Go.RowKit
theorem frombits_call (n : Int) (w : World) : (callFunc 22 #[.int .u64 n]).run Tryd.prog w = .ok (.value (.float .f64 n.toNat)) w := by
  rw [run_callFunc_extern Tryd.func22 (by kernel_rfl) (by kernel_rfl) (by kernel_rfl) (show Extern.find Tryd.f22 = some Extern.MathFloatBits.float64frombits by kernel_rfl)]; rfl
theorem tobits_call (n : Nat) (w : World) : (callFunc 24 #[.float .f64 n]).run Tryd.prog w = .ok (.value (.int .u64 n)) w := by
  rw [run_callFunc_extern Tryd.func24 (by kernel_rfl) (by kernel_rfl) (by kernel_rfl) (show Extern.find Tryd.f24 = some Extern.MathFloatBits.float64bits by kernel_rfl)]; rfl
theorem run_neg (P : Program) (x : Nat) (w : World) : (Op.unary .neg (.float .f64 x)).run P w = .ok (.float .f64 (Op.negFloat .f64 x)) w := rfl
attribute [local go_sem] frombits_call tobits_call run_neg
theorem rb {a b : Bool} (h : a = b) : Ending.returned (.bool a) = .returned (.bool b) := by rw [h]
theorem rf {a b : Nat} (h : a = b) : Ending.returned (.float .f64 a) = .returned (.float .f64 b) := by rw [h]
theorem ri {k : IntKind} {a b : Int} (h : a = b) : Ending.returned (.int k a) = .returned (.int k b) := by rw [h]

theorem isNone_any (x : Nat) (w : World) : Calls Tryd.prog 65 #[.float .f64 x] w fun e w' => e = .returned (.bool (Fl.nan x)) ∧ w' = w := by
  go_enter Tryd.func65, Tryd.ntmps65
  go_wp2
  go_ret
  exact ⟨rb (by rw [Fl.o_ne, Fl.eqF_self]; simp), rfl⟩
theorem bits_any (x : Nat) (w : World) : Calls Tryd.prog 51 #[.float .f64 x] w fun e w' => e = .returned (.int .u64 (Fl.bitsF x)) ∧ w' = w := by
  by_cases h : Fl.nan x = true
  all_goals
    go_enter Tryd.func51, Tryd.ntmps51
    go_wp2_with (go_at_call 65; refine (isNone_any _ _).mono ?_; rintro e w' ⟨rfl, rfl⟩)
    go_ret
    exact ⟨ri (by simp [Fl.bitsF, h]), rfl⟩
theorem from_any (x : Int) (w : World) : Calls Tryd.prog 29 #[.int .u64 x] w fun e w' => e = .returned (.float .f64 x.toNat) ∧ w' = w := by
  go_enter Tryd.func29, Tryd.ntmps29
  go_wp2
  go_ret
  exact ⟨rfl, rfl⟩
theorem abs_any (x : Nat) (w : World) (hx : x < 18446744073709551616) : Calls Tryd.prog 30 #[.float .f64 x] w fun e w' => e = .returned (.float .f64 (Fl.rg x)) ∧ w' = w := by
  go_enter Tryd.func30, Tryd.ntmps30
  go_wp2
  go_ret
  exact ⟨rf (Fl.abs_bits hx), rfl⟩
theorem withinB_fin (x : Nat) : Fl.withinB x 9218868437227405311 = Fl.finB x := by
  unfold Fl.withinB Fl.finB
  rw [show Fl.nan 9218868437227405311 = false from by decide, show Fl.key 9218868437227405311 = 9218868437227405311 from by decide]
  rw [Bool.eq_iff_iff]; simp [Fl.nan]; omega
end Go.Proofs.YtgnbmilmipbaoaaDoor
