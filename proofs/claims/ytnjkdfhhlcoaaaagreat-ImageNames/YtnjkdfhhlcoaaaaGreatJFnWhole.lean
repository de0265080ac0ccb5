/-
 OWN TEXT: what Whole of package float returns, for every float.
-/
import Derived.Test.YtnjkdfhhlcoaaaaGreatJFnToFnStairs
import Derived.Test.YtnjkdfhhlcoaaaaGreatJFlCToFlG
namespace Go.Proofs.YtnjkdfhhlcoaaaaGreat
open Go.ChangeShapes Go.WideShapes Go.ChangeAt Go.RowKit
theorem even_call (x : Nat) (w : World) : (callFunc 138 #[.float .f64 x]).run Tryz.prog w = ((Extern.MathFloor.toIntegral "math.RoundToEven" .even #[.float .f64 x]).run Tryz.prog w).andThen fun v w' => .ok (.value v) w' := by
 rw [run_callFunc_extern Tryz.func138 (by kernel_rfl) (by kernel_rfl) (by kernel_rfl) (show Extern.find Tryz.f138 = some (Extern.MathFloor.toIntegral "math.RoundToEven" .even) by kernel_rfl)]
theorem even_of (x : Nat) (d : Ieee.Datum) (h : FloatKind.f64.decode x = d) (hn : d.isNaN = false) : Extern.MathFloor.toIntegral "math.RoundToEven" .even #[.float .f64 x] = pure (.float .f64 (FloatKind.f64.encode (d.integral .even))) := by
 change (Extern.MathFloor.toIntegral.match_1 _ (FloatKind.f64.decode x) _ _) = _
 rw [h]
 cases d with
 | number s m i => rfl
 | infinity s => rfl
 | nan s t => cases hn
theorem even_num (x : Nat) (w : World) (hn : Fl.nan x = false) : (callFunc 138 #[.float .f64 x]).run Tryz.prog w = .ok (.value (.float .f64 (Fl.whF x))) w := by
 have hl := Fl.nan_le hn
 rw [even_call, even_of x (Ieee.double.read x) rfl ?_]
 · rfl
 ·
  by_cases c : Fl.rg x = 9218868437227405312
  · rw [Fl.read_inf c]; rfl
  ·
   obtain ⟨m, k, hm, _⟩ := Fl.read_fin (x := x) (by omega)
   rw [hm]; rfl
theorem whole_num (x : Nat) (w : World) (hn : Fl.nan x = false) : Calls Tryz.prog 137 #[.float .f64 x] w fun e w' => e = .returned (.float .f64 (Fl.whF x)) ∧ w' = w := by
 have c := fun w => even_num x w hn
 go_enter Tryz.func137, Tryz.ntmps137
 go_wp2
 go_ret
 exact ⟨rfl, rfl⟩
end Go.Proofs.YtnjkdfhhlcoaaaaGreat

