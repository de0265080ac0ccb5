/-
 OWN TEXT: two complex numbers are the same (eddyref02.Same, eddylaw06.same).
-/
import Derived.Test.YtfgfofedacehiaaGreatJFnEqToBhM
import Derived.Test.YtfgfofedacehiaaGreatJEoA
import Derived.Test.YtfgfofedacehiaaGreatJFnToFnStairs
import Derived.Test.YtfgfofedacehiaaGreatJFlCToFlG
import Derived.Test.YtfgfofedacehiaaGreatJRfBToRfC
import Derived.Test.YtfgfofedacehiaaGreatJFnWholeToAnA
import Derived.Test.YtfgfofedacehiaaGreatJFnLdexpToFnParts
namespace Go.Proofs.YtfgfofedacehiaaGreat
open Go.ChangeShapes Go.WideShapes Go.ChangeAt Go.RowKit
set_option linter.unusedVariables false
attribute [local go_sem] frombits_call tobits_call run_neg
end Go.Proofs.YtfgfofedacehiaaGreat

/-
 OWN TEXT: a small whole number as a float.
-/
namespace Go.Proofs.YtfgfofedacehiaaGreat
open Go.ChangeShapes Go.WideShapes Go.ChangeAt Go.RowKit
set_option linter.unusedVariables false
end Go.Proofs.YtfgfofedacehiaaGreat

/-
 OWN TEXT: a float made whole, in numbers.
-/
namespace Go.Proofs.YtfgfofedacehiaaGreat.Fl
set_option linter.unusedVariables false
theorem wd_false (r : Nat) : wd false r = r := rfl
end Go.Proofs.YtfgfofedacehiaaGreat.Fl
namespace Go.Proofs.YtfgfofedacehiaaGreat
set_option linter.unusedVariables false
open Go.ChangeShapes Go.WideShapes Go.ChangeAt Go.RowKit
end Go.Proofs.YtfgfofedacehiaaGreat

/-
 OWN TEXT: what Whole of the reference returns, for every float.
-/
namespace Go.Proofs.YtfgfofedacehiaaGreat
open Go.ChangeShapes Go.WideShapes Go.ChangeAt Go.RowKit
set_option linter.unusedVariables false
attribute [local go_sem] frombits_call tobits_call run_neg
end Go.Proofs.YtfgfofedacehiaaGreat

/-
 OWN TEXT: the reference's float made whole (eddyref01.Whole), for every float.
-/
namespace Go.Proofs.YtfgfofedacehiaaGreat
open Go.ChangeShapes Go.WideShapes Go.ChangeAt Go.RowKit
set_option linter.unusedVariables false
end Go.Proofs.YtfgfofedacehiaaGreat

/-
 OWN TEXT: the reference's quarters, sines, cosines (eddyref05.Quarter, Turn), for every float.
-/
namespace Go.Proofs.YtfgfofedacehiaaGreat
open Go.ChangeShapes Go.WideShapes Go.ChangeAt Go.RowKit
set_option linter.unusedVariables false
attribute [local go_sem] frombits_call tobits_call run_neg
end Go.Proofs.YtfgfofedacehiaaGreat

/-
 OWN TEXT: the reference's cosine, quarter, turn (eddyref05.cosine, Quarter, Turn), for every float.
-/
namespace Go.Proofs.YtfgfofedacehiaaGreat
open Go.ChangeShapes Go.WideShapes Go.ChangeAt Go.RowKit
set_option linter.unusedVariables false
attribute [local go_sem] frombits_call tobits_call run_neg
end Go.Proofs.YtfgfofedacehiaaGreat

/-
 OWN TEXT: package angle's sine, cosine, pieces of quarters (eddy/angle.sine, cosine, fit, without), for every float.
-/
namespace Go.Proofs.YtfgfofedacehiaaGreat
open Go.ChangeShapes Go.WideShapes Go.ChangeAt Go.RowKit
set_option linter.unusedVariables false
attribute [local go_sem] frombits_call tobits_call run_neg
theorem piece5_0 (w : World) : (Instr.index 100 (.agg #[.int .u64 4609753056924401664, .int .u64 4454258360616747008, .int .u64 4297306550709518336]) (.int .i64 0)).run Tryz.prog w = .ok (.int .u64 4609753056924401664) w := by kernel_rfl
theorem piece5_1 (w : World) : (Instr.index 100 (.agg #[.int .u64 4609753056924401664, .int .u64 4454258360616747008, .int .u64 4297306550709518336]) (.int .i64 1)).run Tryz.prog w = .ok (.int .u64 4454258360616747008) w := by kernel_rfl
theorem piece5_2 (w : World) : (Instr.index 100 (.agg #[.int .u64 4609753056924401664, .int .u64 4454258360616747008, .int .u64 4297306550709518336]) (.int .i64 2)).run Tryz.prog w = .ok (.int .u64 4297306550709518336) w := by kernel_rfl
attribute [local go_sem] piece5_0 piece5_1 piece5_2
end Go.Proofs.YtfgfofedacehiaaGreat

/-
 OWN TEXT: package angle's quarters and turns (eddy/angle.Quarter, Turn), for every float.
-/
namespace Go.Proofs.YtfgfofedacehiaaGreat
open Go.ChangeShapes Go.WideShapes Go.ChangeAt Go.RowKit
set_option linter.unusedVariables false
attribute [local go_sem] frombits_call tobits_call run_neg
end Go.Proofs.YtfgfofedacehiaaGreat

/-
 OWN TEXT: package angle's angles (eddy/angle.arc, slope, first, across, Of, Tan), for every float.
-/
namespace Go.Proofs.YtfgfofedacehiaaGreat
open Go.ChangeShapes Go.WideShapes Go.ChangeAt Go.RowKit
set_option linter.unusedVariables false
attribute [local go_sem] frombits_call tobits_call run_neg
theorem h4 (ty : TypeId) (w : World) : (binOp .quo ty (.float .f64 4614256656552045848) (.float .f64 4616189618054758400)).run Tryz.prog w = .ok (.float .f64 4605249457297304856) w := run_float_arith w .quo ty .f64 _ _ _ (by decide +kernel)
theorem l4 (ty : TypeId) (w : World) : (binOp .quo ty (.float .f64 4368955796522032135) (.float .f64 4616189618054758400)).run Tryz.prog w = .ok (.float .f64 4359948597267291143) w := run_float_arith w .quo ty .f64 _ _ _ (by decide +kernel)
theorem h2 (ty : TypeId) (w : World) : (binOp .quo ty (.float .f64 4614256656552045848) (.float .f64 4611686018427387904)).run Tryz.prog w = .ok (.float .f64 4609753056924675352) w := run_float_arith w .quo ty .f64 _ _ _ (by decide +kernel)
theorem l2 (ty : TypeId) (w : World) : (binOp .quo ty (.float .f64 4368955796522032135) (.float .f64 4611686018427387904)).run Tryz.prog w = .ok (.float .f64 4364452196894661639) w := run_float_arith w .quo ty .f64 _ _ _ (by decide +kernel)
end Go.Proofs.YtfgfofedacehiaaGreat

/-
 OWN TEXT: package angle's wrapped angles (eddy/angle.wrapped, Wrap), for every float.
-/
namespace Go.Proofs.YtfgfofedacehiaaGreat
open Go.ChangeShapes Go.WideShapes Go.ChangeAt Go.RowKit
set_option linter.unusedVariables false
attribute [local go_sem] frombits_call tobits_call run_neg
end Go.Proofs.YtfgfofedacehiaaGreat

