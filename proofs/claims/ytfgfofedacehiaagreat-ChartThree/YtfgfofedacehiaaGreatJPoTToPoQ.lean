/-
 OWN TEXT: package power, as it landed: sines, cosines, their hyperbolic ones, logarithms, sheets, for every number.
-/
import Derived.Test.YtfgfofedacehiaaGreatJEoBToAnM
import Derived.Test.YtfgfofedacehiaaGreatJRoOToRoP
import Derived.Test.YtfgfofedacehiaaGreatJEpBToEpL
import Derived.Laws.Rows
import Derived.Test.YtfgfofedacehiaaGreatJBhL
import Derived.Test.YtfgfofedacehiaaGreatJFnEqToBhM
import Derived.Test.YtfgfofedacehiaaGreatJFlCToFlG
namespace Go.Proofs.YtfgfofedacehiaaGreat
open Go.ChangeShapes Go.WideShapes Go.ChangeAt Go.RowKit
set_option linter.unusedVariables false
attribute [local go_sem] frombits_call tobits_call run_neg
theorem run_store_func {P : Program} {w : World} {a : Addr} {m : Mode} (f : Fn) (x y : Array Value) : (store a (.func f x y) m).run P w = stored P w a (.func f x y) m := run_store P w a _ m rfl
attribute [local go_sem] run_store_func
end Go.Proofs.YtfgfofedacehiaaGreat

/-
 OWN TEXT: package parts: signs turned (parts.turned, Conj, Neg, Mirror, Times), for every number.
-/
namespace Go.Proofs.YtfgfofedacehiaaGreat
open Go.ChangeShapes Go.WideShapes Go.ChangeAt Go.RowKit
set_option linter.unusedVariables false
attribute [local go_sem] frombits_call tobits_call run_neg
theorem xor_sign {x : Nat} (h : x < 18446744073709551616) : bits .xor .u64 (x : Int) 9223372036854775808 = ((Fl.ng x : Nat) : Int) := by
 have e := u64_xor_nat x 9223372036854775808 h (by omega)
 rw [show ((9223372036854775808 : Nat) : Int) = 9223372036854775808 from rfl] at e
 rw [e, ← Fl.neg_eq h]
 rfl
theorem turned_any (x : Nat) (w : World) (hx : x < 18446744073709551616) : Calls Tryz.prog 59 #[.float .f64 x] w fun e w' => e = .returned (.float .f64 (Fl.ng x)) ∧ w' = w := by
 have k := xor_sign hx
 go_enter Tryz.func59, Tryz.ntmps59
 go_wp2
 go_ret
 exact ⟨rfl, rfl⟩
theorem neg2_any (x y : Nat) (w : World) (hx : x < 18446744073709551616) (hy : y < 18446744073709551616) : Calls Tryz.prog 33 #[.complex .f64 x y] w fun e w' => e = .returned (.complex .f64 (Fl.ng x) (Fl.ng y)) ∧ w' = w := by
 have T : Hid (∀ wz, Calls Tryz.prog 59 #[.float .f64 x] wz fun e w' => e = .returned (.float .f64 (Fl.ng x)) ∧ w' = wz) := fun wz => turned_any x wz hx
 have U : Hid (∀ wz, Calls Tryz.prog 59 #[.float .f64 y] wz fun e w' => e = .returned (.float .f64 (Fl.ng y)) ∧ w' = wz) := fun wz => turned_any y wz hy
 generalize Fl.ng x = z at *
 generalize Fl.ng y = v at *
 go_enter Tryz.func33, Tryz.ntmps33
 go_wp2_with fail
 refine (T.out _).mono ?_
 rintro e' w ⟨rfl, rfl⟩
 go_wp2_with fail
 refine (U.out _).mono ?_
 rintro e' w ⟨rfl, rfl⟩
 go_wp2
 go_ret
 exact ⟨rfl, rfl⟩
end Go.Proofs.YtfgfofedacehiaaGreat

/-
 OWN TEXT: package power, as it landed: logarithms, sines, cosines, their hyperbolic ones, sheets, for every number.
-/
namespace Go.Proofs.YtfgfofedacehiaaGreat
open Go.ChangeShapes Go.WideShapes Go.ChangeAt Go.RowKit
set_option linter.unusedVariables false
attribute [local go_sem] frombits_call tobits_call run_neg
end Go.Proofs.YtfgfofedacehiaaGreat

/-
 OWN TEXT: package power, as it landed: exponentials and powers, for every number.
-/
namespace Go.Proofs.YtfgfofedacehiaaGreat
open Go.ChangeShapes Go.WideShapes Go.ChangeAt Go.RowKit
set_option linter.unusedVariables false
attribute [local go_sem] frombits_call tobits_call run_neg
end Go.Proofs.YtfgfofedacehiaaGreat

