/-
  OWN TEXT: eddylaw01.alive returns true.
-/
import Derived.Test.YthfdcembajhgcaaFnUp
namespace Go.Proofs.Ythfdcembajhgcaa
open Go.ChangeShapes Go.WideShapes Go.ChangeAt Go.RowKit
attribute [local go_sem] frombits_call tobits_call run_neg
theorem exact_alive (w : World) : Calls Try.prog 9 #[.float .f64 4607182418800017408, .float .f64 4845873199050653696] w fun e w' => e = .returned (.tuple #[.float .f64 4845873199050653696, .float .f64 4607182418800017408]) ∧ w' = w := by
  have a1 : ∀ t w, (binOp .add t (.float .f64 4607182418800017408) (.float .f64 4845873199050653696)).run Try.prog w = .ok (.float .f64 4845873199050653696) w := fun t w => run_float_arith w .add t .f64 _ _ _ (by decide +kernel)
  have a2 : ∀ t w, (binOp .sub t (.float .f64 4845873199050653696) (.float .f64 4845873199050653696)).run Try.prog w = .ok (.float .f64 0) w := fun t w => run_float_arith w .sub t .f64 _ _ _ (by decide +kernel)
  have a3 : ∀ t w, (binOp .sub t (.float .f64 4607182418800017408) (.float .f64 0)).run Try.prog w = .ok (.float .f64 4607182418800017408) w := fun t w => run_float_arith w .sub t .f64 _ _ _ (by decide +kernel)
  have b1 : Fl.finB 4845873199050653696 = true := by decide
  have b2 : Fl.rg 4845873199050653696 = 4845873199050653696 := by decide
  have b3 : Fl.rg 4607182418800017408 = 4607182418800017408 := by decide
  have c1 : (FloatKind.f64.format.order 4607182418800017408 4845873199050653696 == some .lt) = true := by decide +kernel
  have c2 : (FloatKind.f64.format.order 4607182418800017408 0 == some .eq) = false := by decide +kernel
  go_enter Try.func9, Try.ntmps9
  go_wp2_with (first | (go_at_call 30; refine (finite_any _ _ (by decide)).mono ?_; rintro e w' ⟨rfl, rfl⟩) | (go_at_call 17; refine (abs_any _ _ (by decide)).mono ?_; rintro e w' ⟨rfl, rfl⟩))
  go_ret2
  exact ⟨rfl, rfl⟩
theorem parts_alive (w : World) : Calls Try.prog 14 #[.float .f64 4622945017495814144] w fun e w' => e = .returned (.tuple #[.float .f64 4604930618986332160, .int .i64 4]) ∧ w' = w := by
  have c1 : (FloatKind.f64.format.order 4622945017495814144 0 == some .eq) = false := by decide +kernel
  have c2 : (FloatKind.f64.format.order 4622945017495814144 9218868437227405311 == some .gt) = false := by decide +kernel
  have c3 : (FloatKind.f64.format.order 4622945017495814144 18442240474082181119 == some .lt) = false := by decide +kernel
  have c4 : (FloatKind.f64.format.order 4622945017495814144 4622945017495814144 != some .eq) = false := by decide +kernel
  have c5 : (FloatKind.f64.format.order 4622945017495814144 4503599627370496 == some .lt) = false := by decide +kernel
  have b2 : Fl.rg 4622945017495814144 = 4622945017495814144 := by decide
  have d1 : bits .andNot .u64 4622945017495814144 9218868437227405312 = 2251799813685248 := by decide +kernel
  have d2 : bits .or .u64 2251799813685248 4602678819172646912 = 4604930618986332160 := by decide +kernel
  have d3 : bits .and .u64 1026 2047 = 1026 := by decide +kernel
  go_enter Try.func14, Try.ntmps14
  go_wp2_with (first | (go_at_call 17; refine (abs_any _ _ (by decide)).mono ?_; rintro e w' ⟨rfl, rfl⟩) | go_in)
  go_ret2
  exact ⟨rfl, rfl⟩
theorem sum_three (x y z r t : Nat) (b : Nat) (w : World) (h0 : w.cell? ⟨b, 0, none⟩ = some (.float .f64 x)) (h1 : w.cell? ⟨b, 1, none⟩ = some (.float .f64 y)) (h2 : w.cell? ⟨b, 2, none⟩ = some (.float .f64 z))
    (a1 : floatBits .add .f64 x y = some r) (a2 : floatBits .add .f64 r z = some t) :
    Calls Try.prog 7 #[.slice (some ⟨b, 0, none⟩) 3 3] w fun e w' => e = .returned (.float .f64 t) ∧ w' = w := by
  have e1 : ∀ t w, (binOp .add t (.float .f64 x) (.float .f64 y)).run Try.prog w = .ok (.float .f64 r) w := fun t w => run_float_arith w .add t .f64 _ _ _ a1
  have e2 : ∀ u w, (binOp .add u (.float .f64 r) (.float .f64 z)).run Try.prog w = .ok (.float .f64 t) w := fun t w => run_float_arith w .add t .f64 _ _ _ a2
  clear a1 a2
  go_enter Try.func7, Try.ntmps7
  go_wp2
  refine wp_loop_rounds 3 ?_
  rw [rounds_succ]
  go_wp2
  rw [rounds_succ]
  go_wp2
  rw [rounds_succ]
  go_wp2
  go_ret
  exact ⟨rfl, rfl⟩
set_option maxRecDepth 100000 in
theorem alive_any (w : World) : Calls Try.prog 13 #[] w fun e w' => e = .returned (.bool true) ∧ Grown w w' := by
  have u1 : upF 4607182418800017408 = 4607182418800017409 := by decide
  have c1 : (FloatKind.f64.format.order 4607182418800017409 4607182418800017409 == some .eq) = true := by decide +kernel
  have c2 : (FloatKind.f64.format.order 4845873199050653696 4845873199050653696 == some .eq) = true := by decide +kernel
  have c3 : (FloatKind.f64.format.order 4607182418800017408 4607182418800017408 == some .eq) = true := by decide +kernel
  have c4 : (FloatKind.f64.format.order 4604930618986332160 4604930618986332160 == some .eq) = true := by decide +kernel
  have c5 : (FloatKind.f64.format.order 4618441417868443648 4618441417868443648 == some .eq) = true := by decide +kernel
  go_enter Try.func13, Try.ntmps13
  go_wp2_with (first | (go_at_call 9; refine (exact_alive _).mono ?_; rintro e w' ⟨rfl, rfl⟩) | (go_at_call 14; refine (parts_alive _).mono ?_; rintro e w' ⟨rfl, rfl⟩) | (go_at_call 35; refine (up_any _ _ (by decide)).mono ?_; rintro e w' ⟨rfl, rfl⟩))
  refine (sum_three 4607182418800017408 4611686018427387904 4613937818241073152 4613937818241073152 4618441417868443648 _ _ (by simp) (by simp) (by simp) (by decide +kernel) (by decide +kernel)).mono ?_
  rintro e w2 ⟨rfl, rfl⟩
  go_wp2
  go_ret
  exact ⟨rfl, (Grown.refl _).alloc _ _⟩
end Go.Proofs.Ythfdcembajhgcaa
