/-
  OWN TEXT: what Exact of package float returns, in words of the additions and subtractions that it makes.
-/
import Derived.Test.YthfdcembajhgcaaFnStairs
namespace Go.Proofs.Ythfdcembajhgcaa
open Go.ChangeShapes Go.WideShapes Go.ChangeAt Go.RowKit
attribute [local go_sem] frombits_call tobits_call run_neg
theorem floatBits_lt {op : BinOp} {x y r : Nat} (h : floatBits op .f64 x y = some r) : r < 18446744073709551616 := by
  have hw := floatBits_wf h
  simp only [Lit.wf] at hw
  exact of_decide_eq_true hw
theorem nan_fin {x : Nat} (h : Fl.finB x = true) : Fl.nan x = false := by
  have := of_decide_eq_true h
  unfold Fl.nan
  exact decide_eq_false (by omega)
theorem exact_none (x y : Nat) (w : World) (h : floatBits .add .f64 x y = none) :
    Calls Try.prog 9 #[.float .f64 x, .float .f64 y] w fun e w' => ∃ z, e = .returned (.tuple #[.float .f64 z, .float .f64 0]) ∧ Fl.nan z = true ∧ z < 18446744073709551616 ∧ Grown w w' := by
  obtain ⟨z, hz, nz, rz⟩ := run_arith_none Try.prog .add x y w (by simp) h
  have hf : Fl.finB z = false := by
    have := Fl.nan_lt nz
    unfold Fl.finB
    exact decide_eq_false (by omega)
  clear h
  have N := nz
  have HN : Hid (Fl.nan z = true) := N
  clear nz N
  go_enter Try.func9, Try.ntmps9
  go_wp2_with (go_at_call 30; refine (finite_any _ _ (by assumption)).mono ?_; rintro e w' ⟨rfl, rfl⟩)
  go_ret2
  exact ⟨z, rfl, HN.out, hz, (Grown.refl _).drew⟩
theorem exact_far (x y s : Nat) (w : World) (h : floatBits .add .f64 x y = some s) (hf : Fl.finB s = false) :
    Calls Try.prog 9 #[.float .f64 x, .float .f64 y] w fun e w' => e = .returned (.tuple #[.float .f64 s, .float .f64 0]) ∧ w' = w := by
  have hs := floatBits_lt h
  have e1 := fun (t : TypeId) w => run_float_arith (P := Try.prog) w .add t .f64 _ _ _ h
  clear h
  go_enter Try.func9, Try.ntmps9
  go_wp2_with (go_at_call 30; refine (finite_any _ _ (by assumption)).mono ?_; rintro e w' ⟨rfl, rfl⟩)
  go_ret2
  exact ⟨rfl, rfl⟩
/-- of two words the one of the greater rung, and the other -/
def hi (x y : Nat) : Nat := if Fl.rg x < Fl.rg y then y else x
def lo (x y : Nat) : Nat := if Fl.rg x < Fl.rg y then x else y
/-- what is told as lost -/
def lostF (l : Nat) : Nat := if Fl.rg l = 0 then 0 else l
theorem exact_fin (x y s d l : Nat) (w : World) (hx : x < 18446744073709551616) (hy : y < 18446744073709551616) (fx : Fl.nan x = false) (fy : Fl.nan y = false)
    (h : floatBits .add .f64 x y = some s) (hf : Fl.finB s = true) (hd : floatBits .sub .f64 s (hi x y) = some d) (hl : floatBits .sub .f64 (lo x y) d = some l) (nl : Fl.nan l = false) :
    Calls Try.prog 9 #[.float .f64 x, .float .f64 y] w fun e w' => e = .returned (.tuple #[.float .f64 s, .float .f64 (lostF l)]) ∧ w' = w := by
  have hs := floatBits_lt h
  have ll := floatBits_lt hl
  have e1 := fun (t : TypeId) w => run_float_arith (P := Try.prog) w .add t .f64 _ _ _ h
  have e2 := fun (t : TypeId) w => run_float_arith (P := Try.prog) w .sub t .f64 _ _ _ hd
  have e3 := fun (t : TypeId) w => run_float_arith (P := Try.prog) w .sub t .f64 _ _ _ hl
  have g1 : (FloatKind.f64.format.order (Fl.rg x) (Fl.rg y) == some .lt) = decide (Fl.rg x < Fl.rg y) := by
    rw [Fl.o_lt, Fl.ltF_of (by rw [Fl.nan_rg]; exact fx) (by rw [Fl.nan_rg]; exact fy), Fl.key_rg, Fl.key_rg, decide_eq_decide]; omega
  have g2 : (FloatKind.f64.format.order l 0 == some .eq) = decide (Fl.rg l = 0) := by
    rw [Fl.o_eq]; exact (up_tests ll nl).2.1
  clear h hd hl fx fy nl
  by_cases c : Fl.rg x < Fl.rg y
  · rw [decide_eq_true c] at g1
    rw [show hi x y = y from if_pos c] at e2
    rw [show lo x y = x from if_pos c] at e3
    clear c
    by_cases k : Fl.rg l = 0
    · rw [decide_eq_true k] at g2
      have HK : Hid (lostF l = 0) := if_pos k
      clear k
      go_enter Try.func9, Try.ntmps9
      go_wp2_with (first | (go_at_call 30; refine (finite_any _ _ (by assumption)).mono ?_; rintro e w' ⟨rfl, rfl⟩) | (go_at_call 17; refine (abs_any _ _ (by assumption)).mono ?_; rintro e w' ⟨rfl, rfl⟩))
      go_ret2
      exact ⟨by rw [HK.out]; rfl, rfl⟩
    · rw [decide_eq_false k] at g2
      have HK : Hid (lostF l = l) := if_neg k
      clear k
      go_enter Try.func9, Try.ntmps9
      go_wp2_with (first | (go_at_call 30; refine (finite_any _ _ (by assumption)).mono ?_; rintro e w' ⟨rfl, rfl⟩) | (go_at_call 17; refine (abs_any _ _ (by assumption)).mono ?_; rintro e w' ⟨rfl, rfl⟩))
      go_ret2
      exact ⟨by rw [HK.out]; rfl, rfl⟩
  · rw [decide_eq_false c] at g1
    rw [show hi x y = x from if_neg c] at e2
    rw [show lo x y = y from if_neg c] at e3
    clear c
    by_cases k : Fl.rg l = 0
    · rw [decide_eq_true k] at g2
      have HK : Hid (lostF l = 0) := if_pos k
      clear k
      go_enter Try.func9, Try.ntmps9
      go_wp2_with (first | (go_at_call 30; refine (finite_any _ _ (by assumption)).mono ?_; rintro e w' ⟨rfl, rfl⟩) | (go_at_call 17; refine (abs_any _ _ (by assumption)).mono ?_; rintro e w' ⟨rfl, rfl⟩))
      go_ret2
      exact ⟨by rw [HK.out]; rfl, rfl⟩
    · rw [decide_eq_false k] at g2
      have HK : Hid (lostF l = l) := if_neg k
      clear k
      go_enter Try.func9, Try.ntmps9
      go_wp2_with (first | (go_at_call 30; refine (finite_any _ _ (by assumption)).mono ?_; rintro e w' ⟨rfl, rfl⟩) | (go_at_call 17; refine (abs_any _ _ (by assumption)).mono ?_; rintro e w' ⟨rfl, rfl⟩))
      go_ret2
      exact ⟨by rw [HK.out]; rfl, rfl⟩
end Go.Proofs.Ythfdcembajhgcaa
