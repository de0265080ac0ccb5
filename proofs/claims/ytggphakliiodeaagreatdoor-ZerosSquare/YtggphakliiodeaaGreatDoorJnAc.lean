/-
  OWN TEXT: what the small functions of package float (isNone, Bits, From, Within, Finite) and math.Abs return, for every float.
-/
import Derived.Test.YtggphakliiodeaaGreatDoorRows
import Derived.Test.YtggphakliiodeaaGreatDoorJnAa
import Derived.WalkKit
import Derived.ProofKit
import Derived.OpenShut
import Derived.WalkLawsBesides
import Derived.Laws.Externs
namespace Go.Proofs.YtggphakliiodeaaGreatDoor
open Go.ChangeShapes Go.WideShapes Go.ChangeAt Go.RowKit
theorem frombits_call (n : Int) (w : World) : (callFunc 78 #[.int .u64 n]).run Tryz.prog w = .ok (.value (.float .f64 n.toNat)) w := by
  rw [run_callFunc_extern Tryz.func78 (by kernel_rfl) (by kernel_rfl) (by kernel_rfl) (show Extern.find Tryz.f78 = some Extern.MathFloatBits.float64frombits by kernel_rfl)]; rfl
theorem tobits_call (n : Nat) (w : World) : (callFunc 91 #[.float .f64 n]).run Tryz.prog w = .ok (.value (.int .u64 n)) w := by
  rw [run_callFunc_extern Tryz.func91 (by kernel_rfl) (by kernel_rfl) (by kernel_rfl) (show Extern.find Tryz.f91 = some Extern.MathFloatBits.float64bits by kernel_rfl)]; rfl
theorem run_neg (P : Program) (x : Nat) (w : World) : (Op.unary .neg (.float .f64 x)).run P w = .ok (.float .f64 (Op.negFloat .f64 x)) w := rfl
attribute [local go_sem] frombits_call tobits_call run_neg
theorem rb {a b : Bool} (h : a = b) : Ending.returned (.bool a) = .returned (.bool b) := by rw [h]
theorem rf {a b : Nat} (h : a = b) : Ending.returned (.float .f64 a) = .returned (.float .f64 b) := by rw [h]
theorem ri {k : IntKind} {a b : Int} (h : a = b) : Ending.returned (.int k a) = .returned (.int k b) := by rw [h]

theorem isNone_any (x : Nat) (w : World) : Calls Tryz.prog 123 #[.float .f64 x] w fun e w' => e = .returned (.bool (Fl.nan x)) ∧ w' = w := by
  go_enter Tryz.func123, Tryz.ntmps123
  go_wp2
  go_ret
  exact ⟨rb (by rw [Fl.o_ne, Fl.eqF_self]; simp), rfl⟩
theorem bits_any (x : Nat) (w : World) : Calls Tryz.prog 124 #[.float .f64 x] w fun e w' => e = .returned (.int .u64 (Fl.bitsF x)) ∧ w' = w := by
  by_cases h : Fl.nan x = true
  all_goals
    go_enter Tryz.func124, Tryz.ntmps124
    go_wp2_with (go_at_call 123; refine (isNone_any _ _).mono ?_; rintro e w' ⟨rfl, rfl⟩)
    go_ret
    exact ⟨ri (by simp [Fl.bitsF, h]), rfl⟩
theorem from_any (x : Int) (w : World) : Calls Tryz.prog 100 #[.int .u64 x] w fun e w' => e = .returned (.float .f64 x.toNat) ∧ w' = w := by
  go_enter Tryz.func100, Tryz.ntmps100
  go_wp2
  go_ret
  exact ⟨rfl, rfl⟩
theorem abs_any (x : Nat) (w : World) (hx : x < 18446744073709551616) : Calls Tryz.prog 53 #[.float .f64 x] w fun e w' => e = .returned (.float .f64 (Fl.rg x)) ∧ w' = w := by
  go_enter Tryz.func53, Tryz.ntmps53
  go_wp2
  go_ret
  exact ⟨rf (Fl.abs_bits hx), rfl⟩
theorem within_any (x y : Nat) (w : World) (hx : x < 18446744073709551616) : Calls Tryz.prog 92 #[.float .f64 x, .float .f64 y] w fun e w' => e = .returned (.bool (Fl.withinB x y)) ∧ w' = w := by
  go_enter Tryz.func92, Tryz.ntmps92
  go_wp2_with (go_at_call 53; refine (abs_any _ _ hx).mono ?_; rintro e w' ⟨rfl, rfl⟩)
  go_ret
  exact ⟨rb (by
    show (FloatKind.f64.format.order (Fl.rg x) y == some .lt || FloatKind.f64.format.order (Fl.rg x) y == some .eq) = _
    rw [Fl.o_le]; unfold Fl.leF Fl.withinB; rw [Fl.nan_rg, Fl.key_rg]), rfl⟩
theorem withinB_fin (x : Nat) : Fl.withinB x 9218868437227405311 = Fl.finB x := by
  unfold Fl.withinB Fl.finB
  rw [show Fl.nan 9218868437227405311 = false from by decide, show Fl.key 9218868437227405311 = 9218868437227405311 from by decide]
  rw [Bool.eq_iff_iff]; simp [Fl.nan]; omega
theorem finite_any (x : Nat) (w : World) (hx : x < 18446744073709551616) : Calls Tryz.prog 54 #[.float .f64 x] w fun e w' => e = .returned (.bool (Fl.finB x)) ∧ w' = w := by
  go_enter Tryz.func54, Tryz.ntmps54
  go_wp2_with (go_at_call 92; refine (within_any _ _ _ hx).mono ?_; rintro e w' ⟨rfl, rfl⟩)
  go_ret
  exact ⟨rb (withinB_fin x), rfl⟩
end Go.Proofs.YtggphakliiodeaaGreatDoor
/-
  OWN TEXT: what Up and Down of package float return, for every float.
-/
namespace Go.Proofs.YtggphakliiodeaaGreatDoor
open Go.ChangeShapes Go.WideShapes Go.ChangeAt Go.RowKit
attribute [local go_sem] frombits_call tobits_call run_neg
/-- the least word above -/
def upF (x : Nat) : Nat :=
  if Fl.nan x then x else if x = 9218868437227405312 then x else if Fl.rg x = 0 then 1 else if 9223372036854775808 ≤ x then x - 1 else x + 1
theorem upF_lt {x : Nat} (hx : x < 18446744073709551616) : upF x < 18446744073709551616 := by
  unfold upF
  by_cases h1 : Fl.nan x = true
  · rw [if_pos h1]; exact hx
  · rw [if_neg h1]
    have h2 := Fl.nan_le (Bool.eq_false_iff.2 h1)
    have h3 := Fl.sg_key hx
    repeat' split
    all_goals omega
theorem up_tests {x : Nat} (hx : x < 18446744073709551616) (hn : Fl.nan x = false) :
    Fl.ltF 9218868437227405311 x = decide (x = 9218868437227405312) ∧ Fl.eqF x 0 = decide (Fl.rg x = 0) ∧ Fl.ltF x 0 = decide (9223372036854775808 < x) := by
  have hk := Fl.sg_key hx
  have hl := Fl.nan_le hn
  unfold Fl.ltF Fl.eqF
  rw [hn, show Fl.nan 9218868437227405311 = false from by decide, show Fl.key 9218868437227405311 = 9218868437227405311 from by decide, show Fl.nan 0 = false from by decide, show Fl.key 0 = 0 from by decide]
  simp only [Bool.not_false, Bool.true_and, decide_eq_decide]
  refine ⟨?_, ?_, ?_⟩ <;> omega
theorem up_any (x : Nat) (w : World) (hx : x < 18446744073709551616) : Calls Tryz.prog 97 #[.float .f64 x] w fun e w' => e = .returned (.float .f64 (upF x)) ∧ w' = w := by
  cases hn : Fl.nan x
  · obtain ⟨t1, t2, t3⟩ := up_tests hx hn
    have g1 := Fl.o_gt x 9218868437227405311
    have g2 := Fl.o_eq x 0
    have g3 := Fl.o_lt x 0
    rw [t1] at g1; rw [t2] at g2; rw [t3] at g3
    have hb : Fl.bitsF x = x := by simp [Fl.bitsF, hn]
    have hl := Fl.nan_le hn
    have hk := Fl.sg_key hx
    clear t1 t2 t3
    by_cases c1 : x = 9218868437227405312
    · have H1 : Hid (upF x = x) := by show upF x = x; simp [upF, c1]
      simp only [c1, decide_true] at g1
      rw [← c1] at g1
      clear c1 g2 g3 hl hk
      go_enter Tryz.func97, Tryz.ntmps97
      go_wp2_with (first | (go_at_call 123; refine (isNone_any _ _).mono ?_; rintro e w' ⟨rfl, rfl⟩) | (go_at_call 124; refine (bits_any _ _).mono ?_; rintro e w' ⟨rfl, rfl⟩) | (go_at_call 100; refine (from_any _ _).mono ?_; rintro e w' ⟨rfl, rfl⟩))
      go_ret
      exact ⟨rf H1.out.symm, rfl⟩
    · simp only [c1, decide_false] at g1
      by_cases c2 : Fl.rg x = 0
      · have H1 : Hid (upF x = 1) := by show upF x = 1; simp [upF, hn, c1, c2]
        simp only [c2, decide_true] at g2
        clear c1 c2 g3 hl hk
        go_enter Tryz.func97, Tryz.ntmps97
        go_wp2_with (first | (go_at_call 123; refine (isNone_any _ _).mono ?_; rintro e w' ⟨rfl, rfl⟩) | (go_at_call 124; refine (bits_any _ _).mono ?_; rintro e w' ⟨rfl, rfl⟩) | (go_at_call 100; refine (from_any _ _).mono ?_; rintro e w' ⟨rfl, rfl⟩))
        go_ret
        exact ⟨rf H1.out.symm, rfl⟩
      · simp only [c2, decide_false] at g2
        by_cases c3 : 9223372036854775808 < x
        · have H1 : Hid (upF x = x - 1) := by show upF x = x - 1; simp [upF, hn, c1, c2]; omega
          simp only [c3, decide_true] at g3
          clear c1 c2 hl hk
          go_enter Tryz.func97, Tryz.ntmps97
          go_wp2_with (first | (go_at_call 123; refine (isNone_any _ _).mono ?_; rintro e w' ⟨rfl, rfl⟩) | (go_at_call 124; refine (bits_any _ _).mono ?_; rintro e w' ⟨rfl, rfl⟩) | (go_at_call 100; refine (from_any _ _).mono ?_; rintro e w' ⟨rfl, rfl⟩))
          go_ret
          exact ⟨rf H1.out.symm, rfl⟩
        · simp only [c3, decide_false] at g3
          have H1 : Hid (upF x = x + 1) := by show upF x = x + 1; simp [upF, hn, c1, c2]; omega
          clear c1 c2 hk
          go_enter Tryz.func97, Tryz.ntmps97
          go_wp2_with (first | (go_at_call 123; refine (isNone_any _ _).mono ?_; rintro e w' ⟨rfl, rfl⟩) | (go_at_call 124; refine (bits_any _ _).mono ?_; rintro e w' ⟨rfl, rfl⟩) | (go_at_call 100; refine (from_any _ _).mono ?_; rintro e w' ⟨rfl, rfl⟩))
          go_ret
          exact ⟨rf H1.out.symm, rfl⟩
  · have H1 : Hid (upF x = x) := by show upF x = x; simp [upF, hn]
    go_enter Tryz.func97, Tryz.ntmps97
    go_wp2_with (first | (go_at_call 123; refine (isNone_any _ _).mono ?_; rintro e w' ⟨rfl, rfl⟩))
    go_ret
    exact ⟨rf H1.out.symm, rfl⟩
/-- the greatest word below -/
def downF (x : Nat) : Nat := Fl.ng (upF (Fl.ng x))
end Go.Proofs.YtggphakliiodeaaGreatDoor
/-
  OWN TEXT: eddylaw01.alive returns true.
-/
namespace Go.Proofs.YtggphakliiodeaaGreatDoor
open Go.ChangeShapes Go.WideShapes Go.ChangeAt Go.RowKit
attribute [local go_sem] frombits_call tobits_call run_neg
theorem parts_alive (w : World) : Calls Tryz.prog 79 #[.float .f64 4622945017495814144] w fun e w' => e = .returned (.tuple #[.float .f64 4604930618986332160, .int .i64 4]) ∧ w' = w := by
  have c1 : (FloatKind.f64.format.order 4622945017495814144 0 == some .eq) = false := by decide +kernel
  have c2 : (FloatKind.f64.format.order 4622945017495814144 9218868437227405311 == some .gt) = false := by decide +kernel
  have c3 : (FloatKind.f64.format.order 4622945017495814144 18442240474082181119 == some .lt) = false := by decide +kernel
  have c4 : (FloatKind.f64.format.order 4622945017495814144 4622945017495814144 != some .eq) = false := by decide +kernel
  have c5 : (FloatKind.f64.format.order 4622945017495814144 4503599627370496 == some .lt) = false := by decide +kernel
  have b2 : Fl.rg 4622945017495814144 = 4622945017495814144 := by decide
  have d1 : bits .andNot .u64 4622945017495814144 9218868437227405312 = 2251799813685248 := by decide +kernel
  have d2 : bits .or .u64 2251799813685248 4602678819172646912 = 4604930618986332160 := by decide +kernel
  have d3 : bits .and .u64 1026 2047 = 1026 := by decide +kernel
  go_enter Tryz.func79, Tryz.ntmps79
  go_wp2_with (first | (go_at_call 53; refine (abs_any _ _ (by decide)).mono ?_; rintro e w' ⟨rfl, rfl⟩) | go_in)
  go_ret2
  exact ⟨rfl, rfl⟩
end Go.Proofs.YtggphakliiodeaaGreatDoor
