/-
  OWN TEXT: the law FloatNear, over the library's table.
-/
import Derived.Test.YtldkohoemiahiaaDoorRfJ
import Derived.Test.YtldkohoemiahiaaDoorRfH
import Derived.Test.YtldkohoemiahiaaDoorRfA
namespace Go.Proofs.YtldkohoemiahiaaDoor
open Go.ChangeShapes Go.WideShapes Go.ChangeAt Go.RowKit
open Bg
set_option linter.unusedVariables false
attribute [local go_sem] frombits_call tobits_call run_neg
theorem same_self (z : Nat) : Fl.sameB z z = true := by unfold Fl.sameB; simp
/-- what both answer of a float made whole -/
theorem rwhole_any (x : Nat) (w : World) (hx : x < 18446744073709551616) : Calls Tryd.prog 15 #[.float .f64 x] w fun e w' => e = .returned (.float .f64 (if Fl.nan x then x else Fl.whF x)) ∧ w' = w := by
  cases hn : Fl.nan x
  · rw [if_neg (by decide)]
    by_cases c : Fl.rg x = 0 ∨ 4841369599423283200 ≤ Fl.rg x
    · rw [wh_stay x 1074 rfl hx hn c]
      exact rwhole_stay x w hx (Or.inr c)
    · exact rwhole_small x w hx (by omega) (by omega)
  · rw [if_pos rfl]
    exact rwhole_stay x w hx (Or.inl hn)
theorem whole_any (x : Nat) (w : World) (hx : x < 18446744073709551616) : Calls Tryd.prog 14 #[.float .f64 x] w fun e w' => ∃ z, e = .returned (.float .f64 z) ∧ Fl.sameB z (if Fl.nan x then x else Fl.whF x) = true ∧ Grown w w' := by
  cases hn : Fl.nan x
  · rw [if_neg (by decide)]
    refine (whole_num x w hn).mono ?_
    rintro e w' ⟨rfl, rfl⟩
    exact ⟨_, rfl, same_self _, Grown.refl _⟩
  · rw [if_pos rfl]
    refine (whole_nan x w hx hn).mono ?_
    rintro e w' ⟨z, rfl, nz, _, hg⟩
    exact ⟨z, rfl, by unfold Fl.sameB; rw [nz, hn]; rfl, hg⟩
set_option maxHeartbeats 8000000 in
set_option maxRecDepth 100000 in
theorem floatnear_any (x : Nat) (n : Int) (w : World) (hx : x < 18446744073709551616) (hn : -9223372036854775808 ≤ n) (hn' : n ≤ 9223372036854775807) (hT : Tab w) (hw : 2 ≤ w.heap.size) :
    Calls Tryd.prog 3 #[.int .u64 (x : Int), .int .i64 n] w fun e w' => e = .returned (.bool true) ∧ Grown w w' := by
  have s1 := same_self (upF x)
  have s2 := same_self (downF x)
  have s3 := same_self (paF x)
  have s4 := same_self (scF x n)
  have SC : Hid (∀ wz, wz = w → Calls Tryd.prog 13 #[.float .f64 x, .int .i64 n] wz fun e w' => e = .returned (.float .f64 (scF x n)) ∧ Fr wz w') := fun wz h => by subst h; exact rscale_any x n _ hx hT hw
  obtain ⟨W, hW⟩ : ∃ W, (if Fl.nan x then x else Fl.whF x) = W := ⟨_, rfl⟩
  have WA : Hid (∀ wz, Calls Tryd.prog 14 #[.float .f64 x] wz fun e w' => ∃ z, e = .returned (.float .f64 z) ∧ Fl.sameB z W = true ∧ Grown wz w') := fun wz => by rw [← hW]; exact whole_any x wz hx
  have RW : Hid (∀ wz, Calls Tryd.prog 15 #[.float .f64 x] wz fun e w' => e = .returned (.float .f64 W) ∧ w' = wz) := fun wz => by rw [← hW]; exact rwhole_any x wz hx
  clear hT hw hW
  go_enter Tryd.func3, Tryd.ntmps3
  go_wp2_with (first
    | (go_at_call 4; refine (f_any _ _).mono ?_; rintro e w ⟨rfl, rfl⟩)
    | (go_at_call 5; refine (parts_any _ _ (by assumption)).mono ?_; rintro e w ⟨rfl, rfl⟩)
    | (go_at_call 6; refine (rparts_any _ _ (by assumption)).mono ?_; rintro e w ⟨rfl, rfl⟩)
    | (go_at_call 8; refine (up_any _ _ (by assumption)).mono ?_; rintro e w ⟨rfl, rfl⟩)
    | (go_at_call 9; refine (rup_any _ _ (by assumption)).mono ?_; rintro e w ⟨rfl, rfl⟩)
    | (go_at_call 10; refine (down_any _ _ (by assumption)).mono ?_; rintro e w ⟨rfl, rfl⟩)
    | (go_at_call 11; refine (rdown_any _ _ (by assumption)).mono ?_; rintro e w ⟨rfl, rfl⟩)
    | (go_at_call 7; refine (rsame_any _ _ _).mono ?_; rintro e w ⟨rfl, rfl⟩)
    | (go_at_call 12; refine (scale_any _ _ _ (by assumption) (by assumption) (by assumption)).mono ?_; rintro e w ⟨rfl, rfl⟩)
    | fail)
  refine (SC.out _ rfl).mono ?_
  rintro e w8 ⟨rfl, f8⟩
  have g8 : Grown w w8 := f8.grown
  clear f8 SC
  go_wp2_with (first
    | (go_at_call 7; refine (rsame_any _ _ _).mono ?_; rintro e w7 ⟨rfl, rfl⟩)
    | fail)
  refine (WA.out _).mono ?_
  rintro e w9 ⟨z, rfl, hzz, g9⟩
  have g := grown_trans g8 g9
  clear g8 g9
  go_wp2_with (first
    | (go_at_call 15; refine (RW.out _).mono ?_; rintro e w7 ⟨rfl, rfl⟩)
    | (go_at_call 7; refine (rsame_any _ _ _).mono ?_; rintro e w7 ⟨rfl, rfl⟩))
  go_ret
  exact ⟨rfl, g⟩
end Go.Proofs.YtldkohoemiahiaaDoor
