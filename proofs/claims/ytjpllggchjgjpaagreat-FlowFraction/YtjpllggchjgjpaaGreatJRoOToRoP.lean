/-
 OWN TEXT: package roots, as it landed: squares, orders, lengths, for every number.
-/
import Derived.Test.YtjpllggchjgjpaaGreatJPoAToAnM
import Derived.Test.YtjpllggchjgjpaaGreatJRoTToAnC
import Derived.Test.YtjpllggchjgjpaaGreatJApAToAnP
namespace Go.Proofs.YtjpllggchjgjpaaGreat
open Go.ChangeShapes Go.WideShapes Go.ChangeAt Go.RowKit
set_option linter.unusedVariables false
attribute [local go_sem] frombits_call tobits_call run_neg
end Go.Proofs.YtjpllggchjgjpaaGreat

/-
 OWN TEXT: package roots, as it landed: roots, polar forms, places, units, nearness, for every number.
-/
namespace Go.Proofs.YtjpllggchjgjpaaGreat
open Go.ChangeShapes Go.WideShapes Go.ChangeAt Go.RowKit
set_option linter.unusedVariables false
attribute [local go_sem] frombits_call tobits_call run_neg
theorem rq_nought : Fl.rq 0 1074 = 0 := by decide +kernel
theorem mul_nought {b p : Nat} (fb : Fl.rg b < 9218868437227405312) (h : opR .mul b 0 p) : p = Fl.wd (Fl.sg b) 0 := by
 have hr : Fl.rg 0 = 0 := by decide
 have hv : Fl.vl 0 = 0 := by decide
 have hs : Fl.sg 0 = false := by decide
 have e : ∀ c v, v = 0 → c = 1074 → Fl.rq v c = 0 := by rintro _ _ rfl rfl; exact rq_nought
 obtain ⟨c, hc⟩ : ∃ c, c = 1074 := ⟨_, rfl⟩
 have m := Fl.mul_fin fb (show Fl.rg 0 < 9218868437227405312 by decide)
 rw [← hc, e c _ (by rw [hr, hv, Nat.mul_zero]) hc, hs, Bool.xor_false] at m
 have m' : floatBits .mul .f64 b 0 = some (Fl.wd (Fl.sg b) 0) := m
 rcases h.2 with q | q
 · rw [m'] at q; exact (Option.some.inj q).symm
 · rw [m'] at q; cases q.1
theorem pfinite_any (a b : Nat) (w : World) (ha : a < 18446744073709551616) (hb : b < 18446744073709551616) : Calls Tryz.prog 32 #[.complex .f64 a b] w fun e w' => e = .returned (.bool (Fl.finB a && Fl.finB b)) ∧ w' = w := by
 have NA : Hid (∀ wz, Calls Tryz.prog 52 #[.float .f64 a] wz fun e w' => e = .returned (.bool (Fl.finB a)) ∧ w' = wz) := fun wz => finite_any a wz ha
 have NB : Hid (∀ wz, Calls Tryz.prog 52 #[.float .f64 b] wz fun e w' => e = .returned (.bool (Fl.finB b)) ∧ w' = wz) := fun wz => finite_any b wz hb
 generalize Fl.finB a = x at *
 generalize Fl.finB b = y at *
 cases x
 ·
  go_enter Tryz.func32, Tryz.ntmps32
  go_wp2_with fail
  refine (NA.out _).mono ?_
  rintro e' w ⟨rfl, rfl⟩
  go_wp2
  go_ret
  exact ⟨rfl, rfl⟩
 ·
  go_enter Tryz.func32, Tryz.ntmps32
  go_wp2_with fail
  refine (NA.out _).mono ?_
  rintro e' w ⟨rfl, rfl⟩
  go_wp2_with fail
  refine (NB.out _).mono ?_
  rintro e' w ⟨rfl, rfl⟩
  go_wp2
  go_ret
  exact ⟨by cases y <;> rfl, rfl⟩
theorem csum_run {op : BinOp} (hop : op = .add ∨ op = .sub) {a b c d x y : Nat} {P : Program} {w w1 w2 : World} (e1 : ∀ t, (binOp op t (.float .f64 a) (.float .f64 c)).run P w = .ok (.float .f64 x) w1) (e2 : ∀ t, (binOp op t (.float .f64 b) (.float .f64 d)).run P w1 = .ok (.float .f64 y) w2) (t : TypeId) : (binOp op t (.complex .f64 a b) (.complex .f64 c d)).run P w = .ok (.complex .f64 x y) w2 := by
 rcases hop with rfl | rfl
 ·
  have k1 : (Op.floatArith .add .f64 a c).run P w = .ok (.float .f64 x) w1 := e1 0
  have k2 : (Op.floatArith .add .f64 b d).run P w1 = .ok (.float .f64 y) w2 := e2 0
  simp [binOp, Op.complexOp, Op.Complex.arith, k1, k2]
 ·
  have k1 : (Op.floatArith .sub .f64 a c).run P w = .ok (.float .f64 x) w1 := e1 0
  have k2 : (Op.floatArith .sub .f64 b d).run P w1 = .ok (.float .f64 y) w2 := e2 0
  simp [binOp, Op.complexOp, Op.Complex.arith, k1, k2]
end Go.Proofs.YtjpllggchjgjpaaGreat

