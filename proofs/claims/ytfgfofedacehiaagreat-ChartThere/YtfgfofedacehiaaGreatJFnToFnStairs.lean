/-
 OWN TEXT: what the small functions of package float (isNone, Bits, From, Within, Finite) and math.Abs return, for every float.
-/
import Derived.Test.YtfgfofedacehiaaGreatRows
import Derived.Test.YtfgfofedacehiaaGreatJFlAToFlB
import Derived.WalkKit
import Derived.ProofKit
import Derived.OpenShut
import Derived.WalkLawsBesides
import Derived.Laws.Externs
namespace Go.Proofs.YtfgfofedacehiaaGreat
open Go.ChangeShapes Go.WideShapes Go.ChangeAt Go.RowKit
theorem frombits_call (n : Int) (w : World) : (callFunc 38 #[.int .u64 n]).run Tryz.prog w = .ok (.value (.float .f64 n.toNat)) w := by
 rw [run_callFunc_extern Tryz.func38 (by kernel_rfl) (by kernel_rfl) (by kernel_rfl) (show Extern.find Tryz.f38 = some Extern.MathFloatBits.float64frombits by kernel_rfl)]; rfl
theorem tobits_call (n : Nat) (w : World) : (callFunc 39 #[.float .f64 n]).run Tryz.prog w = .ok (.value (.int .u64 n)) w := by
 rw [run_callFunc_extern Tryz.func39 (by kernel_rfl) (by kernel_rfl) (by kernel_rfl) (show Extern.find Tryz.f39 = some Extern.MathFloatBits.float64bits by kernel_rfl)]; rfl
theorem run_neg (P : Program) (x : Nat) (w : World) : (Op.unary .neg (.float .f64 x)).run P w = .ok (.float .f64 (Op.negFloat .f64 x)) w := rfl
attribute [local go_sem] frombits_call tobits_call run_neg
theorem rb {a b : Bool} (h : a = b) : Ending.returned (.bool a) = .returned (.bool b) := by rw [h]
theorem rf {a b : Nat} (h : a = b) : Ending.returned (.float .f64 a) = .returned (.float .f64 b) := by rw [h]
theorem ri {k : IntKind} {a b : Int} (h : a = b) : Ending.returned (.int k a) = .returned (.int k b) := by rw [h]
theorem isNone_any (x : Nat) (w : World) : Calls Tryz.prog 102 #[.float .f64 x] w fun e w' => e = .returned (.bool (Fl.nan x)) ∧ w' = w := by
 go_enter Tryz.func102, Tryz.ntmps102
 go_wp2
 go_ret
 exact ⟨rb (by rw [Fl.o_ne, Fl.eqF_self]; simp), rfl⟩
theorem bits_any (x : Nat) (w : World) : Calls Tryz.prog 85 #[.float .f64 x] w fun e w' => e = .returned (.int .u64 (Fl.bitsF x)) ∧ w' = w := by
 by_cases h : Fl.nan x = true
 all_goals
  go_enter Tryz.func85, Tryz.ntmps85
  go_wp2_with (go_at_call 102; refine (isNone_any _ _).mono ?_; rintro e w' ⟨rfl, rfl⟩)
  go_ret
  exact ⟨ri (by simp [Fl.bitsF, h]), rfl⟩
theorem abs_any (x : Nat) (w : World) (hx : x < 18446744073709551616) : Calls Tryz.prog 61 #[.float .f64 x] w fun e w' => e = .returned (.float .f64 (Fl.rg x)) ∧ w' = w := by
 go_enter Tryz.func61, Tryz.ntmps61
 go_wp2
 go_ret
 exact ⟨rf (Fl.abs_bits hx), rfl⟩
theorem within_any (x y : Nat) (w : World) (hx : x < 18446744073709551616) : Calls Tryz.prog 78 #[.float .f64 x, .float .f64 y] w fun e w' => e = .returned (.bool (Fl.withinB x y)) ∧ w' = w := by
 go_enter Tryz.func78, Tryz.ntmps78
 go_wp2_with (go_at_call 61; refine (abs_any _ _ hx).mono ?_; rintro e w' ⟨rfl, rfl⟩)
 go_ret
 exact ⟨rb (by
  show (FloatKind.f64.format.order (Fl.rg x) y == some .lt || FloatKind.f64.format.order (Fl.rg x) y == some .eq) = _
  rw [Fl.o_le]; unfold Fl.leF Fl.withinB; rw [Fl.nan_rg, Fl.key_rg]), rfl⟩
theorem withinB_fin (x : Nat) : Fl.withinB x 9218868437227405311 = Fl.finB x := by
 unfold Fl.withinB Fl.finB
 rw [show Fl.nan 9218868437227405311 = false from by decide, show Fl.key 9218868437227405311 = 9218868437227405311 from by decide]
 rw [Bool.eq_iff_iff]; simp [Fl.nan]; omega
theorem finite_any (x : Nat) (w : World) (hx : x < 18446744073709551616) : Calls Tryz.prog 43 #[.float .f64 x] w fun e w' => e = .returned (.bool (Fl.finB x)) ∧ w' = w := by
 go_enter Tryz.func43, Tryz.ntmps43
 go_wp2_with (go_at_call 78; refine (within_any _ _ _ hx).mono ?_; rintro e w' ⟨rfl, rfl⟩)
 go_ret
 exact ⟨rb (withinB_fin x), rfl⟩
end Go.Proofs.YtfgfofedacehiaaGreat

/-
 OWN TEXT: what Up and Down of package float return, for every float.
-/
namespace Go.Proofs.YtfgfofedacehiaaGreat
open Go.ChangeShapes Go.WideShapes Go.ChangeAt Go.RowKit
attribute [local go_sem] frombits_call tobits_call run_neg
theorem up_tests {x : Nat} (hx : x < 18446744073709551616) (hn : Fl.nan x = false) :
  Fl.ltF 9218868437227405311 x = decide (x = 9218868437227405312) ∧ Fl.eqF x 0 = decide (Fl.rg x = 0) ∧ Fl.ltF x 0 = decide (9223372036854775808 < x) := by
 have hk := Fl.sg_key hx
 have hl := Fl.nan_le hn
 unfold Fl.ltF Fl.eqF
 rw [hn, show Fl.nan 9218868437227405311 = false from by decide, show Fl.key 9218868437227405311 = 9218868437227405311 from by decide, show Fl.nan 0 = false from by decide, show Fl.key 0 = 0 from by decide]
 simp only [Bool.not_false, Bool.true_and, decide_eq_decide]
 refine ⟨?_, ?_, ?_⟩ <;> omega
end Go.Proofs.YtfgfofedacehiaaGreat

/-
 OWN TEXT: eddylaw01.alive returns true.
-/
namespace Go.Proofs.YtfgfofedacehiaaGreat
open Go.ChangeShapes Go.WideShapes Go.ChangeAt Go.RowKit
attribute [local go_sem] frombits_call tobits_call run_neg
end Go.Proofs.YtfgfofedacehiaaGreat

/-
 OWN TEXT: the tests of eddylaw01.FloatStairs, each decided for every float; what math.IsInf and eddylaw01.finite return.
-/
namespace Go.Proofs.YtfgfofedacehiaaGreat
open Go.ChangeShapes Go.WideShapes Go.ChangeAt Go.RowKit
attribute [local go_sem] frombits_call tobits_call run_neg
theorem isInf_up (x : Nat) (w : World) (hx : x < 18446744073709551616) : Calls Tryz.prog 45 #[.float .f64 x, .int .i64 1] w fun e w' => e = .returned (.bool (decide (x = 9218868437227405312))) ∧ w' = w := by
 go_enter Tryz.func45, Tryz.ntmps45
 go_wp2
 go_ret
 refine ⟨rb ?_, rfl⟩
 show (FloatKind.f64.format.order x 9218868437227405311 == some .gt) = _
 rw [Fl.o_gt]
 cases hn : Fl.nan x
 · exact (up_tests hx hn).1
 ·
  have h1 := Fl.nan_lt hn
  have h2 : ¬ x = 9218868437227405312 := by intro h; subst h; revert h1; decide
  unfold Fl.ltF; rw [hn]; simp [h2]
theorem isInf_down (x : Nat) (w : World) (hx : x < 18446744073709551616) : Calls Tryz.prog 45 #[.float .f64 x, .int .i64 (-1)] w fun e w' => e = .returned (.bool (decide (x = 18442240474082181120))) ∧ w' = w := by
 have h1 := Fl.neg_eq hx
 go_enter Tryz.func45, Tryz.ntmps45
 go_wp2
 go_ret
 refine ⟨rb ?_, rfl⟩
 show (FloatKind.f64.format.order (Fl.ng x) 9218868437227405311 == some .gt) = _
 rw [Fl.o_gt]
 cases hn : Fl.nan x
 ·
  rw [(up_tests (Fl.ng_lt hx) (by rw [Fl.nan_ng]; exact hn)).1, decide_eq_decide]
  unfold Fl.ng; split <;> omega
 ·
  have h1 := Fl.nan_lt hn
  have h2 : ¬ x = 18442240474082181120 := by intro h; subst h; revert h1; decide
  unfold Fl.ltF; rw [Fl.nan_ng, hn]; simp [h2]
/-- is it infinite, of this sign (0: of any)? -/
def infB (x : Nat) (s : Int) : Bool := if s = 0 then decide (Fl.rg x = 9218868437227405312) else if s < 0 then decide (x = 18442240474082181120) else decide (x = 9218868437227405312)
theorem isInf_any (x : Nat) (s : Int) (w : World) (hx : x < 18446744073709551616) (hs : s = 0 ∨ s = 1 ∨ s = -1) : Calls Tryz.prog 45 #[.float .f64 x, .int .i64 s] w fun e w' => e = .returned (.bool (infB x s)) ∧ w' = w := by
 rcases hs with rfl | rfl | rfl
 ·
  go_enter Tryz.func45, Tryz.ntmps45
  go_wp2_with (go_at_call 61; refine (abs_any _ _ (by assumption)).mono ?_; rintro e w' ⟨rfl, rfl⟩)
  go_ret
  refine ⟨rb ?_, rfl⟩
  show (FloatKind.f64.format.order (Fl.rg x) 9218868437227405311 == some .gt) = decide (Fl.rg x = 9218868437227405312)
  rw [Fl.o_gt]
  have hl := Fl.rg_lt x
  cases hn : Fl.nan x
  · exact (up_tests (x := Fl.rg x) (by omega) (by rw [Fl.nan_rg]; exact hn)).1
  ·
   have h1 := Fl.nan_lt hn
   unfold Fl.ltF; rw [Fl.nan_rg, hn]; simp; omega
 · exact isInf_up x w hx
 · exact isInf_down x w hx
/-- an operation that has no answer draws some NaN -/
theorem run_arith_none (P : Program) (op : BinOp) (x y : Nat) (w : World) (ho : op = .add ∨ op = .sub ∨ op = .mul ∨ op = .quo) (h : floatBits op .f64 x y = none) :
  ∃ z, z < 18446744073709551616 ∧ Fl.nan z = true ∧ ∀ t, (binOp op t (.float .f64 x) (.float .f64 y)).run P w = .ok (.float .f64 z) w.drew := by
 refine ⟨(Question.nanBits .f64 x y).cut (w.tape w.drawn (.nanBits .f64 x y)), ?_, ?_, ?_⟩
 · simp only [Question.cut]; omega
 ·
  unfold Fl.nan
  refine decide_eq_true ?_
  simp only [Question.cut, Fl.rg]
  generalize w.tape w.drawn (Question.nanBits FloatKind.f64 x y) = t
  have h2 : t / 2 % (2 ^ 52 - 1) < 2 ^ 52 - 1 := Nat.mod_lt _ (by decide)
  generalize t / 2 % (2 ^ 52 - 1) = q at h2
  have h1 : t % 2 = 0 ∨ t % 2 = 1 := by omega
  rcases h1 with h1 | h1 <;> rw [h1] <;> omega
 ·
  intro t
  unfold floatBits at h
  rcases ho with rfl | rfl | rfl | rfl <;> simp only at h <;> simp [binOp, Op.floatArith, h, Question.forced]
theorem sub_self (x : Nat) : floatBits .sub .f64 x x = if Fl.finB x then some 0 else none := by
 show Ieee.double.sub x x = _
 unfold Ieee.Format.sub
 by_cases h : Fl.rg x < 9218868437227405312
 ·
  obtain ⟨m, k, hm, em⟩ := Fl.read_fin h
  rw [hm, show Fl.finB x = true from by simp [Fl.finB, h]]
  simp only [Ieee.Datum.opposite, Ieee.Datum.sum, Option.map_some, if_true]
  have e0 : (-1074 + (k : Int) - min (-1074 + (k : Int)) (-1074 + (k : Int))).toNat = 0 := by omega
  have e1 : Ieee.signed (Fl.sg x) m (-1074 + (k : Int) - min (-1074 + (k : Int)) (-1074 + (k : Int))).toNat + Ieee.signed (!Fl.sg x) m (-1074 + (k : Int) - min (-1074 + (k : Int)) (-1074 + (k : Int))).toNat = 0 := by
   rw [e0]; unfold Ieee.signed; cases Fl.sg x <;> simp <;> omega
  rw [e1]
  cases Fl.sg x <;> rfl
 ·
  rw [show Fl.finB x = false from by simp [Fl.finB, h]]
  by_cases h2 : Fl.rg x = 9218868437227405312
  ·
   rw [Fl.read_inf h2]
   cases Fl.sg x <;> rfl
  · rw [Fl.read_nan (by omega)]; rfl
end Go.Proofs.YtfgfofedacehiaaGreat

