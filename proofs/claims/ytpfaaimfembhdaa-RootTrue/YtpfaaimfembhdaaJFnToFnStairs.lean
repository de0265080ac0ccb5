/-
  OWN TEXT: what the small functions of package float (isNone, Bits, From, Within, Finite) and math.Abs return, for every float.
-/
import Derived.Test.YtpfaaimfembhdaaRows
import Derived.Test.YtpfaaimfembhdaaJFlAToFlB
import Derived.WalkKit
import Derived.ProofKit
import Derived.OpenShut
import Derived.WalkLawsBesides
import Derived.Laws.Externs
namespace Go.Proofs.Ytpfaaimfembhdaa
open Go.ChangeShapes Go.WideShapes Go.ChangeAt Go.RowKit
theorem frombits_call (n : Int) (w : World) : (callFunc 24 #[.int .u64 n]).run Try.prog w = .ok (.value (.float .f64 n.toNat)) w := by
  rw [run_callFunc_extern Try.func24 (by kernel_rfl) (by kernel_rfl) (by kernel_rfl) (show Extern.find Try.f24 = some Extern.MathFloatBits.float64frombits by kernel_rfl)]; rfl
theorem tobits_call (n : Nat) (w : World) : (callFunc 47 #[.float .f64 n]).run Try.prog w = .ok (.value (.int .u64 n)) w := by
  rw [run_callFunc_extern Try.func47 (by kernel_rfl) (by kernel_rfl) (by kernel_rfl) (show Extern.find Try.f47 = some Extern.MathFloatBits.float64bits by kernel_rfl)]; rfl
theorem run_neg (P : Program) (x : Nat) (w : World) : (Op.unary .neg (.float .f64 x)).run P w = .ok (.float .f64 (Op.negFloat .f64 x)) w := rfl
attribute [local go_sem] frombits_call tobits_call run_neg
theorem rb {a b : Bool} (h : a = b) : Ending.returned (.bool a) = .returned (.bool b) := by rw [h]
theorem rf {a b : Nat} (h : a = b) : Ending.returned (.float .f64 a) = .returned (.float .f64 b) := by rw [h]
theorem ri {k : IntKind} {a b : Int} (h : a = b) : Ending.returned (.int k a) = .returned (.int k b) := by rw [h]

theorem isNone_any (x : Nat) (w : World) : Calls Try.prog 89 #[.float .f64 x] w fun e w' => e = .returned (.bool (Fl.nan x)) ∧ w' = w := by
  go_enter Try.func89, Try.ntmps89
  go_wp2
  go_ret
  exact ⟨rb (by rw [Fl.o_ne, Fl.eqF_self]; simp), rfl⟩
theorem bits_any (x : Nat) (w : World) : Calls Try.prog 72 #[.float .f64 x] w fun e w' => e = .returned (.int .u64 (Fl.bitsF x)) ∧ w' = w := by
  by_cases h : Fl.nan x = true
  all_goals
    go_enter Try.func72, Try.ntmps72
    go_wp2_with (go_at_call 89; refine (isNone_any _ _).mono ?_; rintro e w' ⟨rfl, rfl⟩)
    go_ret
    exact ⟨ri (by simp [Fl.bitsF, h]), rfl⟩
theorem abs_any (x : Nat) (w : World) (hx : x < 18446744073709551616) : Calls Try.prog 43 #[.float .f64 x] w fun e w' => e = .returned (.float .f64 (Fl.rg x)) ∧ w' = w := by
  go_enter Try.func43, Try.ntmps43
  go_wp2
  go_ret
  exact ⟨rf (Fl.abs_bits hx), rfl⟩
theorem within_any (x y : Nat) (w : World) (hx : x < 18446744073709551616) : Calls Try.prog 83 #[.float .f64 x, .float .f64 y] w fun e w' => e = .returned (.bool (Fl.withinB x y)) ∧ w' = w := by
  go_enter Try.func83, Try.ntmps83
  go_wp2_with (go_at_call 43; refine (abs_any _ _ hx).mono ?_; rintro e w' ⟨rfl, rfl⟩)
  go_ret
  exact ⟨rb (by
    show (FloatKind.f64.format.order (Fl.rg x) y == some .lt || FloatKind.f64.format.order (Fl.rg x) y == some .eq) = _
    rw [Fl.o_le]; unfold Fl.leF Fl.withinB; rw [Fl.nan_rg, Fl.key_rg]), rfl⟩
theorem withinB_fin (x : Nat) : Fl.withinB x 9218868437227405311 = Fl.finB x := by
  unfold Fl.withinB Fl.finB
  rw [show Fl.nan 9218868437227405311 = false from by decide, show Fl.key 9218868437227405311 = 9218868437227405311 from by decide]
  rw [Bool.eq_iff_iff]; simp [Fl.nan]; omega
theorem finite_any (x : Nat) (w : World) (hx : x < 18446744073709551616) : Calls Try.prog 64 #[.float .f64 x] w fun e w' => e = .returned (.bool (Fl.finB x)) ∧ w' = w := by
  go_enter Try.func64, Try.ntmps64
  go_wp2_with (go_at_call 83; refine (within_any _ _ _ hx).mono ?_; rintro e w' ⟨rfl, rfl⟩)
  go_ret
  exact ⟨rb (withinB_fin x), rfl⟩
end Go.Proofs.Ytpfaaimfembhdaa
/-
  OWN TEXT: what Up and Down of package float return, for every float.
-/
namespace Go.Proofs.Ytpfaaimfembhdaa
open Go.ChangeShapes Go.WideShapes Go.ChangeAt Go.RowKit
attribute [local go_sem] frombits_call tobits_call run_neg
/-- the least word above -/
def upF (x : Nat) : Nat :=
  if Fl.nan x then x else if x = 9218868437227405312 then x else if Fl.rg x = 0 then 1 else if 9223372036854775808 ≤ x then x - 1 else x + 1
theorem upF_lt {x : Nat} (hx : x < 18446744073709551616) : upF x < 18446744073709551616 := by
  unfold upF
  by_cases h1 : Fl.nan x = true
  · rw [if_pos h1]; exact hx
  · rw [if_neg h1]
    have h2 := Fl.nan_le (Bool.eq_false_iff.2 h1)
    have h3 := Fl.sg_key hx
    repeat' split
    all_goals omega
theorem up_tests {x : Nat} (hx : x < 18446744073709551616) (hn : Fl.nan x = false) :
    Fl.ltF 9218868437227405311 x = decide (x = 9218868437227405312) ∧ Fl.eqF x 0 = decide (Fl.rg x = 0) ∧ Fl.ltF x 0 = decide (9223372036854775808 < x) := by
  have hk := Fl.sg_key hx
  have hl := Fl.nan_le hn
  unfold Fl.ltF Fl.eqF
  rw [hn, show Fl.nan 9218868437227405311 = false from by decide, show Fl.key 9218868437227405311 = 9218868437227405311 from by decide, show Fl.nan 0 = false from by decide, show Fl.key 0 = 0 from by decide]
  simp only [Bool.not_false, Bool.true_and, decide_eq_decide]
  refine ⟨?_, ?_, ?_⟩ <;> omega
/-- the greatest word below -/
def downF (x : Nat) : Nat := Fl.ng (upF (Fl.ng x))
end Go.Proofs.Ytpfaaimfembhdaa
/-
  OWN TEXT: eddylaw01.alive returns true.
-/
namespace Go.Proofs.Ytpfaaimfembhdaa
open Go.ChangeShapes Go.WideShapes Go.ChangeAt Go.RowKit
attribute [local go_sem] frombits_call tobits_call run_neg
theorem parts_alive (w : World) : Calls Try.prog 54 #[.float .f64 4622945017495814144] w fun e w' => e = .returned (.tuple #[.float .f64 4604930618986332160, .int .i64 4]) ∧ w' = w := by
  have c1 : (FloatKind.f64.format.order 4622945017495814144 0 == some .eq) = false := by decide +kernel
  have c2 : (FloatKind.f64.format.order 4622945017495814144 9218868437227405311 == some .gt) = false := by decide +kernel
  have c3 : (FloatKind.f64.format.order 4622945017495814144 18442240474082181119 == some .lt) = false := by decide +kernel
  have c4 : (FloatKind.f64.format.order 4622945017495814144 4622945017495814144 != some .eq) = false := by decide +kernel
  have c5 : (FloatKind.f64.format.order 4622945017495814144 4503599627370496 == some .lt) = false := by decide +kernel
  have b2 : Fl.rg 4622945017495814144 = 4622945017495814144 := by decide
  have d1 : bits .andNot .u64 4622945017495814144 9218868437227405312 = 2251799813685248 := by decide +kernel
  have d2 : bits .or .u64 2251799813685248 4602678819172646912 = 4604930618986332160 := by decide +kernel
  have d3 : bits .and .u64 1026 2047 = 1026 := by decide +kernel
  go_enter Try.func54, Try.ntmps54
  go_wp2_with (first | (go_at_call 43; refine (abs_any _ _ (by decide)).mono ?_; rintro e w' ⟨rfl, rfl⟩) | go_in)
  go_ret2
  exact ⟨rfl, rfl⟩
end Go.Proofs.Ytpfaaimfembhdaa
/-
  OWN TEXT: the tests of eddylaw01.FloatStairs, each decided for every float; what math.IsInf and eddylaw01.finite return.
-/
namespace Go.Proofs.Ytpfaaimfembhdaa
open Go.ChangeShapes Go.WideShapes Go.ChangeAt Go.RowKit
attribute [local go_sem] frombits_call tobits_call run_neg
theorem grown_trans {a b c : World} (h : Grown a b) (k : Grown b c) : Grown a c := ⟨World.keptBut_trans h.1 k.1, fun x => (k.2.1 x).trans (h.2.1 x), Nat.le_trans h.2.2 k.2.2⟩
theorem isInf_up (x : Nat) (w : World) (hx : x < 18446744073709551616) : Calls Try.prog 26 #[.float .f64 x, .int .i64 1] w fun e w' => e = .returned (.bool (decide (x = 9218868437227405312))) ∧ w' = w := by
  go_enter Try.func26, Try.ntmps26
  go_wp2
  go_ret
  refine ⟨rb ?_, rfl⟩
  show (FloatKind.f64.format.order x 9218868437227405311 == some .gt) = _
  rw [Fl.o_gt]
  cases hn : Fl.nan x
  · exact (up_tests hx hn).1
  · have h1 := Fl.nan_lt hn
    have h2 : ¬ x = 9218868437227405312 := by intro h; subst h; revert h1; decide
    unfold Fl.ltF; rw [hn]; simp [h2]
theorem isInf_down (x : Nat) (w : World) (hx : x < 18446744073709551616) : Calls Try.prog 26 #[.float .f64 x, .int .i64 (-1)] w fun e w' => e = .returned (.bool (decide (x = 18442240474082181120))) ∧ w' = w := by
  have h1 := Fl.neg_eq hx
  go_enter Try.func26, Try.ntmps26
  go_wp2
  go_ret
  refine ⟨rb ?_, rfl⟩
  show (FloatKind.f64.format.order (Fl.ng x) 9218868437227405311 == some .gt) = _
  rw [Fl.o_gt]
  cases hn : Fl.nan x
  · rw [(up_tests (Fl.ng_lt hx) (by rw [Fl.nan_ng]; exact hn)).1, decide_eq_decide]
    unfold Fl.ng; split <;> omega
  · have h1 := Fl.nan_lt hn
    have h2 : ¬ x = 18442240474082181120 := by intro h; subst h; revert h1; decide
    unfold Fl.ltF; rw [Fl.nan_ng, hn]; simp [h2]
/-- is it infinite, of this sign (0: of any)? -/
def infB (x : Nat) (s : Int) : Bool := if s = 0 then decide (Fl.rg x = 9218868437227405312) else if s < 0 then decide (x = 18442240474082181120) else decide (x = 9218868437227405312)
theorem isInf_any (x : Nat) (s : Int) (w : World) (hx : x < 18446744073709551616) (hs : s = 0 ∨ s = 1 ∨ s = -1) : Calls Try.prog 26 #[.float .f64 x, .int .i64 s] w fun e w' => e = .returned (.bool (infB x s)) ∧ w' = w := by
  rcases hs with rfl | rfl | rfl
  · go_enter Try.func26, Try.ntmps26
    go_wp2_with (go_at_call 43; refine (abs_any _ _ (by assumption)).mono ?_; rintro e w' ⟨rfl, rfl⟩)
    go_ret
    refine ⟨rb ?_, rfl⟩
    show (FloatKind.f64.format.order (Fl.rg x) 9218868437227405311 == some .gt) = decide (Fl.rg x = 9218868437227405312)
    rw [Fl.o_gt]
    have hl := Fl.rg_lt x
    cases hn : Fl.nan x
    · exact (up_tests (x := Fl.rg x) (by omega) (by rw [Fl.nan_rg]; exact hn)).1
    · have h1 := Fl.nan_lt hn
      unfold Fl.ltF; rw [Fl.nan_rg, hn]; simp; omega
  · exact isInf_up x w hx
  · exact isInf_down x w hx
/-- an operation that has no answer draws some NaN -/
theorem run_arith_none (P : Program) (op : BinOp) (x y : Nat) (w : World) (ho : op = .add ∨ op = .sub ∨ op = .mul ∨ op = .quo) (h : floatBits op .f64 x y = none) :
    ∃ z, z < 18446744073709551616 ∧ Fl.nan z = true ∧ ∀ t, (binOp op t (.float .f64 x) (.float .f64 y)).run P w = .ok (.float .f64 z) w.drew := by
  refine ⟨(Question.nanBits .f64 x y).cut (w.tape w.drawn (.nanBits .f64 x y)), ?_, ?_, ?_⟩
  · simp only [Question.cut]; omega
  · unfold Fl.nan
    refine decide_eq_true ?_
    simp only [Question.cut, Fl.rg]
    generalize w.tape w.drawn (Question.nanBits FloatKind.f64 x y) = t
    have h2 : t / 2 % (2 ^ 52 - 1) < 2 ^ 52 - 1 := Nat.mod_lt _ (by decide)
    generalize t / 2 % (2 ^ 52 - 1) = q at h2
    have h1 : t % 2 = 0 ∨ t % 2 = 1 := by omega
    rcases h1 with h1 | h1 <;> rw [h1] <;> omega
  · intro t
    unfold floatBits at h
    rcases ho with rfl | rfl | rfl | rfl <;> simp only at h <;> simp [binOp, Op.floatArith, h, Question.forced]
theorem sub_self (x : Nat) : floatBits .sub .f64 x x = if Fl.finB x then some 0 else none := by
  show Ieee.double.sub x x = _
  unfold Ieee.Format.sub
  by_cases h : Fl.rg x < 9218868437227405312
  · obtain ⟨m, k, hm, em⟩ := Fl.read_fin h
    rw [hm, show Fl.finB x = true from by simp [Fl.finB, h]]
    simp only [Ieee.Datum.opposite, Ieee.Datum.sum, Option.map_some, if_true]
    have e0 : (-1074 + (k : Int) - min (-1074 + (k : Int)) (-1074 + (k : Int))).toNat = 0 := by omega
    have e1 : Ieee.signed (Fl.sg x) m (-1074 + (k : Int) - min (-1074 + (k : Int)) (-1074 + (k : Int))).toNat + Ieee.signed (!Fl.sg x) m (-1074 + (k : Int) - min (-1074 + (k : Int)) (-1074 + (k : Int))).toNat = 0 := by
      rw [e0]; unfold Ieee.signed; cases Fl.sg x <;> simp <;> omega
    rw [e1]
    cases Fl.sg x <;> rfl
  · rw [show Fl.finB x = false from by simp [Fl.finB, h]]
    by_cases h2 : Fl.rg x = 9218868437227405312
    · rw [Fl.read_inf h2]
      cases Fl.sg x <;> rfl
    · rw [Fl.read_nan (by omega)]; rfl
theorem key_of {x : Nat} (hx : x < 18446744073709551616) (hn : Fl.nan x = false) :
    (9223372036854775808 ≤ x ∧ Fl.key x = 9223372036854775808 - (x : Int) ∧ x ≤ 18442240474082181120 ∧ Fl.rg x = x - 9223372036854775808) ∨ (x ≤ 9218868437227405312 ∧ Fl.key x = x ∧ Fl.rg x = x) := by
  have hk := Fl.sg_key hx
  have hl := Fl.nan_le hn
  omega
theorem nan_of {x : Nat} (h : x ≤ 9218868437227405312 ∨ (9223372036854775808 ≤ x ∧ x ≤ 18442240474082181120)) : Fl.nan x = false := by
  unfold Fl.nan
  refine decide_eq_false ?_
  unfold Fl.rg
  omega
theorem key_up {x : Nat} (hx : x < 18446744073709551616) (hn : Fl.nan x = false) : Fl.nan (upF x) = false ∧ Fl.key (upF x) = if x = 9218868437227405312 then Fl.key x else Fl.key x + 1 := by
  have h := key_of hx hn
  have hu := upF_lt hx
  have e : upF x = if x = 9218868437227405312 then x else if Fl.rg x = 0 then 1 else if 9223372036854775808 ≤ x then x - 1 else x + 1 := by simp only [upF, hn, Bool.false_eq_true, if_false]
  have n : Fl.nan (upF x) = false := by
    refine nan_of ?_
    rw [e]
    repeat' split
    all_goals omega
  refine ⟨n, ?_⟩
  have k := key_of hu n
  revert k
  rw [e]
  repeat' split
  all_goals omega
theorem key_down {x : Nat} (hx : x < 18446744073709551616) (hn : Fl.nan x = false) : Fl.nan (downF x) = false ∧ Fl.key (downF x) = if x = 18442240474082181120 then Fl.key x else Fl.key x - 1 := by
  have hg := Fl.ng_lt hx
  have h1 := key_up hg (by rw [Fl.nan_ng]; exact hn)
  unfold downF
  rw [Fl.nan_ng, Fl.key_ng (upF_lt hg)]
  refine ⟨h1.1, ?_⟩
  rw [h1.2, Fl.key_ng hx]
  have e : (Fl.ng x = 9218868437227405312) ↔ x = 18442240474082181120 := by unfold Fl.ng; split <;> omega
  by_cases c : x = 18442240474082181120
  · rw [if_pos (e.2 c), if_pos c]; omega
  · rw [if_neg (fun h => c (e.1 h)), if_neg c]; omega
theorem downF_lt {x : Nat} (hx : x < 18446744073709551616) : downF x < 18446744073709551616 := Fl.ng_lt (upF_lt (Fl.ng_lt hx))
/-- the tests of FloatStairs, decided -/
theorem stairs_tests {x : Nat} (hx : x < 18446744073709551616) (hn : Fl.nan x = false) :
    (FloatKind.f64.format.order (upF x) x == some .lt) = false ∧ (FloatKind.f64.format.order (downF x) x == some .gt) = false ∧
    (FloatKind.f64.format.order (upF x) x == some .eq) = decide (x = 9218868437227405312) ∧ (FloatKind.f64.format.order (downF x) x == some .eq) = decide (x = 18442240474082181120) ∧
    (FloatKind.f64.format.order x 0 != some .eq) = decide (¬ Fl.rg x = 0) ∧ (FloatKind.f64.format.order (upF x) 0 != some .eq) = decide (¬ x = 9223372036854775809) ∧
    (FloatKind.f64.format.order x x != some .eq) = false ∧
    (FloatKind.f64.format.order (Fl.rg x) 1 == some .lt || FloatKind.f64.format.order (Fl.rg x) 1 == some .eq) = decide (Fl.rg x ≤ 1) ∧
    (FloatKind.f64.format.order (upF x) 1 != some .eq) = decide (¬ Fl.rg x = 0) ∧
    (FloatKind.f64.format.order (upF x) 2 != some .eq) = decide (¬ x = 1) ∧
    (FloatKind.f64.format.order (downF (upF x)) x == some .eq) = decide (¬ x = 9218868437227405312) := by
  have hk := key_of hx hn
  obtain ⟨nu, ku⟩ := key_up hx hn
  obtain ⟨nd, kd⟩ := key_down hx hn
  obtain ⟨nd2, kd2⟩ := key_down (upF_lt hx) nu
  have kuu := key_of (upF_lt hx) nu
  have n1 : Fl.nan 1 = false := by decide
  have k1 : Fl.key 1 = 1 := by decide
  have n2 : Fl.nan 2 = false := by decide
  have k2 : Fl.key 2 = 2 := by decide
  have n0 : Fl.nan 0 = false := by decide
  have k0 : Fl.key 0 = 0 := by decide
  have nr : Fl.nan (Fl.rg x) = false := by rw [Fl.nan_rg]; exact hn
  have kr := Fl.key_rg x
  refine ⟨?_, ?_, ?_, ?_, ?_, ?_, ?_, ?_, ?_, ?_, ?_⟩
  · rw [Fl.o_lt, Fl.ltF_of nu hn]; refine decide_eq_false ?_; rw [ku]; split <;> omega
  · rw [Fl.o_gt, Fl.ltF_of hn nd]; refine decide_eq_false ?_; rw [kd]; split <;> omega
  · rw [Fl.o_eq, Fl.eqF_of nu hn, decide_eq_decide, ku]; split <;> omega
  · rw [Fl.o_eq, Fl.eqF_of nd hn, decide_eq_decide, kd]; split <;> omega
  · rw [Fl.o_ne, Fl.eqF_of hn n0, k0, ← decide_not, decide_eq_decide]; omega
  · rw [Fl.o_ne, Fl.eqF_of nu n0, k0, ← decide_not, decide_eq_decide, ku]; split <;> omega
  · rw [Fl.o_ne, Fl.eqF_self, hn]; rfl
  · rw [Fl.o_le, Fl.leF_of nr n1, k1, kr, decide_eq_decide]; omega
  · rw [Fl.o_ne, Fl.eqF_of nu n1, k1, ← decide_not, decide_eq_decide, ku]; split <;> omega
  · rw [Fl.o_ne, Fl.eqF_of nu n2, k2, ← decide_not, decide_eq_decide, ku]; split <;> omega
  · rw [Fl.o_eq, Fl.eqF_of nd2 hn, decide_eq_decide, kd2, ku]
    have e : upF x = 18442240474082181120 ↔ False := by
      constructor
      · intro h; rw [h] at kuu; revert ku kuu; rw [h, show Fl.key 18442240474082181120 = -9218868437227405312 from by decide]; intro ku; split at ku <;> omega
      · exact False.elim
    rw [if_neg (fun h => e.1 h)]
    split <;> omega
end Go.Proofs.Ytpfaaimfembhdaa
