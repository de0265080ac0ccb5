/-
  OWN TEXT: the tests of eddylaw01.FloatStairs, each decided for every float; what math.IsInf and eddylaw01.finite return.
-/
import Derived.Test.YtmbjgakehghdjaaJac
import Derived.Test.YtmbjgakehghdjaaJab
namespace Go.Proofs.Ytmbjgakehghdjaa
open Go.ChangeShapes Go.WideShapes Go.ChangeAt Go.RowKit
attribute [local go_sem] frombits_call tobits_call run_neg
theorem grown_trans {a b c : World} (h : Grown a b) (k : Grown b c) : Grown a c := ⟨World.keptBut_trans h.1 k.1, fun x => (k.2.1 x).trans (h.2.1 x), Nat.le_trans h.2.2 k.2.2⟩
/-- is it infinite, of this sign (0: of any)? -/
def infB (x : Nat) (s : Int) : Bool := if s = 0 then decide (Fl.rg x = 9218868437227405312) else if s < 0 then decide (x = 18442240474082181120) else decide (x = 9218868437227405312)
/-- an operation that has no answer draws some NaN -/
theorem run_arith_none (P : Program) (op : BinOp) (x y : Nat) (w : World) (ho : op = .add ∨ op = .sub ∨ op = .mul ∨ op = .quo) (h : floatBits op .f64 x y = none) :
    ∃ z, z < 18446744073709551616 ∧ Fl.nan z = true ∧ ∀ t, (binOp op t (.float .f64 x) (.float .f64 y)).run P w = .ok (.float .f64 z) w.drew := by
  refine ⟨(Question.nanBits .f64 x y).cut (w.tape w.drawn (.nanBits .f64 x y)), ?_, ?_, ?_⟩
  · simp only [Question.cut]; omega
  · unfold Fl.nan
    refine decide_eq_true ?_
    simp only [Question.cut, Fl.rg]
    generalize w.tape w.drawn (Question.nanBits FloatKind.f64 x y) = t
    have h2 : t / 2 % (2 ^ 52 - 1) < 2 ^ 52 - 1 := Nat.mod_lt _ (by decide)
    generalize t / 2 % (2 ^ 52 - 1) = q at h2
    have h1 : t % 2 = 0 ∨ t % 2 = 1 := by omega
    rcases h1 with h1 | h1 <;> rw [h1] <;> omega
  · intro t
    unfold floatBits at h
    rcases ho with rfl | rfl | rfl | rfl <;> simp only at h <;> simp [binOp, Op.floatArith, h, Question.forced]
theorem sub_self (x : Nat) : floatBits .sub .f64 x x = if Fl.finB x then some 0 else none := by
  show Ieee.double.sub x x = _
  unfold Ieee.Format.sub
  by_cases h : Fl.rg x < 9218868437227405312
  · obtain ⟨m, k, hm, em⟩ := Fl.read_fin h
    rw [hm, show Fl.finB x = true from by simp [Fl.finB, h]]
    simp only [Ieee.Datum.opposite, Ieee.Datum.sum, Option.map_some, if_true]
    have e0 : (-1074 + (k : Int) - min (-1074 + (k : Int)) (-1074 + (k : Int))).toNat = 0 := by omega
    have e1 : Ieee.signed (Fl.sg x) m (-1074 + (k : Int) - min (-1074 + (k : Int)) (-1074 + (k : Int))).toNat + Ieee.signed (!Fl.sg x) m (-1074 + (k : Int) - min (-1074 + (k : Int)) (-1074 + (k : Int))).toNat = 0 := by
      rw [e0]; unfold Ieee.signed; cases Fl.sg x <;> simp <;> omega
    rw [e1]
    cases Fl.sg x <;> rfl
  · rw [show Fl.finB x = false from by simp [Fl.finB, h]]
    by_cases h2 : Fl.rg x = 9218868437227405312
    · rw [Fl.read_inf h2]
      cases Fl.sg x <;> rfl
    · rw [Fl.read_nan (by omega)]; rfl
theorem key_of {x : Nat} (hx : x < 18446744073709551616) (hn : Fl.nan x = false) :
    (9223372036854775808 ≤ x ∧ Fl.key x = 9223372036854775808 - (x : Int) ∧ x ≤ 18442240474082181120 ∧ Fl.rg x = x - 9223372036854775808) ∨ (x ≤ 9218868437227405312 ∧ Fl.key x = x ∧ Fl.rg x = x) := by
  have hk := Fl.sg_key hx
  have hl := Fl.nan_le hn
  omega
theorem nan_of {x : Nat} (h : x ≤ 9218868437227405312 ∨ (9223372036854775808 ≤ x ∧ x ≤ 18442240474082181120)) : Fl.nan x = false := by
  unfold Fl.nan
  refine decide_eq_false ?_
  unfold Fl.rg
  omega
theorem key_up {x : Nat} (hx : x < 18446744073709551616) (hn : Fl.nan x = false) : Fl.nan (upF x) = false ∧ Fl.key (upF x) = if x = 9218868437227405312 then Fl.key x else Fl.key x + 1 := by
  have h := key_of hx hn
  have hu := upF_lt hx
  have e : upF x = if x = 9218868437227405312 then x else if Fl.rg x = 0 then 1 else if 9223372036854775808 ≤ x then x - 1 else x + 1 := by simp only [upF, hn, Bool.false_eq_true, if_false]
  have n : Fl.nan (upF x) = false := by
    refine nan_of ?_
    rw [e]
    repeat' split
    all_goals omega
  refine ⟨n, ?_⟩
  have k := key_of hu n
  revert k
  rw [e]
  repeat' split
  all_goals omega
theorem key_down {x : Nat} (hx : x < 18446744073709551616) (hn : Fl.nan x = false) : Fl.nan (downF x) = false ∧ Fl.key (downF x) = if x = 18442240474082181120 then Fl.key x else Fl.key x - 1 := by
  have hg := Fl.ng_lt hx
  have h1 := key_up hg (by rw [Fl.nan_ng]; exact hn)
  unfold downF
  rw [Fl.nan_ng, Fl.key_ng (upF_lt hg)]
  refine ⟨h1.1, ?_⟩
  rw [h1.2, Fl.key_ng hx]
  have e : (Fl.ng x = 9218868437227405312) ↔ x = 18442240474082181120 := by unfold Fl.ng; split <;> omega
  by_cases c : x = 18442240474082181120
  · rw [if_pos (e.2 c), if_pos c]; omega
  · rw [if_neg (fun h => c (e.1 h)), if_neg c]; omega
theorem downF_lt {x : Nat} (hx : x < 18446744073709551616) : downF x < 18446744073709551616 := Fl.ng_lt (upF_lt (Fl.ng_lt hx))
/-- the tests of FloatStairs, decided -/
theorem stairs_tests {x : Nat} (hx : x < 18446744073709551616) (hn : Fl.nan x = false) :
    (FloatKind.f64.format.order (upF x) x == some .lt) = false ∧ (FloatKind.f64.format.order (downF x) x == some .gt) = false ∧
    (FloatKind.f64.format.order (upF x) x == some .eq) = decide (x = 9218868437227405312) ∧ (FloatKind.f64.format.order (downF x) x == some .eq) = decide (x = 18442240474082181120) ∧
    (FloatKind.f64.format.order x 0 != some .eq) = decide (¬ Fl.rg x = 0) ∧ (FloatKind.f64.format.order (upF x) 0 != some .eq) = decide (¬ x = 9223372036854775809) ∧
    (FloatKind.f64.format.order x x != some .eq) = false ∧
    (FloatKind.f64.format.order (Fl.rg x) 1 == some .lt || FloatKind.f64.format.order (Fl.rg x) 1 == some .eq) = decide (Fl.rg x ≤ 1) ∧
    (FloatKind.f64.format.order (upF x) 1 != some .eq) = decide (¬ Fl.rg x = 0) ∧
    (FloatKind.f64.format.order (upF x) 2 != some .eq) = decide (¬ x = 1) ∧
    (FloatKind.f64.format.order (downF (upF x)) x == some .eq) = decide (¬ x = 9218868437227405312) := by
  have hk := key_of hx hn
  obtain ⟨nu, ku⟩ := key_up hx hn
  obtain ⟨nd, kd⟩ := key_down hx hn
  obtain ⟨nd2, kd2⟩ := key_down (upF_lt hx) nu
  have kuu := key_of (upF_lt hx) nu
  have n1 : Fl.nan 1 = false := by decide
  have k1 : Fl.key 1 = 1 := by decide
  have n2 : Fl.nan 2 = false := by decide
  have k2 : Fl.key 2 = 2 := by decide
  have n0 : Fl.nan 0 = false := by decide
  have k0 : Fl.key 0 = 0 := by decide
  have nr : Fl.nan (Fl.rg x) = false := by rw [Fl.nan_rg]; exact hn
  have kr := Fl.key_rg x
  refine ⟨?_, ?_, ?_, ?_, ?_, ?_, ?_, ?_, ?_, ?_, ?_⟩
  · rw [Fl.o_lt, Fl.ltF_of nu hn]; refine decide_eq_false ?_; rw [ku]; split <;> omega
  · rw [Fl.o_gt, Fl.ltF_of hn nd]; refine decide_eq_false ?_; rw [kd]; split <;> omega
  · rw [Fl.o_eq, Fl.eqF_of nu hn, decide_eq_decide, ku]; split <;> omega
  · rw [Fl.o_eq, Fl.eqF_of nd hn, decide_eq_decide, kd]; split <;> omega
  · rw [Fl.o_ne, Fl.eqF_of hn n0, k0, ← decide_not, decide_eq_decide]; omega
  · rw [Fl.o_ne, Fl.eqF_of nu n0, k0, ← decide_not, decide_eq_decide, ku]; split <;> omega
  · rw [Fl.o_ne, Fl.eqF_self, hn]; rfl
  · rw [Fl.o_le, Fl.leF_of nr n1, k1, kr, decide_eq_decide]; omega
  · rw [Fl.o_ne, Fl.eqF_of nu n1, k1, ← decide_not, decide_eq_decide, ku]; split <;> omega
  · rw [Fl.o_ne, Fl.eqF_of nu n2, k2, ← decide_not, decide_eq_decide, ku]; split <;> omega
  · rw [Fl.o_eq, Fl.eqF_of nd2 hn, decide_eq_decide, kd2, ku]
    have e : upF x = 18442240474082181120 ↔ False := by
      constructor
      · intro h; rw [h] at kuu; revert ku kuu; rw [h, show Fl.key 18442240474082181120 = -9218868437227405312 from by decide]; intro ku; split at ku <;> omega
      · exact False.elim
    rw [if_neg (fun h => e.1 h)]
    split <;> omega
end Go.Proofs.Ytmbjgakehghdjaa
/-
  OWN TEXT: what Whole of package float returns, for every float.
-/
namespace Go.Proofs.Ytmbjgakehghdjaa
open Go.ChangeShapes Go.WideShapes Go.ChangeAt Go.RowKit
theorem even_of (x : Nat) (d : Ieee.Datum) (h : FloatKind.f64.decode x = d) (hn : d.isNaN = false) : Extern.MathFloor.toIntegral "math.RoundToEven" .even #[.float .f64 x] = pure (.float .f64 (FloatKind.f64.encode (d.integral .even))) := by
  change (Extern.MathFloor.toIntegral.match_1 _ (FloatKind.f64.decode x) _ _) = _
  rw [h]
  cases d with
  | number s m i => rfl
  | infinity s => rfl
  | nan s t => cases hn
theorem even_none (x : Nat) (s : Bool) (t : Nat) (h : FloatKind.f64.decode x = .nan s t) : ∃ q, q.forced = false ∧ Extern.MathFloor.toIntegral "math.RoundToEven" .even #[.float .f64 x] = if FloatKind.f64.format.quiet t = t then pure (.float .f64 x) else (choose q).bind fun kept => pure (.float .f64 (if kept == 1 then x else FloatKind.f64.encode (.nan s (FloatKind.f64.format.quiet t)))) := by
  refine ⟨?q, ?_, ?_⟩
  rotate_left 2
  · change (Extern.MathFloor.toIntegral.match_1 _ (FloatKind.f64.decode x) _ _) = _
    rw [h]
    rfl
  · rfl
theorem quiet_nan (s : Bool) (t : Nat) (ht : t < 4503599627370496) : Fl.nan (FloatKind.f64.encode (.nan s (FloatKind.f64.format.quiet t))) = true ∧ FloatKind.f64.encode (.nan s (FloatKind.f64.format.quiet t)) < 18446744073709551616 := by
  have e : FloatKind.f64.encode (.nan s (FloatKind.f64.format.quiet t)) = Fl.wd s (9218868437227405312 + (t ||| 2 ^ 51) % 4503599627370496) := by cases s <;> rfl
  have h1 : (t ||| 2 ^ 51) < 2 ^ 52 := Nat.or_lt_two_pow (by omega) (by omega)
  have h2 : 2 ^ 51 ≤ t ||| 2 ^ 51 := Nat.right_le_or
  rw [e, Nat.mod_eq_of_lt (by omega)]
  generalize (t ||| 2 ^ 51) = a at *
  refine ⟨?_, Fl.wd_lt _ _ (by omega)⟩
  unfold Fl.nan
  rw [Fl.rg_wd _ _ (by omega)]
  exact decide_eq_true (by omega)
end Go.Proofs.Ytmbjgakehghdjaa
/-
  OWN TEXT: plain laws on a sum and its loss: what is lost is a word, exactly; with all signs turned both are turned.
-/
namespace Go.Proofs.Ytmbjgakehghdjaa.Fl

/-- the word of a loss -/
def lw (L : Int) : Nat := wd (decide (L < 0)) (rq L.natAbs 0)
theorem lw_lt (L : Int) : lw L < 18446744073709551616 := wd_lt _ _ (by have := rq_le L.natAbs 0; omega)
theorem nan_lw (L : Int) : nan (lw L) = false := nan_wd _ _ (rq_le _ _)
theorem key_lw (L : Int) : key (lw L) = if L < 0 then -(rq L.natAbs 0 : Int) else rq L.natAbs 0 := by
  have h := rq_le L.natAbs 0
  unfold lw
  rw [key_wd _ _ (by omega)]
  by_cases c : L < 0
  · rw [decide_eq_true c, if_pos c]; rfl
  · rw [decide_eq_false c, if_neg c]; rfl
theorem key_lw_neg (L : Int) : key (lw (-L)) = -key (lw L) := by
  rw [key_lw, key_lw, Int.natAbs_neg]
  by_cases c : L < 0
  · rw [if_pos c, if_neg (by omega)]; omega
  · by_cases z : L = 0
    · subst z; simp [rq]
    · rw [if_neg c, if_pos (by omega)]
theorem lw_zero : lw 0 = 0 := by decide
/-- a number of at most 53 digits, rounded, is worth itself -/
theorem val_round (T : Int) (b : Bool) (h : Rep T) (hl : T.natAbs.log2 < 2098) :
    val (wd (if T = 0 then b else decide (T < 0)) (rq T.natAbs 0)) = T ∧ rq T.natAbs 0 < 9218868437227405312 := by
  obtain ⟨h1, h2⟩ := rq_rep T.natAbs h hl
  refine ⟨?_, h2⟩
  rw [val_wd _ _ (by omega), h1]
  by_cases c : T = 0
  · subst c; simp
  · rw [if_neg c]
    by_cases d : T < 0
    · rw [decide_eq_true d]; simp; omega
    · rw [decide_eq_false d]; simp; omega
theorem val_lw (L : Int) (h : Rep L) (hl : L.natAbs.log2 < 2098) : val (lw L) = L ∧ rg (lw L) < 9218868437227405312 := by
  obtain ⟨h1, h2⟩ := rq_rep L.natAbs h hl
  unfold lw
  rw [val_wd _ _ (by omega), rg_wd _ _ (by omega), h1]
  refine ⟨?_, h2⟩
  by_cases d : L < 0
  · rw [decide_eq_true d]; simp; omega
  · rw [decide_eq_false d]; simp; omega
/-- the word of a sum -/
def aw (x y : Nat) : Nat := wd (if val x + val y = 0 then sg x && sg y else decide (val x + val y < 0)) (rq (val x + val y).natAbs 0)
theorem aw_lt (x y : Nat) : aw x y < 18446744073709551616 := wd_lt _ _ (by have := rq_le (val x + val y).natAbs 0; omega)
theorem nan_aw (x y : Nat) : nan (aw x y) = false := nan_wd _ _ (rq_le _ _)
theorem rg_aw (x y : Nat) : rg (aw x y) = rq (val x + val y).natAbs 0 := rg_wd _ _ (by have := rq_le (val x + val y).natAbs 0; omega)
theorem val_aw (x y : Nat) : val (aw x y) = if val x + val y < 0 then -(vl (rq (val x + val y).natAbs 0) : Int) else vl (rq (val x + val y).natAbs 0) := by
  have h := rq_le (val x + val y).natAbs 0
  unfold aw
  rw [val_wd _ _ (by omega)]
  by_cases c : val x + val y = 0
  · rw [c]; simp [rq, vl]
  · rw [if_neg c]
    by_cases d : val x + val y < 0
    · rw [decide_eq_true d, if_pos d]; rfl
    · rw [decide_eq_false d, if_neg d]; rfl
/-- THE LOSS, by two subtractions, the greater one first -/
theorem loss_steps {a b s : Nat} (ha : rg a < 9218868437227405312) (hb : rg b < 9218868437227405312) (la : a < 18446744073709551616) (hab : rg b ≤ rg a) (hs : rg s < 9218868437227405312)
    (hv : val s = if val a + val b < 0 then -(vl (rq (val a + val b).natAbs 0) : Int) else vl (rq (val a + val b).natAbs 0)) (hf : rq (val a + val b).natAbs 0 < 9218868437227405312) :
    ∃ d m, Ieee.double.sub s a = some d ∧ Ieee.double.sub b d = some m ∧ nan m = false ∧ (if rg m = 0 then 0 else m) = lw (val a + val b - val s) ∧ Rep (val a + val b - val s) ∧ (val a + val b - val s).natAbs.log2 < 2098 := by
  obtain ⟨r1, r2, b1, b2⟩ := sum_loss ha hb hab hf (val s) hv
  have e1 := sub_fin la hs ha
  obtain ⟨v1, f1⟩ := val_round (val s - val a) (sg s && !sg a) r1 b1
  generalize hd : wd (if val s - val a = 0 then sg s && !sg a else decide (val s - val a < 0)) (rq (val s - val a).natAbs 0) = d at *
  have ld : d < 18446744073709551616 := by rw [← hd]; exact wd_lt _ _ (by omega)
  have rd : rg d < 9218868437227405312 := by rw [← hd, rg_wd _ _ (by omega)]; exact f1
  have e2 := sub_fin ld hb rd
  have eL : val b - val d = val a + val b - val s := by rw [v1]; omega
  rw [eL] at e2
  refine ⟨d, _, e1, e2, nan_wd _ _ (rq_le _ _), ?_, r2, b2⟩
  have hq := rq_rep _ r2 b2
  rw [rg_wd _ _ (by omega)]
  generalize hL : val a + val b - val s = L at *
  by_cases z : L = 0
  · rw [z]; simp [rq, lw_zero]
  · have nz : rq L.natAbs 0 ≠ 0 := by
      intro h
      rw [h] at hq
      have h0 : vl 0 = 0 := rfl
      omega
    rw [if_neg nz, if_neg z]; rfl
/-- with all signs turned a sum is turned -/
theorem aw_ng {x y : Nat} (hx : x < 18446744073709551616) (hy : y < 18446744073709551616) : key (aw (ng x) (ng y)) = -key (aw x y) ∧ val (aw (ng x) (ng y)) = -val (aw x y) ∧ rg (aw (ng x) (ng y)) = rg (aw x y) := by
  have k : key (aw (ng x) (ng y)) = -key (aw x y) := by
    unfold aw
    rw [key_round, key_round, val_ng hx, val_ng hy, show -val x + -val y = -(val x + val y) by omega, Int.natAbs_neg]
    by_cases c : val x + val y < 0
    · rw [if_pos c, if_neg (by omega)]; omega
    · by_cases d : val x + val y = 0
      · rw [d]; simp [rq]
      · rw [if_neg c, if_pos (by omega)]
  exact ⟨k, val_opp k, rg_opp k⟩
end Go.Proofs.Ytmbjgakehghdjaa.Fl
