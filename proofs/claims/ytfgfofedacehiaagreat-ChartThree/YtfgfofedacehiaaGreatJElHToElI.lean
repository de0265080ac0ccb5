/-
 OWN TEXT: the law's small functions; whole numbers up to some thousands as floats, to the bit: sums and differences.
-/
import Derived.Test.YtfgfofedacehiaaGreatJElBToElG
import Derived.Test.YtfgfofedacehiaaGreatJPyAToPyC
import Derived.Test.YtfgfofedacehiaaGreatJFnWholeToAnA
namespace Go.Proofs.YtfgfofedacehiaaGreat
open Go.ChangeShapes Go.WideShapes Go.ChangeAt Go.RowKit
set_option linter.unusedVariables false
attribute [local go_sem] frombits_call tobits_call run_neg
set_option exponentiation.threshold 3000
namespace El
def Sm (p : Bool) (x y : Int) : Prop := p = true → (x.natAbs ≤ 1000 ∧ y.natAbs ≤ 1000)
end El
namespace El
/-- the word x is the whole number n, a nought without its sign -/
def wP (x : Nat) (n : Int) : Prop := wI 1074 x n ∧ Fl.sg x = decide (n < 0)
theorem wP.lt {x : Nat} {n : Int} (h : wP x n) : x < 18446744073709551616 := h.1.1
theorem wP.nan {x : Nat} {n : Int} (h : wP x n) : Fl.nan x = false := h.1.nan
theorem wP.of {s : Bool} {n : Int} (hn : n.natAbs ≤ 9007199254740992) (hs : s = decide (n < 0)) : wP (Fl.wd s (Fl.rq (n.natAbs * 2 ^ 1074) 0)) n := by
 refine ⟨wI_of rfl hn (fun _ => hs), ?_⟩
 obtain ⟨h1, h2⟩ := Fl.rq_rep (n.natAbs * 2 ^ 1074) ⟨n.natAbs, 1074, rfl, hn⟩ (small_log rfl hn)
 rw [Fl.sg_wd _ _ (by omega), hs]
theorem wP.add {a b : Nat} {m n : Int} (ha : wP a m) (hb : wP b n) (hs : (m + n).natAbs ≤ 9007199254740992) : ∃ r, wP r (m + n) ∧ floatBits .add .f64 a b = some r := by
 have e := Fl.add_fin ha.1.2.1 hb.1.2.1
 obtain ⟨k1, k2⟩ := mul_sign (n := m + n) (Nat.two_pow_pos 1074)
 rw [ha.1.2.2, hb.1.2.2, ← Int.add_mul, Int.natAbs_mul, Int.natAbs_natCast] at e
 refine ⟨_, wP.of hs ?_, e⟩
 by_cases z : m + n = 0
 ·
  rw [if_pos (k1.2 z), ha.2, hb.2, z]
  by_cases q : m < 0
  · rw [decide_eq_false (show ¬ n < 0 by omega), Bool.and_false]; rfl
  · rw [decide_eq_false q, Bool.false_and]; rfl
 ·
  rw [if_neg (fun q => z (k1.1 q))]
  exact decide_eq_decide.2 k2
theorem wP.sub {a b : Nat} {m n : Int} (ha : wP a m) (hb : wP b n) (hs : (m - n).natAbs ≤ 9007199254740992) : ∃ r, wP r (m - n) ∧ floatBits .sub .f64 a b = some r := by
 have e := Fl.sub_fin hb.1.1 ha.1.2.1 hb.1.2.1
 obtain ⟨k1, k2⟩ := mul_sign (n := m - n) (Nat.two_pow_pos 1074)
 rw [ha.1.2.2, hb.1.2.2, ← Int.sub_mul, Int.natAbs_mul, Int.natAbs_natCast] at e
 refine ⟨_, wP.of hs ?_, e⟩
 by_cases z : m - n = 0
 ·
  have q : n = m := by omega
  subst q
  rw [if_pos (k1.2 z), ha.2, hb.2, z]
  cases decide (n < 0) <;> rfl
 ·
  rw [if_neg (fun q => z (k1.1 q))]
  exact decide_eq_decide.2 k2
theorem thou_all : ∀ k : Fin 2001, floatOfInt .f64 ((k.val : Int) - 1000) < 18446744073709551616 ∧ Fl.rg (floatOfInt .f64 ((k.val : Int) - 1000)) < 9218868437227405312 ∧ Fl.val (floatOfInt .f64 ((k.val : Int) - 1000)) = ((k.val : Int) - 1000) * ((2 ^ 1074 : Nat) : Int) ∧ Fl.sg (floatOfInt .f64 ((k.val : Int) - 1000)) = decide (((k.val : Int) - 1000) < 0) := by decide +kernel
theorem wP_thou (m : Int) (h : m.natAbs ≤ 1000) : wP (floatOfInt .f64 m) m := by
 have h := thou_all ⟨(m + 1000).toNat, by omega⟩
 simp only at h
 rw [show (((m + 1000).toNat : Nat) : Int) - 1000 = m by omega] at h
 exact ⟨⟨h.1, h.2.1, h.2.2.1⟩, h.2.2.2⟩
end El
end Go.Proofs.YtfgfofedacehiaaGreat

/-
 OWN TEXT: whole powers as floats; what one row of bits a part comes to at whole numbers.
-/
namespace Go.Proofs.YtfgfofedacehiaaGreat
open Go.ChangeShapes Go.WideShapes Go.ChangeAt Go.RowKit
set_option linter.unusedVariables false
set_option exponentiation.threshold 3000
namespace El
/-- corners' whole powers -/
def sb (k : Nat) (c : Nat) : Nat := (floatBits .sub .f64 (floatOfInt .f64 (k : Int)) c).getD 0
-- whole numbers
def zW (a : Z) (g : Py.G) : Prop := wC 1074 a.1 a.2 g
theorem op_some {o : BinOp} {a b r : Nat} (e : floatBits o .f64 a b = some r) (nr : Fl.nan r = false) : Sv.op o a b = r := by unfold Sv.op; rw [e]; exact Sv.c_num nr
theorem op_mul {a b : Nat} {m n : Int} (ha : wI 1074 a m) (hb : wI 1074 b n) (hs : (m * n).natAbs ≤ 9007199254740992) : wI 1074 (Sv.op .mul a b) (m * n) := by
 have e : floatBits .mul .f64 a b = some _ := Fl.mul_fin ha.2.1 hb.2.1
 have h := wI.mul rfl ha hb hs (run_some e).1
 rw [op_some e h.nan]
 exact h
theorem op_add {a b : Nat} {m n : Int} (ha : wI 1074 a m) (hb : wI 1074 b n) (hs : (m + n).natAbs ≤ 9007199254740992) : wI 1074 (Sv.op .add a b) (m + n) := by
 have e : floatBits .add .f64 a b = some _ := Fl.add_fin ha.2.1 hb.2.1
 have h := wI.add rfl ha hb hs (run_some e).1
 rw [op_some e h.nan]
 exact h
theorem op_sub {a b : Nat} {m n : Int} (ha : wI 1074 a m) (hb : wI 1074 b n) (hs : (m - n).natAbs ≤ 9007199254740992) : wI 1074 (Sv.op .sub a b) (m - n) := by
 have e : floatBits .sub .f64 a b = some _ := Fl.sub_fin hb.1 ha.2.1 hb.2.1
 have h := wI.sub rfl ha hb hs (run_some e).1
 rw [op_some e h.nan]
 exact h
theorem zW.mul {a b : Z} {g h : Py.G} {M K : Nat} (ha : zW a g) (hb : zW b h) (lg : Py.Le g M) (lh : Py.Le h K) (hs : M * K ≤ 9007199254740992) : zW (zmul a b) (Py.gm g h) := by
 obtain ⟨b1, b2, b3, b4⟩ := lg.prods lh
 obtain ⟨k1, k2⟩ := (lg.mul lh).one
 exact ⟨op_sub (op_mul ha.1 hb.1 (Nat.le_trans b1 hs)) (op_mul ha.2 hb.2 (Nat.le_trans b2 hs)) (Nat.le_trans k1 hs), op_add (op_mul ha.1 hb.2 (Nat.le_trans b3 hs)) (op_mul ha.2 hb.1 (Nat.le_trans b4 hs)) (Nat.le_trans k2 hs)⟩
theorem zW.one {a : Z} {g : Py.G} {M : Nat} (ha : zW a g) (lg : Py.Le g M) (hs : M ≤ 9007199254740992) : zW (zscale a 4607182418800017408) g := by
 obtain ⟨k1, k2⟩ := lg.one
 have h1 := op_mul ha.1 (w_unit rfl) (by rw [Int.mul_one]; exact Nat.le_trans k1 hs)
 have h2 := op_mul ha.2 (w_unit rfl) (by rw [Int.mul_one]; exact Nat.le_trans k2 hs)
 rw [Int.mul_one] at h1 h2
 exact ⟨h1, h2⟩
theorem c2_num {x y : Nat} (nx : Fl.nan x = false) (ny : Fl.nan y = false) : c2 x y = (x, y) := by unfold c2; rw [Sv.c_num nx, Sv.c_num ny]
theorem zW.fin {a : Z} {g : Py.G} (h : zW a g) : El.fin a = true := by
 unfold El.fin
 rw [h.1.fin, h.2.fin]
 rfl
/-- words of one row that are whole numbers -/
theorem zW.of {u v : Nat} {a : Z} {g : Py.G} (h : zW a g) (e : c2 u v = a) : wC 1074 u v g := by
 have e1 : Fl.bitsF u = a.1 := congrArg Prod.fst e
 have e2 : Fl.bitsF v = a.2 := congrArg Prod.snd e
 have n1 : Fl.nan u = false := by rw [← Sv.nan_c, e1]; exact h.1.nan
 have n2 : Fl.nan v = false := by rw [← Sv.nan_c, e2]; exact h.2.nan
 rw [Sv.c_num n1] at e1
 rw [Sv.c_num n2] at e2
 subst e1 e2
 exact h
end El
end Go.Proofs.YtfgfofedacehiaaGreat

