/-
 OWN TEXT: the law's small functions; whole numbers up to some thousands as floats, to the bit: sums and differences.
-/
import Derived.Test.YtfgfofedacehiaaGreatJPoTToElC
import Derived.Test.YtfgfofedacehiaaGreatJPyC
namespace Go.Proofs.YtfgfofedacehiaaGreat
open Go.ChangeShapes Go.WideShapes Go.ChangeAt Go.RowKit
set_option linter.unusedVariables false
attribute [local go_sem] frombits_call tobits_call run_neg
set_option exponentiation.threshold 3000
namespace El
def Sm (p : Bool) (x y : Int) : Prop := p = true → (x.natAbs ≤ 1000 ∧ y.natAbs ≤ 1000)
end El
namespace El
/-- the word x is the whole number n, a nought without its sign -/
def wP (x : Nat) (n : Int) : Prop := wI 1074 x n ∧ Fl.sg x = decide (n < 0)
theorem wP.lt {x : Nat} {n : Int} (h : wP x n) : x < 18446744073709551616 := h.1.1
theorem wP.nan {x : Nat} {n : Int} (h : wP x n) : Fl.nan x = false := h.1.nan
theorem wP.of {s : Bool} {n : Int} (hn : n.natAbs ≤ 9007199254740992) (hs : s = decide (n < 0)) : wP (Fl.wd s (Fl.rq (n.natAbs * 2 ^ 1074) 0)) n := by
 refine ⟨wI_of rfl hn (fun _ => hs), ?_⟩
 obtain ⟨h1, h2⟩ := Fl.rq_rep (n.natAbs * 2 ^ 1074) ⟨n.natAbs, 1074, rfl, hn⟩ (small_log rfl hn)
 rw [Fl.sg_wd _ _ (by omega), hs]
theorem wP.add {a b : Nat} {m n : Int} (ha : wP a m) (hb : wP b n) (hs : (m + n).natAbs ≤ 9007199254740992) : ∃ r, wP r (m + n) ∧ floatBits .add .f64 a b = some r := by
 have e := Fl.add_fin ha.1.2.1 hb.1.2.1
 obtain ⟨k1, k2⟩ := mul_sign (n := m + n) (Nat.two_pow_pos 1074)
 rw [ha.1.2.2, hb.1.2.2, ← Int.add_mul, Int.natAbs_mul, Int.natAbs_natCast] at e
 refine ⟨_, wP.of hs ?_, e⟩
 by_cases z : m + n = 0
 ·
  rw [if_pos (k1.2 z), ha.2, hb.2, z]
  by_cases q : m < 0
  · rw [decide_eq_false (show ¬ n < 0 by omega), Bool.and_false]; rfl
  · rw [decide_eq_false q, Bool.false_and]; rfl
 ·
  rw [if_neg (fun q => z (k1.1 q))]
  exact decide_eq_decide.2 k2
theorem wP.sub {a b : Nat} {m n : Int} (ha : wP a m) (hb : wP b n) (hs : (m - n).natAbs ≤ 9007199254740992) : ∃ r, wP r (m - n) ∧ floatBits .sub .f64 a b = some r := by
 have e := Fl.sub_fin hb.1.1 ha.1.2.1 hb.1.2.1
 obtain ⟨k1, k2⟩ := mul_sign (n := m - n) (Nat.two_pow_pos 1074)
 rw [ha.1.2.2, hb.1.2.2, ← Int.sub_mul, Int.natAbs_mul, Int.natAbs_natCast] at e
 refine ⟨_, wP.of hs ?_, e⟩
 by_cases z : m - n = 0
 ·
  have q : n = m := by omega
  subst q
  rw [if_pos (k1.2 z), ha.2, hb.2, z]
  cases decide (n < 0) <;> rfl
 ·
  rw [if_neg (fun q => z (k1.1 q))]
  exact decide_eq_decide.2 k2
theorem thou_all : ∀ k : Fin 2001, floatOfInt .f64 ((k.val : Int) - 1000) < 18446744073709551616 ∧ Fl.rg (floatOfInt .f64 ((k.val : Int) - 1000)) < 9218868437227405312 ∧ Fl.val (floatOfInt .f64 ((k.val : Int) - 1000)) = ((k.val : Int) - 1000) * ((2 ^ 1074 : Nat) : Int) ∧ Fl.sg (floatOfInt .f64 ((k.val : Int) - 1000)) = decide (((k.val : Int) - 1000) < 0) := by decide +kernel
theorem wP_thou (m : Int) (h : m.natAbs ≤ 1000) : wP (floatOfInt .f64 m) m := by
 have h := thou_all ⟨(m + 1000).toNat, by omega⟩
 simp only at h
 rw [show (((m + 1000).toNat : Nat) : Int) - 1000 = m by omega] at h
 exact ⟨⟨h.1, h.2.1, h.2.2.1⟩, h.2.2.2⟩
end El
end Go.Proofs.YtfgfofedacehiaaGreat

