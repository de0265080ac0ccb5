/-
 OWN TEXT: plain laws on floats times powers of two: parts and their power are the float; times a power of two is exact where it is neither too great nor too small.
-/
import Derived.Test.YtfgfofedacehiaaGreatJFnLdexpToFnParts
import Derived.Test.YtfgfofedacehiaaGreatJLsAToEoC
set_option linter.unusedVariables false
namespace Go.Proofs.YtfgfofedacehiaaGreat
theorem vl_half (f c : Nat) (hf : f < 4503599627370496) (hc : c = 1021) : Fl.vl (4602678819172646912 + f) = (4503599627370496 + f) * 2 ^ c := by
 have := Fl.vl_comb c (4503599627370496 + f) (by omega) (Or.inr (by omega))
 rw [← this]
 congr 1
 omega
theorem rq_half (M d : Nat) (hM : M < 9007199254740992) (hd : 1 ≤ d) : Fl.rq M d ≤ 4503599627370496 := by
 by_cases z : M = 0
 · subst z; unfold Fl.rq; simp
 ·
  have hl : M.log2 < 53 := (Nat.log2_lt z).2 hM
  have h1 : Fl.rne M d ≤ 4503599627370496 := by
   refine Fl.rne_le M d 4503599627370496 ?_
   have : 2 ^ 1 ≤ 2 ^ d := Nat.pow_le_pow_right (by omega) hd
   omega
  unfold Fl.rq
  rw [if_neg z, show M.log2 - (52 + d) = 0 by omega, Nat.zero_mul, Nat.zero_add, Nat.zero_add]
  exact Nat.le_trans (Nat.min_le_left _ _) h1
theorem rq_exact (M k : Nat) (hM : M < 9007199254740992) (hf : Fl.rq (M * 2 ^ k) 0 < 9218868437227405312) : Fl.vl (Fl.rq (M * 2 ^ k) 0) = M * 2 ^ k := by
 by_cases c : (M * 2 ^ k).log2 < 2098
 · exact (Fl.rq_rep _ ⟨M, k, rfl, by omega⟩ c).1
 ·
  by_cases z : M * 2 ^ k = 0
  · rw [z]; decide
  · rw [Fl.rq_far _ 0 z (by omega)] at hf; omega
theorem scale_exact {x : Nat} (n : Int) (hf : Fl.rg x < 9218868437227405312) (hz : ¬ Fl.rg x = 0) (h1 : Fl.rg (scF x n) < 9218868437227405312) (h2 : 4503599627370496 < Fl.rg (scF x n)) :
  Fl.val (scF x n) * ((2 ^ (-n).toNat : Nat) : Int) = Fl.val x * ((2 ^ n.toNat : Nat) : Int) := by
 have hfin : Fl.finB x = true := decide_eq_true hf
 have es : scF x n = Fl.wd (Fl.sg x) (Fl.rz (Fl.vl (Fl.rg x)) n) := by
  unfold scF
  rw [hfin, decide_eq_false hz]; rfl
 have hb := Fl.rz_le (Fl.vl (Fl.rg x)) n
 rw [es, Fl.rg_wd _ _ (by omega)] at h1 h2
 have hv : Fl.val (scF x n) = if Fl.sg x then -(Fl.vl (Fl.rz (Fl.vl (Fl.rg x)) n) : Int) else Fl.vl (Fl.rz (Fl.vl (Fl.rg x)) n) := by rw [es]; exact Fl.val_wd _ _ (by omega)
 obtain ⟨k, M, e, hM, hk, hk2⟩ := Fl.rung_parts (Fl.rg x) hf
 have ev : Fl.vl (Fl.rg x) = M * 2 ^ k := by rw [e]; exact Fl.vl_comb k M (by omega) hk
 have key : Fl.vl (Fl.rz (Fl.vl (Fl.rg x)) n) * 2 ^ (-n).toNat = Fl.vl (Fl.rg x) * 2 ^ n.toNat := by
  rw [ev] at h1 h2 ⊢
  rw [Fl.rz_shift] at h1 h2 ⊢
  by_cases c : 0 ≤ n + k
  ·
   have er : Fl.rz M (n + k) = Fl.rq (M * 2 ^ (n + (k : Int)).toNat) 0 := by
    unfold Fl.rz
    rw [show (-(n + (k : Int))).toNat = 0 by omega]
   rw [er] at h1 ⊢
   rw [rq_exact M _ hM h1, Nat.mul_assoc, Nat.mul_assoc, ← Nat.pow_add, ← Nat.pow_add]
   congr 2
   omega
  ·
   exfalso
   have er : Fl.rz M (n + k) = Fl.rq M (-(n + (k : Int))).toNat := by
    unfold Fl.rz
    rw [show (n + (k : Int)).toNat = 0 by omega, Nat.pow_zero, Nat.mul_one]
   rw [er] at h2
   have := rq_half M (-(n + (k : Int))).toNat hM (by omega)
   omega
 rw [hv]
 unfold Fl.val
 have kI : ((Fl.vl (Fl.rz (Fl.vl (Fl.rg x)) n) : Nat) : Int) * ((2 ^ (-n).toNat : Nat) : Int) = ((Fl.vl (Fl.rg x) : Nat) : Int) * ((2 ^ n.toNat : Nat) : Int) := by
  rw [← Int.natCast_mul, ← Int.natCast_mul, key]
 cases Fl.sg x
 · simp only [Bool.false_eq_true, if_false]; exact kI
 · simp only [if_true, Int.neg_mul]; rw [kI]
theorem scF_sg {x : Nat} (n : Int) (hf : Fl.rg x < 9218868437227405312) (hz : ¬ Fl.rg x = 0) : Fl.sg (scF x n) = Fl.sg x := by
 have hfin : Fl.finB x = true := decide_eq_true hf
 have hb := Fl.rz_le (Fl.vl (Fl.rg x)) n
 unfold scF
 rw [hfin, decide_eq_false hz]
 exact Fl.sg_wd _ _ (by omega)
end Go.Proofs.YtfgfofedacehiaaGreat

