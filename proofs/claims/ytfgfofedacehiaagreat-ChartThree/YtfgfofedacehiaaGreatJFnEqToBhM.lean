/-
 OWN TEXT: what Same of package float and math.Signbit return, for every float.
-/
import Derived.Test.YtfgfofedacehiaaGreatJFnToFnStairs
import Derived.Test.YtfgfofedacehiaaGreatJRoAToEqC
import Derived.Test.YtfgfofedacehiaaGreatJFlCToFlG
namespace Go.Proofs.YtfgfofedacehiaaGreat
open Go.ChangeShapes Go.WideShapes Go.ChangeAt Go.RowKit
attribute [local go_sem] frombits_call tobits_call run_neg
theorem sameB_bits (x y : Nat) : ((Fl.bitsF x : Int) == Fl.bitsF y) = Fl.sameB x y := by
 rw [Bool.eq_iff_iff]
 unfold Fl.sameB Fl.bitsF
 cases h1 : Fl.nan x <;> cases h2 : Fl.nan y <;> simp
 · omega
 ·
  intro e; have : x = 9221120237041090560 := by omega
  subst this; simp [Fl.nan, Fl.rg] at h1
 ·
  intro e; have : y = 9221120237041090560 := by omega
  subst this; simp [Fl.nan, Fl.rg] at h2
theorem same_any (x y : Nat) (w : World) : Calls Tryz.prog 60 #[.float .f64 x, .float .f64 y] w fun e w' => e = .returned (.bool (Fl.sameB x y)) ∧ w' = w := by
 go_enter Tryz.func60, Tryz.ntmps60
 go_wp2_with (go_at_call 85; refine (bits_any _ _).mono ?_; rintro e w' ⟨rfl, rfl⟩)
 go_ret
 exact ⟨rb (sameB_bits x y), rfl⟩
end Go.Proofs.YtfgfofedacehiaaGreat

/-
 OWN TEXT: what Same, Minus, Signed and the reference of layer 1 return, for every float.
-/
namespace Go.Proofs.YtfgfofedacehiaaGreat
open Go.ChangeShapes Go.WideShapes Go.ChangeAt Go.RowKit
attribute [local go_sem] frombits_call tobits_call run_neg
end Go.Proofs.YtfgfofedacehiaaGreat

/-
 OWN TEXT: half the sum and half the difference of exponentials, for every float: what they come to, and the program's (elem.Cosh, elem.Sinh).
-/
namespace Go.Proofs.YtfgfofedacehiaaGreat
open Go.ChangeShapes Go.WideShapes Go.ChangeAt Go.RowKit
set_option linter.unusedVariables false
attribute [local go_sem] frombits_call tobits_call run_neg
end Go.Proofs.YtfgfofedacehiaaGreat

/-
 OWN TEXT: plain laws on a float's last unit: the neighbour away from nought, the unit between them, its half; a sum's loss is at most that half.
-/
set_option linter.unusedVariables false
namespace Go.Proofs.YtfgfofedacehiaaGreat.Fl
/-- the rung of 2 to the power of k units -/
def r2 (k : Nat) : Nat := if k ≤ 52 then 2 ^ k else (k - 51) * 4503599627370496
theorem vl_le_iff {r s : Nat} : vl r ≤ vl s ↔ r ≤ s := by
 constructor
 ·
  intro h
  rcases Nat.lt_or_ge s r with c | c
  · have := vl_mono c; omega
  · exact c
 ·
  intro h
  rcases Nat.lt_or_ge r s with c | c
  · exact Nat.le_of_lt (vl_mono c)
  ·
   have : r = s := by omega
   rw [this]; exact Nat.le_refl _
/-- a rung in parts -/
theorem rung_parts (r : Nat) (h : r < 9218868437227405312) : ∃ k M, r = k * 4503599627370496 + M ∧ M < 9007199254740992 ∧ (k = 0 ∨ 4503599627370496 ≤ M) ∧ k ≤ 2045 := by
 by_cases c : r < 4503599627370496
 · exact ⟨0, r, by omega, by omega, Or.inl rfl, by omega⟩
 · exact ⟨r / 4503599627370496 - 1, r - (r / 4503599627370496 - 1) * 4503599627370496, by omega, by omega, Or.inr (by omega), by omega⟩
theorem rq_form (n : Nat) (h : n ≠ 0) (hf : rq n 0 < 9218868437227405312) : rq n 0 = (n.log2 - 52) * 4503599627370496 + rne n (n.log2 - 52) := by
 unfold rq at hf ⊢; rw [if_neg h] at hf ⊢; simp only [Nat.add_zero] at hf ⊢; omega
theorem le_form (r k M j N : Nat) (e : r = k * 4503599627370496 + M) (hM : M < 9007199254740992) (hk : k = 0 ∨ 4503599627370496 ≤ M) (e' : r = j * 4503599627370496 + N) (hj : j = 0 ∨ 4503599627370496 ≤ N) (hN : N ≤ 9007199254740992) : j ≤ k := by
 omega
/-- from a rung to the next one it is a power of two -/
theorem gap (r : Nat) (h : r < 9218868437227405312) : ∃ k, k ≤ 2045 ∧ vl (r + 1) = vl r + 2 ^ k ∧ ∀ n, n ≠ 0 → rq n 0 = r → 2 * n ≤ 2 * vl r + 2 ^ k ∧ 2 * vl r ≤ 2 * n + 2 ^ k := by
 obtain ⟨k, M, e, hM, hk, hk2⟩ := rung_parts r h
 have e1 : vl r = M * 2 ^ k := by rw [e]; exact vl_comb k M (by omega) hk
 have e2 : vl (r + 1) = (M + 1) * 2 ^ k := by
  rw [e, Nat.add_assoc]; exact vl_comb k (M + 1) (by omega) (by omega)
 refine ⟨k, hk2, by rw [e1, e2, Nat.add_mul, Nat.one_mul], ?_⟩
 intro n hn hr
 have hv := vl_rq n hn (by omega)
 rw [hr] at hv
 have hb := rne_bounds n (n.log2 - 52)
 rw [← hv] at hb
 have hq := rq_form n hn (by omega)
 rw [hr] at hq
 obtain ⟨f1, f2⟩ := rq_fit n hn
 have hle : n.log2 - 52 ≤ k := le_form r k M (n.log2 - 52) (rne n (n.log2 - 52)) e hM hk hq f1 f2
 have hp : 2 ^ (n.log2 - 52) ≤ 2 ^ k := Nat.pow_le_pow_right (by omega) hle
 omega
end Go.Proofs.YtfgfofedacehiaaGreat.Fl

/-
 OWN TEXT: plain laws of rounding a fraction whose worth is a whole number of halves, quarters ..
-/
namespace Go.Proofs.YtfgfofedacehiaaGreat.Fl
set_option linter.unusedVariables false

end Go.Proofs.YtfgfofedacehiaaGreat.Fl

