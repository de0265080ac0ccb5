/-
  OWN TEXT: plain laws on a float's last unit: the neighbour away from nought, the unit between them, its half; a sum's loss is at most that half.
-/
import Derived.Test.YtpfaaimfembhdaaJFlCToFlG
set_option linter.unusedVariables false
namespace Go.Proofs.Ytpfaaimfembhdaa.Fl
/-- the rung of 2 to the power of k units -/
def r2 (k : Nat) : Nat := if k ≤ 52 then 2 ^ k else (k - 51) * 4503599627370496
set_option maxRecDepth 100000 in
theorem r2_all : ∀ k : Fin 2046, vl (r2 k.val) = 2 ^ k.val ∧ r2 k.val < 9218868437227405312 ∧ Ieee.double.div (r2 k.val) 4611686018427387904 = some (if k.val = 0 then 0 else r2 (k.val - 1)) := by decide +kernel
theorem vl_le_iff {r s : Nat} : vl r ≤ vl s ↔ r ≤ s := by
  constructor
  · intro h
    rcases Nat.lt_or_ge s r with c | c
    · have := vl_mono c; omega
    · exact c
  · intro h
    rcases Nat.lt_or_ge r s with c | c
    · exact Nat.le_of_lt (vl_mono c)
    · have : r = s := by omega
      rw [this]; exact Nat.le_refl _
/-- a rung in parts -/
theorem rung_parts (r : Nat) (h : r < 9218868437227405312) : ∃ k M, r = k * 4503599627370496 + M ∧ M < 9007199254740992 ∧ (k = 0 ∨ 4503599627370496 ≤ M) ∧ k ≤ 2045 := by
  by_cases c : r < 4503599627370496
  · exact ⟨0, r, by omega, by omega, Or.inl rfl, by omega⟩
  · exact ⟨r / 4503599627370496 - 1, r - (r / 4503599627370496 - 1) * 4503599627370496, by omega, by omega, Or.inr (by omega), by omega⟩
theorem rq_form (n : Nat) (h : n ≠ 0) (hf : rq n 0 < 9218868437227405312) : rq n 0 = (n.log2 - 52) * 4503599627370496 + rne n (n.log2 - 52) := by
  unfold rq at hf ⊢; rw [if_neg h] at hf ⊢; simp only [Nat.add_zero] at hf ⊢; omega
theorem le_form (r k M j N : Nat) (e : r = k * 4503599627370496 + M) (hM : M < 9007199254740992) (hk : k = 0 ∨ 4503599627370496 ≤ M) (e' : r = j * 4503599627370496 + N) (hj : j = 0 ∨ 4503599627370496 ≤ N) (hN : N ≤ 9007199254740992) : j ≤ k := by
  omega
/-- from a rung to the next one it is a power of two -/
theorem gap (r : Nat) (h : r < 9218868437227405312) : ∃ k, k ≤ 2045 ∧ vl (r + 1) = vl r + 2 ^ k ∧ ∀ n, n ≠ 0 → rq n 0 = r → 2 * n ≤ 2 * vl r + 2 ^ k ∧ 2 * vl r ≤ 2 * n + 2 ^ k := by
  obtain ⟨k, M, e, hM, hk, hk2⟩ := rung_parts r h
  have e1 : vl r = M * 2 ^ k := by rw [e]; exact vl_comb k M (by omega) hk
  have e2 : vl (r + 1) = (M + 1) * 2 ^ k := by
    rw [e, Nat.add_assoc]; exact vl_comb k (M + 1) (by omega) (by omega)
  refine ⟨k, hk2, by rw [e1, e2, Nat.add_mul, Nat.one_mul], ?_⟩
  intro n hn hr
  have hv := vl_rq n hn (by omega)
  rw [hr] at hv
  have hb := rne_bounds n (n.log2 - 52)
  rw [← hv] at hb
  have hq := rq_form n hn (by omega)
  rw [hr] at hq
  obtain ⟨f1, f2⟩ := rq_fit n hn
  have hle : n.log2 - 52 ≤ k := le_form r k M (n.log2 - 52) (rne n (n.log2 - 52)) e hM hk hq f1 f2
  have hp : 2 ^ (n.log2 - 52) ≤ 2 ^ k := Nat.pow_le_pow_right (by omega) hle
  omega
theorem vl_two : vl 4611686018427387904 = 2 ^ (1 + 1074) := by decide +kernel
/-- twice -/
theorem mul_two {x : Nat} (hx : rg x < 9218868437227405312) : Ieee.double.mul 4611686018427387904 x = some (wd (sg x) (rq (vl (rg x) * 2) 0)) := by
  have r1 : rg 4611686018427387904 = 4611686018427387904 := by decide
  have s1 : sg 4611686018427387904 = false := by decide
  have e := mul_fin (x := 4611686018427387904) (y := x) (by rw [r1]; decide) hx
  rw [r1, s1, Bool.false_xor, Nat.mul_comm, rq_by' 4611686018427387904 _ 1074 1 1074 vl_two rfl] at e
  exact e
theorem two_up (r : Nat) (h : r < 9218868437227405312) (hz : r ≠ 0) : r < rq (vl r * 2) 0 := by
  have hv := vl_pos hz
  by_cases c : (vl r * 2).log2 < 2098
  · obtain ⟨M, k, e, hM, _⟩ := rep_vl r h
    obtain ⟨h1, h2⟩ := rq_rep (vl r * 2) ⟨M, k + 1, by rw [e, Nat.pow_succ, Nat.mul_assoc], by omega⟩ c
    rcases Nat.lt_or_ge r (rq (vl r * 2) 0) with d | d
    · exact d
    · have := (vl_le_iff (r := rq (vl r * 2) 0) (s := r)).2 d
      omega
  · rw [rq_far (vl r * 2) 0 (by omega) (by omega)]; exact h
end Go.Proofs.Ytpfaaimfembhdaa.Fl
