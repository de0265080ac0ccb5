/-
  OWN TEXT: plain laws of halving and doubling floats, and of a float made whole.
-/
import Derived.Test.YtpfaaimfembhdaaJLsA
import Derived.Test.YtpfaaimfembhdaaJBhM
import Derived.Test.YtpfaaimfembhdaaJFnLdexpToFnParts
namespace Go.Proofs.Ytpfaaimfembhdaa.Fl
set_option linter.unusedVariables false

/-- half a float -/
theorem div_two {x : Nat} (hx : rg x < 9218868437227405312) : Ieee.double.div x 4611686018427387904 = some (wd (sg x) (rq (vl (rg x)) 1)) := by
  obtain ⟨m, k, hm, em⟩ := read_fin hx
  have r2 : Ieee.double.read 4611686018427387904 = .number false 4503599627370496 (-51) := rfl
  unfold Ieee.Format.div
  rw [hm, r2]
  unfold Ieee.Datum.quotient
  simp only []
  rw [if_neg (by omega), show (4503599627370496 : Nat).log2 = 52 by decide]
  have hfb : Ieee.double.fractionBits = 52 := rfl
  rw [hfb]
  by_cases z : m = 0
  · subst z
    have hv : vl (rg x) = 0 := by rw [← em, Nat.zero_mul]
    rw [hv, show Nat.log2 0 = 0 from rfl, Nat.zero_shiftLeft]
    simp only [Nat.zero_div, Nat.zero_mod, Nat.mul_zero, Option.map_some]
    rw [Bool.xor_false, show rq 0 1 = 0 from rfl]
    show some (Ieee.double.nearest (sg x) 0 _) = _
    unfold Ieee.Format.nearest
    rw [if_pos rfl]
    cases sg x <;> rfl
  · have hml : m.log2 ≤ 53 := by
      by_cases c : rg x < 4503599627370496
      · have h1 : m * 2 ^ k < 4503599627370496 := by rw [em, vl_small c]; exact c
        have h2 : m ≤ m * 2 ^ k := Nat.le_mul_of_pos_right m (Nat.two_pow_pos k)
        have := (Nat.log2_lt z (k := 52)).2 (by omega)
        omega
      · have h1 := read_eq x
        rw [hm, if_neg c, if_pos hx] at h1
        injection h1 with _ h1 _
        have := (Nat.log2_lt z (k := 53)).2 (by omega)
        omega
    obtain ⟨t, ht⟩ : ∃ t, 52 + 2 + 52 - m.log2 = 52 + t := ⟨52 + 2 + 52 - m.log2 - 52, by omega⟩
    rw [ht, Nat.shiftLeft_eq, Nat.pow_add, show (2 : Nat) ^ 52 = 4503599627370496 by decide, Nat.mul_left_comm, Nat.mul_div_cancel_left _ (by omega), Nat.mul_mod_right]
    simp only [bne_self_eq_false, Bool.toNat_false, Nat.add_zero, Option.map_some, Bool.xor_false]
    have h := nearest_eq (sg x) (2 * (m * 2 ^ t)) k (t + 2)
    rw [show -1074 + (k : Int) - ((t + 2 : Nat) : Int) = -1074 + (k : Int) - -51 - ((52 + t : Nat) : Int) - 1 by omega] at h
    show some (Ieee.double.nearest _ _ _) = _
    rw [h, show 2 * (m * 2 ^ t) * 2 ^ k = m * 2 ^ k * 2 ^ (t + 1) by rw [Nat.pow_succ, Nat.mul_assoc m, Nat.mul_comm (2 ^ k), ← Nat.mul_assoc m, ← Nat.mul_assoc m]; rw [Nat.mul_comm 2, Nat.mul_right_comm], show t + 2 = 1 + (t + 1) by omega, rq_mul, em]

theorem mul_two' {x : Nat} (hx : rg x < 9218868437227405312) : Ieee.double.mul x 4611686018427387904 = some (wd (sg x) (rq (vl (rg x) * 2) 0)) := by
  have r1 : rg 4611686018427387904 = 4611686018427387904 := by decide
  have s1 : sg 4611686018427387904 = false := by decide
  have e := mul_fin (x := x) (y := 4611686018427387904) hx (by rw [r1]; decide)
  rw [r1, s1, Bool.xor_false, rq_by' 4611686018427387904 _ 1074 1 1074 vl_two rfl] at e
  exact e

/-- up a binade -/
theorem vl_up (r i : Nat) (h : 4503599627370496 ≤ r) : vl (r + i * 4503599627370496) = vl r * 2 ^ i := by
  rw [vl_big h, vl_big (by omega), Nat.mul_assoc, ← Nat.pow_add]
  congr 2
  · omega
  · omega
theorem half_step (r : Nat) (h : 9007199254740992 ≤ r) (hr : r ≤ 9218868437227405312) : rq (vl r) 1 = r - 4503599627370496 := by
  have e := vl_up (r - 4503599627370496) 1 (by omega)
  rw [show r - 4503599627370496 + 1 * 4503599627370496 = r by omega] at e
  rw [e]
  have := rq_mul (vl (r - 4503599627370496)) 1 0
  rw [Nat.zero_add] at this
  rw [this, rq_vl _ (by omega)]

/-- two numbers of 53 bits by powers of two are one only if both are -/
theorem bits_uniq (m n a b : Nat) (hm : 4503599627370496 ≤ m) (hm' : m < 9007199254740992) (hn : 4503599627370496 ≤ n) (hn' : n < 9007199254740992) (h : m * 2 ^ a = n * 2 ^ b) : a = b ∧ m = n := by
  have l1 : m.log2 = 52 := by
    have h1 := (Nat.le_log2 (n := m) (k := 52) (by omega)).2 (by omega)
    have h2 := (Nat.log2_lt (n := m) (k := 53) (by omega)).2 (by omega)
    omega
  have l2 : n.log2 = 52 := by
    have h1 := (Nat.le_log2 (n := n) (k := 52) (by omega)).2 (by omega)
    have h2 := (Nat.log2_lt (n := n) (k := 53) (by omega)).2 (by omega)
    omega
  have e := congrArg Nat.log2 h
  rw [log2_mul m a (by omega), log2_mul n b (by omega), l1, l2] at e
  have e2 : a = b := by omega
  subst e2
  exact ⟨rfl, Nat.eq_of_mul_eq_mul_right (Nat.two_pow_pos a) h⟩
end Go.Proofs.Ytpfaaimfembhdaa.Fl
namespace Go.Proofs.Ytpfaaimfembhdaa
/-- what a float's parts are is told by their worth -/
theorem pt_uniq {x r i j : Nat} (hx : x < 18446744073709551616) (hf : Fl.rg x < 9218868437227405312) (hz : ¬ Fl.rg x = 0) (h1 : 4602678819172646912 ≤ r) (h2 : r < 4607182418800017408) (h : Fl.vl r * 2 ^ i = Fl.vl (Fl.rg x) * 2 ^ j) :
    Fl.wd (Fl.sg x) r = ptF x ∧ (i : Int) - (j : Int) = ptE x := by
  obtain ⟨y1, y2, y3, y4, c1, c2, v1⟩ := nm_facts hx hf hz
  obtain ⟨e', he⟩ : ∃ e' : Nat, (-nmE x).toNat = e' := ⟨_, rfl⟩
  rw [he] at v1
  have hE : nmE x = -(e' : Int) := by omega
  unfold ptF ptE
  rw [hE]
  generalize Fl.rg (nmF x) = y at *
  have a1 := Fl.vl_big (r := r) (by omega)
  have a2 := Fl.vl_big (r := y) y3
  obtain ⟨c, hc⟩ : ∃ c, c = 1021 := ⟨_, rfl⟩
  have er : r / 4503599627370496 - 1 = c := by omega
  rw [er] at a1
  have k1 : (4503599627370496 + r % 4503599627370496) * 2 ^ (c + i + e') = (4503599627370496 + y % 4503599627370496) * 2 ^ (y / 4503599627370496 - 1 + j) := by
    have e1 : (4503599627370496 + r % 4503599627370496) * 2 ^ (c + i + e') = Fl.vl r * 2 ^ i * 2 ^ e' := by
      rw [a1, Nat.pow_add, Nat.pow_add, ← Nat.mul_assoc, ← Nat.mul_assoc]
    have e2 : (4503599627370496 + y % 4503599627370496) * 2 ^ (y / 4503599627370496 - 1 + j) = Fl.vl (Fl.rg x) * 2 ^ j * 2 ^ e' := by
      rw [Nat.pow_add, ← Nat.mul_assoc, ← a2, v1, Nat.mul_right_comm]
    rw [e1, e2, h]
  obtain ⟨k2, k3⟩ := Fl.bits_uniq _ _ _ _ (by omega) (by omega) (by omega) (by omega) k1
  refine ⟨?_, by omega⟩
  congr 1
  omega
end Go.Proofs.Ytpfaaimfembhdaa
