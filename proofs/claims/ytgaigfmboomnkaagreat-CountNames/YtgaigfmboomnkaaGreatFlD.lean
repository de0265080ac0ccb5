/-
  OWN TEXT: plain laws on subtraction and multiplication of words, on powers of two, and on the bits of a word's fields.
-/
import Derived.Test.YtgaigfmboomnkaaGreatFlC
import Derived.Test.YtgaigfmboomnkaaGreatFlB
namespace Go.Proofs.YtgaigfmboomnkaaGreat.Fl

theorem read_ng {x : Nat} (h : x < 18446744073709551616) : Ieee.double.read (ng x) = (Ieee.double.read x).opposite := by
  rw [read_eq, read_eq, rg_ng, sg_ng h]
  repeat' split
  all_goals rfl
theorem sub_eq {x y : Nat} (h : y < 18446744073709551616) : Ieee.double.sub x y = Ieee.double.add x (ng y) := by
  unfold Ieee.Format.sub Ieee.Format.add; rw [read_ng h]
theorem val_ng {x : Nat} (h : x < 18446744073709551616) : val (ng x) = -val x := by
  unfold val; rw [rg_ng, sg_ng h]; cases sg x <;> simp
/-- A SUBTRACTION OF FINITE WORDS -/
theorem sub_fin {x y : Nat} (h : y < 18446744073709551616) (hx : rg x < 9218868437227405312) (hy : rg y < 9218868437227405312) :
    Ieee.double.sub x y = some (wd (if val x - val y = 0 then sg x && !sg y else decide (val x - val y < 0)) (rq (val x - val y).natAbs 0)) := by
  rw [sub_eq h, add_fin hx (by rw [rg_ng]; exact hy), val_ng h, sg_ng h]; rfl
/-- A MULTIPLICATION OF FINITE WORDS -/
theorem mul_fin {x y : Nat} (hx : rg x < 9218868437227405312) (hy : rg y < 9218868437227405312) :
    Ieee.double.mul x y = some (wd (sg x ^^ sg y) (rq (vl (rg x) * vl (rg y)) 1074)) := by
  obtain ⟨m, k, hm, em⟩ := read_fin hx
  obtain ⟨n, j, hn, en⟩ := read_fin hy
  unfold Ieee.Format.mul
  rw [hm, hn]
  simp only [Ieee.Datum.product, Option.map_some]
  show some (Ieee.double.nearest _ _ _) = _
  have e := nearest_eq (sg x ^^ sg y) (m * n) (k + j) 1074
  rw [show (-1074 + ((k + j : Nat) : Int) - ((1074 : Nat) : Int)) = -1074 + (k : Int) + (-1074 + (j : Int)) by omega] at e
  rw [e, ← em, ← en]
  congr 3
  rw [Nat.pow_add, Nat.mul_mul_mul_comm]

/-- the rung nearest to v times 2 to the power of n -/
def rz (v : Nat) (n : Int) : Nat := rq (v * 2 ^ n.toNat) (-n).toNat
theorem rz_shift (v k : Nat) (n : Int) : rz (v * 2 ^ k) n = rz v (n + k) := by
  unfold rz
  rw [Nat.mul_assoc, ← Nat.pow_add]
  by_cases h : 0 ≤ n
  · rw [show (n + (k : Int)).toNat = k + n.toNat by omega, show (-n).toNat = 0 by omega, show (-(n + (k : Int))).toNat = 0 by omega]
  · by_cases c : 0 ≤ n + k
    · have e := rq_mul (v * 2 ^ (n + (k : Int)).toNat) (-n).toNat 0
      rw [Nat.mul_assoc, ← Nat.pow_add, Nat.zero_add] at e
      rw [show (-(n + (k : Int))).toNat = 0 by omega, ← e, show (n + (k : Int)).toNat + (-n).toNat = k + n.toNat by omega]
    · have e := rq_mul v k (-(n + (k : Int))).toNat
      rw [show (n + (k : Int)).toNat = 0 by omega, show k + n.toNat = k by omega, Nat.pow_zero, Nat.mul_one, ← e, show (-(n + (k : Int))).toNat + k = (-n).toNat by omega]
theorem rz_zero (v : Nat) : rz v 0 = rq v 0 := by unfold rz; simp
theorem rz_le (v : Nat) (n : Int) : rz v n ≤ 9218868437227405312 := rq_le _ _
theorem rz_neg (v d : Nat) : rz v (-(d : Int)) = rq v d := by
  unfold rz
  rw [show (-(d : Int)).toNat = 0 by omega, show (-(-(d : Int))).toNat = d by omega, Nat.pow_zero, Nat.mul_one]

/-- what is below half a unit becomes nought -/
theorem rq_low (n d : Nat) (h : 2 * n < 2 ^ d) : rq n d = 0 := by
  by_cases z : n = 0
  · subst z; rfl
  · unfold rq
    rw [if_neg z]
    have hl : n.log2 < d := by
      refine (Nat.log2_lt z).2 ?_
      omega
    rw [show n.log2 - (52 + d) = 0 by omega, Nat.zero_mul, Nat.zero_add, Nat.zero_add, rne_small n d h]; rfl
/-- what is too great becomes infinite -/
theorem rq_far (n d : Nat) (z : n ≠ 0) (hl : 2098 + d ≤ n.log2) : rq n d = 9218868437227405312 := by
  unfold rq
  rw [if_neg z]
  have e : 4503599627370496 ≤ rne n (n.log2 - (52 + d) + d) := by
    refine le_rne _ _ _ ?_
    have := log2_le n z
    rw [show (4503599627370496 : Nat) = 2 ^ 52 from rfl, ← Nat.pow_add, show 52 + (n.log2 - (52 + d) + d) = n.log2 by omega]
    exact this
  have : 2046 ≤ n.log2 - (52 + d) := by omega
  have h3 : 2046 * 4503599627370496 ≤ (n.log2 - (52 + d)) * 4503599627370496 := Nat.mul_le_mul_right _ this
  omega

theorem rq_far_mul (M k : Nat) (hM : 4503599627370496 ≤ M) (hk : 2046 ≤ k) : rq (M * 2 ^ k) 0 = 9218868437227405312 := by
  have z : M ≠ 0 := by omega
  have h1 : 52 ≤ M.log2 := (Nat.le_log2 z).2 (by omega)
  refine rq_far _ _ (Nat.mul_ne_zero z (by have := Nat.two_pow_pos k; omega)) ?_
  rw [log2_mul M k z]; omega
theorem and_exp {y : Nat} (h : y < 18446744073709551616) : bits .andNot .u64 (y : Int) 9218868437227405312 = ((y / 9223372036854775808 * 9223372036854775808 + y % 4503599627370496 : Nat) : Int) := by
  have e := u64_andNot_nat y 9218868437227405312 h (by omega)
  rw [show ((9218868437227405312 : Nat) : Int) = 9218868437227405312 from rfl] at e
  rw [e]
  show ((y &&& 9227875636482146303 : Nat) : Int) = _
  have h1 : (y &&& 9227875636482146303) % 2 ^ 52 = y % 2 ^ 52 := by
    rw [Nat.and_mod_two_pow, show 9227875636482146303 % 2 ^ 52 = 2 ^ 52 - 1 from rfl, Nat.and_two_pow_sub_one_eq_mod, Nat.mod_mod]
  have h2 : (y &&& 9227875636482146303) / 2 ^ 52 = y / 2 ^ 52 &&& 2 ^ 11 := by rw [Nat.and_div_two_pow]
  have h3 : (y / 2 ^ 52 &&& 2 ^ 11) / 2 ^ 11 = y / 2 ^ 52 / 2 ^ 11 % 2 := by rw [Nat.and_div_two_pow, Nat.div_self (Nat.two_pow_pos 11), Nat.and_one_is_mod]
  have h4 : (y / 2 ^ 52 &&& 2 ^ 11) % 2 ^ 11 = 0 := by rw [Nat.and_mod_two_pow]; simp
  generalize (y &&& 9227875636482146303) = a at *
  generalize (y / 2 ^ 52 &&& 2 ^ 11) = b at *
  omega
theorem or_field (s F f : Nat) (hs : s ≤ 1) (hF : F < 2048) (hf : f < 4503599627370496) :
    bits .or .u64 ((s * 9223372036854775808 + f : Nat) : Int) ((F * 4503599627370496 : Nat) : Int) = ((s * 9223372036854775808 + (F * 4503599627370496 + f) : Nat) : Int) := by
  rw [u64_or_nat _ _ (by omega) (by omega)]
  have h1 : ((s * 9223372036854775808 + f) ||| (F * 4503599627370496)) % 2 ^ 52 = f := by
    rw [Nat.or_mod_two_pow, show (s * 9223372036854775808 + f) % 2 ^ 52 = f by omega, show (F * 4503599627370496) % 2 ^ 52 = 0 by omega, Nat.or_zero]
  have h2 : ((s * 9223372036854775808 + f) ||| (F * 4503599627370496)) / 2 ^ 52 = 2 ^ 11 * s + F := by
    rw [Nat.or_div_two_pow, show (s * 9223372036854775808 + f) / 2 ^ 52 = 2 ^ 11 * s by omega, show (F * 4503599627370496) / 2 ^ 52 = F by omega]
    exact (Nat.two_pow_add_eq_or_of_lt (by omega) s).symm
  generalize ((s * 9223372036854775808 + f) ||| (F * 4503599627370496)) = a at *
  omega
theorem and_sign {y : Nat} (h : y < 18446744073709551616) : bits .and .u64 (y : Int) 9223372036854775808 = ((y / 9223372036854775808 * 9223372036854775808 : Nat) : Int) := by
  have e := u64_and_nat y 9223372036854775808 h (by omega)
  rw [show ((9223372036854775808 : Nat) : Int) = 9223372036854775808 from rfl] at e
  rw [e]
  have h1 : (y &&& 2 ^ 63) / 2 ^ 63 = y / 2 ^ 63 % 2 := by
    rw [Nat.and_div_two_pow, Nat.div_self (Nat.two_pow_pos 63), Nat.and_one_is_mod]
  have h2 : (y &&& 2 ^ 63) % 2 ^ 63 = 0 := by rw [Nat.and_mod_two_pow]; simp
  show ((y &&& 2 ^ 63 : Nat) : Int) = _
  generalize (y &&& 2 ^ 63) = a at *
  omega
theorem abs_int {x : Nat} (h : x < 18446744073709551616) : bits .andNot .u64 (x : Int) 9223372036854775808 = ((rg x : Nat) : Int) := by
  have e := abs_bits h
  have e2 := u64_andNot_nat x 9223372036854775808 h (by omega)
  rw [show ((9223372036854775808 : Nat) : Int) = 9223372036854775808 from rfl] at e2
  rw [e2] at e ⊢
  rw [Int.toNat_natCast] at e; rw [e]
theorem or_sign (s r : Nat) (hs : s ≤ 1) (hr : r < 9223372036854775808) : bits .or .u64 (r : Int) ((s * 9223372036854775808 : Nat) : Int) = ((s * 9223372036854775808 + r : Nat) : Int) := by
  rw [u64_or_nat _ _ (by omega) (by omega), Nat.or_comm]
  have := (Nat.two_pow_add_eq_or_of_lt (i := 63) (b := r) (by omega) s)
  rw [show 2 ^ 63 * s = s * 9223372036854775808 by omega] at this
  rw [← this]
theorem wd_sg {y : Nat} (h : y < 18446744073709551616) (r : Nat) : wd (sg y) r = y / 9223372036854775808 * 9223372036854775808 + r := by
  unfold wd
  rw [sg_lt h]
  by_cases c : 9223372036854775808 ≤ y
  · simp only [c, decide_true, if_true]; omega
  · simp only [c, decide_false, Bool.false_eq_true, if_false]; omega
theorem and2047 (n : Int) : bits .and .i64 n 2047 = n % 2048 := by
  have h127 : (BitVec.ofInt 64 2047).toNat = 2 ^ 11 - 1 := by decide
  have key : (BitVec.ofInt 64 n &&& BitVec.ofInt 64 2047).toNat = (n % ((2 ^ 64 : Nat) : Int)).toNat % 2 ^ 11 := by
    rw [BitVec.toNat_and, BitVec.toNat_ofInt, h127, Nat.and_two_pow_sub_one_eq_mod]
  show IntKind.i64.wrap ((BitVec.ofInt 64 n &&& BitVec.ofInt 64 2047).toNat : Nat) = n % 2048
  rw [key, IntKind.wrap_i64]
  omega
theorem vl_one : vl 4607182418800017408 = 2 ^ 1074 := by decide +kernel
theorem vl_52 : vl 4841369599423283200 = 2 ^ (52 + 1074) := by decide +kernel
theorem vl_53 : vl 4368491638549381120 = 2 ^ 1021 := by decide +kernel
theorem rq_by (c v p d q : Nat) (hc : vl c = 2 ^ p) (hq : q = d + p) : rq (vl c * v) q = rq v d := by
  subst hq; rw [hc, Nat.mul_comm]; exact rq_mul v p d
theorem rq_by' (c v p k q : Nat) (hc : vl c = 2 ^ (k + p)) (hq : q = p) : rq (v * vl c) q = rq (v * 2 ^ k) 0 := by
  subst hq; rw [hc, Nat.pow_add, ← Nat.mul_assoc]
  have e := rq_mul (v * 2 ^ k) q 0
  rwa [Nat.zero_add] at e
theorem wd_self {y : Nat} (h : y < 18446744073709551616) : wd (sg y) (rg y) = y := by
  have hs := sg_lt h
  have hr : rg y = y % 9223372036854775808 := rfl
  unfold wd
  rw [hs]
  by_cases c : 9223372036854775808 ≤ y
  · simp only [c, decide_true, if_true]; omega
  · simp only [c, decide_false, Bool.false_eq_true, if_false]; omega
/-- times 1 -/
theorem mul_one {y : Nat} (hy : rg y < 9218868437227405312) (h : y < 18446744073709551616) : Ieee.double.mul 4607182418800017408 y = some y := by
  have r1 : rg 4607182418800017408 = 4607182418800017408 := by decide
  have s1 : sg 4607182418800017408 = false := by decide
  have e := mul_fin (x := 4607182418800017408) (y := y) (by rw [r1]; decide) hy
  rw [r1, s1, Bool.false_xor, rq_by 4607182418800017408 _ 1074 0 1074 vl_one rfl, rq_vl _ (by omega), wd_self h] at e
  exact e
/-- times 2^-53 -/
theorem mul_53 {y : Nat} (hy : rg y < 9218868437227405312) : Ieee.double.mul 4368491638549381120 y = some (wd (sg y) (rq (vl (rg y)) 53)) := by
  have r1 : rg 4368491638549381120 = 4368491638549381120 := by decide
  have s1 : sg 4368491638549381120 = false := by decide
  have e := mul_fin (x := 4368491638549381120) (y := y) (by rw [r1]; decide) hy
  rw [r1, s1, Bool.false_xor, rq_by 4368491638549381120 _ 1021 53 1074 vl_53 rfl] at e
  exact e
/-- times 2^52 -/
theorem mul_52 {x : Nat} (hx : rg x < 9218868437227405312) : Ieee.double.mul x 4841369599423283200 = some (wd (sg x) (rq (vl (rg x) * 2 ^ 52) 0)) := by
  have r1 : rg 4841369599423283200 = 4841369599423283200 := by decide
  have s1 : sg 4841369599423283200 = false := by decide
  have e := mul_fin (x := x) (y := 4841369599423283200) hx (by rw [r1]; decide)
  rw [r1, s1, Bool.xor_false, rq_by' 4841369599423283200 _ 1074 52 1074 vl_52 rfl] at e
  exact e
/-- times 2^52, of what is smaller than a normal number: exact, and normal -/
theorem rq_52 (r : Nat) (h : r < 4503599627370496) (z : r ≠ 0) : vl (rq (vl r * 2 ^ 52) 0) = vl r * 2 ^ 52 ∧ 4503599627370496 ≤ rq (vl r * 2 ^ 52) 0 ∧ rq (vl r * 2 ^ 52) 0 < 243194379878006784 := by
  rw [vl_small h]
  have hl : r.log2 < 52 := (Nat.log2_lt z).2 (by simpa using h)
  have hz : r * 2 ^ 52 ≠ 0 := by omega
  have e : rq (r * 2 ^ 52) 0 = r.log2 * 4503599627370496 + r * 2 ^ (52 - r.log2) := by
    unfold rq
    rw [if_neg hz, log2_mul r 52 z, show r.log2 + 52 - (52 + 0) = r.log2 by omega, Nat.add_zero]
    have e2 : rne (r * 2 ^ 52) r.log2 = r * 2 ^ (52 - r.log2) := by
      have := rne_exact (r * 2 ^ (52 - r.log2)) r.log2
      rw [Nat.mul_assoc, ← Nat.pow_add, show 52 - r.log2 + r.log2 = 52 by omega] at this
      exact this
    rw [e2]
    have h1 := log2_lt r z
    have h2 : r * 2 ^ (52 - r.log2) < 2 ^ (r.log2 + 1) * 2 ^ (52 - r.log2) := Nat.mul_lt_mul_of_pos_right h1 (Nat.two_pow_pos _)
    rw [← Nat.pow_add, show r.log2 + 1 + (52 - r.log2) = 53 by omega] at h2
    have h3 : r.log2 * 4503599627370496 ≤ 51 * 4503599627370496 := Nat.mul_le_mul_right _ (by omega)
    omega
  have h1 := log2_lt r z
  have h2 : r * 2 ^ (52 - r.log2) < 2 ^ (r.log2 + 1) * 2 ^ (52 - r.log2) := Nat.mul_lt_mul_of_pos_right h1 (Nat.two_pow_pos _)
  rw [← Nat.pow_add, show r.log2 + 1 + (52 - r.log2) = 53 by omega] at h2
  have h3 : 2 ^ r.log2 * 2 ^ (52 - r.log2) ≤ r * 2 ^ (52 - r.log2) := Nat.mul_le_mul_right _ (log2_le r z)
  rw [← Nat.pow_add, show r.log2 + (52 - r.log2) = 52 by omega] at h3
  have h4 : r.log2 * 4503599627370496 ≤ 51 * 4503599627370496 := Nat.mul_le_mul_right _ (by omega)
  refine ⟨?_, ?_, ?_⟩
  · rw [e, vl_comb _ _ (by omega) (Or.inr (by omega)), Nat.mul_assoc, ← Nat.pow_add, show 52 - r.log2 + r.log2 = 52 by omega]
  · rw [e]; omega
  · rw [e]; omega
theorem rq_low_gen (v p d : Nat) (h : v < 2 ^ p) (hd : p + 1 ≤ d) : rq v d = 0 := by
  refine rq_low _ _ ?_
  have h1 : 2 ^ (p + 1) ≤ 2 ^ d := Nat.pow_le_pow_right (by omega) hd
  rw [Nat.pow_succ] at h1
  generalize 2 ^ d = a at *
  omega
theorem vl_inf : vl 9218868437227405312 = 2 ^ 2098 := by decide +kernel
theorem vl_lt {r : Nat} (h : r < 9218868437227405312) : vl r < 2 ^ 2098 := by rw [← vl_inf]; exact vl_mono h
theorem vl_pos {r : Nat} (h : ¬ r = 0) : vl r ≠ 0 := by
  have h1 := vl_mono (r := 0) (s := r) (by omega)
  omega
theorem rz_far (v : Nat) (n : Int) (hv : v ≠ 0) (hn : 2098 ≤ n) : rz v n = 9218868437227405312 := by
  unfold rz
  rw [show (-n).toNat = 0 by omega]
  refine rq_far _ _ (Nat.mul_ne_zero hv (by have := Nat.two_pow_pos n.toNat; omega)) ?_
  rw [log2_mul v _ hv]; omega
theorem rz_low (v p : Nat) (n : Int) (hv : v < 2 ^ p) (hn : n ≤ -(p : Int) - 1) : rz v n = 0 := by
  rw [show n = -((-n).toNat : Int) by omega, rz_neg]
  exact rq_low_gen v p _ hv (by omega)
/-- beyond all exponents nothing turns -/
theorem rz_clamp (v : Nat) (n : Int) (hv : v ≠ 0) (hl : v < 2 ^ 2098) : rz v (min (max n (-4096)) 4096) = rz v n := by
  by_cases h1 : 4096 < n
  · rw [rz_far v n hv (by omega), rz_far v _ hv (by omega)]
  · by_cases h2 : n < -4096
    · rw [rz_low v 2098 n hl (by omega), rz_low v 2098 _ hl (by omega)]
    · rw [show min (max n (-4096)) 4096 = n by omega]
end Go.Proofs.YtgaigfmboomnkaaGreat.Fl
