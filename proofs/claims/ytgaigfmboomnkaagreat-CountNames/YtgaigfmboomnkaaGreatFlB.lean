/-
  OWN TEXT: plain laws on sign, rung and order of a word, in the forms in which the walk writes them.
-/
import Derived.Test.YtgaigfmboomnkaaGreatFlA
import Derived.WalkKit
import Derived.WalkLawsBesides
import Derived.Laws.BitsAllLaws
namespace Go.Proofs.YtgaigfmboomnkaaGreat.Fl

theorem sg_lt {x : Nat} (h : x < 18446744073709551616) : sg x = decide (9223372036854775808 ≤ x) := by
  unfold sg
  by_cases h1 : 9223372036854775808 ≤ x
  · have : x / 9223372036854775808 = 1 := by omega
    simp [h1, this]
  · have : x / 9223372036854775808 = 0 := by omega
    simp [h1, this]

/-- the sign turned -/
def ng (x : Nat) : Nat := if x < 9223372036854775808 then x + 9223372036854775808 else x - 9223372036854775808
theorem ng_lt {x : Nat} (h : x < 18446744073709551616) : ng x < 18446744073709551616 := by unfold ng; split <;> omega
theorem neg_eq {x : Nat} (h : x < 18446744073709551616) : Op.negFloat .f64 x = ng x := by
  show x ^^^ 2 ^ 63 = ng x
  have h1 : (x ^^^ 2 ^ 63) / 2 ^ 63 = x / 2 ^ 63 ^^^ 1 := by
    rw [← Nat.shiftRight_eq_div_pow, ← Nat.shiftRight_eq_div_pow, Nat.shiftRight_xor_distrib]; rfl
  have h2 : (x ^^^ 2 ^ 63) % 2 ^ 63 = x % 2 ^ 63 := by
    rw [Nat.xor_mod_two_pow]; simp
  have hd := Nat.div_add_mod (x ^^^ 2 ^ 63) (2 ^ 63)
  rw [h1, h2] at hd
  unfold ng
  by_cases hl : x < 9223372036854775808
  · rw [if_pos hl]
    have e : x / 2 ^ 63 = 0 := by omega
    rw [e] at hd
    have : (0 ^^^ 1 : Nat) = 1 := rfl
    rw [this] at hd; omega
  · rw [if_neg hl]
    have e : x / 2 ^ 63 = 1 := by omega
    rw [e] at hd
    have : (1 ^^^ 1 : Nat) = 0 := rfl
    rw [this] at hd; omega
theorem rg_ng (x : Nat) : rg (ng x) = rg x := by unfold ng rg; split <;> omega
theorem sg_ng {x : Nat} (h : x < 18446744073709551616) : sg (ng x) = !sg x := by
  rw [sg_lt h, sg_lt (ng_lt h)]
  unfold ng
  by_cases h1 : 9223372036854775808 ≤ x
  · simp [h1, Nat.not_lt.2 h1]; omega
  · simp [h1, Nat.lt_of_not_le h1]
theorem nan_ng (x : Nat) : nan (ng x) = nan x := by unfold nan; rw [rg_ng]
theorem key_ng {x : Nat} (h : x < 18446744073709551616) : key (ng x) = -key x := by
  unfold key; rw [rg_ng, sg_ng h]; cases sg x <;> simp

theorem abs_bits {x : Nat} (h : x < 18446744073709551616) : (bits .andNot .u64 (x : Int) 9223372036854775808).toNat = rg x := by
  have e := u64_andNot_nat x 9223372036854775808 h (by omega)
  rw [show ((9223372036854775808 : Nat) : Int) = 9223372036854775808 from rfl] at e
  rw [e, Int.toNat_natCast]
  show x &&& (2 ^ 63 - 1) = _
  rw [Nat.and_two_pow_sub_one_eq_mod]; rfl
theorem sign_bits {x : Nat} (h : x < 18446744073709551616) : (bits .and .u64 (x : Int) 9223372036854775808 != 0) = sg x := by
  have e := u64_and_nat x 9223372036854775808 h (by omega)
  rw [show ((9223372036854775808 : Nat) : Int) = 9223372036854775808 from rfl] at e
  rw [e]
  have h1 : (x &&& 2 ^ 63) / 2 ^ 63 = x / 2 ^ 63 % 2 := by
    rw [Nat.and_div_two_pow, Nat.div_self (Nat.two_pow_pos 63), Nat.and_one_is_mod]
  have h2 : (x &&& 2 ^ 63) % 2 ^ 63 = 0 := by rw [Nat.and_mod_two_pow]; simp
  rw [sg_lt h]
  show (((x &&& 2 ^ 63 : Nat) : Int) != 0) = _
  generalize (x &&& 2 ^ 63) = y at h1 h2
  by_cases hl : 9223372036854775808 ≤ x
  · simp only [hl, decide_true, bne_iff_ne]; omega
  · simp only [hl, decide_false, bne_eq_false_iff_eq]; omega

theorem rg_lt (x : Nat) : rg x < 9223372036854775808 := Nat.mod_lt _ (by omega)
theorem rg_of_lt {x : Nat} (h : x < 9223372036854775808) : rg x = x := Nat.mod_eq_of_lt h
theorem rg_rg (x : Nat) : rg (rg x) = rg x := rg_of_lt (rg_lt x)
theorem sg_rg (x : Nat) : sg (rg x) = false := by
  rw [sg_lt (by have := rg_lt x; omega)]; have := rg_lt x; simp; omega
theorem nan_rg (x : Nat) : nan (rg x) = nan x := by unfold nan; rw [rg_rg]
theorem key_rg (x : Nat) : key (rg x) = rg x := by unfold key; rw [sg_rg, rg_rg]; simp
theorem key_cases (x : Nat) : (sg x = true ∧ key x = -(rg x : Int)) ∨ (sg x = false ∧ key x = rg x) := by
  unfold key; cases sg x <;> simp

/-- a's bits; one row for all that is no number -/
def bitsF (x : Nat) : Nat := if nan x then 9221120237041090560 else x
/-- the same -/
def sameB (x y : Nat) : Bool := (nan x && nan y) || (!nan x && !nan y && decide (x = y))
/-- finite -/
def finB (x : Nat) : Bool := decide (rg x < 9218868437227405312)
/-- not above, without the sign -/
def withinB (x y : Nat) : Bool := !nan x && !nan y && decide ((rg x : Int) ≤ key y)
/-- has it the sign? -/
def minusB (x : Nat) : Bool := !nan x && sg x

theorem bitsF_lt {x : Nat} (h : x < 18446744073709551616) : bitsF x < 18446744073709551616 := by unfold bitsF; split <;> omega
theorem nan_lt {x : Nat} (h : nan x = true) : 9218868437227405312 < rg x := by simpa [nan] using h

theorem nan_le {x : Nat} (h : nan x = false) : rg x ≤ 9218868437227405312 := by
  unfold nan at h; exact Nat.not_lt.1 (of_decide_eq_false h)
theorem sg_key {x : Nat} (h : x < 18446744073709551616) : (9223372036854775808 ≤ x ∧ key x = -(rg x : Int) ∧ x = rg x + 9223372036854775808) ∨ (x < 9223372036854775808 ∧ key x = rg x ∧ x = rg x) := by
  have hs := sg_lt h
  have hk := key_cases x
  have hr : rg x = x % 9223372036854775808 := rfl
  by_cases c : 9223372036854775808 ≤ x
  · left; rw [hs] at hk; simp only [c, decide_true, Bool.true_eq_false, false_and, or_false, true_and] at hk; exact ⟨c, hk, by omega⟩
  · right; rw [hs] at hk; simp only [c, decide_false, Bool.false_eq_true, false_and, false_or, true_and] at hk; exact ⟨by omega, hk, by omega⟩

theorem o_eq (x y : Nat) : (FloatKind.f64.format.order x y == some .eq) = eqF x y := ord_eq x y
theorem o_ne (x y : Nat) : (FloatKind.f64.format.order x y != some .eq) = !eqF x y := by rw [bne, o_eq]
theorem o_lt (x y : Nat) : (FloatKind.f64.format.order x y == some .lt) = ltF x y := ord_lt x y
theorem o_gt (x y : Nat) : (FloatKind.f64.format.order x y == some .gt) = ltF y x := ord_gt x y
theorem o_le (x y : Nat) : (FloatKind.f64.format.order x y == some .lt || FloatKind.f64.format.order x y == some .eq) = leF x y := by
  rw [o_lt, o_eq]; unfold ltF eqF leF
  cases nan x <;> cases nan y <;> simp
  by_cases h : key x ≤ key y
  · simp only [h, decide_true]; simp; omega
  · simp only [h, decide_false]; simp; omega
theorem o_ge (x y : Nat) : (FloatKind.f64.format.order x y == some .gt || FloatKind.f64.format.order x y == some .eq) = leF y x := by
  rw [o_gt, o_eq]; unfold ltF eqF leF
  cases nan x <;> cases nan y <;> simp
  by_cases h : key y ≤ key x
  · simp only [h, decide_true]; simp; omega
  · simp only [h, decide_false]; simp; omega
theorem eqF_of {x y : Nat} (h1 : nan x = false) (h2 : nan y = false) : eqF x y = decide (key x = key y) := by unfold eqF; rw [h1, h2]; simp
theorem ltF_of {x y : Nat} (h1 : nan x = false) (h2 : nan y = false) : ltF x y = decide (key x < key y) := by unfold ltF; rw [h1, h2]; simp
theorem leF_of {x y : Nat} (h1 : nan x = false) (h2 : nan y = false) : leF x y = decide (key x ≤ key y) := by unfold leF; rw [h1, h2]; simp
theorem eqF_self (x : Nat) : eqF x x = !nan x := by unfold eqF; simp

end Go.Proofs.YtgaigfmboomnkaaGreat.Fl
