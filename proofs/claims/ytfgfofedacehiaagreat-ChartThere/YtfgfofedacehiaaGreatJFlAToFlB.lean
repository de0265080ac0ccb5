/-
 OWN TEXT: plain laws on the words of a double: the order of two words that are no NaN is the order of two whole numbers.
-/
import Ieee.Arith
import Derived.WalkKit
import Derived.WalkLawsBesides
import Derived.Laws.BitsAllLaws
namespace Go.Proofs.YtfgfofedacehiaaGreat.Fl

/-- the sign bit -/
def sg (x : Nat) : Bool := x / 9223372036854775808 % 2 == 1
/-- the rung: all bits but the sign -/
def rg (x : Nat) : Nat := x % 9223372036854775808
/-- what a rung counts: units of the least place -/
def vl (r : Nat) : Nat := if r < 4503599627370496 then r else (4503599627370496 + r % 4503599627370496) * 2 ^ (r / 4503599627370496 - 1)
/-- where a word stands in the row of all words that are numbers or infinite -/
def key (x : Nat) : Int := if sg x then -(rg x : Int) else rg x
/-- is it no number? -/
def nan (x : Nat) : Bool := decide (9218868437227405312 < rg x)
theorem read_eq (x : Nat) : Ieee.double.read x =
  if rg x < 4503599627370496 then .number (sg x) (rg x) (-1074)
  else if rg x < 9218868437227405312 then .number (sg x) (4503599627370496 + rg x % 4503599627370496) (-1074 + ((rg x / 4503599627370496 - 1 : Nat) : Int))
  else if rg x = 9218868437227405312 then .infinity (sg x)
  else .nan (sg x) (rg x - 9218868437227405312) := rfl
theorem vl_small {r : Nat} (h : r < 4503599627370496) : vl r = r := by simp [vl, h]
theorem vl_big {r : Nat} (h : 4503599627370496 ≤ r) : vl r = (4503599627370496 + r % 4503599627370496) * 2 ^ (r / 4503599627370496 - 1) := by
 simp [vl, Nat.not_lt.2 h]
theorem vl_lt_succ (r : Nat) : vl r < vl (r + 1) := by
 by_cases h : r + 1 < 4503599627370496
 · rw [vl_small h, vl_small (by omega)]; omega
 by_cases h1 : r + 1 = 4503599627370496
 · rw [h1, vl_small (by omega), vl_big (by omega)]; simp; omega
 rw [vl_big (r := r) (by omega), vl_big (r := r + 1) (by omega)]
 by_cases h2 : (r + 1) % 4503599627370496 = 0
 ·
  have e1 : r % 4503599627370496 = 4503599627370495 := by omega
  have e2 : (r + 1) / 4503599627370496 - 1 = (r / 4503599627370496 - 1) + 1 := by omega
  rw [h2, e1, e2, Nat.pow_succ]
  have hp : 0 < 2 ^ (r / 4503599627370496 - 1) := Nat.two_pow_pos _
  generalize 2 ^ (r / 4503599627370496 - 1) = p at hp
  omega
 ·
  have e1 : (r + 1) % 4503599627370496 = r % 4503599627370496 + 1 := by omega
  have e2 : (r + 1) / 4503599627370496 = r / 4503599627370496 := by omega
  rw [e1, e2]
  have hp : 0 < 2 ^ (r / 4503599627370496 - 1) := Nat.two_pow_pos _
  exact Nat.mul_lt_mul_of_pos_right (by omega) hp
theorem vl_mono {r s : Nat} (h : r < s) : vl r < vl s := by
 induction s with
 | zero => omega
 | succ s ih =>
  by_cases e : r = s
  · subst e; exact vl_lt_succ r
  · exact Nat.lt_trans (ih (by omega)) (vl_lt_succ s)
theorem vl_lt_iff {r s : Nat} : vl r < vl s ↔ r < s := by
 constructor
 ·
  intro h
  by_cases h1 : r < s
  · exact h1
  ·
   by_cases h2 : r = s
   · subst h2; omega
   · have := vl_mono (r := s) (s := r) (by omega); omega
 · exact vl_mono
theorem vl_inj {r s : Nat} : vl r = vl s ↔ r = s := by
 constructor
 ·
  intro h
  by_cases h1 : r = s
  · exact h1
  ·
   by_cases h2 : r < s
   · have := vl_mono h2; omega
   · have := vl_mono (r := s) (s := r) (by omega); omega
 · intro h; rw [h]
/-- a finite word is a number whose units are told by its rung -/
theorem read_fin {x : Nat} (h : rg x < 9218868437227405312) : ∃ m k : Nat, Ieee.double.read x = .number (sg x) m (-1074 + (k : Int)) ∧ m * 2 ^ k = vl (rg x) := by
 rw [read_eq]
 by_cases h1 : rg x < 4503599627370496
 · exact ⟨rg x, 0, by simp [h1], by simp [vl_small h1]⟩
 · exact ⟨_, rg x / 4503599627370496 - 1, by rw [if_neg h1, if_pos h], by rw [vl_big (by omega)]⟩
theorem read_inf {x : Nat} (h : rg x = 9218868437227405312) : Ieee.double.read x = .infinity (sg x) := by
 rw [read_eq, if_neg (by omega), if_neg (by omega), if_pos h]
theorem read_nan {x : Nat} (h : 9218868437227405312 < rg x) : Ieee.double.read x = .nan (sg x) (rg x - 9218868437227405312) := by
 rw [read_eq, if_neg (by omega), if_neg (by omega), if_neg (by omega)]
theorem cmp_scale (a b : Int) (p : Int) (hp : 0 < p) : compare (a * p) (b * p) = compare a b := by
 have h1 : (a * p < b * p) ↔ a < b := Int.mul_lt_mul_right hp
 have h2 : (a * p = b * p) ↔ a = b := ⟨fun h => Int.eq_of_mul_eq_mul_right (by omega) h, fun h => by rw [h]⟩
 simp only [compare, compareOfLessAndEq, h1, h2]
theorem signed_eq (s : Bool) (m k : Nat) : Ieee.signed s m k = (if s then -1 else 1) * ((m * 2 ^ k : Nat) : Int) := by
 unfold Ieee.signed
 rw [Nat.shiftLeft_eq]
 cases s <;> simp
theorem order_fin {x y : Nat} (hx : rg x < 9218868437227405312) (hy : rg y < 9218868437227405312) :
  Ieee.double.order x y = some (compare ((if sg x then -1 else 1) * (vl (rg x) : Int)) ((if sg y then -1 else 1) * (vl (rg y) : Int))) := by
 obtain ⟨m, k, hm, em⟩ := read_fin hx
 obtain ⟨n, j, hn, en⟩ := read_fin hy
 unfold Ieee.Format.order
 rw [hm, hn]
 simp only [Ieee.Datum.order]
 congr 1
 rw [← em, ← en, signed_eq, signed_eq]
 have hb : min (-1074 + (k : Int)) (-1074 + (j : Int)) = -1074 + ((min k j : Nat) : Int) := by omega
 rw [hb]
 have e1 : (-1074 + (k : Int) - (-1074 + ((min k j : Nat) : Int))).toNat = k - min k j := by omega
 have e2 : (-1074 + (j : Int) - (-1074 + ((min k j : Nat) : Int))).toNat = j - min k j := by omega
 rw [e1, e2]
 rw [← cmp_scale _ _ ((2 ^ min k j : Nat) : Int) (by have := Nat.two_pow_pos (min k j); omega)]
 rw [Int.mul_assoc, Int.mul_assoc, ← Int.natCast_mul, ← Int.natCast_mul, Nat.mul_assoc, Nat.mul_assoc, ← Nat.pow_add, ← Nat.pow_add, Nat.sub_add_cancel (Nat.min_le_left k j), Nat.sub_add_cancel (Nat.min_le_right k j)]
theorem order_key {x y : Nat} (hx : rg x ≤ 9218868437227405312) (hy : rg y ≤ 9218868437227405312) :
  Ieee.double.order x y = some (compare (key x) (key y)) := by
 by_cases fx : rg x < 9218868437227405312
 ·
  by_cases fy : rg y < 9218868437227405312
  ·
   rw [order_fin fx fy]
   congr 1
   have a1 := @vl_lt_iff (rg x) (rg y)
   have a2 := @vl_lt_iff (rg y) (rg x)
   have a3 := @vl_inj (rg x) (rg y)
   have z1 : vl (rg x) = 0 ↔ rg x = 0 := by have := @vl_inj (rg x) 0; simpa [vl] using this
   have z2 : vl (rg y) = 0 ↔ rg y = 0 := by have := @vl_inj (rg y) 0; simpa [vl] using this
   unfold key
   generalize vl (rg x) = a at *
   generalize vl (rg y) = b at *
   generalize rg x = c at *
   generalize rg y = d at *
   simp only [compare, compareOfLessAndEq]
   cases sg x <;> cases sg y <;> simp only [Bool.false_eq_true, if_true, if_false] <;> repeat' split
   all_goals first | rfl | omega
  ·
   have ey : rg y = 9218868437227405312 := by omega
   obtain ⟨m, k, hm, em⟩ := read_fin fx
   unfold Ieee.Format.order
   rw [hm, read_inf ey]
   simp only [Ieee.Datum.order, key, ey, compare, compareOfLessAndEq]
   congr 1
   cases sg x <;> cases sg y <;> simp only [Bool.false_eq_true, if_true, if_false] <;> repeat' split
   all_goals first | rfl | omega
 ·
  have ex : rg x = 9218868437227405312 := by omega
  by_cases fy : rg y < 9218868437227405312
  ·
   obtain ⟨m, k, hm, em⟩ := read_fin fy
   unfold Ieee.Format.order
   rw [hm, read_inf ex]
   simp only [Ieee.Datum.order, key, ex, compare, compareOfLessAndEq]
   congr 1
   cases sg x <;> cases sg y <;> simp only [Bool.false_eq_true, if_true, if_false] <;> repeat' split
   all_goals first | rfl | omega
  ·
   have ey : rg y = 9218868437227405312 := by omega
   unfold Ieee.Format.order
   rw [read_inf ex, read_inf ey]
   simp only [Ieee.Datum.order, key, ex, ey]
   congr 1
   cases sg x <;> cases sg y <;> rfl
theorem order_nan_left {x y : Nat} (h : 9218868437227405312 < rg x) : Ieee.double.order x y = none := by
 unfold Ieee.Format.order
 rw [read_nan h]; rfl
theorem order_nan_right {x y : Nat} (h : 9218868437227405312 < rg y) : Ieee.double.order x y = none := by
 unfold Ieee.Format.order
 rw [read_nan h]
 generalize Ieee.double.read x = d
 cases d <;> rfl
/-- THE TEST 'a == b' and its fellows in words of keys -/
theorem order_all (x y : Nat) : Ieee.double.order x y = if nan x || nan y then none else some (compare (key x) (key y)) := by
 unfold nan
 by_cases h1 : 9218868437227405312 < rg x
 · simp [h1, order_nan_left h1]
 ·
  by_cases h2 : 9218868437227405312 < rg y
  · simp [h2, order_nan_right h2]
  · simp [h1, h2, order_key (Nat.not_lt.1 h1) (Nat.not_lt.1 h2)]
def eqF (x y : Nat) : Bool := !nan x && !nan y && decide (key x = key y)
def ltF (x y : Nat) : Bool := !nan x && !nan y && decide (key x < key y)
def leF (x y : Nat) : Bool := !nan x && !nan y && decide (key x ≤ key y)
theorem cmp_lt (a b : Int) : (compare a b == Ordering.lt) = decide (a < b) := by
 simp only [compare, compareOfLessAndEq]; repeat' split
 all_goals simp_all
theorem cmp_eq (a b : Int) : (compare a b == Ordering.eq) = decide (a = b) := by
 simp only [compare, compareOfLessAndEq]; repeat' split
 all_goals simp_all
 all_goals omega
theorem cmp_gt (a b : Int) : (compare a b == Ordering.gt) = decide (b < a) := by
 simp only [compare, compareOfLessAndEq]; repeat' split
 all_goals simp_all
 all_goals omega
theorem ord_eq (x y : Nat) : (Ieee.double.order x y == some .eq) = eqF x y := by
 rw [order_all]; unfold eqF
 cases nan x <;> cases nan y <;> simp [cmp_eq]
theorem ord_lt (x y : Nat) : (Ieee.double.order x y == some .lt) = ltF x y := by
 rw [order_all]; unfold ltF
 cases nan x <;> cases nan y <;> simp [cmp_lt]
theorem ord_gt (x y : Nat) : (Ieee.double.order x y == some .gt) = ltF y x := by
 rw [order_all]; unfold ltF
 cases nan x <;> cases nan y <;> simp [cmp_gt]
end Go.Proofs.YtfgfofedacehiaaGreat.Fl

/-
 OWN TEXT: plain laws on sign, rung and order of a word, in the forms in which the walk writes them.
-/
namespace Go.Proofs.YtfgfofedacehiaaGreat.Fl

theorem sg_lt {x : Nat} (h : x < 18446744073709551616) : sg x = decide (9223372036854775808 ≤ x) := by
 unfold sg
 by_cases h1 : 9223372036854775808 ≤ x
 ·
  have : x / 9223372036854775808 = 1 := by omega
  simp [h1, this]
 ·
  have : x / 9223372036854775808 = 0 := by omega
  simp [h1, this]
/-- the sign turned -/
def ng (x : Nat) : Nat := if x < 9223372036854775808 then x + 9223372036854775808 else x - 9223372036854775808
theorem ng_lt {x : Nat} (h : x < 18446744073709551616) : ng x < 18446744073709551616 := by unfold ng; split <;> omega
theorem neg_eq {x : Nat} (h : x < 18446744073709551616) : Op.negFloat .f64 x = ng x := by
 show x ^^^ 2 ^ 63 = ng x
 have h1 : (x ^^^ 2 ^ 63) / 2 ^ 63 = x / 2 ^ 63 ^^^ 1 := by
  rw [← Nat.shiftRight_eq_div_pow, ← Nat.shiftRight_eq_div_pow, Nat.shiftRight_xor_distrib]; rfl
 have h2 : (x ^^^ 2 ^ 63) % 2 ^ 63 = x % 2 ^ 63 := by
  rw [Nat.xor_mod_two_pow]; simp
 have hd := Nat.div_add_mod (x ^^^ 2 ^ 63) (2 ^ 63)
 rw [h1, h2] at hd
 unfold ng
 by_cases hl : x < 9223372036854775808
 ·
  rw [if_pos hl]
  have e : x / 2 ^ 63 = 0 := by omega
  rw [e] at hd
  have : (0 ^^^ 1 : Nat) = 1 := rfl
  rw [this] at hd; omega
 ·
  rw [if_neg hl]
  have e : x / 2 ^ 63 = 1 := by omega
  rw [e] at hd
  have : (1 ^^^ 1 : Nat) = 0 := rfl
  rw [this] at hd; omega
theorem rg_ng (x : Nat) : rg (ng x) = rg x := by unfold ng rg; split <;> omega
theorem sg_ng {x : Nat} (h : x < 18446744073709551616) : sg (ng x) = !sg x := by
 rw [sg_lt h, sg_lt (ng_lt h)]
 unfold ng
 by_cases h1 : 9223372036854775808 ≤ x
 · simp [h1, Nat.not_lt.2 h1]; omega
 · simp [h1, Nat.lt_of_not_le h1]
theorem nan_ng (x : Nat) : nan (ng x) = nan x := by unfold nan; rw [rg_ng]
theorem abs_bits {x : Nat} (h : x < 18446744073709551616) : (bits .andNot .u64 (x : Int) 9223372036854775808).toNat = rg x := by
 have e := u64_andNot_nat x 9223372036854775808 h (by omega)
 rw [show ((9223372036854775808 : Nat) : Int) = 9223372036854775808 from rfl] at e
 rw [e, Int.toNat_natCast]
 show x &&& (2 ^ 63 - 1) = _
 rw [Nat.and_two_pow_sub_one_eq_mod]; rfl
theorem sign_bits {x : Nat} (h : x < 18446744073709551616) : (bits .and .u64 (x : Int) 9223372036854775808 != 0) = sg x := by
 have e := u64_and_nat x 9223372036854775808 h (by omega)
 rw [show ((9223372036854775808 : Nat) : Int) = 9223372036854775808 from rfl] at e
 rw [e]
 have h1 : (x &&& 2 ^ 63) / 2 ^ 63 = x / 2 ^ 63 % 2 := by
  rw [Nat.and_div_two_pow, Nat.div_self (Nat.two_pow_pos 63), Nat.and_one_is_mod]
 have h2 : (x &&& 2 ^ 63) % 2 ^ 63 = 0 := by rw [Nat.and_mod_two_pow]; simp
 rw [sg_lt h]
 show (((x &&& 2 ^ 63 : Nat) : Int) != 0) = _
 generalize (x &&& 2 ^ 63) = y at h1 h2
 by_cases hl : 9223372036854775808 ≤ x
 · simp only [hl, decide_true, bne_iff_ne]; omega
 · simp only [hl, decide_false, bne_eq_false_iff_eq]; omega
theorem rg_lt (x : Nat) : rg x < 9223372036854775808 := Nat.mod_lt _ (by omega)
theorem rg_of_lt {x : Nat} (h : x < 9223372036854775808) : rg x = x := Nat.mod_eq_of_lt h
theorem rg_rg (x : Nat) : rg (rg x) = rg x := rg_of_lt (rg_lt x)
theorem sg_rg (x : Nat) : sg (rg x) = false := by
 rw [sg_lt (by have := rg_lt x; omega)]; have := rg_lt x; simp; omega
theorem nan_rg (x : Nat) : nan (rg x) = nan x := by unfold nan; rw [rg_rg]
theorem key_rg (x : Nat) : key (rg x) = rg x := by unfold key; rw [sg_rg, rg_rg]; simp
theorem key_cases (x : Nat) : (sg x = true ∧ key x = -(rg x : Int)) ∨ (sg x = false ∧ key x = rg x) := by
 unfold key; cases sg x <;> simp
/-- a's bits; one row for all that is no number -/
def bitsF (x : Nat) : Nat := if nan x then 9221120237041090560 else x
/-- the same -/
def sameB (x y : Nat) : Bool := (nan x && nan y) || (!nan x && !nan y && decide (x = y))
/-- finite -/
def finB (x : Nat) : Bool := decide (rg x < 9218868437227405312)
/-- not above, without the sign -/
def withinB (x y : Nat) : Bool := !nan x && !nan y && decide ((rg x : Int) ≤ key y)
/-- has it the sign? -/
def minusB (x : Nat) : Bool := !nan x && sg x
theorem bitsF_lt {x : Nat} (h : x < 18446744073709551616) : bitsF x < 18446744073709551616 := by unfold bitsF; split <;> omega
theorem nan_lt {x : Nat} (h : nan x = true) : 9218868437227405312 < rg x := by simpa [nan] using h
theorem nan_le {x : Nat} (h : nan x = false) : rg x ≤ 9218868437227405312 := by
 unfold nan at h; exact Nat.not_lt.1 (of_decide_eq_false h)
theorem sg_key {x : Nat} (h : x < 18446744073709551616) : (9223372036854775808 ≤ x ∧ key x = -(rg x : Int) ∧ x = rg x + 9223372036854775808) ∨ (x < 9223372036854775808 ∧ key x = rg x ∧ x = rg x) := by
 have hs := sg_lt h
 have hk := key_cases x
 have hr : rg x = x % 9223372036854775808 := rfl
 by_cases c : 9223372036854775808 ≤ x
 · left; rw [hs] at hk; simp only [c, decide_true, Bool.true_eq_false, false_and, or_false, true_and] at hk; exact ⟨c, hk, by omega⟩
 · right; rw [hs] at hk; simp only [c, decide_false, Bool.false_eq_true, false_and, false_or, true_and] at hk; exact ⟨by omega, hk, by omega⟩
theorem o_eq (x y : Nat) : (FloatKind.f64.format.order x y == some .eq) = eqF x y := ord_eq x y
theorem o_ne (x y : Nat) : (FloatKind.f64.format.order x y != some .eq) = !eqF x y := by rw [bne, o_eq]
theorem o_lt (x y : Nat) : (FloatKind.f64.format.order x y == some .lt) = ltF x y := ord_lt x y
theorem o_gt (x y : Nat) : (FloatKind.f64.format.order x y == some .gt) = ltF y x := ord_gt x y
theorem o_le (x y : Nat) : (FloatKind.f64.format.order x y == some .lt || FloatKind.f64.format.order x y == some .eq) = leF x y := by
 rw [o_lt, o_eq]; unfold ltF eqF leF
 cases nan x <;> cases nan y <;> simp
 by_cases h : key x ≤ key y
 · simp only [h, decide_true]; simp; omega
 · simp only [h, decide_false]; simp; omega
theorem o_ge (x y : Nat) : (FloatKind.f64.format.order x y == some .gt || FloatKind.f64.format.order x y == some .eq) = leF y x := by
 rw [o_gt, o_eq]; unfold ltF eqF leF
 cases nan x <;> cases nan y <;> simp
 by_cases h : key y ≤ key x
 · simp only [h, decide_true]; simp; omega
 · simp only [h, decide_false]; simp; omega
theorem eqF_of {x y : Nat} (h1 : nan x = false) (h2 : nan y = false) : eqF x y = decide (key x = key y) := by unfold eqF; rw [h1, h2]; simp
theorem ltF_of {x y : Nat} (h1 : nan x = false) (h2 : nan y = false) : ltF x y = decide (key x < key y) := by unfold ltF; rw [h1, h2]; simp
theorem leF_of {x y : Nat} (h1 : nan x = false) (h2 : nan y = false) : leF x y = decide (key x ≤ key y) := by unfold leF; rw [h1, h2]; simp
theorem eqF_self (x : Nat) : eqF x x = !nan x := by unfold eqF; simp
end Go.Proofs.YtfgfofedacehiaaGreat.Fl

