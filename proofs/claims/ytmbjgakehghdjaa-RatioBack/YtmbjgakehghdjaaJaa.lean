/-
  OWN TEXT: plain laws on the words of a double: the order of two words that are no NaN is the order of two whole numbers.
-/
import Ieee.Arith
import Derived.WalkKit
import Derived.WalkLawsBesides
import Derived.Laws.BitsAllLaws
namespace Go.Proofs.Ytmbjgakehghdjaa.Fl

/-- the sign bit -/
def sg (x : Nat) : Bool := x / 9223372036854775808 % 2 == 1
/-- the rung: all bits but the sign -/
def rg (x : Nat) : Nat := x % 9223372036854775808
/-- what a rung counts: units of the least place -/
def vl (r : Nat) : Nat := if r < 4503599627370496 then r else (4503599627370496 + r % 4503599627370496) * 2 ^ (r / 4503599627370496 - 1)
/-- where a word stands in the row of all words that are numbers or infinite -/
def key (x : Nat) : Int := if sg x then -(rg x : Int) else rg x
/-- is it no number? -/
def nan (x : Nat) : Bool := decide (9218868437227405312 < rg x)

theorem read_eq (x : Nat) : Ieee.double.read x =
    if rg x < 4503599627370496 then .number (sg x) (rg x) (-1074)
    else if rg x < 9218868437227405312 then .number (sg x) (4503599627370496 + rg x % 4503599627370496) (-1074 + ((rg x / 4503599627370496 - 1 : Nat) : Int))
    else if rg x = 9218868437227405312 then .infinity (sg x)
    else .nan (sg x) (rg x - 9218868437227405312) := rfl

theorem vl_small {r : Nat} (h : r < 4503599627370496) : vl r = r := by simp [vl, h]
theorem vl_big {r : Nat} (h : 4503599627370496 ≤ r) : vl r = (4503599627370496 + r % 4503599627370496) * 2 ^ (r / 4503599627370496 - 1) := by
  simp [vl, Nat.not_lt.2 h]

theorem vl_lt_succ (r : Nat) : vl r < vl (r + 1) := by
  by_cases h : r + 1 < 4503599627370496
  · rw [vl_small h, vl_small (by omega)]; omega
  by_cases h1 : r + 1 = 4503599627370496
  · rw [h1, vl_small (by omega), vl_big (by omega)]; simp; omega
  rw [vl_big (r := r) (by omega), vl_big (r := r + 1) (by omega)]
  by_cases h2 : (r + 1) % 4503599627370496 = 0
  · have e1 : r % 4503599627370496 = 4503599627370495 := by omega
    have e2 : (r + 1) / 4503599627370496 - 1 = (r / 4503599627370496 - 1) + 1 := by omega
    rw [h2, e1, e2, Nat.pow_succ]
    have hp : 0 < 2 ^ (r / 4503599627370496 - 1) := Nat.two_pow_pos _
    generalize 2 ^ (r / 4503599627370496 - 1) = p at hp
    omega
  · have e1 : (r + 1) % 4503599627370496 = r % 4503599627370496 + 1 := by omega
    have e2 : (r + 1) / 4503599627370496 = r / 4503599627370496 := by omega
    rw [e1, e2]
    have hp : 0 < 2 ^ (r / 4503599627370496 - 1) := Nat.two_pow_pos _
    exact Nat.mul_lt_mul_of_pos_right (by omega) hp

theorem vl_mono {r s : Nat} (h : r < s) : vl r < vl s := by
  induction s with
  | zero => omega
  | succ s ih =>
    by_cases e : r = s
    · subst e; exact vl_lt_succ r
    · exact Nat.lt_trans (ih (by omega)) (vl_lt_succ s)

theorem vl_lt_iff {r s : Nat} : vl r < vl s ↔ r < s := by
  constructor
  · intro h
    by_cases h1 : r < s
    · exact h1
    · by_cases h2 : r = s
      · subst h2; omega
      · have := vl_mono (r := s) (s := r) (by omega); omega
  · exact vl_mono
theorem vl_inj {r s : Nat} : vl r = vl s ↔ r = s := by
  constructor
  · intro h
    by_cases h1 : r = s
    · exact h1
    · by_cases h2 : r < s
      · have := vl_mono h2; omega
      · have := vl_mono (r := s) (s := r) (by omega); omega
  · intro h; rw [h]

/-- a finite word is a number whose units are told by its rung -/
theorem read_fin {x : Nat} (h : rg x < 9218868437227405312) : ∃ m k : Nat, Ieee.double.read x = .number (sg x) m (-1074 + (k : Int)) ∧ m * 2 ^ k = vl (rg x) := by
  rw [read_eq]
  by_cases h1 : rg x < 4503599627370496
  · exact ⟨rg x, 0, by simp [h1], by simp [vl_small h1]⟩
  · exact ⟨_, rg x / 4503599627370496 - 1, by rw [if_neg h1, if_pos h], by rw [vl_big (by omega)]⟩
theorem read_inf {x : Nat} (h : rg x = 9218868437227405312) : Ieee.double.read x = .infinity (sg x) := by
  rw [read_eq, if_neg (by omega), if_neg (by omega), if_pos h]
theorem read_nan {x : Nat} (h : 9218868437227405312 < rg x) : Ieee.double.read x = .nan (sg x) (rg x - 9218868437227405312) := by
  rw [read_eq, if_neg (by omega), if_neg (by omega), if_neg (by omega)]

theorem cmp_scale (a b : Int) (p : Int) (hp : 0 < p) : compare (a * p) (b * p) = compare a b := by
  have h1 : (a * p < b * p) ↔ a < b := Int.mul_lt_mul_right hp
  have h2 : (a * p = b * p) ↔ a = b := ⟨fun h => Int.eq_of_mul_eq_mul_right (by omega) h, fun h => by rw [h]⟩
  simp only [compare, compareOfLessAndEq, h1, h2]

theorem signed_eq (s : Bool) (m k : Nat) : Ieee.signed s m k = (if s then -1 else 1) * ((m * 2 ^ k : Nat) : Int) := by
  unfold Ieee.signed
  rw [Nat.shiftLeft_eq]
  cases s <;> simp

theorem order_fin {x y : Nat} (hx : rg x < 9218868437227405312) (hy : rg y < 9218868437227405312) :
    Ieee.double.order x y = some (compare ((if sg x then -1 else 1) * (vl (rg x) : Int)) ((if sg y then -1 else 1) * (vl (rg y) : Int))) := by
  obtain ⟨m, k, hm, em⟩ := read_fin hx
  obtain ⟨n, j, hn, en⟩ := read_fin hy
  unfold Ieee.Format.order
  rw [hm, hn]
  simp only [Ieee.Datum.order]
  congr 1
  rw [← em, ← en, signed_eq, signed_eq]
  have hb : min (-1074 + (k : Int)) (-1074 + (j : Int)) = -1074 + ((min k j : Nat) : Int) := by omega
  rw [hb]
  have e1 : (-1074 + (k : Int) - (-1074 + ((min k j : Nat) : Int))).toNat = k - min k j := by omega
  have e2 : (-1074 + (j : Int) - (-1074 + ((min k j : Nat) : Int))).toNat = j - min k j := by omega
  rw [e1, e2]
  rw [← cmp_scale _ _ ((2 ^ min k j : Nat) : Int) (by have := Nat.two_pow_pos (min k j); omega)]
  rw [Int.mul_assoc, Int.mul_assoc, ← Int.natCast_mul, ← Int.natCast_mul, Nat.mul_assoc, Nat.mul_assoc, ← Nat.pow_add, ← Nat.pow_add, Nat.sub_add_cancel (Nat.min_le_left k j), Nat.sub_add_cancel (Nat.min_le_right k j)]

theorem order_key {x y : Nat} (hx : rg x ≤ 9218868437227405312) (hy : rg y ≤ 9218868437227405312) :
    Ieee.double.order x y = some (compare (key x) (key y)) := by
  by_cases fx : rg x < 9218868437227405312
  · by_cases fy : rg y < 9218868437227405312
    · rw [order_fin fx fy]
      congr 1
      have a1 := @vl_lt_iff (rg x) (rg y)
      have a2 := @vl_lt_iff (rg y) (rg x)
      have a3 := @vl_inj (rg x) (rg y)
      have z1 : vl (rg x) = 0 ↔ rg x = 0 := by have := @vl_inj (rg x) 0; simpa [vl] using this
      have z2 : vl (rg y) = 0 ↔ rg y = 0 := by have := @vl_inj (rg y) 0; simpa [vl] using this
      unfold key
      generalize vl (rg x) = a at *
      generalize vl (rg y) = b at *
      generalize rg x = c at *
      generalize rg y = d at *
      simp only [compare, compareOfLessAndEq]
      cases sg x <;> cases sg y <;> simp only [Bool.false_eq_true, if_true, if_false] <;> repeat' split
      all_goals first | rfl | omega
    · have ey : rg y = 9218868437227405312 := by omega
      obtain ⟨m, k, hm, em⟩ := read_fin fx
      unfold Ieee.Format.order
      rw [hm, read_inf ey]
      simp only [Ieee.Datum.order, key, ey, compare, compareOfLessAndEq]
      congr 1
      cases sg x <;> cases sg y <;> simp only [Bool.false_eq_true, if_true, if_false] <;> repeat' split
      all_goals first | rfl | omega
  · have ex : rg x = 9218868437227405312 := by omega
    by_cases fy : rg y < 9218868437227405312
    · obtain ⟨m, k, hm, em⟩ := read_fin fy
      unfold Ieee.Format.order
      rw [hm, read_inf ex]
      simp only [Ieee.Datum.order, key, ex, compare, compareOfLessAndEq]
      congr 1
      cases sg x <;> cases sg y <;> simp only [Bool.false_eq_true, if_true, if_false] <;> repeat' split
      all_goals first | rfl | omega
    · have ey : rg y = 9218868437227405312 := by omega
      unfold Ieee.Format.order
      rw [read_inf ex, read_inf ey]
      simp only [Ieee.Datum.order, key, ex, ey]
      congr 1
      cases sg x <;> cases sg y <;> rfl

theorem order_nan_left {x y : Nat} (h : 9218868437227405312 < rg x) : Ieee.double.order x y = none := by
  unfold Ieee.Format.order
  rw [read_nan h]; rfl
theorem order_nan_right {x y : Nat} (h : 9218868437227405312 < rg y) : Ieee.double.order x y = none := by
  unfold Ieee.Format.order
  rw [read_nan h]
  generalize Ieee.double.read x = d
  cases d <;> rfl

/-- THE TEST 'a == b' and its fellows in words of keys -/
theorem order_all (x y : Nat) : Ieee.double.order x y = if nan x || nan y then none else some (compare (key x) (key y)) := by
  unfold nan
  by_cases h1 : 9218868437227405312 < rg x
  · simp [h1, order_nan_left h1]
  · by_cases h2 : 9218868437227405312 < rg y
    · simp [h2, order_nan_right h2]
    · simp [h1, h2, order_key (Nat.not_lt.1 h1) (Nat.not_lt.1 h2)]

def eqF (x y : Nat) : Bool := !nan x && !nan y && decide (key x = key y)
def ltF (x y : Nat) : Bool := !nan x && !nan y && decide (key x < key y)
def leF (x y : Nat) : Bool := !nan x && !nan y && decide (key x ≤ key y)

theorem cmp_lt (a b : Int) : (compare a b == Ordering.lt) = decide (a < b) := by
  simp only [compare, compareOfLessAndEq]; repeat' split
  all_goals simp_all
theorem cmp_eq (a b : Int) : (compare a b == Ordering.eq) = decide (a = b) := by
  simp only [compare, compareOfLessAndEq]; repeat' split
  all_goals simp_all
  all_goals omega
theorem cmp_gt (a b : Int) : (compare a b == Ordering.gt) = decide (b < a) := by
  simp only [compare, compareOfLessAndEq]; repeat' split
  all_goals simp_all
  all_goals omega

theorem ord_eq (x y : Nat) : (Ieee.double.order x y == some .eq) = eqF x y := by
  rw [order_all]; unfold eqF
  cases nan x <;> cases nan y <;> simp [cmp_eq]
theorem ord_lt (x y : Nat) : (Ieee.double.order x y == some .lt) = ltF x y := by
  rw [order_all]; unfold ltF
  cases nan x <;> cases nan y <;> simp [cmp_lt]
theorem ord_gt (x y : Nat) : (Ieee.double.order x y == some .gt) = ltF y x := by
  rw [order_all]; unfold ltF
  cases nan x <;> cases nan y <;> simp [cmp_gt]

end Go.Proofs.Ytmbjgakehghdjaa.Fl
/-
  OWN TEXT: plain laws on rounding: the word nearest to a number hangs on the number alone; a number that the format has is its own nearest word; what an addition gives.
-/
namespace Go.Proofs.Ytmbjgakehghdjaa.Fl

/-- n by 2 to the power of s, to the nearest whole number, of two to the even one -/
def rne (n s : Nat) : Nat := n / 2 ^ s + (if 2 ^ s < 2 * (n % 2 ^ s) ∨ (2 ^ s = 2 * (n % 2 ^ s) ∧ n / 2 ^ s % 2 = 1) then 1 else 0)

theorem log2_lt (n : Nat) (h : n ≠ 0) : n < 2 ^ (n.log2 + 1) := (Nat.log2_lt h).1 (Nat.lt_succ_self _)
theorem log2_le (n : Nat) (h : n ≠ 0) : 2 ^ n.log2 ≤ n := (Nat.le_log2 h).1 (Nat.le_refl _)

theorem cut_at (neg : Bool) (n g : Nat) (h : g ≤ n.log2 + 2) : Ieee.Toward.even.cut neg n g = rne n g := by
  unfold Ieee.Toward.cut rne
  rw [Nat.min_eq_left h]
  simp only [Nat.shiftLeft_eq, Nat.one_mul]
  congr 1
  by_cases c : 2 ^ g < 2 * (n % 2 ^ g) ∨ (2 ^ g = 2 * (n % 2 ^ g) ∧ n / 2 ^ g % 2 = 1)
  · rw [if_pos c]
    rcases c with c | ⟨c, d⟩
    · simp [c]
    · simp [← c, d]
  · rw [if_neg c]
    have c1 : ¬ 2 ^ g < 2 * (n % 2 ^ g) := fun h => c (Or.inl h)
    have c2 : ¬ (2 ^ g = 2 * (n % 2 ^ g) ∧ n / 2 ^ g % 2 = 1) := fun h => c (Or.inr h)
    simp only [c1, decide_false, Bool.false_or]
    by_cases d : 2 ^ g = 2 * (n % 2 ^ g)
    · have e : ¬ n / 2 ^ g % 2 = 1 := fun h => c2 ⟨d, h⟩
      simp [e]
    · simp [d]
theorem rne_small (n s : Nat) (h : 2 * n < 2 ^ s) : rne n s = 0 := by
  unfold rne
  have h1 : n < 2 ^ s := by omega
  rw [Nat.div_eq_of_lt h1, Nat.mod_eq_of_lt h1, if_neg (by omega)]
theorem cut_even (neg : Bool) (n s : Nat) : Ieee.Toward.even.cut neg n s = rne n s := by
  by_cases h : s ≤ n.log2 + 2
  · exact cut_at neg n s h
  · have e : Ieee.Toward.even.cut neg n s = Ieee.Toward.even.cut neg n (n.log2 + 2) := by
      unfold Ieee.Toward.cut
      rw [Nat.min_eq_right (by omega), Nat.min_self]
    rw [e, cut_at neg n _ (Nat.le_refl _)]
    have hn : 2 * n < 2 ^ (n.log2 + 2) := by
      by_cases z : n = 0
      · subst z; exact Nat.two_pow_pos _
      · have := log2_lt n z
        rw [Nat.pow_succ]; omega
    have hs : 2 ^ (n.log2 + 2) ≤ 2 ^ s := Nat.pow_le_pow_right (by omega) (by omega)
    rw [rne_small n _ hn, rne_small n s (by omega)]
theorem rne_mul (n s k : Nat) : rne (n * 2 ^ k) (s + k) = rne n s := by
  unfold rne
  have hp : 0 < 2 ^ k := Nat.two_pow_pos _
  have hs : 0 < 2 ^ s := Nat.two_pow_pos _
  rw [Nat.pow_add, Nat.mul_div_mul_right _ _ hp, Nat.mul_mod_mul_right]
  congr 1
  generalize 2 ^ k = p at *
  generalize 2 ^ s = q at *
  generalize n % q = r
  have e1 : (q * p < 2 * (r * p)) ↔ q < 2 * r := by
    rw [← Nat.mul_assoc]; exact Nat.mul_lt_mul_right hp
  have e2 : (q * p = 2 * (r * p)) ↔ q = 2 * r := by
    rw [← Nat.mul_assoc]; exact ⟨fun h => Nat.eq_of_mul_eq_mul_right hp h, fun h => by rw [h]⟩
  simp only [e1, e2]
theorem rne_zero (n : Nat) : rne n 0 = n := by
  unfold rne; simp [Nat.mod_one]
theorem rne_exact (n s : Nat) : rne (n * 2 ^ s) s = n := by
  have := rne_mul n 0 s; rwa [Nat.zero_add, rne_zero] at this

/-- the rung nearest to n by 2 to the power of d, counted in units of the least place -/
def rq (n d : Nat) : Nat := if n = 0 then 0 else min ((n.log2 - (52 + d)) * 4503599627370496 + rne n (n.log2 - (52 + d) + d)) 9218868437227405312

/-- the word of a sign and a rung -/
def wd (neg : Bool) (r : Nat) : Nat := if neg then 9223372036854775808 + r else r

theorem log2_mul (m k : Nat) (h : m ≠ 0) : (m * 2 ^ k).log2 = m.log2 + k := by
  have hp : 0 < 2 ^ k := Nat.two_pow_pos _
  have hz : m * 2 ^ k ≠ 0 := Nat.mul_ne_zero h (by omega)
  refine Nat.le_antisymm ?_ ?_
  · refine Nat.le_of_lt_succ ((Nat.log2_lt hz).2 ?_)
    have := log2_lt m h
    rw [show (m.log2 + k).succ = (m.log2 + 1) + k by omega, Nat.pow_add]
    exact Nat.mul_lt_mul_of_pos_right this hp
  · refine (Nat.le_log2 hz).2 ?_
    rw [Nat.pow_add]
    exact Nat.mul_le_mul_right _ (log2_le m h)

theorem rq_mul (m k d : Nat) : rq (m * 2 ^ k) (d + k) = rq m d := by
  unfold rq
  by_cases h : m = 0
  · subst h; simp
  · have hz : m * 2 ^ k ≠ 0 := Nat.mul_ne_zero h (by have := Nat.two_pow_pos k; omega)
    rw [if_neg h, if_neg hz, log2_mul m k h]
    rw [show m.log2 + k - (52 + (d + k)) = m.log2 - (52 + d) by omega, ← Nat.add_assoc, rne_mul]

/-- THE NEAREST WORD HANGS ON THE NUMBER ALONE -/
theorem nearest_eq (neg : Bool) (m k d : Nat) : Ieee.double.nearest neg m (-1074 + (k : Int) - (d : Int)) = wd neg (rq (m * 2 ^ k) d) := by
  unfold Ieee.Format.nearest
  by_cases h : m = 0
  · subst h; rw [if_pos rfl]; cases neg <;> simp [rq, wd] <;> rfl
  · rw [if_neg h]
    have hz : m * 2 ^ k ≠ 0 := Nat.mul_ne_zero h (by have := Nat.two_pow_pos k; omega)
    simp only []
    have hf : ((Ieee.double.fractionBits : Nat) : Int) = 52 := rfl
    have hl : Ieee.double.leastPlace = -1074 := rfl
    have hb : Ieee.double.binade = 4503599627370496 := rfl
    have hi : Ieee.double.infRung = 9218868437227405312 := rfl
    rw [hf, hl, hb, hi]
    rw [cut_even, Nat.shiftLeft_eq]
    have e1 : (max (-1074 + (k : Int) - (d : Int) + (m.log2 : Int) - 52) (-1074) - -1074).toNat = (m * 2 ^ k).log2 - (52 + d) := by rw [log2_mul m k h]; omega
    have e2 : (-1074 + (k : Int) - (d : Int) - max (-1074 + (k : Int) - (d : Int) + (m.log2 : Int) - 52) (-1074)).toNat = k - ((m * 2 ^ k).log2 - (52 + d) + d) := by rw [log2_mul m k h]; omega
    have e3 : (max (-1074 + (k : Int) - (d : Int) + (m.log2 : Int) - 52) (-1074) - (-1074 + (k : Int) - (d : Int))).toNat = ((m * 2 ^ k).log2 - (52 + d) + d) - k := by rw [log2_mul m k h]; omega
    rw [e1, e2, e3]
    unfold rq
    rw [if_neg hz]
    have e4 : rne (m * 2 ^ (k - ((m * 2 ^ k).log2 - (52 + d) + d))) ((m * 2 ^ k).log2 - (52 + d) + d - k) = rne (m * 2 ^ k) ((m * 2 ^ k).log2 - (52 + d) + d) := by
      generalize (m * 2 ^ k).log2 - (52 + d) + d = s
      by_cases c : s ≤ k
      · rw [show s - k = 0 by omega, rne_zero]
        have := rne_exact (m * 2 ^ (k - s)) s
        rw [Nat.mul_assoc, ← Nat.pow_add, show k - s + s = k by omega] at this
        exact this.symm
      · rw [show k - s = 0 by omega, Nat.pow_zero, Nat.mul_one]
        have := rne_mul m (s - k) k
        rw [show s - k + k = s by omega] at this
        exact this.symm
    rw [e4]
    cases neg <;> rfl

theorem vl_comb (k M : Nat) (h : M ≤ 9007199254740992) (hk : k = 0 ∨ 4503599627370496 ≤ M) : vl (k * 4503599627370496 + M) = M * 2 ^ k := by
  by_cases c : M < 4503599627370496
  · have : k = 0 := by omega
    subst this; rw [Nat.zero_mul, Nat.zero_add, vl_small c]; simp
  · by_cases e : M = 9007199254740992
    · rw [vl_big (by omega)]
      have h1 : (k * 4503599627370496 + M) % 4503599627370496 = 0 := by omega
      have h2 : (k * 4503599627370496 + M) / 4503599627370496 - 1 = k + 1 := by omega
      rw [h1, h2, e, Nat.pow_succ]; omega
    · rw [vl_big (by omega)]
      have h1 : (k * 4503599627370496 + M) % 4503599627370496 = M - 4503599627370496 := by omega
      have h2 : (k * 4503599627370496 + M) / 4503599627370496 - 1 = k := by omega
      rw [h1, h2, show 4503599627370496 + (M - 4503599627370496) = M by omega]

theorem rne_bounds (n s : Nat) : 2 * (rne n s * 2 ^ s) ≤ 2 * n + 2 ^ s ∧ 2 * n ≤ 2 * (rne n s * 2 ^ s) + 2 ^ s := by
  have hd := Nat.div_add_mod n (2 ^ s)
  have hm := Nat.mod_lt n (Nat.two_pow_pos s)
  unfold rne
  rw [Nat.add_mul]
  rw [Nat.mul_comm] at hd
  generalize n / 2 ^ s * 2 ^ s = a at *
  split <;> omega
theorem rne_le (n s M : Nat) (h : n ≤ M * 2 ^ s) : rne n s ≤ M := by
  have hp := Nat.two_pow_pos s
  by_cases c : rne n s ≤ M
  · exact c
  · exfalso
    have hb := (rne_bounds n s).1
    have h1 : (M + 1) * 2 ^ s ≤ rne n s * 2 ^ s := Nat.mul_le_mul_right _ (by omega)
    rw [Nat.add_mul] at h1
    generalize hq : 2 ^ s = q at *
    have h2 : n = M * q ∧ q = 0 ∨ n < M * q ∨ n = M * q := by omega
    by_cases e : n = M * q
    · have := rne_exact M s
      rw [hq, ← e] at this
      omega
    · omega
theorem le_rne (n s M : Nat) (h : M * 2 ^ s ≤ n) : M ≤ rne n s := by
  have : M ≤ n / 2 ^ s := (Nat.le_div_iff_mul_le (Nat.two_pow_pos s)).2 h
  unfold rne; omega

theorem rq_fit (n : Nat) (h : n ≠ 0) : (n.log2 - 52 = 0 ∨ 4503599627370496 ≤ rne n (n.log2 - 52)) ∧ rne n (n.log2 - 52) ≤ 9007199254740992 := by
  constructor
  · by_cases c : n.log2 - 52 = 0
    · exact Or.inl c
    · right
      refine le_rne _ _ _ ?_
      have := log2_le n h
      rw [show (4503599627370496 : Nat) = 2 ^ 52 from rfl, ← Nat.pow_add, show 52 + (n.log2 - 52) = n.log2 by omega]
      exact this
  · refine rne_le _ _ _ ?_
    have := log2_lt n h
    rw [show (9007199254740992 : Nat) = 2 ^ 53 from rfl, ← Nat.pow_add]
    have h2 : 2 ^ (n.log2 + 1) ≤ 2 ^ (53 + (n.log2 - 52)) := Nat.pow_le_pow_right (by omega) (by omega)
    omega
/-- what the nearest rung is worth -/
theorem vl_rq (n : Nat) (h : n ≠ 0) (hf : rq n 0 < 9218868437227405312) : vl (rq n 0) = rne n (n.log2 - 52) * 2 ^ (n.log2 - 52) := by
  obtain ⟨h1, h2⟩ := rq_fit n h
  have e : rq n 0 = (n.log2 - 52) * 4503599627370496 + rne n (n.log2 - 52) := by
    unfold rq at hf ⊢; rw [if_neg h] at hf ⊢; simp only [Nat.add_zero] at hf ⊢; omega
  rw [e]
  exact vl_comb _ _ h2 h1
/-- a rung is the nearest one to what it is worth -/
theorem rq_vl (r : Nat) (h : r ≤ 9218868437227405312) : rq (vl r) 0 = r := by
  by_cases c : r < 4503599627370496
  · rw [vl_small c]
    by_cases z : r = 0
    · subst z; rfl
    · unfold rq
      rw [if_neg z]
      have : r.log2 < 52 := (Nat.log2_lt z).2 (by simpa using c)
      rw [show r.log2 - (52 + 0) = 0 by omega, Nat.add_zero, rne_zero]; omega
  · rw [vl_big (by omega)]
    have hp := Nat.two_pow_pos (r / 4503599627370496 - 1)
    have hM : (4503599627370496 + r % 4503599627370496) ≠ 0 := by omega
    have hz : (4503599627370496 + r % 4503599627370496) * 2 ^ (r / 4503599627370496 - 1) ≠ 0 := Nat.mul_ne_zero hM (by omega)
    have hl : (4503599627370496 + r % 4503599627370496).log2 = 52 := by
      refine Nat.le_antisymm (Nat.le_of_lt_succ ((Nat.log2_lt hM).2 ?_)) ((Nat.le_log2 hM).2 ?_)
      · have := Nat.mod_lt r (show 0 < 4503599627370496 by omega); show _ < 2 ^ 53; omega
      · show 2 ^ 52 ≤ _; omega
    unfold rq
    rw [if_neg hz, log2_mul _ _ hM, hl]
    rw [show 52 + (r / 4503599627370496 - 1) - (52 + 0) = r / 4503599627370496 - 1 by omega, Nat.add_zero, rne_exact]
    omega
theorem rq_le (n d : Nat) : rq n d ≤ 9218868437227405312 := by unfold rq; split <;> omega

theorem sg_wd (s : Bool) (r : Nat) (h : r < 9223372036854775808) : sg (wd s r) = s := by
  unfold wd sg
  cases s
  · have : r / 9223372036854775808 = 0 := by omega
    simp [this]
  · have : (9223372036854775808 + r) / 9223372036854775808 = 1 := by omega
    simp [this]
theorem rg_wd (s : Bool) (r : Nat) (h : r < 9223372036854775808) : rg (wd s r) = r := by
  unfold wd rg; cases s <;> simp <;> omega
theorem wd_lt (s : Bool) (r : Nat) (h : r < 9223372036854775808) : wd s r < 18446744073709551616 := by
  unfold wd; split <;> omega
theorem key_wd (s : Bool) (r : Nat) (h : r < 9223372036854775808) : key (wd s r) = if s then -(r : Int) else r := by
  unfold key; rw [sg_wd s r h, rg_wd s r h]

/-- what a finite word is worth, in units of the least place -/
def val (x : Nat) : Int := if sg x then -(vl (rg x) : Int) else vl (rg x)

theorem sum_fin {x y : Nat} (hx : rg x < 9218868437227405312) (hy : rg y < 9218868437227405312) :
    ∃ T : Int, ∃ k : Nat, (Ieee.double.read x).sum (Ieee.double.read y) = some (.number (if T = 0 then sg x && sg y else decide (T < 0)) T.natAbs (-1074 + (k : Int))) ∧ T * ((2 ^ k : Nat) : Int) = val x + val y := by
  obtain ⟨m, k, hm, em⟩ := read_fin hx
  obtain ⟨n, j, hn, en⟩ := read_fin hy
  rw [hm, hn]
  simp only [Ieee.Datum.sum]
  have hb : min (-1074 + (k : Int)) (-1074 + (j : Int)) = -1074 + ((min k j : Nat) : Int) := by omega
  rw [hb]
  have e1 : (-1074 + (k : Int) - (-1074 + ((min k j : Nat) : Int))).toNat = k - min k j := by omega
  have e2 : (-1074 + (j : Int) - (-1074 + ((min k j : Nat) : Int))).toNat = j - min k j := by omega
  rw [e1, e2]
  refine ⟨_, min k j, rfl, ?_⟩
  rw [Int.add_mul, signed_eq, signed_eq, Int.mul_assoc, Int.mul_assoc, ← Int.natCast_mul, ← Int.natCast_mul, Nat.mul_assoc, Nat.mul_assoc, ← Nat.pow_add, ← Nat.pow_add, Nat.sub_add_cancel (Nat.min_le_left k j), Nat.sub_add_cancel (Nat.min_le_right k j), em, en]
  unfold val
  cases sg x <;> cases sg y <;> simp <;> omega

/-- AN ADDITION OF FINITE WORDS: the nearest rung to the sum of what they are worth -/
theorem add_fin {x y : Nat} (hx : rg x < 9218868437227405312) (hy : rg y < 9218868437227405312) :
    Ieee.double.add x y = some (wd (if val x + val y = 0 then sg x && sg y else decide (val x + val y < 0)) (rq (val x + val y).natAbs 0)) := by
  obtain ⟨T, k, h, e⟩ := sum_fin hx hy
  unfold Ieee.Format.add
  rw [h]
  simp only [Option.map_some]
  show some (Ieee.double.nearest _ _ _) = _
  have hn := nearest_eq (if T = 0 then sg x && sg y else decide (T < 0)) T.natAbs k 0
  rw [show ((0 : Nat) : Int) = 0 from rfl, Int.sub_zero] at hn
  rw [hn]
  have hp : (0 : Int) < ((2 ^ k : Nat) : Int) := by have := Nat.two_pow_pos k; omega
  have h0 : (val x + val y = 0) ↔ T = 0 := by
    rw [← e]
    exact ⟨fun h => (Int.mul_eq_zero.1 h).resolve_right (by omega), fun h => by rw [h]; simp⟩
  have h1 : (val x + val y < 0) ↔ T < 0 := by
    rw [← e]
    constructor
    · intro h
      by_cases c : T < 0
      · exact c
      · have := Int.mul_nonneg (show 0 ≤ T by omega) (show (0 : Int) ≤ ((2 ^ k : Nat) : Int) by omega); omega
    · intro h; exact Int.mul_neg_of_neg_of_pos h hp
  have h2 : (val x + val y).natAbs = T.natAbs * 2 ^ k := by rw [← e, Int.natAbs_mul]; rfl
  rw [h2]
  congr 2
  simp only [h0, h1]
end Go.Proofs.Ytmbjgakehghdjaa.Fl
/-
  OWN TEXT: plain laws on sign, rung and order of a word, in the forms in which the walk writes them.
-/
namespace Go.Proofs.Ytmbjgakehghdjaa.Fl

theorem sg_lt {x : Nat} (h : x < 18446744073709551616) : sg x = decide (9223372036854775808 ≤ x) := by
  unfold sg
  by_cases h1 : 9223372036854775808 ≤ x
  · have : x / 9223372036854775808 = 1 := by omega
    simp [h1, this]
  · have : x / 9223372036854775808 = 0 := by omega
    simp [h1, this]

/-- the sign turned -/
def ng (x : Nat) : Nat := if x < 9223372036854775808 then x + 9223372036854775808 else x - 9223372036854775808
theorem ng_lt {x : Nat} (h : x < 18446744073709551616) : ng x < 18446744073709551616 := by unfold ng; split <;> omega
theorem neg_eq {x : Nat} (h : x < 18446744073709551616) : Op.negFloat .f64 x = ng x := by
  show x ^^^ 2 ^ 63 = ng x
  have h1 : (x ^^^ 2 ^ 63) / 2 ^ 63 = x / 2 ^ 63 ^^^ 1 := by
    rw [← Nat.shiftRight_eq_div_pow, ← Nat.shiftRight_eq_div_pow, Nat.shiftRight_xor_distrib]; rfl
  have h2 : (x ^^^ 2 ^ 63) % 2 ^ 63 = x % 2 ^ 63 := by
    rw [Nat.xor_mod_two_pow]; simp
  have hd := Nat.div_add_mod (x ^^^ 2 ^ 63) (2 ^ 63)
  rw [h1, h2] at hd
  unfold ng
  by_cases hl : x < 9223372036854775808
  · rw [if_pos hl]
    have e : x / 2 ^ 63 = 0 := by omega
    rw [e] at hd
    have : (0 ^^^ 1 : Nat) = 1 := rfl
    rw [this] at hd; omega
  · rw [if_neg hl]
    have e : x / 2 ^ 63 = 1 := by omega
    rw [e] at hd
    have : (1 ^^^ 1 : Nat) = 0 := rfl
    rw [this] at hd; omega
theorem rg_ng (x : Nat) : rg (ng x) = rg x := by unfold ng rg; split <;> omega
theorem sg_ng {x : Nat} (h : x < 18446744073709551616) : sg (ng x) = !sg x := by
  rw [sg_lt h, sg_lt (ng_lt h)]
  unfold ng
  by_cases h1 : 9223372036854775808 ≤ x
  · simp [h1, Nat.not_lt.2 h1]; omega
  · simp [h1, Nat.lt_of_not_le h1]
theorem nan_ng (x : Nat) : nan (ng x) = nan x := by unfold nan; rw [rg_ng]
theorem key_ng {x : Nat} (h : x < 18446744073709551616) : key (ng x) = -key x := by
  unfold key; rw [rg_ng, sg_ng h]; cases sg x <;> simp

theorem abs_bits {x : Nat} (h : x < 18446744073709551616) : (bits .andNot .u64 (x : Int) 9223372036854775808).toNat = rg x := by
  have e := u64_andNot_nat x 9223372036854775808 h (by omega)
  rw [show ((9223372036854775808 : Nat) : Int) = 9223372036854775808 from rfl] at e
  rw [e, Int.toNat_natCast]
  show x &&& (2 ^ 63 - 1) = _
  rw [Nat.and_two_pow_sub_one_eq_mod]; rfl
theorem sign_bits {x : Nat} (h : x < 18446744073709551616) : (bits .and .u64 (x : Int) 9223372036854775808 != 0) = sg x := by
  have e := u64_and_nat x 9223372036854775808 h (by omega)
  rw [show ((9223372036854775808 : Nat) : Int) = 9223372036854775808 from rfl] at e
  rw [e]
  have h1 : (x &&& 2 ^ 63) / 2 ^ 63 = x / 2 ^ 63 % 2 := by
    rw [Nat.and_div_two_pow, Nat.div_self (Nat.two_pow_pos 63), Nat.and_one_is_mod]
  have h2 : (x &&& 2 ^ 63) % 2 ^ 63 = 0 := by rw [Nat.and_mod_two_pow]; simp
  rw [sg_lt h]
  show (((x &&& 2 ^ 63 : Nat) : Int) != 0) = _
  generalize (x &&& 2 ^ 63) = y at h1 h2
  by_cases hl : 9223372036854775808 ≤ x
  · simp only [hl, decide_true, bne_iff_ne]; omega
  · simp only [hl, decide_false, bne_eq_false_iff_eq]; omega

theorem rg_lt (x : Nat) : rg x < 9223372036854775808 := Nat.mod_lt _ (by omega)
theorem rg_of_lt {x : Nat} (h : x < 9223372036854775808) : rg x = x := Nat.mod_eq_of_lt h
theorem rg_rg (x : Nat) : rg (rg x) = rg x := rg_of_lt (rg_lt x)
theorem sg_rg (x : Nat) : sg (rg x) = false := by
  rw [sg_lt (by have := rg_lt x; omega)]; have := rg_lt x; simp; omega
theorem nan_rg (x : Nat) : nan (rg x) = nan x := by unfold nan; rw [rg_rg]
theorem key_rg (x : Nat) : key (rg x) = rg x := by unfold key; rw [sg_rg, rg_rg]; simp
theorem key_cases (x : Nat) : (sg x = true ∧ key x = -(rg x : Int)) ∨ (sg x = false ∧ key x = rg x) := by
  unfold key; cases sg x <;> simp

/-- a's bits; one row for all that is no number -/
def bitsF (x : Nat) : Nat := if nan x then 9221120237041090560 else x
/-- the same -/
def sameB (x y : Nat) : Bool := (nan x && nan y) || (!nan x && !nan y && decide (x = y))
/-- finite -/
def finB (x : Nat) : Bool := decide (rg x < 9218868437227405312)
/-- not above, without the sign -/
def withinB (x y : Nat) : Bool := !nan x && !nan y && decide ((rg x : Int) ≤ key y)
/-- has it the sign? -/
def minusB (x : Nat) : Bool := !nan x && sg x

theorem bitsF_lt {x : Nat} (h : x < 18446744073709551616) : bitsF x < 18446744073709551616 := by unfold bitsF; split <;> omega
theorem nan_lt {x : Nat} (h : nan x = true) : 9218868437227405312 < rg x := by simpa [nan] using h

theorem nan_le {x : Nat} (h : nan x = false) : rg x ≤ 9218868437227405312 := by
  unfold nan at h; exact Nat.not_lt.1 (of_decide_eq_false h)
theorem sg_key {x : Nat} (h : x < 18446744073709551616) : (9223372036854775808 ≤ x ∧ key x = -(rg x : Int) ∧ x = rg x + 9223372036854775808) ∨ (x < 9223372036854775808 ∧ key x = rg x ∧ x = rg x) := by
  have hs := sg_lt h
  have hk := key_cases x
  have hr : rg x = x % 9223372036854775808 := rfl
  by_cases c : 9223372036854775808 ≤ x
  · left; rw [hs] at hk; simp only [c, decide_true, Bool.true_eq_false, false_and, or_false, true_and] at hk; exact ⟨c, hk, by omega⟩
  · right; rw [hs] at hk; simp only [c, decide_false, Bool.false_eq_true, false_and, false_or, true_and] at hk; exact ⟨by omega, hk, by omega⟩

theorem o_eq (x y : Nat) : (FloatKind.f64.format.order x y == some .eq) = eqF x y := ord_eq x y
theorem o_ne (x y : Nat) : (FloatKind.f64.format.order x y != some .eq) = !eqF x y := by rw [bne, o_eq]
theorem o_lt (x y : Nat) : (FloatKind.f64.format.order x y == some .lt) = ltF x y := ord_lt x y
theorem o_gt (x y : Nat) : (FloatKind.f64.format.order x y == some .gt) = ltF y x := ord_gt x y
theorem o_le (x y : Nat) : (FloatKind.f64.format.order x y == some .lt || FloatKind.f64.format.order x y == some .eq) = leF x y := by
  rw [o_lt, o_eq]; unfold ltF eqF leF
  cases nan x <;> cases nan y <;> simp
  by_cases h : key x ≤ key y
  · simp only [h, decide_true]; simp; omega
  · simp only [h, decide_false]; simp; omega
theorem o_ge (x y : Nat) : (FloatKind.f64.format.order x y == some .gt || FloatKind.f64.format.order x y == some .eq) = leF y x := by
  rw [o_gt, o_eq]; unfold ltF eqF leF
  cases nan x <;> cases nan y <;> simp
  by_cases h : key y ≤ key x
  · simp only [h, decide_true]; simp; omega
  · simp only [h, decide_false]; simp; omega
theorem eqF_of {x y : Nat} (h1 : nan x = false) (h2 : nan y = false) : eqF x y = decide (key x = key y) := by unfold eqF; rw [h1, h2]; simp
theorem ltF_of {x y : Nat} (h1 : nan x = false) (h2 : nan y = false) : ltF x y = decide (key x < key y) := by unfold ltF; rw [h1, h2]; simp
theorem leF_of {x y : Nat} (h1 : nan x = false) (h2 : nan y = false) : leF x y = decide (key x ≤ key y) := by unfold leF; rw [h1, h2]; simp
theorem eqF_self (x : Nat) : eqF x x = !nan x := by unfold eqF; simp

end Go.Proofs.Ytmbjgakehghdjaa.Fl
