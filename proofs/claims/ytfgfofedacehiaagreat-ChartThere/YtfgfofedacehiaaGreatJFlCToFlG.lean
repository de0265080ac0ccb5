/-
 OWN TEXT: plain laws on rounding: the word nearest to a number hangs on the number alone; a number that the format has is its own nearest word; what an addition gives.
-/
import Derived.Test.YtfgfofedacehiaaGreatJFlAToFlB
namespace Go.Proofs.YtfgfofedacehiaaGreat.Fl

/-- n by 2 to the power of s, to the nearest whole number, of two to the even one -/
def rne (n s : Nat) : Nat := n / 2 ^ s + (if 2 ^ s < 2 * (n % 2 ^ s) ∨ (2 ^ s = 2 * (n % 2 ^ s) ∧ n / 2 ^ s % 2 = 1) then 1 else 0)
theorem log2_lt (n : Nat) (h : n ≠ 0) : n < 2 ^ (n.log2 + 1) := (Nat.log2_lt h).1 (Nat.lt_succ_self _)
theorem log2_le (n : Nat) (h : n ≠ 0) : 2 ^ n.log2 ≤ n := (Nat.le_log2 h).1 (Nat.le_refl _)
theorem cut_at (neg : Bool) (n g : Nat) (h : g ≤ n.log2 + 2) : Ieee.Toward.even.cut neg n g = rne n g := by
 unfold Ieee.Toward.cut rne
 rw [Nat.min_eq_left h]
 simp only [Nat.shiftLeft_eq, Nat.one_mul]
 congr 1
 by_cases c : 2 ^ g < 2 * (n % 2 ^ g) ∨ (2 ^ g = 2 * (n % 2 ^ g) ∧ n / 2 ^ g % 2 = 1)
 ·
  rw [if_pos c]
  rcases c with c | ⟨c, d⟩
  · simp [c]
  · simp [← c, d]
 ·
  rw [if_neg c]
  have c1 : ¬ 2 ^ g < 2 * (n % 2 ^ g) := fun h => c (Or.inl h)
  have c2 : ¬ (2 ^ g = 2 * (n % 2 ^ g) ∧ n / 2 ^ g % 2 = 1) := fun h => c (Or.inr h)
  simp only [c1, decide_false, Bool.false_or]
  by_cases d : 2 ^ g = 2 * (n % 2 ^ g)
  ·
   have e : ¬ n / 2 ^ g % 2 = 1 := fun h => c2 ⟨d, h⟩
   simp [e]
  · simp [d]
theorem rne_small (n s : Nat) (h : 2 * n < 2 ^ s) : rne n s = 0 := by
 unfold rne
 have h1 : n < 2 ^ s := by omega
 rw [Nat.div_eq_of_lt h1, Nat.mod_eq_of_lt h1, if_neg (by omega)]
theorem cut_even (neg : Bool) (n s : Nat) : Ieee.Toward.even.cut neg n s = rne n s := by
 by_cases h : s ≤ n.log2 + 2
 · exact cut_at neg n s h
 ·
  have e : Ieee.Toward.even.cut neg n s = Ieee.Toward.even.cut neg n (n.log2 + 2) := by
   unfold Ieee.Toward.cut
   rw [Nat.min_eq_right (by omega), Nat.min_self]
  rw [e, cut_at neg n _ (Nat.le_refl _)]
  have hn : 2 * n < 2 ^ (n.log2 + 2) := by
   by_cases z : n = 0
   · subst z; exact Nat.two_pow_pos _
   ·
    have := log2_lt n z
    rw [Nat.pow_succ]; omega
  have hs : 2 ^ (n.log2 + 2) ≤ 2 ^ s := Nat.pow_le_pow_right (by omega) (by omega)
  rw [rne_small n _ hn, rne_small n s (by omega)]
theorem rne_mul (n s k : Nat) : rne (n * 2 ^ k) (s + k) = rne n s := by
 unfold rne
 have hp : 0 < 2 ^ k := Nat.two_pow_pos _
 have hs : 0 < 2 ^ s := Nat.two_pow_pos _
 rw [Nat.pow_add, Nat.mul_div_mul_right _ _ hp, Nat.mul_mod_mul_right]
 congr 1
 generalize 2 ^ k = p at *
 generalize 2 ^ s = q at *
 generalize n % q = r
 have e1 : (q * p < 2 * (r * p)) ↔ q < 2 * r := by
  rw [← Nat.mul_assoc]; exact Nat.mul_lt_mul_right hp
 have e2 : (q * p = 2 * (r * p)) ↔ q = 2 * r := by
  rw [← Nat.mul_assoc]; exact ⟨fun h => Nat.eq_of_mul_eq_mul_right hp h, fun h => by rw [h]⟩
 simp only [e1, e2]
theorem rne_zero (n : Nat) : rne n 0 = n := by
 unfold rne; simp [Nat.mod_one]
theorem rne_exact (n s : Nat) : rne (n * 2 ^ s) s = n := by
 have := rne_mul n 0 s; rwa [Nat.zero_add, rne_zero] at this
/-- the rung nearest to n by 2 to the power of d, counted in units of the least place -/
def rq (n d : Nat) : Nat := if n = 0 then 0 else min ((n.log2 - (52 + d)) * 4503599627370496 + rne n (n.log2 - (52 + d) + d)) 9218868437227405312
/-- the word of a sign and a rung -/
def wd (neg : Bool) (r : Nat) : Nat := if neg then 9223372036854775808 + r else r
theorem log2_mul (m k : Nat) (h : m ≠ 0) : (m * 2 ^ k).log2 = m.log2 + k := by
 have hp : 0 < 2 ^ k := Nat.two_pow_pos _
 have hz : m * 2 ^ k ≠ 0 := Nat.mul_ne_zero h (by omega)
 refine Nat.le_antisymm ?_ ?_
 ·
  refine Nat.le_of_lt_succ ((Nat.log2_lt hz).2 ?_)
  have := log2_lt m h
  rw [show (m.log2 + k).succ = (m.log2 + 1) + k by omega, Nat.pow_add]
  exact Nat.mul_lt_mul_of_pos_right this hp
 ·
  refine (Nat.le_log2 hz).2 ?_
  rw [Nat.pow_add]
  exact Nat.mul_le_mul_right _ (log2_le m h)
theorem rq_mul (m k d : Nat) : rq (m * 2 ^ k) (d + k) = rq m d := by
 unfold rq
 by_cases h : m = 0
 · subst h; simp
 ·
  have hz : m * 2 ^ k ≠ 0 := Nat.mul_ne_zero h (by have := Nat.two_pow_pos k; omega)
  rw [if_neg h, if_neg hz, log2_mul m k h]
  rw [show m.log2 + k - (52 + (d + k)) = m.log2 - (52 + d) by omega, ← Nat.add_assoc, rne_mul]
/-- THE NEAREST WORD HANGS ON THE NUMBER ALONE -/
theorem nearest_eq (neg : Bool) (m k d : Nat) : Ieee.double.nearest neg m (-1074 + (k : Int) - (d : Int)) = wd neg (rq (m * 2 ^ k) d) := by
 unfold Ieee.Format.nearest
 by_cases h : m = 0
 · subst h; rw [if_pos rfl]; cases neg <;> simp [rq, wd] <;> rfl
 ·
  rw [if_neg h]
  have hz : m * 2 ^ k ≠ 0 := Nat.mul_ne_zero h (by have := Nat.two_pow_pos k; omega)
  simp only []
  have hf : ((Ieee.double.fractionBits : Nat) : Int) = 52 := rfl
  have hl : Ieee.double.leastPlace = -1074 := rfl
  have hb : Ieee.double.binade = 4503599627370496 := rfl
  have hi : Ieee.double.infRung = 9218868437227405312 := rfl
  rw [hf, hl, hb, hi]
  rw [cut_even, Nat.shiftLeft_eq]
  have e1 : (max (-1074 + (k : Int) - (d : Int) + (m.log2 : Int) - 52) (-1074) - -1074).toNat = (m * 2 ^ k).log2 - (52 + d) := by rw [log2_mul m k h]; omega
  have e2 : (-1074 + (k : Int) - (d : Int) - max (-1074 + (k : Int) - (d : Int) + (m.log2 : Int) - 52) (-1074)).toNat = k - ((m * 2 ^ k).log2 - (52 + d) + d) := by rw [log2_mul m k h]; omega
  have e3 : (max (-1074 + (k : Int) - (d : Int) + (m.log2 : Int) - 52) (-1074) - (-1074 + (k : Int) - (d : Int))).toNat = ((m * 2 ^ k).log2 - (52 + d) + d) - k := by rw [log2_mul m k h]; omega
  rw [e1, e2, e3]
  unfold rq
  rw [if_neg hz]
  have e4 : rne (m * 2 ^ (k - ((m * 2 ^ k).log2 - (52 + d) + d))) ((m * 2 ^ k).log2 - (52 + d) + d - k) = rne (m * 2 ^ k) ((m * 2 ^ k).log2 - (52 + d) + d) := by
   generalize (m * 2 ^ k).log2 - (52 + d) + d = s
   by_cases c : s ≤ k
   ·
    rw [show s - k = 0 by omega, rne_zero]
    have := rne_exact (m * 2 ^ (k - s)) s
    rw [Nat.mul_assoc, ← Nat.pow_add, show k - s + s = k by omega] at this
    exact this.symm
   ·
    rw [show k - s = 0 by omega, Nat.pow_zero, Nat.mul_one]
    have := rne_mul m (s - k) k
    rw [show s - k + k = s by omega] at this
    exact this.symm
  rw [e4]
  cases neg <;> rfl
theorem vl_comb (k M : Nat) (h : M ≤ 9007199254740992) (hk : k = 0 ∨ 4503599627370496 ≤ M) : vl (k * 4503599627370496 + M) = M * 2 ^ k := by
 by_cases c : M < 4503599627370496
 ·
  have : k = 0 := by omega
  subst this; rw [Nat.zero_mul, Nat.zero_add, vl_small c]; simp
 ·
  by_cases e : M = 9007199254740992
  ·
   rw [vl_big (by omega)]
   have h1 : (k * 4503599627370496 + M) % 4503599627370496 = 0 := by omega
   have h2 : (k * 4503599627370496 + M) / 4503599627370496 - 1 = k + 1 := by omega
   rw [h1, h2, e, Nat.pow_succ]; omega
  ·
   rw [vl_big (by omega)]
   have h1 : (k * 4503599627370496 + M) % 4503599627370496 = M - 4503599627370496 := by omega
   have h2 : (k * 4503599627370496 + M) / 4503599627370496 - 1 = k := by omega
   rw [h1, h2, show 4503599627370496 + (M - 4503599627370496) = M by omega]
theorem rne_bounds (n s : Nat) : 2 * (rne n s * 2 ^ s) ≤ 2 * n + 2 ^ s ∧ 2 * n ≤ 2 * (rne n s * 2 ^ s) + 2 ^ s := by
 have hd := Nat.div_add_mod n (2 ^ s)
 have hm := Nat.mod_lt n (Nat.two_pow_pos s)
 unfold rne
 rw [Nat.add_mul]
 rw [Nat.mul_comm] at hd
 generalize n / 2 ^ s * 2 ^ s = a at *
 split <;> omega
theorem rne_le (n s M : Nat) (h : n ≤ M * 2 ^ s) : rne n s ≤ M := by
 have hp := Nat.two_pow_pos s
 by_cases c : rne n s ≤ M
 · exact c
 ·
  exfalso
  have hb := (rne_bounds n s).1
  have h1 : (M + 1) * 2 ^ s ≤ rne n s * 2 ^ s := Nat.mul_le_mul_right _ (by omega)
  rw [Nat.add_mul] at h1
  generalize hq : 2 ^ s = q at *
  have h2 : n = M * q ∧ q = 0 ∨ n < M * q ∨ n = M * q := by omega
  by_cases e : n = M * q
  ·
   have := rne_exact M s
   rw [hq, ← e] at this
   omega
  · omega
theorem le_rne (n s M : Nat) (h : M * 2 ^ s ≤ n) : M ≤ rne n s := by
 have : M ≤ n / 2 ^ s := (Nat.le_div_iff_mul_le (Nat.two_pow_pos s)).2 h
 unfold rne; omega
theorem rq_fit (n : Nat) (h : n ≠ 0) : (n.log2 - 52 = 0 ∨ 4503599627370496 ≤ rne n (n.log2 - 52)) ∧ rne n (n.log2 - 52) ≤ 9007199254740992 := by
 constructor
 ·
  by_cases c : n.log2 - 52 = 0
  · exact Or.inl c
  ·
   right
   refine le_rne _ _ _ ?_
   have := log2_le n h
   rw [show (4503599627370496 : Nat) = 2 ^ 52 from rfl, ← Nat.pow_add, show 52 + (n.log2 - 52) = n.log2 by omega]
   exact this
 ·
  refine rne_le _ _ _ ?_
  have := log2_lt n h
  rw [show (9007199254740992 : Nat) = 2 ^ 53 from rfl, ← Nat.pow_add]
  have h2 : 2 ^ (n.log2 + 1) ≤ 2 ^ (53 + (n.log2 - 52)) := Nat.pow_le_pow_right (by omega) (by omega)
  omega
/-- what the nearest rung is worth -/
theorem vl_rq (n : Nat) (h : n ≠ 0) (hf : rq n 0 < 9218868437227405312) : vl (rq n 0) = rne n (n.log2 - 52) * 2 ^ (n.log2 - 52) := by
 obtain ⟨h1, h2⟩ := rq_fit n h
 have e : rq n 0 = (n.log2 - 52) * 4503599627370496 + rne n (n.log2 - 52) := by
  unfold rq at hf ⊢; rw [if_neg h] at hf ⊢; simp only [Nat.add_zero] at hf ⊢; omega
 rw [e]
 exact vl_comb _ _ h2 h1
/-- a rung is the nearest one to what it is worth -/
theorem rq_vl (r : Nat) (h : r ≤ 9218868437227405312) : rq (vl r) 0 = r := by
 by_cases c : r < 4503599627370496
 ·
  rw [vl_small c]
  by_cases z : r = 0
  · subst z; rfl
  ·
   unfold rq
   rw [if_neg z]
   have : r.log2 < 52 := (Nat.log2_lt z).2 (by simpa using c)
   rw [show r.log2 - (52 + 0) = 0 by omega, Nat.add_zero, rne_zero]; omega
 ·
  rw [vl_big (by omega)]
  have hp := Nat.two_pow_pos (r / 4503599627370496 - 1)
  have hM : (4503599627370496 + r % 4503599627370496) ≠ 0 := by omega
  have hz : (4503599627370496 + r % 4503599627370496) * 2 ^ (r / 4503599627370496 - 1) ≠ 0 := Nat.mul_ne_zero hM (by omega)
  have hl : (4503599627370496 + r % 4503599627370496).log2 = 52 := by
   refine Nat.le_antisymm (Nat.le_of_lt_succ ((Nat.log2_lt hM).2 ?_)) ((Nat.le_log2 hM).2 ?_)
   · have := Nat.mod_lt r (show 0 < 4503599627370496 by omega); show _ < 2 ^ 53; omega
   · show 2 ^ 52 ≤ _; omega
  unfold rq
  rw [if_neg hz, log2_mul _ _ hM, hl]
  rw [show 52 + (r / 4503599627370496 - 1) - (52 + 0) = r / 4503599627370496 - 1 by omega, Nat.add_zero, rne_exact]
  omega
theorem rq_le (n d : Nat) : rq n d ≤ 9218868437227405312 := by unfold rq; split <;> omega
theorem sg_wd (s : Bool) (r : Nat) (h : r < 9223372036854775808) : sg (wd s r) = s := by
 unfold wd sg
 cases s
 ·
  have : r / 9223372036854775808 = 0 := by omega
  simp [this]
 ·
  have : (9223372036854775808 + r) / 9223372036854775808 = 1 := by omega
  simp [this]
theorem rg_wd (s : Bool) (r : Nat) (h : r < 9223372036854775808) : rg (wd s r) = r := by
 unfold wd rg; cases s <;> simp <;> omega
theorem wd_lt (s : Bool) (r : Nat) (h : r < 9223372036854775808) : wd s r < 18446744073709551616 := by
 unfold wd; split <;> omega
/-- what a finite word is worth, in units of the least place -/
def val (x : Nat) : Int := if sg x then -(vl (rg x) : Int) else vl (rg x)
theorem sum_fin {x y : Nat} (hx : rg x < 9218868437227405312) (hy : rg y < 9218868437227405312) :
  ∃ T : Int, ∃ k : Nat, (Ieee.double.read x).sum (Ieee.double.read y) = some (.number (if T = 0 then sg x && sg y else decide (T < 0)) T.natAbs (-1074 + (k : Int))) ∧ T * ((2 ^ k : Nat) : Int) = val x + val y := by
 obtain ⟨m, k, hm, em⟩ := read_fin hx
 obtain ⟨n, j, hn, en⟩ := read_fin hy
 rw [hm, hn]
 simp only [Ieee.Datum.sum]
 have hb : min (-1074 + (k : Int)) (-1074 + (j : Int)) = -1074 + ((min k j : Nat) : Int) := by omega
 rw [hb]
 have e1 : (-1074 + (k : Int) - (-1074 + ((min k j : Nat) : Int))).toNat = k - min k j := by omega
 have e2 : (-1074 + (j : Int) - (-1074 + ((min k j : Nat) : Int))).toNat = j - min k j := by omega
 rw [e1, e2]
 refine ⟨_, min k j, rfl, ?_⟩
 rw [Int.add_mul, signed_eq, signed_eq, Int.mul_assoc, Int.mul_assoc, ← Int.natCast_mul, ← Int.natCast_mul, Nat.mul_assoc, Nat.mul_assoc, ← Nat.pow_add, ← Nat.pow_add, Nat.sub_add_cancel (Nat.min_le_left k j), Nat.sub_add_cancel (Nat.min_le_right k j), em, en]
 unfold val
 cases sg x <;> cases sg y <;> simp <;> omega
/-- AN ADDITION OF FINITE WORDS: the nearest rung to the sum of what they are worth -/
theorem add_fin {x y : Nat} (hx : rg x < 9218868437227405312) (hy : rg y < 9218868437227405312) :
  Ieee.double.add x y = some (wd (if val x + val y = 0 then sg x && sg y else decide (val x + val y < 0)) (rq (val x + val y).natAbs 0)) := by
 obtain ⟨T, k, h, e⟩ := sum_fin hx hy
 unfold Ieee.Format.add
 rw [h]
 simp only [Option.map_some]
 show some (Ieee.double.nearest _ _ _) = _
 have hn := nearest_eq (if T = 0 then sg x && sg y else decide (T < 0)) T.natAbs k 0
 rw [show ((0 : Nat) : Int) = 0 from rfl, Int.sub_zero] at hn
 rw [hn]
 have hp : (0 : Int) < ((2 ^ k : Nat) : Int) := by have := Nat.two_pow_pos k; omega
 have h0 : (val x + val y = 0) ↔ T = 0 := by
  rw [← e]
  exact ⟨fun h => (Int.mul_eq_zero.1 h).resolve_right (by omega), fun h => by rw [h]; simp⟩
 have h1 : (val x + val y < 0) ↔ T < 0 := by
  rw [← e]
  constructor
  ·
   intro h
   by_cases c : T < 0
   · exact c
   · have := Int.mul_nonneg (show 0 ≤ T by omega) (show (0 : Int) ≤ ((2 ^ k : Nat) : Int) by omega); omega
  · intro h; exact Int.mul_neg_of_neg_of_pos h hp
 have h2 : (val x + val y).natAbs = T.natAbs * 2 ^ k := by rw [← e, Int.natAbs_mul]; rfl
 rw [h2]
 congr 2
 simp only [h0, h1]
end Go.Proofs.YtfgfofedacehiaaGreat.Fl

/-
 OWN TEXT: plain laws on subtraction and multiplication of words, on powers of two, and on the bits of a word's fields.
-/
namespace Go.Proofs.YtfgfofedacehiaaGreat.Fl

theorem read_ng {x : Nat} (h : x < 18446744073709551616) : Ieee.double.read (ng x) = (Ieee.double.read x).opposite := by
 rw [read_eq, read_eq, rg_ng, sg_ng h]
 repeat' split
 all_goals rfl
theorem sub_eq {x y : Nat} (h : y < 18446744073709551616) : Ieee.double.sub x y = Ieee.double.add x (ng y) := by
 unfold Ieee.Format.sub Ieee.Format.add; rw [read_ng h]
theorem val_ng {x : Nat} (h : x < 18446744073709551616) : val (ng x) = -val x := by
 unfold val; rw [rg_ng, sg_ng h]; cases sg x <;> simp
/-- A SUBTRACTION OF FINITE WORDS -/
theorem sub_fin {x y : Nat} (h : y < 18446744073709551616) (hx : rg x < 9218868437227405312) (hy : rg y < 9218868437227405312) :
  Ieee.double.sub x y = some (wd (if val x - val y = 0 then sg x && !sg y else decide (val x - val y < 0)) (rq (val x - val y).natAbs 0)) := by
 rw [sub_eq h, add_fin hx (by rw [rg_ng]; exact hy), val_ng h, sg_ng h]; rfl
/-- A MULTIPLICATION OF FINITE WORDS -/
theorem mul_fin {x y : Nat} (hx : rg x < 9218868437227405312) (hy : rg y < 9218868437227405312) :
  Ieee.double.mul x y = some (wd (sg x ^^ sg y) (rq (vl (rg x) * vl (rg y)) 1074)) := by
 obtain ⟨m, k, hm, em⟩ := read_fin hx
 obtain ⟨n, j, hn, en⟩ := read_fin hy
 unfold Ieee.Format.mul
 rw [hm, hn]
 simp only [Ieee.Datum.product, Option.map_some]
 show some (Ieee.double.nearest _ _ _) = _
 have e := nearest_eq (sg x ^^ sg y) (m * n) (k + j) 1074
 rw [show (-1074 + ((k + j : Nat) : Int) - ((1074 : Nat) : Int)) = -1074 + (k : Int) + (-1074 + (j : Int)) by omega] at e
 rw [e, ← em, ← en]
 congr 3
 rw [Nat.pow_add, Nat.mul_mul_mul_comm]
/-- the rung nearest to v times 2 to the power of n -/
def rz (v : Nat) (n : Int) : Nat := rq (v * 2 ^ n.toNat) (-n).toNat
theorem rz_shift (v k : Nat) (n : Int) : rz (v * 2 ^ k) n = rz v (n + k) := by
 unfold rz
 rw [Nat.mul_assoc, ← Nat.pow_add]
 by_cases h : 0 ≤ n
 · rw [show (n + (k : Int)).toNat = k + n.toNat by omega, show (-n).toNat = 0 by omega, show (-(n + (k : Int))).toNat = 0 by omega]
 ·
  by_cases c : 0 ≤ n + k
  ·
   have e := rq_mul (v * 2 ^ (n + (k : Int)).toNat) (-n).toNat 0
   rw [Nat.mul_assoc, ← Nat.pow_add, Nat.zero_add] at e
   rw [show (-(n + (k : Int))).toNat = 0 by omega, ← e, show (n + (k : Int)).toNat + (-n).toNat = k + n.toNat by omega]
  ·
   have e := rq_mul v k (-(n + (k : Int))).toNat
   rw [show (n + (k : Int)).toNat = 0 by omega, show k + n.toNat = k by omega, Nat.pow_zero, Nat.mul_one, ← e, show (-(n + (k : Int))).toNat + k = (-n).toNat by omega]
theorem rz_zero (v : Nat) : rz v 0 = rq v 0 := by unfold rz; simp
theorem rz_le (v : Nat) (n : Int) : rz v n ≤ 9218868437227405312 := rq_le _ _
theorem rz_neg (v d : Nat) : rz v (-(d : Int)) = rq v d := by
 unfold rz
 rw [show (-(d : Int)).toNat = 0 by omega, show (-(-(d : Int))).toNat = d by omega, Nat.pow_zero, Nat.mul_one]
/-- what is below half a unit becomes nought -/
theorem rq_low (n d : Nat) (h : 2 * n < 2 ^ d) : rq n d = 0 := by
 by_cases z : n = 0
 · subst z; rfl
 ·
  unfold rq
  rw [if_neg z]
  have hl : n.log2 < d := by
   refine (Nat.log2_lt z).2 ?_
   omega
  rw [show n.log2 - (52 + d) = 0 by omega, Nat.zero_mul, Nat.zero_add, Nat.zero_add, rne_small n d h]; rfl
/-- what is too great becomes infinite -/
theorem rq_far (n d : Nat) (z : n ≠ 0) (hl : 2098 + d ≤ n.log2) : rq n d = 9218868437227405312 := by
 unfold rq
 rw [if_neg z]
 have e : 4503599627370496 ≤ rne n (n.log2 - (52 + d) + d) := by
  refine le_rne _ _ _ ?_
  have := log2_le n z
  rw [show (4503599627370496 : Nat) = 2 ^ 52 from rfl, ← Nat.pow_add, show 52 + (n.log2 - (52 + d) + d) = n.log2 by omega]
  exact this
 have : 2046 ≤ n.log2 - (52 + d) := by omega
 have h3 : 2046 * 4503599627370496 ≤ (n.log2 - (52 + d)) * 4503599627370496 := Nat.mul_le_mul_right _ this
 omega
theorem rq_far_mul (M k : Nat) (hM : 4503599627370496 ≤ M) (hk : 2046 ≤ k) : rq (M * 2 ^ k) 0 = 9218868437227405312 := by
 have z : M ≠ 0 := by omega
 have h1 : 52 ≤ M.log2 := (Nat.le_log2 z).2 (by omega)
 refine rq_far _ _ (Nat.mul_ne_zero z (by have := Nat.two_pow_pos k; omega)) ?_
 rw [log2_mul M k z]; omega
theorem and_exp {y : Nat} (h : y < 18446744073709551616) : bits .andNot .u64 (y : Int) 9218868437227405312 = ((y / 9223372036854775808 * 9223372036854775808 + y % 4503599627370496 : Nat) : Int) := by
 have e := u64_andNot_nat y 9218868437227405312 h (by omega)
 rw [show ((9218868437227405312 : Nat) : Int) = 9218868437227405312 from rfl] at e
 rw [e]
 show ((y &&& 9227875636482146303 : Nat) : Int) = _
 have h1 : (y &&& 9227875636482146303) % 2 ^ 52 = y % 2 ^ 52 := by
  rw [Nat.and_mod_two_pow, show 9227875636482146303 % 2 ^ 52 = 2 ^ 52 - 1 from rfl, Nat.and_two_pow_sub_one_eq_mod, Nat.mod_mod]
 have h2 : (y &&& 9227875636482146303) / 2 ^ 52 = y / 2 ^ 52 &&& 2 ^ 11 := by rw [Nat.and_div_two_pow]
 have h3 : (y / 2 ^ 52 &&& 2 ^ 11) / 2 ^ 11 = y / 2 ^ 52 / 2 ^ 11 % 2 := by rw [Nat.and_div_two_pow, Nat.div_self (Nat.two_pow_pos 11), Nat.and_one_is_mod]
 have h4 : (y / 2 ^ 52 &&& 2 ^ 11) % 2 ^ 11 = 0 := by rw [Nat.and_mod_two_pow]; simp
 generalize (y &&& 9227875636482146303) = a at *
 generalize (y / 2 ^ 52 &&& 2 ^ 11) = b at *
 omega
theorem or_field (s F f : Nat) (hs : s ≤ 1) (hF : F < 2048) (hf : f < 4503599627370496) :
  bits .or .u64 ((s * 9223372036854775808 + f : Nat) : Int) ((F * 4503599627370496 : Nat) : Int) = ((s * 9223372036854775808 + (F * 4503599627370496 + f) : Nat) : Int) := by
 rw [u64_or_nat _ _ (by omega) (by omega)]
 have h1 : ((s * 9223372036854775808 + f) ||| (F * 4503599627370496)) % 2 ^ 52 = f := by
  rw [Nat.or_mod_two_pow, show (s * 9223372036854775808 + f) % 2 ^ 52 = f by omega, show (F * 4503599627370496) % 2 ^ 52 = 0 by omega, Nat.or_zero]
 have h2 : ((s * 9223372036854775808 + f) ||| (F * 4503599627370496)) / 2 ^ 52 = 2 ^ 11 * s + F := by
  rw [Nat.or_div_two_pow, show (s * 9223372036854775808 + f) / 2 ^ 52 = 2 ^ 11 * s by omega, show (F * 4503599627370496) / 2 ^ 52 = F by omega]
  exact (Nat.two_pow_add_eq_or_of_lt (by omega) s).symm
 generalize ((s * 9223372036854775808 + f) ||| (F * 4503599627370496)) = a at *
 omega
theorem and_sign {y : Nat} (h : y < 18446744073709551616) : bits .and .u64 (y : Int) 9223372036854775808 = ((y / 9223372036854775808 * 9223372036854775808 : Nat) : Int) := by
 have e := u64_and_nat y 9223372036854775808 h (by omega)
 rw [show ((9223372036854775808 : Nat) : Int) = 9223372036854775808 from rfl] at e
 rw [e]
 have h1 : (y &&& 2 ^ 63) / 2 ^ 63 = y / 2 ^ 63 % 2 := by
  rw [Nat.and_div_two_pow, Nat.div_self (Nat.two_pow_pos 63), Nat.and_one_is_mod]
 have h2 : (y &&& 2 ^ 63) % 2 ^ 63 = 0 := by rw [Nat.and_mod_two_pow]; simp
 show ((y &&& 2 ^ 63 : Nat) : Int) = _
 generalize (y &&& 2 ^ 63) = a at *
 omega
theorem abs_int {x : Nat} (h : x < 18446744073709551616) : bits .andNot .u64 (x : Int) 9223372036854775808 = ((rg x : Nat) : Int) := by
 have e := abs_bits h
 have e2 := u64_andNot_nat x 9223372036854775808 h (by omega)
 rw [show ((9223372036854775808 : Nat) : Int) = 9223372036854775808 from rfl] at e2
 rw [e2] at e ⊢
 rw [Int.toNat_natCast] at e; rw [e]
theorem or_sign (s r : Nat) (hs : s ≤ 1) (hr : r < 9223372036854775808) : bits .or .u64 (r : Int) ((s * 9223372036854775808 : Nat) : Int) = ((s * 9223372036854775808 + r : Nat) : Int) := by
 rw [u64_or_nat _ _ (by omega) (by omega), Nat.or_comm]
 have := (Nat.two_pow_add_eq_or_of_lt (i := 63) (b := r) (by omega) s)
 rw [show 2 ^ 63 * s = s * 9223372036854775808 by omega] at this
 rw [← this]
theorem wd_sg {y : Nat} (h : y < 18446744073709551616) (r : Nat) : wd (sg y) r = y / 9223372036854775808 * 9223372036854775808 + r := by
 unfold wd
 rw [sg_lt h]
 by_cases c : 9223372036854775808 ≤ y
 · simp only [c, decide_true, if_true]; omega
 · simp only [c, decide_false, Bool.false_eq_true, if_false]; omega
theorem and2047 (n : Int) : bits .and .i64 n 2047 = n % 2048 := by
 have h127 : (BitVec.ofInt 64 2047).toNat = 2 ^ 11 - 1 := by decide
 have key : (BitVec.ofInt 64 n &&& BitVec.ofInt 64 2047).toNat = (n % ((2 ^ 64 : Nat) : Int)).toNat % 2 ^ 11 := by
  rw [BitVec.toNat_and, BitVec.toNat_ofInt, h127, Nat.and_two_pow_sub_one_eq_mod]
 show IntKind.i64.wrap ((BitVec.ofInt 64 n &&& BitVec.ofInt 64 2047).toNat : Nat) = n % 2048
 rw [key, IntKind.wrap_i64]
 omega
theorem vl_one : vl 4607182418800017408 = 2 ^ 1074 := by decide +kernel
theorem vl_52 : vl 4841369599423283200 = 2 ^ (52 + 1074) := by decide +kernel
theorem vl_53 : vl 4368491638549381120 = 2 ^ 1021 := by decide +kernel
theorem rq_by (c v p d q : Nat) (hc : vl c = 2 ^ p) (hq : q = d + p) : rq (vl c * v) q = rq v d := by
 subst hq; rw [hc, Nat.mul_comm]; exact rq_mul v p d
theorem rq_by' (c v p k q : Nat) (hc : vl c = 2 ^ (k + p)) (hq : q = p) : rq (v * vl c) q = rq (v * 2 ^ k) 0 := by
 subst hq; rw [hc, Nat.pow_add, ← Nat.mul_assoc]
 have e := rq_mul (v * 2 ^ k) q 0
 rwa [Nat.zero_add] at e
theorem wd_self {y : Nat} (h : y < 18446744073709551616) : wd (sg y) (rg y) = y := by
 have hs := sg_lt h
 have hr : rg y = y % 9223372036854775808 := rfl
 unfold wd
 rw [hs]
 by_cases c : 9223372036854775808 ≤ y
 · simp only [c, decide_true, if_true]; omega
 · simp only [c, decide_false, Bool.false_eq_true, if_false]; omega
/-- times 1 -/
theorem mul_one {y : Nat} (hy : rg y < 9218868437227405312) (h : y < 18446744073709551616) : Ieee.double.mul 4607182418800017408 y = some y := by
 have r1 : rg 4607182418800017408 = 4607182418800017408 := by decide
 have s1 : sg 4607182418800017408 = false := by decide
 have e := mul_fin (x := 4607182418800017408) (y := y) (by rw [r1]; decide) hy
 rw [r1, s1, Bool.false_xor, rq_by 4607182418800017408 _ 1074 0 1074 vl_one rfl, rq_vl _ (by omega), wd_self h] at e
 exact e
/-- times 2^-53 -/
theorem mul_53 {y : Nat} (hy : rg y < 9218868437227405312) : Ieee.double.mul 4368491638549381120 y = some (wd (sg y) (rq (vl (rg y)) 53)) := by
 have r1 : rg 4368491638549381120 = 4368491638549381120 := by decide
 have s1 : sg 4368491638549381120 = false := by decide
 have e := mul_fin (x := 4368491638549381120) (y := y) (by rw [r1]; decide) hy
 rw [r1, s1, Bool.false_xor, rq_by 4368491638549381120 _ 1021 53 1074 vl_53 rfl] at e
 exact e
/-- times 2^52 -/
theorem mul_52 {x : Nat} (hx : rg x < 9218868437227405312) : Ieee.double.mul x 4841369599423283200 = some (wd (sg x) (rq (vl (rg x) * 2 ^ 52) 0)) := by
 have r1 : rg 4841369599423283200 = 4841369599423283200 := by decide
 have s1 : sg 4841369599423283200 = false := by decide
 have e := mul_fin (x := x) (y := 4841369599423283200) hx (by rw [r1]; decide)
 rw [r1, s1, Bool.xor_false, rq_by' 4841369599423283200 _ 1074 52 1074 vl_52 rfl] at e
 exact e
/-- times 2^52, of what is smaller than a normal number: exact, and normal -/
theorem rq_52 (r : Nat) (h : r < 4503599627370496) (z : r ≠ 0) : vl (rq (vl r * 2 ^ 52) 0) = vl r * 2 ^ 52 ∧ 4503599627370496 ≤ rq (vl r * 2 ^ 52) 0 ∧ rq (vl r * 2 ^ 52) 0 < 243194379878006784 := by
 rw [vl_small h]
 have hl : r.log2 < 52 := (Nat.log2_lt z).2 (by simpa using h)
 have hz : r * 2 ^ 52 ≠ 0 := by omega
 have e : rq (r * 2 ^ 52) 0 = r.log2 * 4503599627370496 + r * 2 ^ (52 - r.log2) := by
  unfold rq
  rw [if_neg hz, log2_mul r 52 z, show r.log2 + 52 - (52 + 0) = r.log2 by omega, Nat.add_zero]
  have e2 : rne (r * 2 ^ 52) r.log2 = r * 2 ^ (52 - r.log2) := by
   have := rne_exact (r * 2 ^ (52 - r.log2)) r.log2
   rw [Nat.mul_assoc, ← Nat.pow_add, show 52 - r.log2 + r.log2 = 52 by omega] at this
   exact this
  rw [e2]
  have h1 := log2_lt r z
  have h2 : r * 2 ^ (52 - r.log2) < 2 ^ (r.log2 + 1) * 2 ^ (52 - r.log2) := Nat.mul_lt_mul_of_pos_right h1 (Nat.two_pow_pos _)
  rw [← Nat.pow_add, show r.log2 + 1 + (52 - r.log2) = 53 by omega] at h2
  have h3 : r.log2 * 4503599627370496 ≤ 51 * 4503599627370496 := Nat.mul_le_mul_right _ (by omega)
  omega
 have h1 := log2_lt r z
 have h2 : r * 2 ^ (52 - r.log2) < 2 ^ (r.log2 + 1) * 2 ^ (52 - r.log2) := Nat.mul_lt_mul_of_pos_right h1 (Nat.two_pow_pos _)
 rw [← Nat.pow_add, show r.log2 + 1 + (52 - r.log2) = 53 by omega] at h2
 have h3 : 2 ^ r.log2 * 2 ^ (52 - r.log2) ≤ r * 2 ^ (52 - r.log2) := Nat.mul_le_mul_right _ (log2_le r z)
 rw [← Nat.pow_add, show r.log2 + (52 - r.log2) = 52 by omega] at h3
 have h4 : r.log2 * 4503599627370496 ≤ 51 * 4503599627370496 := Nat.mul_le_mul_right _ (by omega)
 refine ⟨?_, ?_, ?_⟩
 · rw [e, vl_comb _ _ (by omega) (Or.inr (by omega)), Nat.mul_assoc, ← Nat.pow_add, show 52 - r.log2 + r.log2 = 52 by omega]
 · rw [e]; omega
 · rw [e]; omega
theorem rq_low_gen (v p d : Nat) (h : v < 2 ^ p) (hd : p + 1 ≤ d) : rq v d = 0 := by
 refine rq_low _ _ ?_
 have h1 : 2 ^ (p + 1) ≤ 2 ^ d := Nat.pow_le_pow_right (by omega) hd
 rw [Nat.pow_succ] at h1
 generalize 2 ^ d = a at *
 omega
theorem vl_inf : vl 9218868437227405312 = 2 ^ 2098 := by decide +kernel
theorem vl_lt {r : Nat} (h : r < 9218868437227405312) : vl r < 2 ^ 2098 := by rw [← vl_inf]; exact vl_mono h
theorem vl_pos {r : Nat} (h : ¬ r = 0) : vl r ≠ 0 := by
 have h1 := vl_mono (r := 0) (s := r) (by omega)
 omega
theorem rz_far (v : Nat) (n : Int) (hv : v ≠ 0) (hn : 2098 ≤ n) : rz v n = 9218868437227405312 := by
 unfold rz
 rw [show (-n).toNat = 0 by omega]
 refine rq_far _ _ (Nat.mul_ne_zero hv (by have := Nat.two_pow_pos n.toNat; omega)) ?_
 rw [log2_mul v _ hv]; omega
theorem rz_low (v p : Nat) (n : Int) (hv : v < 2 ^ p) (hn : n ≤ -(p : Int) - 1) : rz v n = 0 := by
 rw [show n = -((-n).toNat : Int) by omega, rz_neg]
 exact rq_low_gen v p _ hv (by omega)
/-- beyond all exponents nothing turns -/
theorem rz_clamp (v : Nat) (n : Int) (hv : v ≠ 0) (hl : v < 2 ^ 2098) : rz v (min (max n (-4096)) 4096) = rz v n := by
 by_cases h1 : 4096 < n
 · rw [rz_far v n hv (by omega), rz_far v _ hv (by omega)]
 ·
  by_cases h2 : n < -4096
  · rw [rz_low v 2098 n hl (by omega), rz_low v 2098 _ hl (by omega)]
  · rw [show min (max n (-4096)) 4096 = n by omega]
end Go.Proofs.YtfgfofedacehiaaGreat.Fl

/-
 OWN TEXT: plain laws on additions and subtractions with all signs turned.
-/
namespace Go.Proofs.YtfgfofedacehiaaGreat.Fl

theorem nan_wd (b : Bool) (r : Nat) (h : r ≤ 9218868437227405312) : nan (wd b r) = false := by
 unfold nan; rw [rg_wd _ _ (by omega)]; exact decide_eq_false (by omega)
theorem ng_ng {x : Nat} (h : x < 18446744073709551616) : ng (ng x) = x := by unfold ng; split <;> split <;> omega
/-- the nearest whole number -/
def whF (x : Nat) : Nat := Ieee.double.write ((Ieee.double.read x).integral .even)
end Go.Proofs.YtfgfofedacehiaaGreat.Fl

/-
 OWN TEXT: plain laws on what a sum loses: the two differences that tell the loss are exact.
-/
namespace Go.Proofs.YtfgfofedacehiaaGreat.Fl

/-- a number of at most 53 digits is its own nearest rung -/
theorem rq_rep (n : Nat) (h : ∃ M k : Nat, n = M * 2 ^ k ∧ M ≤ 9007199254740992) (b : n.log2 < 2098) : vl (rq n 0) = n ∧ rq n 0 < 9218868437227405312 := by
 by_cases z : n = 0
 · subst z; exact ⟨rfl, by decide⟩
 obtain ⟨M, k, e, hM⟩ := h
 have hex : rne n (n.log2 - 52) * 2 ^ (n.log2 - 52) = n := by
  have hd : ∃ c, n = c * 2 ^ (n.log2 - 52) := by
   by_cases c : n.log2 - 52 ≤ k
   ·
    refine ⟨M * 2 ^ (k - (n.log2 - 52)), ?_⟩
    rw [Nat.mul_assoc, ← Nat.pow_add, show k - (n.log2 - 52) + (n.log2 - 52) = k by omega]; exact e
   ·
    have h1 : n ≤ 9007199254740992 * 2 ^ k := by rw [e]; exact Nat.mul_le_mul_right _ hM
    have h2 := log2_le n z
    have h3 : n.log2 ≤ 53 + k := by
     by_cases c3 : n.log2 ≤ 53 + k
     · exact c3
     ·
      have h4 : 2 ^ (53 + k + 1) ≤ 2 ^ n.log2 := Nat.pow_le_pow_right (by omega) (by omega)
      rw [Nat.pow_succ, Nat.pow_add, show (2 : Nat) ^ 53 = 9007199254740992 from rfl] at h4
      have := Nat.two_pow_pos k
      generalize 2 ^ k = p at *
      generalize 2 ^ n.log2 = q at *
      omega
    have h5 : n.log2 = 53 + k := by omega
    rw [h5, Nat.pow_add, show (2 : Nat) ^ 53 = 9007199254740992 from rfl] at h2
    have h6 : n = 9007199254740992 * 2 ^ k := by omega
    refine ⟨4503599627370496, ?_⟩
    rw [show n.log2 - 52 = k + 1 by omega, Nat.pow_succ]; omega
  obtain ⟨c, hc⟩ := hd
  have := rne_exact c (n.log2 - 52)
  rw [← hc] at this
  rw [this]; exact hc.symm
 have hlt : rne n (n.log2 - 52) < 9007199254740992 := by
  have h1 := log2_lt n z
  by_cases c : rne n (n.log2 - 52) < 9007199254740992
  · exact c
  ·
   have h2 : 9007199254740992 * 2 ^ (n.log2 - 52) ≤ rne n (n.log2 - 52) * 2 ^ (n.log2 - 52) := Nat.mul_le_mul_right _ (by omega)
   rw [hex, show (9007199254740992 : Nat) = 2 ^ 53 from rfl, ← Nat.pow_add] at h2
   have h3 : 2 ^ (n.log2 + 1) ≤ 2 ^ (53 + (n.log2 - 52)) := Nat.pow_le_pow_right (by omega) (by omega)
   omega
 have hr : rq n 0 < 9218868437227405312 := by
  unfold rq
  rw [if_neg z]
  simp only [Nat.add_zero]
  have h4 : (n.log2 - 52) * 4503599627370496 ≤ 2045 * 4503599627370496 := Nat.mul_le_mul_right _ (by omega)
  omega
 exact ⟨by rw [vl_rq n z hr, hex], hr⟩
theorem val_abs (x : Nat) : (val x).natAbs = vl (rg x) := by unfold val; split <;> omega
/-- what a rounded number is worth -/
theorem val_wd (b : Bool) (r : Nat) (h : r < 9223372036854775808) : val (wd b r) = if b then -(vl r : Int) else vl r := by
 unfold val; rw [sg_wd _ _ h, rg_wd _ _ h]
end Go.Proofs.YtfgfofedacehiaaGreat.Fl

/-
 OWN TEXT: plain laws on a sum and its loss: what is lost is a word, exactly; with all signs turned both are turned.
-/
namespace Go.Proofs.YtfgfofedacehiaaGreat.Fl

/-- the word of a loss -/
def lw (L : Int) : Nat := wd (decide (L < 0)) (rq L.natAbs 0)
/-- the word of a sum -/
def aw (x y : Nat) : Nat := wd (if val x + val y = 0 then sg x && sg y else decide (val x + val y < 0)) (rq (val x + val y).natAbs 0)
end Go.Proofs.YtfgfofedacehiaaGreat.Fl

