/-
  OWN TEXT: plain laws on numbers written as words of 32 bits, the least word first.
-/
import Derived.Test.YtpfaaimfembhdaaRows
import Derived.WalkKit
import Derived.ProofKit
import Derived.OpenShut
import Derived.WalkLawsBesides
import Derived.Laws.BitsAllLaws
import Derived.BigQuiet
import Derived.Deep.QuietTactic
set_option linter.unusedVariables false
namespace Go.Proofs.Ytpfaaimfembhdaa.Bg

/-- what words are worth -/
def vL : List Nat → Nat
  | [] => 0
  | x :: r => x + 4294967296 * vL r
/-- how many words are left without the noughts at the end -/
def tn : List Nat → Nat
  | [] => 0
  | x :: r => if tn r = 0 then (if x = 0 then 0 else 1) else tn r + 1
/-- each word fits -/
def Dg (l : List Nat) : Prop := ∀ i, l.getD i 0 < 4294967296

theorem tn_le (l : List Nat) : tn l ≤ l.length := by
  induction l with
  | nil => exact Nat.le_refl _
  | cons x r ih => simp only [tn, List.length_cons]; split <;> (try split) <;> omega
theorem getD_cons_succ (x : Nat) (r : List Nat) (i : Nat) : (x :: r).getD (i + 1) 0 = r.getD i 0 := rfl
theorem getD_nil (i : Nat) : ([] : List Nat).getD i 0 = 0 := rfl
theorem getD_out {l : List Nat} {i : Nat} (h : l.length ≤ i) : l.getD i 0 = 0 := by
  simp [List.getD, List.getElem?_eq_none h]
theorem tn_zero (l : List Nat) (i : Nat) (h : tn l ≤ i) : l.getD i 0 = 0 := by
  induction l generalizing i with
  | nil => rfl
  | cons x r ih =>
    simp only [tn] at h
    cases i with
    | zero =>
      by_cases c : tn r = 0
      · rw [if_pos c] at h
        by_cases d : x = 0
        · subst d; rfl
        · rw [if_neg d] at h; omega
      · rw [if_neg c] at h; omega
    | succ i =>
      rw [getD_cons_succ]
      refine ih i ?_
      by_cases c : tn r = 0
      · omega
      · rw [if_neg c] at h; omega
theorem tn_last (l : List Nat) (h : tn l ≠ 0) : l.getD (tn l - 1) 0 ≠ 0 := by
  induction l with
  | nil => exact absurd rfl h
  | cons x r ih =>
    simp only [tn] at h ⊢
    by_cases c : tn r = 0
    · rw [if_pos c] at h ⊢
      by_cases d : x = 0
      · rw [if_pos d] at h; omega
      · rw [if_neg d]; exact d
    · rw [if_neg c, show tn r + 1 - 1 = (tn r - 1) + 1 by omega, getD_cons_succ]
      exact ih c
theorem tn_unique (l : List Nat) (n : Nat) (h1 : ∀ i, n ≤ i → l.getD i 0 = 0) (h2 : n = 0 ∨ l.getD (n - 1) 0 ≠ 0) : n = tn l := by
  have a1 := tn_zero l
  have a2 := tn_last l
  by_cases c : n < tn l
  · have := a2 (by omega)
    exact absurd (h1 _ (by omega)) this
  · by_cases d : tn l < n
    · rcases h2 with h2 | h2
      · omega
      · exact absurd (a1 (n - 1) (by omega)) h2
    · omega
theorem vL_zero (l : List Nat) (h : ∀ i, l.getD i 0 = 0) : vL l = 0 := by
  induction l with
  | nil => rfl
  | cons x r ih =>
    have h0 := h 0
    have : x = 0 := h0
    subst this
    simp only [vL, ih (fun i => h (i + 1))]
theorem vL_take (l : List Nat) (n : Nat) (h : ∀ i, n ≤ i → l.getD i 0 = 0) : vL (l.take n) = vL l := by
  induction l generalizing n with
  | nil => simp
  | cons x r ih =>
    cases n with
    | zero => simp only [List.take_zero]; rw [vL_zero (x :: r) (fun i => h i (by omega))]; rfl
    | succ n =>
      simp only [List.take_succ_cons, vL]
      rw [ih n (fun i hi => h (i + 1) (by omega))]
theorem vL_trim (l : List Nat) : vL (l.take (tn l)) = vL l := vL_take l _ (tn_zero l)
theorem getD_take (l : List Nat) (n i : Nat) : (l.take n).getD i 0 = if i < n then l.getD i 0 else 0 := by
  simp only [List.getD, List.getElem?_take]
  split <;> simp
theorem tn_trim (l : List Nat) : tn (l.take (tn l)) = tn l := by
  refine (tn_unique _ _ ?_ ?_).symm
  · intro i hi; rw [getD_take, if_neg (by omega)]
  · by_cases c : tn l = 0
    · exact Or.inl c
    · right; rw [getD_take, if_pos (by omega)]; exact tn_last l c
theorem length_trim (l : List Nat) : (l.take (tn l)).length = tn l := by
  rw [List.length_take]; have := tn_le l; omega
theorem Dg_take {l : List Nat} (h : Dg l) (n : Nat) : Dg (l.take n) := by
  intro i; rw [getD_take]; split
  · exact h i
  · omega
theorem vL_snoc (l : List Nat) (x : Nat) : vL (l ++ [x]) = vL l + x * 4294967296 ^ l.length := by
  induction l with
  | nil => simp [vL]
  | cons y r ih =>
    simp only [List.cons_append, vL, ih, List.length_cons, Nat.pow_succ]
    rw [Nat.mul_add, Nat.add_assoc]
    congr 2
    rw [Nat.mul_comm (4294967296 ^ r.length), ← Nat.mul_assoc, ← Nat.mul_assoc, Nat.mul_comm x]
theorem vL_take_succ (l : List Nat) (k : Nat) (h : k < l.length) : vL (l.take (k + 1)) = vL (l.take k) + l.getD k 0 * 4294967296 ^ k := by
  rw [List.take_succ_eq_append_getElem h, vL_snoc, List.length_take, Nat.min_eq_left (by omega)]
  simp [List.getD, h]
theorem vL_take_succ' (l : List Nat) (k : Nat) : vL (l.take (k + 1)) = vL (l.take k) + l.getD k 0 * 4294967296 ^ k := by
  by_cases h : k < l.length
  · exact vL_take_succ l k h
  · rw [List.take_of_length_le (by omega), List.take_of_length_le (by omega), getD_out (by omega)]; simp
theorem vL_lt (l : List Nat) (h : Dg l) : vL l < 4294967296 ^ l.length := by
  induction l with
  | nil => simp [vL]
  | cons x r ih =>
    have h0 : x < 4294967296 := h 0
    have h1 := ih (fun i => h (i + 1))
    simp only [vL, List.length_cons, Nat.pow_succ]
    generalize 4294967296 ^ r.length = p at *
    omega
theorem vL_ge (l : List Nat) (h : tn l = l.length) (hl : l ≠ []) : 4294967296 ^ (l.length - 1) ≤ vL l := by
  have h0 : tn l ≠ 0 := by rw [h]; exact fun e => hl (List.length_eq_zero_iff.1 e)
  have h1 := tn_last l h0
  have h2 := vL_take_succ l (l.length - 1) (by omega)
  rw [show l.length - 1 + 1 = l.length by omega, List.take_length] at h2
  rw [h] at h1
  rw [h2]
  have : 1 * 4294967296 ^ (l.length - 1) ≤ l.getD (l.length - 1) 0 * 4294967296 ^ (l.length - 1) := Nat.mul_le_mul_right _ (by omega)
  omega
theorem set_take_lt (l : List Nat) (i k x : Nat) (h : k ≤ i) : (l.set i x).take k = l.take k := by
  rw [List.take_set]
  rw [List.set_eq_of_length_le]
  rw [List.length_take]; omega
theorem getD_set (l : List Nat) (i j x : Nat) (h : i < l.length) : (l.set i x).getD j 0 = if j = i then x else l.getD j 0 := by
  simp only [List.getD, List.getElem?_set]
  by_cases c : i = j
  · subst c; simp [h]
  · rw [if_neg c, if_neg (fun e => c e.symm)]
theorem Dg_set {l : List Nat} (h : Dg l) (i x : Nat) (hx : x < 4294967296) : Dg (l.set i x) := by
  intro j
  by_cases c : i < l.length
  · rw [getD_set l i j x c]; split
    · exact hx
    · exact h j
  · rw [List.set_eq_of_length_le (by omega)]; exact h j
theorem Dg_zeros (n : Nat) : Dg (List.replicate n 0) := by
  intro i
  simp only [List.getD, List.getElem?_replicate]
  split <;> simp
theorem getD_zeros (n i : Nat) : (List.replicate n 0).getD i 0 = 0 := by
  simp only [List.getD, List.getElem?_replicate]
  split <;> rfl
theorem vL_zeros (n : Nat) : vL (List.replicate n 0) = 0 := vL_zero _ (getD_zeros n)
theorem vL_split (l m : List Nat) (k : Nat) (hl : l.length = m.length) (h : ∀ j, k ≤ j → l.getD j 0 = m.getD j 0) : vL l + vL (m.take k) = vL m + vL (l.take k) := by
  induction l generalizing m k with
  | nil =>
    have : m = [] := List.length_eq_zero_iff.1 hl.symm
    subst this; rfl
  | cons x r ih =>
    match m, hl with
    | y :: q, hl =>
      cases k with
      | zero =>
        have e : x :: r = y :: q := by
          refine List.ext_getElem hl ?_
          intro i h1 h2
          have := h i (by omega)
          simp only [List.getD, List.getElem?_eq_getElem h1, List.getElem?_eq_getElem h2, Option.getD_some] at this
          exact this
        rw [e]
      | succ k =>
        simp only [List.take_succ_cons, vL]
        have := ih q k (by simpa using hl) (fun j hj => h (j + 1) (by omega))
        omega
theorem vL_lt_top (l m : List Nat) (k : Nat) (hl : l.length = m.length) (hd : Dg l) (h : ∀ j, k + 1 ≤ j → l.getD j 0 = m.getD j 0) (hk : l.getD k 0 < m.getD k 0) : vL l < vL m := by
  have h1 := vL_split l m (k + 1) hl h
  rw [vL_take_succ', vL_take_succ'] at h1
  have h2 := vL_lt (l.take k) (Dg_take hd k)
  have h3 : 4294967296 ^ (l.take k).length ≤ 4294967296 ^ k := Nat.pow_le_pow_right (by omega) (by rw [List.length_take]; omega)
  have h4 : (l.getD k 0 + 1) * 4294967296 ^ k ≤ m.getD k 0 * 4294967296 ^ k := Nat.mul_le_mul_right _ (by omega)
  rw [Nat.add_mul] at h4
  generalize l.getD k 0 * 4294967296 ^ k = p at *
  generalize m.getD k 0 * 4294967296 ^ k = q at *
  omega
theorem vL_lt_len (l m : List Nat) (hd : Dg l) (hm : tn m = m.length) (h : l.length < m.length) : vL l < vL m := by
  have h1 := vL_lt l hd
  have h2 := vL_ge m hm (by intro e; subst e; simp at h)
  have h3 : 4294967296 ^ l.length ≤ 4294967296 ^ (m.length - 1) := Nat.pow_le_pow_right (by omega) (by omega)
  omega
theorem vL_eq (l m : List Nat) (hl : l.length = m.length) (h : ∀ j, l.getD j 0 = m.getD j 0) : vL l = vL m := by
  have := vL_split l m 0 hl (fun j _ => h j)
  simpa [vL] using this
/-- two numbers, compared -/
def cmpI (a b : Nat) : Int := if a < b then -1 else if a = b then 0 else 1
theorem cmpI_lt {a b : Nat} (h : a < b) : cmpI a b = -1 := if_pos h
theorem cmpI_gt {a b : Nat} (h : b < a) : cmpI a b = 1 := by unfold cmpI; rw [if_neg (by omega), if_neg (by omega)]
theorem cmpI_eq {a b : Nat} (h : a = b) : cmpI a b = 0 := by unfold cmpI; rw [if_neg (by omega), if_pos h]
theorem digit_step (t p : Nat) : t % 4294967296 * p + t / 4294967296 * (p * 4294967296) = t * p := by
  have h := Nat.div_add_mod t 4294967296
  have e : t / 4294967296 * (p * 4294967296) = 4294967296 * (t / 4294967296) * p := by
    rw [Nat.mul_comm p, ← Nat.mul_assoc, Nat.mul_comm (t / 4294967296)]
  rw [e, ← Nat.add_mul, Nat.add_comm, h]
theorem take_set_succ (o : List Nat) (k d : Nat) (hk : k < o.length) : vL ((o.set k d).take (k + 1)) = vL (o.take k) + d * 4294967296 ^ k := by
  rw [vL_take_succ', set_take_lt _ _ _ _ (Nat.le_refl _), getD_set _ _ _ _ hk, if_pos rfl]
theorem add_step (l m o : List Nat) (k c t : Nat) (hk : k < o.length) (h : vL (o.take k) + c * 4294967296 ^ k = vL (l.take k) + vL (m.take k)) (ht : t = l.getD k 0 + c + m.getD k 0) :
    vL ((o.set k (t % 4294967296)).take (k + 1)) + t / 4294967296 * 4294967296 ^ (k + 1) = vL (l.take (k + 1)) + vL (m.take (k + 1)) := by
  rw [take_set_succ _ _ _ hk, vL_take_succ', vL_take_succ', Nat.pow_succ]
  have := digit_step t (4294967296 ^ k)
  generalize 4294967296 ^ k = p at *
  have e : t * p = l.getD k 0 * p + c * p + m.getD k 0 * p := by rw [ht, Nat.add_mul, Nat.add_mul]
  omega
theorem sub_step (l m o : List Nat) (k c d c' : Nat) (hk : k < o.length) (h : vL (o.take k) + vL (m.take k) = vL (l.take k) + c * 4294967296 ^ k) (ht : d + m.getD k 0 + c = l.getD k 0 + c' * 4294967296) :
    vL ((o.set k d).take (k + 1)) + vL (m.take (k + 1)) = vL (l.take (k + 1)) + c' * 4294967296 ^ (k + 1) := by
  rw [take_set_succ _ _ _ hk, vL_take_succ', vL_take_succ', Nat.pow_succ]
  generalize 4294967296 ^ k = p at *
  have e : (d + m.getD k 0 + c) * p = (l.getD k 0 + c' * 4294967296) * p := by rw [ht]
  rw [Nat.add_mul, Nat.add_mul, Nat.add_mul, Nat.mul_assoc, Nat.mul_comm 4294967296] at e
  omega
theorem vL_set (o : List Nat) (p d : Nat) (hp : p < o.length) : vL (o.set p d) + o.getD p 0 * 4294967296 ^ p = vL o + d * 4294967296 ^ p := by
  induction o generalizing p with
  | nil => simp at hp
  | cons x r ih =>
    cases p with
    | zero => simp only [List.set_cons_zero, vL, Nat.pow_zero, Nat.mul_one]; show d + _ + x = _; omega
    | succ p =>
      have := ih p (by simpa using hp)
      simp only [List.set_cons_succ, vL, getD_cons_succ, Nat.pow_succ]
      rw [← Nat.mul_assoc, ← Nat.mul_assoc]
      generalize r.getD p 0 * 4294967296 ^ p = a at *
      generalize d * 4294967296 ^ p = b at *
      omega
theorem vL_set_take (o : List Nat) (p q d : Nat) (hp : p < o.length) (hq : p < q) : vL ((o.set p d).take q) + o.getD p 0 * 4294967296 ^ p = vL (o.take q) + d * 4294967296 ^ p := by
  rw [List.take_set]
  have := vL_set (o.take q) p d (by rw [List.length_take]; omega)
  rw [getD_take, if_pos hq] at this
  exact this
/-- a step of the inner loop of a product -/
theorem mul_step (o m : List Nat) (i j q x cr P t : Nat) (hp : i + j < o.length) (hq : i + j < q) (h : vL (o.take q) + cr * 4294967296 ^ (i + j) = P + x * vL (m.take j) * 4294967296 ^ i) (ht : t = x * m.getD j 0 + o.getD (i + j) 0 + cr) :
    vL ((o.set (i + j) (t % 4294967296)).take q) + t / 4294967296 * 4294967296 ^ (i + (j + 1)) = P + x * vL (m.take (j + 1)) * 4294967296 ^ i := by
  have h1 := vL_set_take o (i + j) q (t % 4294967296) hp hq
  have h2 := digit_step t (4294967296 ^ (i + j))
  rw [← Nat.add_assoc, Nat.pow_succ, vL_take_succ', Nat.mul_add, Nat.add_mul]
  have h3 : x * (m.getD j 0 * 4294967296 ^ j) * 4294967296 ^ i = x * m.getD j 0 * 4294967296 ^ (i + j) := by
    rw [Nat.pow_add, ← Nat.mul_assoc, Nat.mul_assoc, Nat.mul_comm (4294967296 ^ j)]
  rw [h3]
  have h4 : t * 4294967296 ^ (i + j) = x * m.getD j 0 * 4294967296 ^ (i + j) + o.getD (i + j) 0 * 4294967296 ^ (i + j) + cr * 4294967296 ^ (i + j) := by
    rw [ht, Nat.add_mul, Nat.add_mul]
  generalize t * 4294967296 ^ (i + j) = a1 at *
  generalize x * m.getD j 0 * 4294967296 ^ (i + j) = a2 at *
  generalize o.getD (i + j) 0 * 4294967296 ^ (i + j) = a3 at *
  generalize cr * 4294967296 ^ (i + j) = a4 at *
  generalize t % 4294967296 * 4294967296 ^ (i + j) = a5 at *
  generalize t / 4294967296 * (4294967296 ^ (i + j) * 4294967296) = a6 at *
  generalize x * vL (m.take j) * 4294967296 ^ i = a7 at *
  omega
theorem mul_outer (o l m : List Nat) (i n2 x cr : Nat) (ho : i + n2 < o.length) (hx : x = l.getD i 0) (h : vL (o.take (i + n2)) + cr * 4294967296 ^ (i + n2) = vL (l.take i) * vL m + x * vL m * 4294967296 ^ i) :
    vL ((o.set (i + n2) cr).take (i + 1 + n2)) = vL (l.take (i + 1)) * vL m := by
  rw [show i + 1 + n2 = (i + n2) + 1 by omega, take_set_succ _ _ _ ho, h, vL_take_succ', Nat.add_mul, ← hx]
  congr 1
  rw [Nat.mul_assoc, Nat.mul_comm (vL m), ← Nat.mul_assoc]
theorem mul_top (x y : Nat) (hx : x < 4294967296) (hy : y < 4294967296) : x * y ≤ 18446744065119617025 := by
  have : x * y ≤ 4294967295 * 4294967295 := Nat.mul_le_mul (by omega) (by omega)
  omega
/-- a word or-ed with one whose low bits are nought -/
theorem or_low (z t s : Nat) (hz : z < 2 ^ s) (ht : 2 ^ s ∣ t) : z ||| t = z + t := by
  obtain ⟨c, rfl⟩ := ht
  rw [Nat.or_comm, ← Nat.two_pow_add_eq_or_of_lt hz, Nat.add_comm]
theorem low_dvd (x s : Nat) (hs : s < 32) : 2 ^ s ∣ x * 2 ^ s % 4294967296 := by
  rw [show 4294967296 = 2 ^ (32 - s) * 2 ^ s by rw [← Nat.pow_add, show 32 - s + s = 32 by omega], Nat.mul_mod_mul_right]
  exact Nat.dvd_mul_left _ _
theorem high_lt (x s : Nat) (hx : x < 4294967296) (hs : s < 32) : x * 2 ^ s / 4294967296 < 2 ^ s := by
  refine (Nat.div_lt_iff_lt_mul (by omega)).2 ?_
  rw [Nat.mul_comm (2 ^ s)]
  exact Nat.mul_lt_mul_of_pos_right hx (Nat.two_pow_pos s)
theorem shl_lt (x s : Nat) (hx : x < 4294967296) (hs : s < 32) : x * 2 ^ s < 9223372036854775808 := by
  have h1 : 2 ^ s ≤ 2 ^ 31 := Nat.pow_le_pow_right (by omega) (by omega)
  have h2 : x * 2 ^ s ≤ 4294967295 * 2 ^ 31 := Nat.mul_le_mul (by omega) h1
  omega
theorem low_lt (x z s : Nat) (hz : z < 2 ^ s) (hs : s < 32) : z + x * 2 ^ s % 4294967296 < 4294967296 := by
  obtain ⟨c, hc⟩ := low_dvd x s hs
  have h1 : x * 2 ^ s % 4294967296 < 4294967296 := Nat.mod_lt _ (by omega)
  rw [hc] at h1 ⊢
  have h2 : 4294967296 = 2 ^ s * 2 ^ (32 - s) := by rw [← Nat.pow_add, show s + (32 - s) = 32 by omega]
  rw [h2] at h1 ⊢
  have h3 : c < 2 ^ (32 - s) := Nat.lt_of_mul_lt_mul_left h1
  have h4 : 2 ^ s * (c + 1) ≤ 2 ^ s * 2 ^ (32 - s) := Nat.mul_le_mul_left _ h3
  rw [Nat.mul_add] at h4
  omega
theorem up_step (l o : List Nat) (j k s x t : Nat) (ho : j + k + 1 < o.length) (hx : x = l.getD j 0) (ht : t = x * 2 ^ s) (h : vL (o.take (j + k + 1)) = vL (l.take j) * 2 ^ s * 4294967296 ^ k) :
    vL (((o.set (j + k) (o.getD (j + k) 0 + t % 4294967296)).set (j + k + 1) (t / 4294967296)).take (j + 1 + k + 1)) = vL (l.take (j + 1)) * 2 ^ s * 4294967296 ^ k := by
  rw [show j + 1 + k + 1 = (j + k + 1) + 1 by omega, take_set_succ _ _ _ (by rw [List.length_set]; exact ho)]
  have h1 := vL_set_take o (j + k) (j + k + 1) (o.getD (j + k) 0 + t % 4294967296) (by omega) (by omega)
  rw [Nat.add_mul] at h1
  have h2 := digit_step t (4294967296 ^ (j + k))
  rw [Nat.pow_succ, vL_take_succ' l j, ← hx, Nat.add_mul, Nat.add_mul, ← h]
  have h3 : x * 4294967296 ^ j * 2 ^ s * 4294967296 ^ k = t * 4294967296 ^ (j + k) := by
    rw [ht, Nat.pow_add, Nat.mul_assoc x, Nat.mul_comm (4294967296 ^ j), ← Nat.mul_assoc, Nat.mul_assoc (x * 2 ^ s)]
  rw [h3]
  generalize t * 4294967296 ^ (j + k) = a1 at *
  generalize t % 4294967296 * 4294967296 ^ (j + k) = a2 at *
  generalize t / 4294967296 * (4294967296 ^ (j + k) * 4294967296) = a3 at *
  generalize o.getD (j + k) 0 * 4294967296 ^ (j + k) = a4 at *
  omega
theorem vL_mod (r : List Nat) (h : Dg r) : vL r % 4294967296 = r.getD 0 0 := by
  cases r with
  | nil => rfl
  | cons x r => have h0 : x < 4294967296 := h 0; simp only [vL]; show _ = x; omega
theorem vL_drop (l : List Nat) (k : Nat) (h : Dg l) : vL (l.drop k) = vL l / 4294967296 ^ k := by
  induction k generalizing l with
  | zero => simp
  | succ k ih =>
    cases l with
    | nil => simp [vL]
    | cons x r =>
      have h0 : x < 4294967296 := h 0
      rw [List.drop_succ_cons, ih r (fun i => h (i + 1)), Nat.pow_succ, Nat.mul_comm (4294967296 ^ k), ← Nat.div_div_eq_div_mul]
      congr 1
      simp only [vL]; omega
theorem down_digit (x V s : Nat) (hx : x < 4294967296) (hs : s < 32) : (x + 4294967296 * V) / 2 ^ s = ((x + 4294967296 * (V % 4294967296)) / 2 ^ s) % 4294967296 + 4294967296 * (V / 2 ^ s) := by
  have hp := Nat.two_pow_pos s
  have hB : 4294967296 = 2 ^ s * 2 ^ (32 - s) := by rw [← Nat.pow_add, show s + (32 - s) = 32 by omega]
  have key : ∀ W, (x + 4294967296 * W) / 2 ^ s = x / 2 ^ s + 2 ^ (32 - s) * W := by
    intro W
    rw [show x + 4294967296 * W = x + 2 ^ s * (2 ^ (32 - s) * W) by rw [← Nat.mul_assoc, ← hB], Nat.add_mul_div_left _ _ hp]
  have sp : ∀ W, 2 ^ (32 - s) * W = 4294967296 * (W / 2 ^ s) + 2 ^ (32 - s) * (W % 2 ^ s) := by
    intro W
    have h := Nat.div_add_mod W (2 ^ s)
    have e : 4294967296 * (W / 2 ^ s) = 2 ^ (32 - s) * (2 ^ s * (W / 2 ^ s)) := by
      rw [← Nat.mul_assoc, Nat.mul_comm (2 ^ (32 - s)), ← hB]
    rw [e, ← Nat.mul_add, h]
  have hm : V % 4294967296 % 2 ^ s = V % 2 ^ s := Nat.mod_mod_of_dvd _ ⟨2 ^ (32 - s), hB⟩
  rw [key, key, sp V, sp (V % 4294967296), hm]
  have h1 : x / 2 ^ s < 2 ^ (32 - s) := by
    refine (Nat.div_lt_iff_lt_mul hp).2 ?_
    rw [Nat.mul_comm, ← hB]; exact hx
  have h2 : 2 ^ (32 - s) * (V % 2 ^ s + 1) ≤ 2 ^ (32 - s) * 2 ^ s := Nat.mul_le_mul_left _ (Nat.mod_lt _ hp)
  rw [Nat.mul_add, Nat.mul_comm _ (2 ^ s), ← hB] at h2
  generalize 2 ^ (32 - s) * (V % 2 ^ s) = a at *
  generalize 2 ^ (32 - s) = b at *
  generalize x / 2 ^ s = c at *
  generalize V / 2 ^ s = d at *
  generalize V % 4294967296 / 2 ^ s = f at *
  omega
theorem down_val (r o : List Nat) (s : Nat) (hs : s < 32) (hl : o.length = r.length) (hd : Dg r) (h : ∀ i, i < o.length → o.getD i 0 = (r.getD i 0 + 4294967296 * r.getD (i + 1) 0) / 2 ^ s % 4294967296) : vL o = vL r / 2 ^ s := by
  induction r generalizing o with
  | nil =>
    have : o = [] := List.length_eq_zero_iff.1 hl
    subst this; simp [vL]
  | cons x r ih =>
    match o, hl with
    | y :: q, hl =>
      have h0 : x < 4294967296 := hd 0
      have hdr : Dg r := fun i => hd (i + 1)
      have e0 := h 0 (by simp)
      have i1 := ih q (by simpa using hl) hdr (fun i hi => h (i + 1) (by simpa using hi))
      simp only [vL]
      rw [i1, down_digit x (vL r) s h0 hs, vL_mod r hdr]
      have : y = (x + 4294967296 * r.getD 0 0) / 2 ^ s % 4294967296 := e0
      rw [this]
theorem getD_drop (l : List Nat) (k i : Nat) : (l.drop k).getD i 0 = l.getD (k + i) 0 := by
  simp only [List.getD, List.getElem?_drop]
theorem Dg_drop {l : List Nat} (h : Dg l) (k : Nat) : Dg (l.drop k) := by
  intro i; rw [getD_drop]; exact h _
theorem vL_drop_succ (l : List Nat) (j : Nat) (h : j < l.length) : vL (l.drop j) = l.getD j 0 + 4294967296 * vL (l.drop (j + 1)) := by
  rw [List.drop_eq_getElem_cons h]
  simp only [vL]
  simp [List.getD, h]
theorem drop_set (o : List Nat) (j d : Nat) : (o.set j d).drop (j + 1) = o.drop (j + 1) := by
  rw [List.drop_set_of_lt (by omega)]
/-- a step of a division by one word -/
theorem divs_step (l o : List Nat) (j d r t : Nat) (hl : j < l.length) (ho : j < o.length) (hd : 0 < d) (ht : t = 4294967296 * r + l.getD j 0) (h : vL (l.drop (j + 1)) = vL (o.drop (j + 1)) * d + r) :
    vL (l.drop j) = vL ((o.set j (t / d)).drop j) * d + t % d := by
  rw [vL_drop_succ l j hl, vL_drop_succ (o.set j (t / d)) j (by rw [List.length_set]; exact ho), drop_set, getD_set _ _ _ _ ho, if_pos rfl, h]
  have h1 := Nat.div_add_mod t d
  rw [Nat.add_mul, Nat.mul_add, Nat.mul_comm (t / d), Nat.mul_assoc 4294967296]
  generalize vL (o.drop (j + 1)) * d = a at *
  generalize d * (t / d) = b at *
  omega
end Go.Proofs.Ytpfaaimfembhdaa.Bg
/-
  OWN TEXT: plain laws of the division of long numbers, one figure at a time.
-/
namespace Go.Proofs.Ytpfaaimfembhdaa.Bg

/-- the guess of a figure is not too small, as long as it is lowered only so -/
theorem guess_low (U V top v2 u2 num p g rest : Nat) (hV : (top * 4294967296 + v2) * p ≤ V) (hU : U < (num * 4294967296 + u2 + 1) * p) (hg : g * top + rest = num) (h : rest * 4294967296 + u2 < g * v2) : U < g * V := by
  have h1 : g * ((top * 4294967296 + v2) * p) ≤ g * V := Nat.mul_le_mul_left _ hV
  have h2 : (num * 4294967296 + u2 + 1) * p ≤ g * (top * 4294967296 + v2) * p := by
    refine Nat.mul_le_mul_right _ ?_
    rw [Nat.mul_add, ← Nat.mul_assoc, ← hg, Nat.add_mul]
    omega
  rw [Nat.mul_assoc] at h2
  omega
/-- nor more than one too great in the end -/
theorem guess_high (U V top v2 u2 num p g rest low : Nat) (hV : V = (top * 4294967296 + v2) * p + low) (hl : low < p) (hU : (num * 4294967296 + u2) * p ≤ U) (hg : g * top + rest = num) (hgb : g ≤ 4294967295) (ht : 1 ≤ top) (h : g * v2 ≤ rest * 4294967296 + u2) : g * V < U + V := by
  have h1 : g * (top * 4294967296 + v2) * p ≤ (num * 4294967296 + u2) * p := by
    refine Nat.mul_le_mul_right _ ?_
    rw [Nat.mul_add, ← Nat.mul_assoc, ← hg, Nat.add_mul]
    omega
  have h2 : g * V = g * (top * 4294967296 + v2) * p + g * low := by rw [hV, Nat.mul_add, Nat.mul_assoc]
  have h3 : g * low ≤ 4294967295 * low := Nat.mul_le_mul_right _ hgb
  have h4 : 4294967296 * p ≤ (top * 4294967296 + v2) * p := Nat.mul_le_mul_right _ (by omega)
  rw [h2]
  omega
/-- a step of the product that is taken off -/
theorem take_step (s s' m : List Nat) (i g c b c' b' d u : Nat) (hs : i < s'.length) (hu : u = s.getD i 0) (h : vL (s'.take i) + g * vL (m.take i) = vL (s.take i) + (c + b) * 4294967296 ^ i) (hd : d + (g * m.getD i 0 + c) % 4294967296 + b = u + b' * 4294967296) (hc : c' = (g * m.getD i 0 + c) / 4294967296) :
    vL ((s'.set i d).take (i + 1)) + g * vL (m.take (i + 1)) = vL (s.take (i + 1)) + (c' + b') * 4294967296 ^ (i + 1) := by
  rw [take_set_succ _ _ _ hs, vL_take_succ' m, vL_take_succ' s, ← hu, Nat.pow_succ, Nat.mul_add]
  have hm := Nat.div_add_mod (g * m.getD i 0 + c) 4294967296
  rw [← hc] at hm
  rw [show g * (m.getD i 0 * 4294967296 ^ i) = g * m.getD i 0 * 4294967296 ^ i from by rw [Nat.mul_assoc]]
  generalize hq : 4294967296 ^ i = p at *
  have e : (d + g * m.getD i 0 + c + b) * p = (u + (c' + b') * 4294967296) * p := by
    congr 1
    generalize g * m.getD i 0 = gm at *
    omega
  rw [Nat.add_mul, Nat.add_mul, Nat.add_mul, Nat.add_mul, Nat.mul_assoc (c' + b'), Nat.mul_comm 4294967296] at e
  rw [Nat.add_mul] at h
  generalize g * m.getD i 0 * p = a1 at *
  generalize (c' + b') * (p * 4294967296) = a2 at *
  omega
theorem getD_app (P s : List Nat) (j i : Nat) (h : P.length = j) : (P ++ s).getD (j + i) 0 = s.getD i 0 := by
  subst h
  simp only [List.getD, List.getElem?_append]
  rw [if_neg (by omega), show P.length + i - P.length = i by omega]
theorem set_app (P s : List Nat) (j i d : Nat) (h : P.length = j) : (P ++ s).set (j + i) d = P ++ s.set i d := by
  subst h
  rw [List.set_append_right _ _ (by omega), show P.length + i - P.length = i by omega]
theorem Dg_app {P s : List Nat} (h1 : Dg P) (h2 : Dg s) : Dg (P ++ s) := by
  intro i
  simp only [List.getD, List.getElem?_append]
  split
  · exact h1 i
  · exact h2 _
theorem vL_two (l : List Nat) (n : Nat) (hn : 2 ≤ n) : vL (l.take n) = vL (l.take (n - 2)) + (l.getD (n - 1) 0 * 4294967296 + l.getD (n - 2) 0) * 4294967296 ^ (n - 2) := by
  obtain ⟨k, rfl⟩ : ∃ k, n = k + 2 := ⟨n - 2, by omega⟩
  rw [show k + 2 - 2 = k by omega, show k + 2 - 1 = k + 1 by omega, vL_take_succ', vL_take_succ', Nat.pow_succ, Nat.add_mul, Nat.mul_assoc (l.getD (k + 1) 0), Nat.mul_comm 4294967296]
  omega
theorem vL_three (l : List Nat) (n : Nat) (hn : 2 ≤ n) : vL (l.take (n + 1)) = vL (l.take (n - 2)) + ((l.getD n 0 * 4294967296 + l.getD (n - 1) 0) * 4294967296 + l.getD (n - 2) 0) * 4294967296 ^ (n - 2) := by
  rw [vL_take_succ', vL_two l n hn]
  obtain ⟨k, rfl⟩ : ∃ k, n = k + 2 := ⟨n - 2, by omega⟩
  rw [show k + 2 - 2 = k by omega, show k + 2 - 1 = k + 1 by omega, Nat.pow_succ, Nat.pow_succ, Nat.add_mul, Nat.add_mul, Nat.add_mul, Nat.add_mul, Nat.mul_assoc (l.getD (k + 2) 0), Nat.mul_assoc (l.getD (k + 2) 0)]
  have e : 4294967296 ^ k * 4294967296 * 4294967296 = 4294967296 * 4294967296 * 4294967296 ^ k := by rw [Nat.mul_assoc, Nat.mul_comm]
  rw [e]
  omega
/-- the end where nothing was borrowed -/
theorem fig_plain (U V g a un c b p d R : Nat) (h : a + g * V = R + (c + b) * p) (hU : U = R + un * p) (hd : d + c + b = un) (hlow : U < (g + 1) * V) : a + d * p = U % V ∧ g = U / V := by
  have e : un * p = d * p + (c + b) * p := by rw [← hd, Nat.add_assoc, Nat.add_mul]
  have hX : a + d * p + g * V = U := by omega
  rw [Nat.add_mul] at hlow
  have hlt : a + d * p < V := by omega
  have hV : 0 < V := by omega
  constructor
  · rw [← hX, Nat.add_mul_mod_self_right, Nat.mod_eq_of_lt hlt]
  · rw [← hX, Nat.add_mul_div_right _ _ hV, Nat.div_eq_of_lt hlt, Nat.zero_add]
/-- the end where one was too many -/
theorem fig_back (U V g a un c b p d R c3 a3 : Nat) (h : a + g * V = R + (c + b) * p) (hU : U = R + un * p) (hd : d + c + b = un + 4294967296) (hlow : U < (g + 1) * V) (hhigh : g * V < U + V) (h3 : a3 + c3 * p = a + V) (ha3 : a3 < p) (hap : a < p) (hd2 : d < 4294967296) (hc3 : c3 ≤ 1) (hneg : un < c + b) (_hRp : R < p) :
    a3 + (d + c3) % 4294967296 * p = U % V ∧ g = U / V + 1 := by
  have e : d * p + (c + b) * p = un * p + 4294967296 * p := by rw [← Nat.add_mul, ← Nat.add_mul, ← Nat.add_assoc, hd]
  have e2 : (d + c3) * p = d * p + c3 * p := Nat.add_mul _ _ _
  have hX : a3 + (d + c3) * p + g * V = U + V + 4294967296 * p := by omega
  have hg : U < g * V := by
    have : un * p + p ≤ (c + b) * p := by
      have := Nat.mul_le_mul_right p (show un + 1 ≤ c + b from hneg)
      rw [Nat.add_mul, Nat.one_mul] at this; exact this
    omega
  have h4 : 4294967296 * p < a3 + (d + c3) * p + 1 := by omega
  have hdc : d + c3 = 4294967296 := by
    by_cases z : d + c3 = 4294967296
    · exact z
    · exfalso
      have : (d + c3 + 1) * p ≤ 4294967296 * p := Nat.mul_le_mul_right _ (by omega)
      rw [Nat.add_mul, Nat.one_mul] at this
      omega
  rw [hdc] at hX ⊢
  rw [show 4294967296 % 4294967296 = 0 from rfl, Nat.zero_mul, Nat.add_zero]
  obtain ⟨f, rfl⟩ : ∃ f, g = f + 1 := ⟨g - 1, by
    cases g with
    | zero => omega
    | succ f => omega⟩
  rw [Nat.add_mul, Nat.one_mul] at hX hg hhigh
  have hX2 : a3 + f * V = U := by omega
  have hlt : a3 < V := by omega
  constructor
  · rw [← hX2, Nat.add_mul_mod_self_right, Nat.mod_eq_of_lt hlt]
  · rw [← hX2, Nat.add_mul_div_right _ _ (by omega), Nat.div_eq_of_lt hlt, Nat.zero_add]
theorem take_drop_eq (s s' : List Nat) (i d : Nat) (h : ∀ t, i ≤ t → s'.getD t 0 = s.getD t 0) (hi : i < s'.length) : ∀ t, i + 1 ≤ t → (s'.set i d).getD t 0 = s.getD t 0 := by
  intro t ht
  rw [getD_set _ _ _ _ hi, if_neg (by omega)]
  exact h t (by omega)
/-- where the guess begins, in any base -/
theorem guess_base (U V top v2 un un1 u2 p low B : Nat) (hB : 0 < B) (hV : V = (top * B + v2) * p + low) (hlow : low < p) (hUg : ((un * B + un1) * B + u2) * p ≤ U) (hUl : U < ((un * B + un1) * B + u2 + 1) * p) (h : U < V * B) (ht : B ≤ 2 * top) (hv2 : v2 < B) (h1 : un1 < B) (h2 : u2 < B) :
    U < ((un * B + un1) / top + 1) * V ∧ (un * B + un1) / top ≤ B + 1 ∧ ((un * B + un1) / top = B + 1 → (un * B + un1) % top + top < B) ∧ (un * B + un1) / top * top + (un * B + un1) % top = un * B + un1 := by
  have hp : 0 < p := by omega
  have e1 : (top + 1) * B = top * B + B := by rw [Nat.add_mul, Nat.one_mul]
  have hun : un ≤ top := by
    by_cases c : un ≤ top
    · exact c
    · exfalso
      have b1 : (top + 1) * B ≤ un * B := Nat.mul_le_mul_right _ (by omega)
      have b2 : (top + 1) * B * B ≤ (un * B + un1) * B := Nat.mul_le_mul_right _ (by omega)
      have a1 : (top + 1) * B * B * p ≤ ((un * B + un1) * B + u2) * p := Nat.mul_le_mul_right _ (by omega)
      have a2 : (top * B + v2 + 1) * p ≤ ((top + 1) * B) * p := Nat.mul_le_mul_right _ (by omega)
      have a3 : V < (top * B + v2 + 1) * p := by rw [hV, Nat.add_mul (top * B + v2) 1, Nat.one_mul]; omega
      have a4 : (top + 1) * B * B * p = (top + 1) * B * p * B := by
        rw [Nat.mul_assoc _ B p, Nat.mul_comm B p, ← Nat.mul_assoc]
      have a5 : V * B ≤ (top + 1) * B * p * B := Nat.mul_le_mul_right _ (by omega)
      omega
  have hdm := Nat.div_add_mod (un * B + un1) top
  have hml := Nat.mod_lt (un * B + un1) (show 0 < top by omega)
  have hb3 : un * B ≤ top * B := Nat.mul_le_mul_right _ hun
  generalize hg : (un * B + un1) / top = g at *
  generalize hr : (un * B + un1) % top = r at *
  rw [Nat.mul_comm] at hdm
  have e2 : (B + 1) * top = top * B + top := by rw [Nat.add_mul, Nat.one_mul, Nat.mul_comm]
  have e3 : (B + 2) * top = top * B + 2 * top := by rw [Nat.add_mul, Nat.mul_comm B]
  have hgb : g ≤ B + 1 := by
    by_cases c : g ≤ B + 1
    · exact c
    · have : (B + 2) * top ≤ g * top := Nat.mul_le_mul_right _ (by omega)
      omega
  refine ⟨?_, hgb, ?_, hdm⟩
  · have a0 : (g + 1) * top = g * top + top := by rw [Nat.add_mul, Nat.one_mul]
    have a1 : (un * B + un1 + 1) ≤ (g + 1) * top := by omega
    have a2 : (un * B + un1 + 1) * (B * p) ≤ (g + 1) * top * (B * p) := Nat.mul_le_mul_right _ a1
    have a3 : top * (B * p) ≤ V := by
      rw [hV, ← Nat.mul_assoc]
      have : top * B * p ≤ (top * B + v2) * p := Nat.mul_le_mul_right _ (by omega)
      omega
    have a4 : (g + 1) * (top * (B * p)) ≤ (g + 1) * V := Nat.mul_le_mul_left _ a3
    have a6 : (un * B + un1 + 1) * B = (un * B + un1) * B + B := by rw [Nat.add_mul, Nat.one_mul]
    have a5 : ((un * B + un1) * B + u2 + 1) * p ≤ (un * B + un1 + 1) * B * p := Nat.mul_le_mul_right _ (by omega)
    rw [Nat.mul_assoc] at a5
    rw [← Nat.mul_assoc (g + 1)] at a4
    omega
  · intro e
    rw [e] at hdm
    omega
/-- where the guess begins -/
theorem guess_start (U V top v2 un un1 u2 p low : Nat) (hV : V = (top * 4294967296 + v2) * p + low) (hlow : low < p) (hUg : ((un * 4294967296 + un1) * 4294967296 + u2) * p ≤ U) (hUl : U < ((un * 4294967296 + un1) * 4294967296 + u2 + 1) * p) (h : U < V * 4294967296) (ht : 2147483648 ≤ top) (hv2 : v2 < 4294967296) (h1 : un1 < 4294967296) (h2 : u2 < 4294967296) :
    U < ((un * 4294967296 + un1) / top + 1) * V ∧ (un * 4294967296 + un1) / top ≤ 4294967296 + 1 ∧ ((un * 4294967296 + un1) / top = 4294967296 + 1 → (un * 4294967296 + un1) % top + top < 4294967296) ∧ (un * 4294967296 + un1) / top * top + (un * 4294967296 + un1) % top = un * 4294967296 + un1 :=
  guess_base U V top v2 un un1 u2 p low 4294967296 (by omega) hV hlow hUg hUl h (by omega) hv2 h1 h2
end Go.Proofs.Ytpfaaimfembhdaa.Bg
/-
  OWN TEXT: words in memory: what a slice of words holds, and that it still holds it behind a call that writes nothing that was there.
-/
namespace Go.Proofs.Ytpfaaimfembhdaa
open Go.ChangeShapes Go.WideShapes Go.ChangeAt Go.RowKit
open Bg

/-- nothing that was there has turned, and no new mark lies on anything -/
def Fr (w w' : World) : Prop := Below w.heap.size w w' ∧ ∀ a, w'.frozen? a = w.frozen? a
theorem Fr.refl (w : World) : Fr w w := ⟨Below.refl _ _, fun _ => rfl⟩
theorem Fr.trans {a b c : World} (h : Fr a b) (k : Fr b c) : Fr a c := ⟨h.1.trans (k.1.mono h.1.size), fun x => (k.2 x).trans (h.2 x)⟩
theorem Fr.drew {a b : World} (h : Fr a b) : Fr a b.drew := ⟨h.1.drew, h.2⟩
theorem Fr.alloc {a b : World} (h : Fr a b) (c : Array Value) (t : TypeId) : Fr a (b.alloc (.cells c t)) := ⟨h.1.alloc h.1.size _, fun x => (frozen?_alloc_cells _ _ _ x).trans (h.2 x)⟩
theorem Fr.setCell {a b : World} (h : Fr a b) {p : Addr} (hp : a.heap.size ≤ p.block) (v : Value) : Fr a (b.setCell p v) := ⟨h.1.setCell hp v, fun x => (World.frozen?_setCell _ _ _ _).trans (h.2 x)⟩
theorem Fr.grown {a b : World} (h : Fr a b) : Grown a b := ⟨h.1.frame _, h.2, h.1.size⟩

/-- the cells at a hold these words -/
def Hs (w : World) (a : Option Addr) (l : List Nat) : Prop := l = [] ∨ ∃ b o, a = some ⟨b, o, none⟩ ∧ b < w.heap.size ∧ ∀ i, i < l.length → w.cell? ⟨b, o + i, none⟩ = some (.int .u32 (l.getD i 0 : Nat))
theorem Hs.mono {w w' : World} {a : Option Addr} {l : List Nat} (h : Hs w a l) (f : Fr w w') : Hs w' a l := by
  rcases h with h | ⟨b, o, h1, h2, h3⟩
  · exact Or.inl h
  · exact Or.inr ⟨b, o, h1, Nat.lt_of_lt_of_le h2 f.1.size, fun i hi => (f.1.cell (p := ⟨b, o + i, none⟩) h2).trans (h3 i hi)⟩
theorem Hs.take {w : World} {a : Option Addr} {l : List Nat} (h : Hs w a l) (n : Nat) : Hs w a (l.take n) := by
  rcases h with h | ⟨b, o, h1, h2, h3⟩
  · left; rw [h]; simp
  · right
    refine ⟨b, o, h1, h2, fun i hi => ?_⟩
    rw [List.length_take] at hi
    rw [h3 i (by omega), getD_take, if_pos (by omega)]
/-- the value is a slice that holds the words of N, without noughts at the end -/
def Nm (w : World) (v : Value) (N : Nat) : Prop := ∃ a l cap, v = .slice a l.length cap ∧ l.length ≤ cap ∧ cap ≤ 1099511627776 ∧ Hs w a l ∧ Dg l ∧ vL l = N ∧ tn l = l.length
theorem Nm.mono {w w' : World} {v : Value} {N : Nat} (h : Nm w v N) (f : Fr w w') : Nm w' v N := by
  obtain ⟨a, l, cap, h1, h2, h3, h4, h5⟩ := h
  exact ⟨a, l, cap, h1, h2, h3, h4.mono f, h5⟩
theorem nm_trim {w : World} {a : Option Addr} {l : List Nat} {cap : Nat} (hh : Hs w a l) (hd : Dg l) (hc : l.length ≤ cap) (hm : cap ≤ 1099511627776) : Nm w (.slice a (tn l) cap) (vL l) := by
  have ht := tn_le l
  refine ⟨a, l.take (tn l), cap, by rw [length_trim], by rw [length_trim]; omega, hm, hh.take _, Dg_take hd _, vL_trim l, by rw [tn_trim, length_trim]⟩

theorem rv {a b : Value} (h : a = b) : Ending.returned a = .returned b := by rw [h]
set_option maxHeartbeats 1000000 in
theorem trim_any (a : Option Addr) (l : List Nat) (cap : Nat) (w : World) (hh : Hs w a l) (hc : l.length ≤ cap) (hm : cap ≤ 1099511627776) :
    Calls Try.prog 57 #[.slice a l.length cap] w fun e w' => e = .returned (.slice a (tn l) cap) ∧ w' = w := by
  rcases hh with rfl | ⟨b, o, rfl, hb, hcell⟩
  · cases a
    all_goals
      go_enter Try.func57, Try.ntmps57
      go_wp2
      refine wp_loop_rounds 1 ?_
      rw [rounds_succ]
      go_wp2
      go_ret
      exact ⟨rfl, rfl⟩
  · generalize hn : l.length = n at *
    go_enter Try.func57, Try.ntmps57
    go_wp2
    go_loop [3] (fun t => ∃ k : Nat, k ≤ n ∧ t = .int .i64 k ∧ ∀ i, k ≤ i → l.getD i 0 = 0) (fun t => (intOf t).toNat)
    case atStart => exact ⟨n, Nat.le_refl _, rfl, fun i hi => getD_out (by omega)⟩
    case round =>
      obtain ⟨k, hk, rfl, hz⟩ := hrel
      have HZ : Hid (∀ i, k ≤ i → l.getD i 0 = 0) := hz
      clear hz
      cases k with
      | zero =>
        have ht : Hid (tn l = 0) := (tn_unique l 0 HZ.out (Or.inl rfl)).symm
        go_wp2
        go_ret
        exact ⟨rv (by rw [ht.out]; rfl), rfl⟩
      | succ j =>
        have hj := hcell j (by omega)
        by_cases c : l.getD j 0 = 0
        · rw [c] at hj
          have HZ' : Hid (∀ i, j ≤ i → l.getD i 0 = 0) := by
            intro i hi
            by_cases e : i = j
            · rw [e]; exact c
            · exact HZ.out i (by omega)
          clear c hcell HZ
          go_wp2
          go_round
          case rel => exact ⟨j, by omega, by go_num, HZ'.out⟩
          case measure => simp [intOf]
        · have ht : Hid (tn l = j + 1) := (tn_unique l (j + 1) HZ.out (Or.inr c)).symm
          have c0 : ((l.getD j 0 : Int) == 0) = false := beq_eq_false_iff_ne.2 (by omega)
          generalize l.getD j 0 = x at *
          clear c hcell HZ
          go_wp2
          go_ret
          exact ⟨rv (by rw [ht.out]; rfl), rfl⟩
theorem trim_nm (a : Option Addr) (l : List Nat) (n cap : Nat) (w : World) (hh : Hs w a l) (hd : Dg l) (hn : l.length = n) (hc : n ≤ cap) (hm : cap ≤ 1099511627776) :
    Calls Try.prog 57 #[.slice a n cap] w fun e w' => ∃ v, e = .returned v ∧ Nm w v (vL l) ∧ w' = w := by
  subst hn
  refine (trim_any a l cap w hh hc hm).mono ?_
  rintro e w' ⟨rfl, rfl⟩
  exact ⟨_, rfl, nm_trim hh hd hc hm, rfl⟩
end Go.Proofs.Ytpfaaimfembhdaa
/-
  OWN TEXT: what fromUint, toUint, cmpWords and addWords of package eddybig return, for all words.
-/
namespace Go.Proofs.Ytpfaaimfembhdaa
open Go.ChangeShapes Go.WideShapes Go.ChangeAt Go.RowKit
open Bg
set_option linter.unusedVariables false

theorem hs_two {w : World} (x y : Nat) : Hs (w.alloc (.cells #[.int .u32 (x : Nat), .int .u32 (y : Nat)] 70)) (some ⟨w.heap.size, 0, none⟩) [x, y] := by
  right
  refine ⟨_, _, rfl, by simp, fun i hi => ?_⟩
  simp only [List.length_cons, List.length_nil] at hi
  match i, hi with
  | 0, _ => simp
  | 1, _ => simp
theorem fromUint_any (x : Nat) (w : World) (hx : x < 18446744073709551616) :
    Calls Try.prog 51 #[.int .u64 x] w fun e w' => ∃ v, e = .returned v ∧ Nm w' v x ∧ Fr w w' := by
  have h2 := hs_two (w := w) (x % 4294967296) (x / 4294967296)
  have hd : Dg [x % 4294967296, x / 4294967296] := by
    intro i
    match i with
    | 0 => show x % 4294967296 < _; omega
    | 1 => show x / 4294967296 < _; omega
    | n + 2 => show 0 < _; omega
  have hv : vL [x % 4294967296, x / 4294967296] = x := by simp only [vL]; omega
  go_enter Try.func51, Try.ntmps51
  go_wp2_with fail
  refine (trim_nm _ [x % 4294967296, x / 4294967296] 2 2 _ h2 hd rfl (by omega) (by omega)).mono ?_
  rintro e w1 ⟨v, rfl, hnm, rfl⟩
  rw [hv] at hnm
  have HN := hnm
  clear hv hd h2
  go_wp2
  go_ret
  exact ⟨v, rfl, HN, (Fr.refl _).alloc _ _⟩
theorem ri' {k : IntKind} {a b : Int} (h : a = b) : Ending.returned (.int k a) = .returned (.int k b) := by rw [h]
theorem or32 (x y : Nat) (hx : x < 4294967296) (hy : y < 4294967296) : bits BinOp.or IntKind.u64 ((y : Int) * 4294967296) (x : Int) = ((x + 4294967296 * y : Nat) : Int) := by
  have e := u64_or_nat (y * 4294967296) x (by omega) (by omega)
  rw [show ((y * 4294967296 : Nat) : Int) = (y : Int) * 4294967296 from by omega] at e
  rw [e]
  have h := (Nat.two_pow_add_eq_or_of_lt (i := 32) (b := x) (by omega) y)
  rw [show 2 ^ 32 * y = y * 4294967296 by omega] at h
  rw [← h]; omega
theorem or32' (x y : Nat) (hx : x < 4294967296) (hy : y < 4294967296) : bits BinOp.or IntKind.u64 (x : Int) ((y : Int) * 4294967296) = ((x + 4294967296 * y : Nat) : Int) := by
  rw [← or32 x y hx hy]; simp only [bits, BitVec.or_comm]
theorem toUint_any (v : Value) (N : Nat) (w : World) (h : Nm w v N) :
    Calls Try.prog 78 #[v] w fun e w' => e = .returned (.int .u64 ((N % 18446744073709551616 : Nat) : Int)) ∧ w' = w := by
  obtain ⟨a, l, cap, rfl, hc, hm, hh, hd, hv, ht⟩ := h
  have d0 := hd 0
  have d1 := hd 1
  have e2 : vL l % 18446744073709551616 = l.getD 0 0 + 4294967296 * l.getD 1 0 := by
    match l with
    | [] => rfl
    | [x] => simp only [vL, List.getD]; simp at d0 ⊢; omega
    | x :: y :: r => simp only [vL, List.getD]; simp at d0 d1 ⊢; omega
  rw [← hv, e2]
  rcases hh with rfl | ⟨b, o, rfl, hb, hcell⟩
  · cases a
    all_goals
      go_enter Try.func78, Try.ntmps78
      go_wp2
      go_ret
      exact ⟨rfl, rfl⟩
  · by_cases c0 : l.length = 0
    · have : l = [] := List.length_eq_zero_iff.1 c0
      subst this
      go_enter Try.func78, Try.ntmps78
      go_wp2
      go_ret
      exact ⟨rfl, rfl⟩
    · have h0 := hcell 0 (by omega)
      rw [Nat.add_zero] at h0
      by_cases c1 : l.length = 1
      · have z1 : l.getD 1 0 = 0 := getD_out (by omega)
        rw [z1]
        generalize l.getD 0 0 = x at *
        generalize l.length = n at *
        have hn : 0 < n := by omega
        have hn1 : ¬ 1 < n := by omega
        clear hcell c0 c1 hv e2 ht z1 hd
        go_enter Try.func78, Try.ntmps78
        go_wp2
        go_ret
        refine ⟨ri' ?_, rfl⟩
        have := or32 x 0 d0 (by omega)
        simpa using this
      · have h1 := hcell 1 (by omega)
        generalize l.getD 0 0 = x at *
        generalize l.getD 1 0 = y at *
        generalize l.length = n at *
        have hn1 : 1 < n := by omega
        clear hcell c0 c1 hv e2 ht hd
        go_enter Try.func78, Try.ntmps78
        go_wp2
        go_ret
        exact ⟨ri' (or32 x y d0 d1), rfl⟩
theorem quiet_fr {a b : World} (h : Fr a b) (n : Nat) : Fr a (b.drewN n) := ⟨h.1.trans ⟨rfl, rfl, rfl, Nat.le_refl _, fun _ _ => rfl⟩, h.2⟩
theorem hs_len {w : World} {a : Option Addr} {l : List Nat} (h : Hs w a l) (hl : l.length ≠ 0) : ∃ b o, a = some ⟨b, o, none⟩ ∧ b < w.heap.size ∧ ∀ i, i < l.length → w.cell? ⟨b, o + i, none⟩ = some (.int .u32 (l.getD i 0 : Nat)) := by
  rcases h with h | h
  · subst h; exact absurd rfl hl
  · exact h
set_option maxHeartbeats 2000000 in
theorem cmpWords_any (v u : Value) (N M : Nat) (w : World) (hv : Nm w v N) (hu : Nm w u M) :
    Calls Try.prog 36 #[v, u] w fun e w' => e = .returned (.int .i64 (cmpI N M)) ∧ Fr w w' := by
  obtain ⟨a, l, ca, rfl, hca, hma, hha, hda, rfl, hta⟩ := hv
  obtain ⟨c, m, cc, rfl, hcc, hmc, hhc, hdc, rfl, htc⟩ := hu
  by_cases c1 : l.length < m.length
  · have H : Hid (cmpI (vL l) (vL m) = -1) := cmpI_lt (vL_lt_len l m hda htc c1)
    generalize l.length = n at *
    generalize m.length = k at *
    have e1 : ((n : Int) != k) = true := by rw [bne_iff_ne]; omega
    clear hha hhc hta htc hda hdc
    go_enter Try.func36, Try.ntmps36
    go_wp2
    go_ret
    exact ⟨ri' H.out.symm, Fr.refl _⟩
  by_cases c2 : m.length < l.length
  · have H : Hid (cmpI (vL l) (vL m) = 1) := cmpI_gt (vL_lt_len m l hdc hta c2)
    generalize l.length = n at *
    generalize m.length = k at *
    have e1 : ((n : Int) != k) = true := by rw [bne_iff_ne]; omega
    have e2 : ¬ (n : Int) < k := by omega
    clear hha hhc hta htc hda hdc c1
    go_enter Try.func36, Try.ntmps36
    go_wp2
    go_ret
    exact ⟨ri' H.out.symm, Fr.refl _⟩
  have hl : l.length = m.length := by omega
  by_cases c0 : l.length = 0
  · have e1 : l = [] := List.length_eq_zero_iff.1 c0
    have e2 : m = [] := List.length_eq_zero_iff.1 (by omega)
    subst e1 e2
    go_enter Try.func36, Try.ntmps36
    go_wp2
    refine wp_loop_rounds 1 ?_
    rw [rounds_succ]
    go_wp2
    go_ret
    exact ⟨rfl, Fr.refl _⟩
  obtain ⟨b, o, rfl, hb, hcell⟩ := hs_len hha c0
  obtain ⟨b2, o2, rfl, hb2, hcell2⟩ := hs_len hhc (by omega)
  rw [← hl] at hcell2 hcc ⊢
  have HL : Hid (l.length = m.length) := hl
  clear hha hhc hta htc hl c1 c2
  generalize hn : l.length = n at *
  have HNL : Hid (l.length = n) := hn
  clear hn
  go_enter Try.func36, Try.ntmps36
  go_wp2
  go_loopw [5] (fun i wr => ∃ k : Nat, k ≤ n ∧ i = .int .i64 ((k : Int) - 1) ∧ (∀ j, k ≤ j → l.getD j 0 = m.getD j 0) ∧ Fr w wr) (fun i _ => (intOf i + 1).toNat)
  case atStart => exact ⟨n, Nat.le_refl _, rfl, fun j hj => by rw [getD_out (by have := HNL.out; omega), getD_out (by have := HNL.out; have := HL.out; omega)], Fr.refl _⟩
  case round =>
    obtain ⟨k, hk, rfl, hz, hf⟩ := hrel
    have HZ : Hid (∀ j, k ≤ j → l.getD j 0 = m.getD j 0) := hz
    clear hz
    cases k with
    | zero =>
      have H : Hid (cmpI (vL l) (vL m) = 0) := cmpI_eq (vL_eq l m (HNL.out.trans HL.out) (fun j => HZ.out j (by omega)))
      go_wp2
      go_ret
      exact ⟨ri' H.out.symm, hf⟩
    | succ j =>
      have h1 : wr.cell? ⟨b, o + j, none⟩ = some (.int .u32 (l.getD j 0 : Nat)) := (hf.1.cell (p := ⟨b, o + j, none⟩) hb).trans (hcell j (by omega))
      have h2 : wr.cell? ⟨b2, o2 + j, none⟩ = some (.int .u32 (m.getD j 0 : Nat)) := (hf.1.cell (p := ⟨b2, o2 + j, none⟩) hb2).trans (hcell2 j (by omega))
      have HX : Hid (l.getD j 0 < m.getD j 0 → cmpI (vL l) (vL m) = -1) := fun h => cmpI_lt (vL_lt_top l m j (HNL.out.trans HL.out) hda HZ.out h)
      have HY : Hid (m.getD j 0 < l.getD j 0 → cmpI (vL l) (vL m) = 1) := fun h => cmpI_gt (vL_lt_top m l j (HNL.out.trans HL.out).symm hdc (fun i hi => (HZ.out i hi).symm) h)
      have HE : Hid (l.getD j 0 = m.getD j 0 → ∀ i, j ≤ i → l.getD i 0 = m.getD i 0) := by
        intro h i hi
        by_cases e : i = j
        · rw [e]; exact h
        · exact HZ.out i (by omega)
      generalize l.getD j 0 = x at *
      generalize m.getD j 0 = y at *
      clear hcell hcell2 HZ
      rw [show (((j + 1 : Nat) : Int) - 1) = (j : Int) by omega]
      have hjn : (j : Int) < n := by omega
      by_cases t1 : x < y
      · have t1' : (x : Int) < y := by omega
        go_wp2
        go_quiet (fail)
        go_wp2
        go_ret
        exact ⟨ri' (HX.out t1).symm, quiet_fr hf _⟩
      · have t1' : ¬ (x : Int) < y := by omega
        by_cases t2 : y < x
        · have t2' : (y : Int) < x := by omega
          go_wp2
          go_quiet (fail)
          go_wp2
          go_quiet (fail)
          go_wp2
          go_ret
          exact ⟨ri' (HY.out t2).symm, quiet_fr (quiet_fr hf _) _⟩
        · have t2' : ¬ (y : Int) < x := by omega
          have HE' : Hid (∀ i, j ≤ i → l.getD i 0 = m.getD i 0) := HE.out (by omega)
          go_wp2
          go_quiet (fail)
          go_wp2
          go_quiet (fail)
          go_wp2
          go_roundw
          case rel => exact ⟨j, by omega, by go_num, HE'.out, quiet_fr hf _⟩
          case measure => simp [intOf]
end Go.Proofs.Ytpfaaimfembhdaa
