/-
  OWN TEXT: rounding keeps the order; a float made whole, as an integer.
-/
import Derived.Test.YtmbjgakehghdjaaJap
import Derived.Test.YtmbjgakehghdjaaJad
namespace Go.Proofs.Ytmbjgakehghdjaa.Fl
set_option linter.unusedVariables false
theorem whF_num {x : Nat} (c : Nat) (hc : c = 1074) (hf : rg x < 9218868437227405312) : whF x = wd (sg x) (rq (rne (vl (rg x)) c * 2 ^ c) 0) := by
  obtain ⟨m, k, hm, em⟩ := read_fin hf
  unfold whF
  rw [hm]
  unfold Ieee.Datum.integral
  simp only []
  rw [cut_even]
  have e : rne (m <<< (-1074 + (k : Int)).toNat) (-(-1074 + (k : Int))).toNat = rne (vl (rg x)) c := by
    rw [← em, Nat.shiftLeft_eq]
    by_cases h : 1074 ≤ k
    · obtain ⟨j, rfl⟩ : ∃ j, k = j + c := ⟨k - c, by omega⟩
      rw [show (-1074 + ((j + c : Nat) : Int)).toNat = j by omega, show (-(-1074 + ((j + c : Nat) : Int))).toNat = 0 by omega, rne_zero, Nat.pow_add, ← Nat.mul_assoc, rne_exact]
    · rw [show (-1074 + (k : Int)).toNat = 0 by omega, Nat.pow_zero, Nat.mul_one]
      have := rne_mul m (c - k) k
      rw [show c - k + k = c by omega] at this
      rw [this]
      congr 1
      omega
  rw [e]
  have h := nearest_eq (sg x) (rne (vl (rg x)) c) c 0
  rw [show -1074 + (c : Int) - ((0 : Nat) : Int) = 0 by omega] at h
  exact h
theorem cut_nought (neg : Bool) (n s : Nat) : Ieee.Toward.zero.cut neg n s = n / 2 ^ s := by
  unfold Ieee.Toward.cut
  simp only [Bool.toNat_false, Nat.add_zero, Nat.shiftLeft_eq, Nat.one_mul]
  by_cases h : s ≤ n.log2 + 2
  · rw [Nat.min_eq_left h]
  · rw [Nat.min_eq_right (by omega)]
    have h1 : n < 2 ^ (n.log2 + 2) := by
      by_cases z : n = 0
      · rw [z]; exact Nat.two_pow_pos _
      · exact Nat.lt_trans (log2_lt n z) (Nat.pow_lt_pow_right (by omega) (by omega))
    rw [Nat.div_eq_of_lt h1, Nat.div_eq_of_lt (Nat.lt_trans h1 (Nat.pow_lt_pow_right (by omega) (by omega)))]
theorem rne_mono (n n' s : Nat) (h : n ≤ n') : rne n s ≤ rne n' s := by
  have hp := Nat.two_pow_pos s
  have d1 := Nat.div_add_mod n (2 ^ s)
  have d2 := Nat.div_add_mod n' (2 ^ s)
  have m1 := Nat.mod_lt n hp
  have m2 := Nat.mod_lt n' hp
  have hq : n / 2 ^ s ≤ n' / 2 ^ s := Nat.div_le_div_right h
  unfold rne
  rcases Nat.lt_or_ge (n / 2 ^ s) (n' / 2 ^ s) with c | c
  · split <;> split <;> omega
  · have e : n / 2 ^ s = n' / 2 ^ s := by omega
    rw [e] at d1 ⊢
    have hm : n % 2 ^ s ≤ n' % 2 ^ s := by omega
    split <;> split <;> omega
theorem log2_mono {n n' : Nat} (h0 : n ≠ 0) (h : n ≤ n') : n.log2 ≤ n'.log2 := (Nat.le_log2 (by omega)).2 (Nat.le_trans (log2_le n h0) h)
theorem rq_mono (n n' d : Nat) (h : n ≤ n') : rq n d ≤ rq n' d := by
  by_cases h0 : n = 0
  · unfold rq; rw [if_pos h0]; exact Nat.zero_le _
  · have h0' : n' ≠ 0 := by omega
    have hl := log2_mono h0 h
    unfold rq
    rw [if_neg h0, if_neg h0']
    by_cases c : n.log2 - (52 + d) = n'.log2 - (52 + d)
    · rw [c]
      have := rne_mono n n' (n'.log2 - (52 + d) + d) h
      omega
    · have a1 : rne n (n.log2 - (52 + d) + d) ≤ 9007199254740992 := by
        refine rne_le _ _ _ ?_
        have := log2_lt n h0
        rw [show (9007199254740992 : Nat) = 2 ^ 53 by decide, ← Nat.pow_add]
        exact Nat.le_of_lt (Nat.lt_of_lt_of_le this (Nat.pow_le_pow_right (by decide) (by omega)))
      have a2 : 4503599627370496 ≤ rne n' (n'.log2 - (52 + d) + d) := by
        refine le_rne _ _ _ ?_
        have := log2_le n' h0'
        rw [show (4503599627370496 : Nat) = 2 ^ 52 by decide, ← Nat.pow_add]
        exact Nat.le_trans (Nat.pow_le_pow_right (by decide) (by omega)) this
      omega
theorem toInt_any {x : Nat} (c : Nat) (hc : c = 1074) (hf : rg x < 9218868437227405312) : (Ieee.double.read x).toInt .zero = some (if sg x then -((vl (rg x) / 2 ^ c : Nat) : Int) else ((vl (rg x) / 2 ^ c : Nat) : Int)) := by
  obtain ⟨m, k, hm, em⟩ := read_fin hf
  unfold Ieee.Datum.toInt
  rw [hm]
  unfold Ieee.Datum.integral
  simp only []
  rw [cut_nought]
  have e : m <<< (-1074 + (k : Int)).toNat / 2 ^ (-(-1074 + (k : Int))).toNat = vl (rg x) / 2 ^ c := by
    rw [← em, Nat.shiftLeft_eq]
    by_cases h : 1074 ≤ k
    · obtain ⟨j, rfl⟩ : ∃ j, k = j + c := ⟨k - c, by omega⟩
      rw [show (-1074 + ((j + c : Nat) : Int)).toNat = j by omega, show (-(-1074 + ((j + c : Nat) : Int))).toNat = 0 by omega, Nat.pow_add, ← Nat.mul_assoc, Nat.mul_div_cancel _ (Nat.two_pow_pos c), Nat.pow_zero, Nat.div_one]
    · rw [show (-1074 + (k : Int)).toNat = 0 by omega, Nat.pow_zero, Nat.mul_one, show (-(-1074 + (k : Int))).toNat = c - k by omega]
      have e2 : 2 ^ c = 2 ^ (c - k) * 2 ^ k := by rw [← Nat.pow_add, show c - k + k = c by omega]
      rw [e2, Nat.mul_div_mul_right _ _ (Nat.two_pow_pos k)]
  rw [e]
  unfold Ieee.signed
  cases sg x
  · rw [if_neg (by decide), Nat.shiftLeft_zero, if_neg (by decide)]
  · rw [if_pos rfl, Nat.shiftLeft_zero, if_pos rfl]
/-- a float of few bits, made whole, is an integer of few bits -/
theorem whole_int {p : Nat} (c : Nat) (hc : c = 1074) (hf : rg p < 9218868437227405312) (hv : vl (rg p) ≤ 4194304 * 2 ^ c) :
    ∃ k : Nat, k ≤ 4194304 ∧ whF p = wd (sg p) (rq (k * 2 ^ c) 0) ∧ vl (rq (k * 2 ^ c) 0) = k * 2 ^ c ∧ floatToIntVal .f64 (whF p) .i64 = some (if sg p then -(k : Int) else k) := by
  have hk : rne (vl (rg p)) c ≤ 4194304 := rne_le _ _ _ hv
  have hw := whF_num c hc hf
  generalize rne (vl (rg p)) c = k at *
  have hl : (k * 2 ^ c).log2 < 2098 := by
    by_cases z : k = 0
    · rw [z, Nat.zero_mul]; exact (by decide : Nat.log2 0 < 2098)
    · rw [log2_mul _ _ z]
      have : k.log2 < 23 := (Nat.log2_lt z).2 (Nat.lt_of_le_of_lt hk (by decide))
      omega
  obtain ⟨v1, v2⟩ := rq_rep (k * 2 ^ c) ⟨k, c, rfl, by omega⟩ hl
  refine ⟨k, hk, hw, v1, ?_⟩
  rw [hw]
  generalize hR : rq (k * 2 ^ c) 0 = R at *
  have hg := rg_wd (sg p) R (by omega)
  have hs := sg_wd (sg p) R (by omega)
  have ht := toInt_any (x := wd (sg p) R) c hc (by rw [hg]; exact v2)
  rw [hg, hs, v1, Nat.mul_div_cancel _ (Nat.two_pow_pos c)] at ht
  unfold floatToIntVal
  show (match (Ieee.double.read (wd (sg p) R)).toInt .zero with | some n => if IntKind.i64.min ≤ n ∧ n ≤ IntKind.i64.max then some n else none | none => none) = _
  rw [ht]
  have h1 : IntKind.i64.min = -9223372036854775808 := rfl
  have h2 : IntKind.i64.max = 9223372036854775807 := rfl
  simp only []
  rw [h1, h2, if_pos (by split <;> omega)]
end Go.Proofs.Ytmbjgakehghdjaa.Fl
namespace Go.Proofs.Ytmbjgakehghdjaa
open Go.ChangeShapes Go.WideShapes Go.ChangeAt Go.RowKit
set_option linter.unusedVariables false
/-- n is p made whole -/
def whR (p n : Nat) : Prop := n < 18446744073709551616 ∧ (if Fl.nan p = true then Fl.nan n = true else n = Fl.whF p)
theorem whR.sim {p p' n n' : Nat} (h : whR p n) (k : whR p' n') (e : simR p p') : simR n n' := by
  obtain ⟨_, h⟩ := h
  obtain ⟨_, k⟩ := k
  rcases e with rfl | ⟨e1, e2⟩
  · by_cases c : Fl.nan p = true
    · rw [if_pos c] at h k; exact Or.inr ⟨h, k⟩
    · rw [if_neg c] at h k; exact Or.inl (h.trans k.symm)
  · rw [if_pos e1] at h
    rw [if_pos e2] at k
    exact Or.inr ⟨h, k⟩
/-- n is how often the logarithm of 2 goes into x -/
def foldR (x n : Nat) : Prop := ∃ p, opR .mul x 4609176140021203710 p ∧ whR p n
theorem foldR.sim {x x' n n' : Nat} (h : foldR x n) (k : foldR x' n') (e : simR x x') : simR n n' := by
  obtain ⟨p, h1, h2⟩ := h
  obtain ⟨p', k1, k2⟩ := k
  exact h2.sim k2 (h1.sim (Or.inr (Or.inr (Or.inl rfl))) k1 e (simR.refl _))
/-- in the middle it is an integer of few bits -/
theorem fold_int {x n : Nat} (hr : Fl.rg x ≤ 4652218415073722368) (h : foldR x n) : Fl.nan n = false ∧ ∃ q : Int, -4194304 ≤ q ∧ q ≤ 4194304 ∧ floatToIntVal .f64 n .i64 = some q := by
  obtain ⟨p, h1, h2⟩ := h
  have hm := Fl.mul_fin (x := x) (y := 4609176140021203710) (by omega) (by decide)
  have e1 : p = Fl.wd (Fl.sg x ^^ Fl.sg 4609176140021203710) (Fl.rq (Fl.vl (Fl.rg x) * Fl.vl (Fl.rg 4609176140021203710)) 1074) := by
    rcases h1.2 with k | k
    · exact (Option.some.inj (hm.symm.trans k)).symm
    · exact absurd (hm.symm.trans k.1) (by intro c; cases c)
  have hle : Fl.rq (Fl.vl (Fl.rg x) * Fl.vl (Fl.rg 4609176140021203710)) 1074 ≤ 4661225614328463360 := by
    have a := Fl.rq_mono (Fl.vl (Fl.rg x) * Fl.vl (Fl.rg 4609176140021203710)) (Fl.vl 4652218415073722368 * Fl.vl 4609176140021203710) 1074
      (Nat.mul_le_mul (by rcases Nat.lt_or_ge (Fl.rg x) 4652218415073722368 with c | c; exact Nat.le_of_lt (Fl.vl_mono c); rw [show Fl.rg x = 4652218415073722368 by omega]; exact Nat.le_refl _) (Nat.le_refl _))
    exact Nat.le_trans a (by decide +kernel)
  have hg : Fl.rg p = Fl.rq (Fl.vl (Fl.rg x) * Fl.vl (Fl.rg 4609176140021203710)) 1074 := by rw [e1]; exact Fl.rg_wd _ _ (by omega)
  have np : Fl.nan p = false := by unfold Fl.nan; exact decide_eq_false (by omega)
  obtain ⟨n1, n2⟩ := h2
  rw [if_neg (by rw [np]; decide)] at n2
  obtain ⟨c, hc⟩ : ∃ c, c = 1074 := ⟨_, rfl⟩
  have hv : Fl.vl (Fl.rg p) ≤ 4194304 * 2 ^ c := by
    have a : Fl.vl (Fl.rg p) ≤ Fl.vl 4661225614328463360 := by
      rcases Nat.lt_or_ge (Fl.rg p) 4661225614328463360 with c | c
      · exact Nat.le_of_lt (Fl.vl_mono c)
      · rw [show Fl.rg p = 4661225614328463360 by omega]; exact Nat.le_refl _
    refine Nat.le_trans a ?_
    rw [hc]
    decide +kernel
  obtain ⟨k, hk, hw, _, ht⟩ := Fl.whole_int c hc (by omega) hv
  subst n2
  refine ⟨?_, _, ?_, ?_, ht⟩
  · rw [hw]; exact Fl.nan_wd _ _ (Fl.rq_le _ _)
  · split <;> omega
  · split <;> omega
end Go.Proofs.Ytmbjgakehghdjaa
/-
  OWN TEXT: plain laws on a float's last unit: the neighbour away from nought, the unit between them, its half; a sum's loss is at most that half.
-/
set_option linter.unusedVariables false
namespace Go.Proofs.Ytmbjgakehghdjaa.Fl
/-- the rung of 2 to the power of k units -/
def r2 (k : Nat) : Nat := if k ≤ 52 then 2 ^ k else (k - 51) * 4503599627370496
set_option maxRecDepth 100000 in
theorem r2_all : ∀ k : Fin 2046, vl (r2 k.val) = 2 ^ k.val ∧ r2 k.val < 9218868437227405312 ∧ Ieee.double.div (r2 k.val) 4611686018427387904 = some (if k.val = 0 then 0 else r2 (k.val - 1)) := by decide +kernel
theorem vl_le_iff {r s : Nat} : vl r ≤ vl s ↔ r ≤ s := by
  constructor
  · intro h
    rcases Nat.lt_or_ge s r with c | c
    · have := vl_mono c; omega
    · exact c
  · intro h
    rcases Nat.lt_or_ge r s with c | c
    · exact Nat.le_of_lt (vl_mono c)
    · have : r = s := by omega
      rw [this]; exact Nat.le_refl _
/-- a rung in parts -/
theorem rung_parts (r : Nat) (h : r < 9218868437227405312) : ∃ k M, r = k * 4503599627370496 + M ∧ M < 9007199254740992 ∧ (k = 0 ∨ 4503599627370496 ≤ M) ∧ k ≤ 2045 := by
  by_cases c : r < 4503599627370496
  · exact ⟨0, r, by omega, by omega, Or.inl rfl, by omega⟩
  · exact ⟨r / 4503599627370496 - 1, r - (r / 4503599627370496 - 1) * 4503599627370496, by omega, by omega, Or.inr (by omega), by omega⟩
theorem rq_form (n : Nat) (h : n ≠ 0) (hf : rq n 0 < 9218868437227405312) : rq n 0 = (n.log2 - 52) * 4503599627370496 + rne n (n.log2 - 52) := by
  unfold rq at hf ⊢; rw [if_neg h] at hf ⊢; simp only [Nat.add_zero] at hf ⊢; omega
theorem le_form (r k M j N : Nat) (e : r = k * 4503599627370496 + M) (hM : M < 9007199254740992) (hk : k = 0 ∨ 4503599627370496 ≤ M) (e' : r = j * 4503599627370496 + N) (hj : j = 0 ∨ 4503599627370496 ≤ N) (hN : N ≤ 9007199254740992) : j ≤ k := by
  omega
/-- from a rung to the next one it is a power of two -/
theorem gap (r : Nat) (h : r < 9218868437227405312) : ∃ k, k ≤ 2045 ∧ vl (r + 1) = vl r + 2 ^ k ∧ ∀ n, n ≠ 0 → rq n 0 = r → 2 * n ≤ 2 * vl r + 2 ^ k ∧ 2 * vl r ≤ 2 * n + 2 ^ k := by
  obtain ⟨k, M, e, hM, hk, hk2⟩ := rung_parts r h
  have e1 : vl r = M * 2 ^ k := by rw [e]; exact vl_comb k M (by omega) hk
  have e2 : vl (r + 1) = (M + 1) * 2 ^ k := by
    rw [e, Nat.add_assoc]; exact vl_comb k (M + 1) (by omega) (by omega)
  refine ⟨k, hk2, by rw [e1, e2, Nat.add_mul, Nat.one_mul], ?_⟩
  intro n hn hr
  have hv := vl_rq n hn (by omega)
  rw [hr] at hv
  have hb := rne_bounds n (n.log2 - 52)
  rw [← hv] at hb
  have hq := rq_form n hn (by omega)
  rw [hr] at hq
  obtain ⟨f1, f2⟩ := rq_fit n hn
  have hle : n.log2 - 52 ≤ k := le_form r k M (n.log2 - 52) (rne n (n.log2 - 52)) e hM hk hq f1 f2
  have hp : 2 ^ (n.log2 - 52) ≤ 2 ^ k := Nat.pow_le_pow_right (by omega) hle
  omega
theorem vl_two : vl 4611686018427387904 = 2 ^ (1 + 1074) := by decide +kernel
/-- twice -/
theorem mul_two {x : Nat} (hx : rg x < 9218868437227405312) : Ieee.double.mul 4611686018427387904 x = some (wd (sg x) (rq (vl (rg x) * 2) 0)) := by
  have r1 : rg 4611686018427387904 = 4611686018427387904 := by decide
  have s1 : sg 4611686018427387904 = false := by decide
  have e := mul_fin (x := 4611686018427387904) (y := x) (by rw [r1]; decide) hx
  rw [r1, s1, Bool.false_xor, Nat.mul_comm, rq_by' 4611686018427387904 _ 1074 1 1074 vl_two rfl] at e
  exact e
theorem two_up (r : Nat) (h : r < 9218868437227405312) (hz : r ≠ 0) : r < rq (vl r * 2) 0 := by
  have hv := vl_pos hz
  by_cases c : (vl r * 2).log2 < 2098
  · obtain ⟨M, k, e, hM, _⟩ := rep_vl r h
    obtain ⟨h1, h2⟩ := rq_rep (vl r * 2) ⟨M, k + 1, by rw [e, Nat.pow_succ, Nat.mul_assoc], by omega⟩ c
    rcases Nat.lt_or_ge r (rq (vl r * 2) 0) with d | d
    · exact d
    · have := (vl_le_iff (r := rq (vl r * 2) 0) (s := r)).2 d
      omega
  · rw [rq_far (vl r * 2) 0 (by omega) (by omega)]; exact h
end Go.Proofs.Ytmbjgakehghdjaa.Fl
/-
  OWN TEXT: plain laws on floats: square roots, rounded: where they lie; the root of a square, rounded, is the number.
-/
set_option linter.unusedVariables false
namespace Go.Proofs.Ytmbjgakehghdjaa.Fl
theorem root_spec (n : Nat) : ∀ (todo root : Nat), root * root ≤ n → n < (root + 2 ^ todo) * (root + 2 ^ todo) →
    Ieee.Datum.rootFrom n todo root * Ieee.Datum.rootFrom n todo root ≤ n ∧ n < (Ieee.Datum.rootFrom n todo root + 1) * (Ieee.Datum.rootFrom n todo root + 1)
  | 0, root, h1, h2 => ⟨h1, by rw [Nat.pow_zero] at h2; exact h2⟩
  | todo + 1, root, h1, h2 => by
    have e : 1 <<< todo = 2 ^ todo := by rw [Nat.shiftLeft_eq, Nat.one_mul]
    unfold Ieee.Datum.rootFrom
    simp only [e]
    by_cases c : (root + 2 ^ todo) * (root + 2 ^ todo) ≤ n
    · rw [if_pos c]
      refine root_spec n todo _ c ?_
      rw [Nat.pow_succ] at h2
      rw [show root + 2 ^ todo + 2 ^ todo = root + 2 ^ todo * 2 by omega]
      exact h2
    · rw [if_neg c]
      exact root_spec n todo root h1 (by omega)
theorem root_all (n : Nat) (h : n ≠ 0) : Ieee.Datum.rootFrom n (n.log2 / 2 + 1) 0 * Ieee.Datum.rootFrom n (n.log2 / 2 + 1) 0 ≤ n ∧ n < (Ieee.Datum.rootFrom n (n.log2 / 2 + 1) 0 + 1) * (Ieee.Datum.rootFrom n (n.log2 / 2 + 1) 0 + 1) := by
  refine root_spec n _ 0 (by omega) ?_
  rw [Nat.zero_add, ← Nat.pow_add]
  exact Nat.lt_of_lt_of_le (log2_lt n h) (Nat.pow_le_pow_right (by omega) (by omega))
/-- the root of a number above nought: W and a half, or W, of its last place, W at most the true root, and the next place above it -/
theorem sqrt_fin {x : Nat} (c : Nat) (hc : c = 1074) (hx : rg x < 9218868437227405312) (hs : sg x = false) (hz : ¬ rg x = 0) :
    ∃ w st q : Nat, Ieee.double.sqrt x = some (wd false (rq ((2 * w + st) * 2 ^ q) 0)) ∧ 18014398509481984 ≤ w ∧
      (w * 2 ^ (q + 1)) * (w * 2 ^ (q + 1)) ≤ vl (rg x) * 2 ^ c ∧ vl (rg x) * 2 ^ c < ((w + 1) * 2 ^ (q + 1)) * ((w + 1) * 2 ^ (q + 1)) ∧
      st ≤ 1 ∧ ((w * 2 ^ (q + 1)) * (w * 2 ^ (q + 1)) < vl (rg x) * 2 ^ c → st = 1) := by
  obtain ⟨m, k, hm, em⟩ := read_fin hx
  have hm0 : m ≠ 0 := by
    intro e
    rw [e, Nat.zero_mul] at em
    exact vl_pos hz em.symm
  unfold Ieee.Format.sqrt
  rw [hm, hs]
  unfold Ieee.Datum.root
  simp only []
  rw [if_neg hm0, if_neg (by decide)]
  have hfb : Ieee.double.fractionBits = 52 := rfl
  rw [hfb]
  generalize hM0 : 2 * (52 + 2) - m.log2 = m0
  have hr1 : 0 ≤ (-1074 + (k : Int) - (m0 : Int)) % 2 := Int.emod_nonneg _ (by decide)
  have hr2 : (-1074 + (k : Int) - (m0 : Int)) % 2 < 2 := Int.emod_lt_of_pos _ (by decide)
  generalize hM : m0 + ((-1074 + (k : Int) - (m0 : Int)) % 2).toNat = more
  have hmm : more ≤ m0 + 1 := by omega
  have hm0b : m0 ≤ 108 := by omega
  have heven : (-1074 + (k : Int) - (more : Int)) % 2 = 0 := by omega
  have hl : 108 ≤ m.log2 + more := by omega
  clear hM hM0
  generalize hn : m <<< more = n
  have hn' : n = m * 2 ^ more := by rw [← hn, Nat.shiftLeft_eq]
  have hn0 : n ≠ 0 := by rw [hn']; exact Nat.mul_ne_zero hm0 (by have := Nat.two_pow_pos more; omega)
  obtain ⟨w1, w2⟩ := root_all n hn0
  generalize Ieee.Datum.rootFrom n (n.log2 / 2 + 1) 0 = w at *
  obtain ⟨q, hq⟩ : ∃ q : Nat, (q : Int) = (-1074 + (k : Int) - (more : Int)) / 2 - 1 + 1074 := ⟨((-1074 + (k : Int) - (more : Int)) / 2 - 1 + 1074).toNat, by omega⟩
  have hqq : more + (q + 1 + (q + 1)) = k + c := by omega
  have hV : n * (2 ^ (q + 1) * 2 ^ (q + 1)) = vl (rg x) * 2 ^ c := by
    rw [hn', ← em, ← Nat.pow_add, Nat.mul_assoc, ← Nat.pow_add, hqq, Nat.pow_add, Nat.mul_assoc]
  have hp := Nat.two_pow_pos (q + 1)
  have sq : ∀ y : Nat, (y * 2 ^ (q + 1)) * (y * 2 ^ (q + 1)) = y * y * (2 ^ (q + 1) * 2 ^ (q + 1)) := fun y => by
    rw [Nat.mul_mul_mul_comm]
  refine ⟨w, (w * w != n).toNat, q, ?_, ?_, ?_, ?_, ?_, ?_⟩
  · simp only [Option.map_some]
    have h := nearest_eq false (2 * w + (w * w != n).toNat) q 0
    have e : (-1074 + (k : Int) - (more : Int)) / 2 - 1 = -1074 + (q : Int) - ((0 : Nat) : Int) := by omega
    unfold Ieee.Format.write
    simp only []
    rw [e, h]
  · have h1 : 2 ^ 108 ≤ n := by
      rw [hn']
      refine Nat.le_trans (Nat.pow_le_pow_right (by omega) hl) ?_
      rw [Nat.pow_add]
      exact Nat.mul_le_mul_right _ (log2_le m hm0)
    rcases Nat.lt_or_ge w 18014398509481984 with g | g
    · have : (w + 1) * (w + 1) ≤ 18014398509481984 * 18014398509481984 := Nat.mul_le_mul (by omega) (by omega)
      omega
    · exact g
  · rw [sq, ← hV]; exact Nat.mul_le_mul_right _ w1
  · rw [sq, ← hV]; exact Nat.mul_lt_mul_of_pos_right w2 (Nat.mul_pos hp hp)
  · cases (w * w != n) <;> decide
  · intro h
    rw [sq, ← hV] at h
    have : w * w < n := Nat.lt_of_mul_lt_mul_right h
    have e : (w * w != n) = true := by simpa using (by omega : ¬ w * w = n)
    rw [e]; rfl
theorem sq_lt {a b : Nat} (h : a * a < b * b) : a < b := by
  rcases Nat.lt_or_ge a b with g | g
  · exact g
  · have := Nat.mul_le_mul g g; omega
/-- rounding of what lies below the middle above a rung -/
theorem rq_up (Z b g : Nat) (hb : 4503599627370496 ≤ b) (hb' : b < 9007199254740992) (hg : 1 ≤ g) (h : Z < (2 * b + 1) * 2 ^ (g - 1)) : rq Z 0 ≤ rq (b * 2 ^ g) 0 := by
  have e2 : 2 ^ g = 2 * 2 ^ (g - 1) := by
    have : 2 ^ (g - 1 + 1) = 2 ^ (g - 1) * 2 := Nat.pow_succ ..
    rw [show g - 1 + 1 = g by omega] at this
    omega
  have hp := Nat.two_pow_pos (g - 1)
  by_cases c : Z ≤ b * 2 ^ g
  · exact rq_mono _ _ _ c
  · have hz : Z ≠ 0 := by omega
    have hd : Z / 2 ^ g = b := by
      refine Nat.div_eq_of_lt_le (by omega) ?_
      rw [Nat.succ_mul]
      have : (2 * b + 1) * 2 ^ (g - 1) = b * (2 * 2 ^ (g - 1)) + 2 ^ (g - 1) := by rw [Nat.add_mul, Nat.one_mul, Nat.mul_assoc, Nat.mul_left_comm]
      rw [← e2] at this
      omega
    have hm : 2 * (Z % 2 ^ g) < 2 ^ g := by
      have := Nat.div_add_mod Z (2 ^ g)
      rw [hd] at this
      have k : (2 * b + 1) * 2 ^ (g - 1) = b * (2 * 2 ^ (g - 1)) + 2 ^ (g - 1) := by rw [Nat.add_mul, Nat.one_mul, Nat.mul_assoc, Nat.mul_left_comm]
      rw [← e2, Nat.mul_comm b] at k
      omega
    have hl : Z.log2 = 52 + g := by
      refine Nat.le_antisymm (Nat.le_of_lt_succ ((Nat.log2_lt hz).2 ?_)) ((Nat.le_log2 hz).2 ?_)
      · rw [show (52 + g).succ = 53 + g by omega, Nat.pow_add]
        have k1 := Nat.div_add_mod Z (2 ^ g)
        have k2 := Nat.mod_lt Z (Nat.two_pow_pos g)
        rw [hd, Nat.mul_comm] at k1
        have : (b + 1) * 2 ^ g ≤ 2 ^ 53 * 2 ^ g := Nat.mul_le_mul_right _ (by omega)
        rw [Nat.succ_mul] at this
        omega
      · rw [Nat.pow_add]
        have : 2 ^ 52 * 2 ^ g ≤ b * 2 ^ g := Nat.mul_le_mul_right _ hb
        omega
    have hb0 : b ≠ 0 := by omega
    have hbl : b.log2 = 52 := Nat.le_antisymm (Nat.le_of_lt_succ ((Nat.log2_lt hb0).2 hb')) ((Nat.le_log2 hb0).2 hb)
    have r1 : rne Z g = b := by unfold rne; rw [hd, if_neg (by omega)]; rfl
    unfold rq
    rw [if_neg hz, if_neg (Nat.mul_ne_zero hb0 (by have := Nat.two_pow_pos g; omega)), hl, log2_mul b g hb0, hbl]
    rw [show 52 + g - (52 + 0) = g by omega, Nat.add_zero, r1, rne_exact]
    exact Nat.le_refl _
/-- rounding of what lies above the middle below a rung -/
theorem rq_down (Z b g : Nat) (hb : 4503599627370496 < b) (hb' : b < 9007199254740992) (hg : 1 ≤ g) (h : (2 * b - 1) * 2 ^ (g - 1) < Z) : rq (b * 2 ^ g) 0 ≤ rq Z 0 := by
  have e2 : 2 ^ g = 2 * 2 ^ (g - 1) := by
    have : 2 ^ (g - 1 + 1) = 2 ^ (g - 1) * 2 := Nat.pow_succ ..
    rw [show g - 1 + 1 = g by omega] at this
    omega
  have hp := Nat.two_pow_pos (g - 1)
  by_cases c : b * 2 ^ g ≤ Z
  · exact rq_mono _ _ _ c
  · have hz : Z ≠ 0 := by omega
    obtain ⟨b1, rfl⟩ : ∃ b1, b = b1 + 1 := ⟨b - 1, by omega⟩
    have k : (2 * (b1 + 1) - 1) * 2 ^ (g - 1) = b1 * (2 * 2 ^ (g - 1)) + 2 ^ (g - 1) := by rw [show 2 * (b1 + 1) - 1 = 2 * b1 + 1 by omega, Nat.add_mul, Nat.one_mul, Nat.mul_assoc, Nat.mul_left_comm]
    rw [← e2] at k
    have k0 : (b1 + 1) * 2 ^ g = b1 * 2 ^ g + 2 ^ g := by rw [Nat.succ_mul]
    have hd : Z / 2 ^ g = b1 := by
      refine Nat.div_eq_of_lt_le (by omega) (by show Z < (b1 + 1) * 2 ^ g; omega)
    have k1 := Nat.div_add_mod Z (2 ^ g)
    rw [hd, Nat.mul_comm] at k1
    have k2 := Nat.mod_lt Z (Nat.two_pow_pos g)
    have hm : 2 ^ g < 2 * (Z % 2 ^ g) := by omega
    have hl : Z.log2 = 52 + g := by
      refine Nat.le_antisymm (Nat.le_of_lt_succ ((Nat.log2_lt hz).2 ?_)) ((Nat.le_log2 hz).2 ?_)
      · rw [show (52 + g).succ = 53 + g by omega, Nat.pow_add]
        have : (b1 + 1) * 2 ^ g ≤ 2 ^ 53 * 2 ^ g := Nat.mul_le_mul_right _ (by omega)
        omega
      · rw [Nat.pow_add]
        have : 2 ^ 52 * 2 ^ g ≤ b1 * 2 ^ g := Nat.mul_le_mul_right _ (by omega)
        omega
    have hb0 : b1 + 1 ≠ 0 := by omega
    have hbl : (b1 + 1).log2 = 52 := Nat.le_antisymm (Nat.le_of_lt_succ ((Nat.log2_lt hb0).2 hb')) ((Nat.le_log2 hb0).2 (by show 4503599627370496 ≤ _; omega))
    have r1 : rne Z g = b1 + 1 := by unfold rne; rw [hd, if_pos (Or.inl hm)]
    unfold rq
    rw [if_neg hz, if_neg (Nat.mul_ne_zero hb0 (by have := Nat.two_pow_pos g; omega)), hl, log2_mul (b1 + 1) g hb0, hbl]
    rw [show 52 + g - (52 + 0) = g by omega, show g + 0 = g from rfl, r1, rne_exact]
    exact Nat.le_refl _
/-- a root below the middle above b -/
theorem sqrt_up {x : Nat} (c b g : Nat) (hc : c = 1074) (hx : rg x < 9218868437227405312) (hs : sg x = false) (hz : ¬ rg x = 0) (hb : 4503599627370496 ≤ b) (hb' : b < 9007199254740992) (hg : 1 ≤ g)
    (h : vl (rg x) * 2 ^ c < ((2 * b + 1) * 2 ^ (g - 1)) * ((2 * b + 1) * 2 ^ (g - 1))) :
    ∃ r, Ieee.double.sqrt x = some (wd false r) ∧ r ≤ rq (b * 2 ^ g) 0 := by
  obtain ⟨w, st, q, e, hw, h1, h2, h3, h4⟩ := sqrt_fin c hc hx hs hz
  refine ⟨_, e, rq_up _ b g hb hb' hg ?_⟩
  have hp := Nat.two_pow_pos q
  have eq : 2 ^ (q + 1) = 2 ^ q * 2 := Nat.pow_succ ..
  have lw := sq_lt (Nat.lt_of_le_of_lt h1 h)
  by_cases gq : q + 1 ≤ g - 1
  · obtain ⟨t, ht⟩ : ∃ t, g - 1 = t + (q + 1) := ⟨g - 1 - (q + 1), by omega⟩
    have ey : (2 * b + 1) * 2 ^ (g - 1) = ((2 * b + 1) * 2 ^ t) * 2 ^ (q + 1) := by rw [ht, Nat.pow_add, Nat.mul_assoc]
    rw [ey] at lw ⊢
    clear ey h
    generalize (2 * b + 1) * 2 ^ t = y at *
    have hy : w < y := Nat.lt_of_mul_lt_mul_right lw
    have k : (w + 1) * 2 ^ (q + 1) ≤ y * 2 ^ (q + 1) := Nat.mul_le_mul_right _ hy
    refine Nat.lt_of_lt_of_le ?_ k
    rw [eq, Nat.add_mul, Nat.add_mul, Nat.one_mul, Nat.mul_right_comm 2 w, ← Nat.mul_assoc w]
    have : st * 2 ^ q ≤ 1 * 2 ^ q := Nat.mul_le_mul_right _ h3
    rw [Nat.mul_comm 2 (2 ^ q), Nat.mul_comm (2 ^ q * 2) w, ← Nat.mul_assoc w]
    omega
  · exfalso
    have k1 : 2 ^ (g - 1) ≤ 2 ^ q := Nat.pow_le_pow_right (by omega) (by omega)
    have k2 : (2 * b + 1) * 2 ^ (g - 1) ≤ 18014398509481984 * 2 ^ q := Nat.mul_le_mul (by omega) k1
    have k3 : 18014398509481984 * 2 ^ (q + 1) ≤ w * 2 ^ (q + 1) := Nat.mul_le_mul_right _ hw
    rw [eq] at k3 lw
    omega
/-- a root above the middle below b -/
theorem sqrt_down {x : Nat} (c b g : Nat) (hc : c = 1074) (hx : rg x < 9218868437227405312) (hs : sg x = false) (hz : ¬ rg x = 0) (hb : 4503599627370496 ≤ b) (hb' : b < 9007199254740992) (hg : 1 ≤ g)
    (h : ((2 * b - 1) * 2 ^ (g - 1)) * ((2 * b - 1) * 2 ^ (g - 1)) < vl (rg x) * 2 ^ c) (h0 : b = 4503599627370496 → (b * 2 ^ g) * (b * 2 ^ g) ≤ vl (rg x) * 2 ^ c) :
    ∃ r, Ieee.double.sqrt x = some (wd false r) ∧ rq (b * 2 ^ g) 0 ≤ r ∧ r ≤ 9218868437227405312 := by
  obtain ⟨w, st, q, e, hw, h1, h2, h3, h4⟩ := sqrt_fin c hc hx hs hz
  refine ⟨_, e, ?_, rq_le _ _⟩
  have hp := Nat.two_pow_pos q
  have eq : 2 ^ (q + 1) = 2 ^ q * 2 := Nat.pow_succ ..
  have eg : 2 ^ g = 2 * 2 ^ (g - 1) := by
    have : 2 ^ (g - 1 + 1) = 2 ^ (g - 1) * 2 := Nat.pow_succ ..
    rw [show g - 1 + 1 = g by omega] at this
    omega
  have ez : (2 * w + st) * 2 ^ q = w * 2 ^ (q + 1) + st * 2 ^ q := by rw [eq, Nat.add_mul, Nat.mul_comm 2 w, Nat.mul_assoc, Nat.mul_comm 2]
  by_cases gq : q + 1 ≤ g - 1
  · by_cases cb : b = 4503599627370496
    · refine rq_mono _ _ _ ?_
      have k := h0 cb
      obtain ⟨t, ht⟩ : ∃ t, g = t + (q + 1) := ⟨g - (q + 1), by omega⟩
      have ey : b * 2 ^ g = (b * 2 ^ t) * 2 ^ (q + 1) := by rw [ht, Nat.pow_add, Nat.mul_assoc]
      rw [ey] at k ⊢
      have lw := sq_lt (Nat.lt_of_le_of_lt k h2)
      clear ey h h0
      generalize b * 2 ^ t = y at *
      have hy : y < w + 1 := Nat.lt_of_mul_lt_mul_right lw
      have : y * 2 ^ (q + 1) ≤ w * 2 ^ (q + 1) := Nat.mul_le_mul_right _ (by omega)
      omega
    · refine rq_down _ b g (by omega) hb' hg ?_
      obtain ⟨t, ht⟩ : ∃ t, g - 1 = t + (q + 1) := ⟨g - 1 - (q + 1), by omega⟩
      have ey : (2 * b - 1) * 2 ^ (g - 1) = ((2 * b - 1) * 2 ^ t) * 2 ^ (q + 1) := by rw [ht, Nat.pow_add, Nat.mul_assoc]
      rw [ey] at h ⊢
      have lw := sq_lt (Nat.lt_trans h h2)
      clear ey h0
      generalize (2 * b - 1) * 2 ^ t = y at *
      have hy : y < w + 1 := Nat.lt_of_mul_lt_mul_right lw
      rcases Nat.lt_or_ge y w with g1 | g1
      · have : (y + 1) * 2 ^ (q + 1) ≤ w * 2 ^ (q + 1) := Nat.mul_le_mul_right _ g1
        rw [Nat.succ_mul] at this
        omega
      · have ey : y = w := by omega
        subst ey
        have := h4 h
        subst this
        omega
  · refine rq_mono _ _ _ ?_
    have k1 : 2 ^ (g - 1) ≤ 2 ^ q := Nat.pow_le_pow_right (by omega) (by omega)
    have k2 : b * 2 ^ (g - 1) ≤ 18014398509481984 * 2 ^ q := Nat.mul_le_mul (by omega) k1
    have k3 : 18014398509481984 * 2 ^ (q + 1) ≤ w * 2 ^ (q + 1) := Nat.mul_le_mul_right _ hw
    have k4 : b * 2 ^ g = 2 * (b * 2 ^ (g - 1)) := by rw [eg, Nat.mul_left_comm]
    omega
end Go.Proofs.Ytmbjgakehghdjaa.Fl
