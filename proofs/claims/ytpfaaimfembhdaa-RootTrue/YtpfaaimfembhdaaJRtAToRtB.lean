/-
  OWN TEXT: how far lengths and roots are from the true ones: roundings to the half of a place, square roots, powers of two, as fractions.
-/
import Derived.Test.YtpfaaimfembhdaaJSwAToSwB
import Derived.Test.YtpfaaimfembhdaaJRmCToRmD
set_option linter.unusedVariables false
set_option exponentiation.threshold 3000
namespace Go.Proofs.Ytpfaaimfembhdaa.Fl
/-- to the half of a place -/
theorem rq_errT (n d : Nat) (hf : rq n d < 9218868437227405312) : ∃ e, 2 * (vl (rq n d) * 2 ^ d) ≤ 2 * n + e ∧ 2 * n ≤ 2 * (vl (rq n d) * 2 ^ d) + e ∧ 4503599627370496 * e ≤ n + 4503599627370496 * 2 ^ d := by
  by_cases z : n = 0
  · subst z
    have : rq 0 d = 0 := by unfold rq; rfl
    rw [this, show vl 0 = 0 by decide]
    exact ⟨0, by omega, by omega, by omega⟩
  · obtain ⟨k, hk⟩ : ∃ k, k = n.log2 - (52 + d) := ⟨_, rfl⟩
    have hl := log2_lt n z
    have hl2 := log2_le n z
    have m1 : rne n (k + d) ≤ 9007199254740992 := by
      refine rne_le _ _ _ ?_
      rw [show (9007199254740992 : Nat) = 2 ^ 53 from rfl, ← Nat.pow_add]
      have : 2 ^ (n.log2 + 1) ≤ 2 ^ (53 + (k + d)) := Nat.pow_le_pow_right (by omega) (by omega)
      omega
    have m2 : k = 0 ∨ 4503599627370496 ≤ rne n (k + d) := by
      by_cases c : k = 0
      · exact Or.inl c
      · right
        refine le_rne _ _ _ ?_
        rw [show (4503599627370496 : Nat) = 2 ^ 52 from rfl, ← Nat.pow_add, show 52 + (k + d) = n.log2 by omega]
        exact hl2
    have er : rq n d = k * 4503599627370496 + rne n (k + d) := by
      unfold rq at hf ⊢
      rw [if_neg z, ← hk] at hf ⊢
      omega
    have ev : vl (rq n d) * 2 ^ d = rne n (k + d) * 2 ^ (k + d) := by
      rw [er, vl_comb k _ m1 m2, Nat.mul_assoc, ← Nat.pow_add]
    rw [ev]
    have hb := rne_bounds n (k + d)
    refine ⟨2 ^ (k + d), by omega, by omega, ?_⟩
    by_cases c : k = 0
    · rw [c, Nat.zero_add]; omega
    · have : 4503599627370496 * 2 ^ (k + d) ≤ n := by
        rw [show (4503599627370496 : Nat) = 2 ^ 52 from rfl, ← Nat.pow_add, show 52 + (k + d) = n.log2 by omega]
        exact hl2
      omega
/-- how far the next rung is -/
theorem vl_gap (r : Nat) : vl r + 1 ≤ vl (r + 1) ∧ 9007199254740992 * vl r + vl (r + 1) ≤ 9007199254740992 * vl (r + 1) := by
  obtain ⟨k, m, hm, h1, h2, e1, e2⟩ : ∃ k m, (k = 0 ∨ 4503599627370496 ≤ m) ∧ m < 9007199254740992 ∧ (1 : Nat) ≤ 2 ^ k ∧ vl r = m * 2 ^ k ∧ vl (r + 1) = (m + 1) * 2 ^ k := by
    by_cases c : r < 4503599627370496
    · refine ⟨0, r, Or.inl rfl, by omega, Nat.le_refl _, ?_, ?_⟩
      · unfold vl; rw [if_pos c, Nat.pow_zero, Nat.mul_one]
      · have := vl_comb 0 (r + 1) (by omega) (Or.inl rfl)
        rw [Nat.zero_mul, Nat.zero_add] at this
        exact this
    · refine ⟨r / 4503599627370496 - 1, 4503599627370496 + r % 4503599627370496, Or.inr (by omega), by omega, Nat.two_pow_pos _, ?_, ?_⟩
      · unfold vl; rw [if_neg c]
      · have := vl_comb (r / 4503599627370496 - 1) (4503599627370496 + r % 4503599627370496 + 1) (by omega) (Or.inr (by omega))
        rw [← this]
        congr 1
        omega
  rw [e1, e2, Nat.add_mul, Nat.one_mul]
  have : m * 2 ^ k + 2 ^ k ≤ 9007199254740992 * 2 ^ k := by
    have : (m + 1) * 2 ^ k ≤ 9007199254740992 * 2 ^ k := Nat.mul_le_mul_right _ (by omega)
    rw [Nat.add_mul, Nat.one_mul] at this
    exact this
  omega
end Go.Proofs.Ytpfaaimfembhdaa.Fl
namespace Go.Proofs.Ytpfaaimfembhdaa.Rt
open Sv (en en_unit en_pos Ab)
/-- a rung's worth -/
def rr (r : Nat) : Rat := (Fl.vl r : Rat) * en
theorem rr_nn (r : Nat) : 0 ≤ rr r := Rat.mul_nonneg (by exact_mod_cast Nat.zero_le _) (Rat.le_of_lt en_pos)
theorem nat_le {a b : Nat} (h : a ≤ b) : (a : Rat) ≤ (b : Rat) := by exact_mod_cast h
theorem nat_add (a b : Nat) : ((a + b : Nat) : Rat) = (a : Rat) + (b : Rat) := by push_cast; rfl
theorem nat_mul (a b : Nat) : ((a * b : Nat) : Rat) = (a : Rat) * (b : Rat) := by push_cast; rfl
/-- rounding, as fractions -/
theorem rq_rat {n : Nat} (c d : Nat) (hf : Fl.rq n d < 9218868437227405312) {u : Rat} (hu : ((2 ^ d : Nat) : Rat) * u = 1) (hu0 : 0 < u) :
    Ab (rr (Fl.rq n d) - (n : Rat) * u * en) (1 / 9007199254740992 * ((n : Rat) * u * en) + 1 / 2 * en) := by
  obtain ⟨e, h1, h2, h3⟩ := Fl.rq_errT n d hf
  have g1 := nat_le h1
  have g2 := nat_le h2
  have g3 := nat_le h3
  simp only [nat_add, nat_mul] at g1 g2 g3
  unfold rr
  generalize (Fl.vl (Fl.rq n d) : Rat) = v at *
  generalize ((2 ^ d : Nat) : Rat) = D at *
  generalize (n : Rat) = N at *
  generalize (e : Rat) = E at *
  have he := en_pos
  have hue : 0 < u * en := Rat.mul_pos hu0 he
  have k1 := Rat.mul_le_mul_of_nonneg_right g1 (Rat.le_of_lt hue)
  have k2 := Rat.mul_le_mul_of_nonneg_right g2 (Rat.le_of_lt hue)
  have k3 := Rat.mul_le_mul_of_nonneg_right g3 (Rat.le_of_lt hue)
  have a1 : (2 : Rat) * (v * D) * (u * en) = 2 * (v * en) := by
    have : v * D * (u * en) = v * en * (D * u) := by grind
    grind
  have a2 : D * (u * en) = en := by
    have : D * (u * en) = (D * u) * en := by grind
    rw [this, hu]; grind
  generalize hX : N * u * en = X
  generalize hV : v * en = V at *
  generalize hEE : E * (u * en) = F at *
  have b1 : (((2 : Nat) : Rat) * N + E) * (u * en) = 2 * X + F := by rw [← hX, ← hEE]; grind
  have b2 : (((2 : Nat) : Rat) * (v * D) + E) * (u * en) = 2 * V + F := by rw [← hV, ← hEE]; grind
  have b3 : ((2 : Nat) : Rat) * (v * D) * (u * en) = 2 * V := by grind
  have b4 : ((2 : Nat) : Rat) * N * (u * en) = 2 * X := by rw [← hX]; grind
  have b5 : ((4503599627370496 : Nat) : Rat) * E * (u * en) = 4503599627370496 * F := by rw [← hEE]; grind
  have b6 : (N + ((4503599627370496 : Nat) : Rat) * D) * (u * en) = X + 4503599627370496 * en := by rw [← hX]; grind
  rw [b3, b1] at k1
  rw [b4, b2] at k2
  rw [b5, b6] at k3
  unfold Ab
  constructor <;> grind
end Go.Proofs.Ytpfaaimfembhdaa.Rt
/-
  OWN TEXT: how far lengths and roots are from the true ones: sums, squares, square roots, powers of two, places.
-/
set_option linter.unusedVariables false
set_option exponentiation.threshold 3000
namespace Go.Proofs.Ytpfaaimfembhdaa.Rt
open Sv (en en_unit en_pos Ab)
theorem rr_add {a b x : Nat} (sa : Fl.sg a = false) (sb : Fl.sg b = false) (fa : Fl.rg a < 9218868437227405312) (fb : Fl.rg b < 9218868437227405312) (h : opR .add a b x) (hx : x < 9218868437227405312) :
    Ab (rr x - (rr (Fl.rg a) + rr (Fl.rg b))) (1 / 9007199254740992 * (rr (Fl.rg a) + rr (Fl.rg b)) + en) := by
  have e := add_word sa sb fa fb h
  subst e
  have k := rq_rat (n := Fl.vl (Fl.rg a) + Fl.vl (Fl.rg b)) 0 0 hx (u := 1) (by grind) (by grind)
  have he := en_pos
  rw [nat_add] at k
  unfold Ab rr at *
  constructor <;> grind
theorem rr_sq {a x : Nat} (sa : Fl.sg a = false) (fa : Fl.rg a < 9218868437227405312) (h : opR .mul a a x) (hx : Fl.rg x < 9218868437227405312) :
    Fl.sg x = false ∧ Fl.rg x = x ∧ Ab (rr x - rr (Fl.rg a) * rr (Fl.rg a)) (1 / 9007199254740992 * (rr (Fl.rg a) * rr (Fl.rg a)) + en) := by
  have e := mul_word fa fa h
  rw [sa, Bool.xor_self, wd_false] at e
  obtain ⟨c, hc⟩ : ∃ c : Nat, c = 1074 := ⟨_, rfl⟩
  rw [← hc] at e
  have hu : ((2 ^ c : Nat) : Rat) * en = 1 := by rw [hc]; exact en_unit
  clear hc
  obtain ⟨r1, r2⟩ := rg_rung (Fl.rq_le (Fl.vl (Fl.rg a) * Fl.vl (Fl.rg a)) c)
  rw [← e] at r1 r2
  refine ⟨r2, r1, ?_⟩
  rw [r1, e] at hx
  rw [e]
  have k := rq_rat (n := Fl.vl (Fl.rg a) * Fl.vl (Fl.rg a)) 0 c hx (u := en) hu en_pos
  have he := en_pos
  rw [nat_mul] at k
  have q : (Fl.vl (Fl.rg a) : Rat) * (Fl.vl (Fl.rg a) : Rat) * en * en = rr (Fl.rg a) * rr (Fl.rg a) := by unfold rr; grind
  rw [q] at k
  unfold Ab at *
  constructor <;> grind
/-- a root: next to a number whose square is next to it -/
theorem rr_sqrt {x l : Nat} (hx : Fl.rg x < 9218868437227405312) (hs : Fl.sg x = false) (hz : ¬ Fl.rg x = 0) (h : sqtR x l) (hl : Fl.rg l < 9218868437227405312) :
    Fl.sg l = false ∧ Fl.rg l = l ∧ ∃ v t : Rat, 0 ≤ t ∧ 36028797018963968 * t ≤ v ∧ (v - t) * (v - t) ≤ rr (Fl.rg x) ∧ rr (Fl.rg x) ≤ (v + t) * (v + t) ∧ Ab (rr l - v) (1 / 9007199254740992 * v + en) := by
  obtain ⟨c, hc⟩ : ∃ c : Nat, c = 1074 := ⟨_, rfl⟩
  obtain ⟨w, st, q, e, hw, h1, h2, h3, h4⟩ := Fl.sqrt_fin c hc hx hs hz
  have hu : ((2 ^ c : Nat) : Rat) * en = 1 := by rw [hc]; exact en_unit
  clear hc
  have e1 : l = Fl.rq ((2 * w + st) * 2 ^ q) 0 := sqt_word h e
  obtain ⟨r1, r2⟩ := rg_rung (Fl.rq_le ((2 * w + st) * 2 ^ q) 0)
  rw [← e1] at r1 r2
  refine ⟨r2, r1, ?_⟩
  rw [r1] at hl
  rw [e1] at hl ⊢
  have k := rq_rat (n := (2 * w + st) * 2 ^ q) 0 0 hl (u := 1) (by grind) (by grind)
  have he := en_pos
  have sq : ∀ {a b : Nat}, a * a ≤ b * 2 ^ c → (a : Rat) * en * ((a : Rat) * en) ≤ (b : Rat) * en := by
    intro a b g
    have g := nat_le g
    rw [nat_mul, nat_mul] at g
    have := Rat.mul_le_mul_of_nonneg_right g (Rat.le_of_lt (Rat.mul_pos he he))
    have q : (b : Rat) * ((2 ^ c : Nat) : Rat) * (en * en) = (b : Rat) * en := by
      have : (b : Rat) * ((2 ^ c : Nat) : Rat) * (en * en) = (b : Rat) * en * (((2 ^ c : Nat) : Rat) * en) := by grind
      rw [this, hu]; grind
    rw [q] at this
    grind
  have sq' : ∀ {a b : Nat}, b * 2 ^ c ≤ a * a → (b : Rat) * en ≤ (a : Rat) * en * ((a : Rat) * en) := by
    intro a b g
    have g := nat_le g
    rw [nat_mul, nat_mul] at g
    have := Rat.mul_le_mul_of_nonneg_right g (Rat.le_of_lt (Rat.mul_pos he he))
    have q : (b : Rat) * ((2 ^ c : Nat) : Rat) * (en * en) = (b : Rat) * en := by
      have : (b : Rat) * ((2 ^ c : Nat) : Rat) * (en * en) = (b : Rat) * en * (((2 ^ c : Nat) : Rat) * en) := by grind
      rw [this, hu]; grind
    rw [q] at this
    grind
  have ez : (2 * w + st) * 2 ^ q = w * 2 ^ (q + 1) + st * 2 ^ q := by rw [Nat.pow_succ, Nat.add_mul, Nat.mul_comm 2 w, Nat.mul_assoc, Nat.mul_comm 2]
  have ew : (((2 * w + st) * 2 ^ q : Nat) : Rat) = ((w * 2 ^ (q + 1) : Nat) : Rat) + ((st * 2 ^ q : Nat) : Rat) := by rw [ez, nat_add]
  refine ⟨(((2 * w + st) * 2 ^ q : Nat) : Rat) * en, ((st * 2 ^ q : Nat) : Rat) * en, Rat.mul_nonneg (by exact_mod_cast Nat.zero_le _) (Rat.le_of_lt he), ?_, ?_, ?_, ?_⟩
  · have : 36028797018963968 * (st * 2 ^ q) ≤ (2 * w + st) * 2 ^ q := by
      rw [← Nat.mul_assoc]
      refine Nat.mul_le_mul_right _ ?_
      omega
    have g := nat_le this
    rw [nat_mul] at g
    have := Rat.mul_le_mul_of_nonneg_right g (Rat.le_of_lt he)
    grind
  · rw [ew]
    have := sq h1
    unfold rr
    generalize ((w * 2 ^ (q + 1) : Nat) : Rat) = W at *
    generalize ((st * 2 ^ q : Nat) : Rat) = S at *
    have e2 : (W + S) * en - S * en = W * en := by grind
    rw [e2]; exact this
  · have g : Fl.vl (Fl.rg x) * 2 ^ c ≤ ((2 * w + st) * 2 ^ q + st * 2 ^ q) * ((2 * w + st) * 2 ^ q + st * 2 ^ q) := by
      by_cases c1 : (w * 2 ^ (q + 1)) * (w * 2 ^ (q + 1)) < Fl.vl (Fl.rg x) * 2 ^ c
      · obtain rfl := h4 c1
        have : (2 * w + 1) * 2 ^ q + 1 * 2 ^ q = (w + 1) * 2 ^ (q + 1) := by rw [Nat.pow_succ, ← Nat.add_mul, Nat.mul_comm (2 ^ q) 2, ← Nat.mul_assoc]; congr 1; omega
        rw [this]
        exact Nat.le_of_lt h2
      · refine Nat.le_trans (Nat.le_of_not_lt c1) ?_
        have : w * 2 ^ (q + 1) ≤ (2 * w + st) * 2 ^ q + st * 2 ^ q := by rw [ez]; omega
        exact Nat.mul_le_mul this this
    have := sq' g
    rw [nat_add] at this
    unfold rr
    rw [Rat.add_mul] at this
    exact this
  · unfold Ab at *
    constructor <;> grind
end Go.Proofs.Ytpfaaimfembhdaa.Rt
