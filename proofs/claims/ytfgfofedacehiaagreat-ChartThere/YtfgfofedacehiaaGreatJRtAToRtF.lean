/-
 OWN TEXT: how far lengths and roots are from the true ones: roundings to the half of a place, square roots, powers of two, as fractions.
-/
import Derived.Test.YtfgfofedacehiaaGreatJSwAToSwB
import Derived.Test.YtfgfofedacehiaaGreatJRmCToRmF
set_option linter.unusedVariables false
set_option exponentiation.threshold 3000
namespace Go.Proofs.YtfgfofedacehiaaGreat.Fl
/-- to the half of a place -/
theorem rq_errT (n d : Nat) (hf : rq n d < 9218868437227405312) : ∃ e, 2 * (vl (rq n d) * 2 ^ d) ≤ 2 * n + e ∧ 2 * n ≤ 2 * (vl (rq n d) * 2 ^ d) + e ∧ 4503599627370496 * e ≤ n + 4503599627370496 * 2 ^ d := by
 by_cases z : n = 0
 ·
  subst z
  have : rq 0 d = 0 := by unfold rq; rfl
  rw [this, show vl 0 = 0 by decide]
  exact ⟨0, by omega, by omega, by omega⟩
 ·
  obtain ⟨k, hk⟩ : ∃ k, k = n.log2 - (52 + d) := ⟨_, rfl⟩
  have hl := log2_lt n z
  have hl2 := log2_le n z
  have m1 : rne n (k + d) ≤ 9007199254740992 := by
   refine rne_le _ _ _ ?_
   rw [show (9007199254740992 : Nat) = 2 ^ 53 from rfl, ← Nat.pow_add]
   have : 2 ^ (n.log2 + 1) ≤ 2 ^ (53 + (k + d)) := Nat.pow_le_pow_right (by omega) (by omega)
   omega
  have m2 : k = 0 ∨ 4503599627370496 ≤ rne n (k + d) := by
   by_cases c : k = 0
   · exact Or.inl c
   ·
    right
    refine le_rne _ _ _ ?_
    rw [show (4503599627370496 : Nat) = 2 ^ 52 from rfl, ← Nat.pow_add, show 52 + (k + d) = n.log2 by omega]
    exact hl2
  have er : rq n d = k * 4503599627370496 + rne n (k + d) := by
   unfold rq at hf ⊢
   rw [if_neg z, ← hk] at hf ⊢
   omega
  have ev : vl (rq n d) * 2 ^ d = rne n (k + d) * 2 ^ (k + d) := by
   rw [er, vl_comb k _ m1 m2, Nat.mul_assoc, ← Nat.pow_add]
  rw [ev]
  have hb := rne_bounds n (k + d)
  refine ⟨2 ^ (k + d), by omega, by omega, ?_⟩
  by_cases c : k = 0
  · rw [c, Nat.zero_add]; omega
  ·
   have : 4503599627370496 * 2 ^ (k + d) ≤ n := by
    rw [show (4503599627370496 : Nat) = 2 ^ 52 from rfl, ← Nat.pow_add, show 52 + (k + d) = n.log2 by omega]
    exact hl2
   omega
/-- how far the next rung is -/
theorem vl_gap (r : Nat) : vl r + 1 ≤ vl (r + 1) ∧ 9007199254740992 * vl r + vl (r + 1) ≤ 9007199254740992 * vl (r + 1) := by
 obtain ⟨k, m, hm, h1, h2, e1, e2⟩ : ∃ k m, (k = 0 ∨ 4503599627370496 ≤ m) ∧ m < 9007199254740992 ∧ (1 : Nat) ≤ 2 ^ k ∧ vl r = m * 2 ^ k ∧ vl (r + 1) = (m + 1) * 2 ^ k := by
  by_cases c : r < 4503599627370496
  ·
   refine ⟨0, r, Or.inl rfl, by omega, Nat.le_refl _, ?_, ?_⟩
   · unfold vl; rw [if_pos c, Nat.pow_zero, Nat.mul_one]
   ·
    have := vl_comb 0 (r + 1) (by omega) (Or.inl rfl)
    rw [Nat.zero_mul, Nat.zero_add] at this
    exact this
  ·
   refine ⟨r / 4503599627370496 - 1, 4503599627370496 + r % 4503599627370496, Or.inr (by omega), by omega, Nat.two_pow_pos _, ?_, ?_⟩
   · unfold vl; rw [if_neg c]
   ·
    have := vl_comb (r / 4503599627370496 - 1) (4503599627370496 + r % 4503599627370496 + 1) (by omega) (Or.inr (by omega))
    rw [← this]
    congr 1
    omega
 rw [e1, e2, Nat.add_mul, Nat.one_mul]
 have : m * 2 ^ k + 2 ^ k ≤ 9007199254740992 * 2 ^ k := by
  have : (m + 1) * 2 ^ k ≤ 9007199254740992 * 2 ^ k := Nat.mul_le_mul_right _ (by omega)
  rw [Nat.add_mul, Nat.one_mul] at this
  exact this
 omega
end Go.Proofs.YtfgfofedacehiaaGreat.Fl
namespace Go.Proofs.YtfgfofedacehiaaGreat.Rt
open Sv (en en_unit en_pos Ab)
/-- a rung's worth -/
def rr (r : Nat) : Rat := (Fl.vl r : Rat) * en
theorem rr_nn (r : Nat) : 0 ≤ rr r := Rat.mul_nonneg (by exact_mod_cast Nat.zero_le _) (Rat.le_of_lt en_pos)
theorem nat_le {a b : Nat} (h : a ≤ b) : (a : Rat) ≤ (b : Rat) := by exact_mod_cast h
theorem nat_add (a b : Nat) : ((a + b : Nat) : Rat) = (a : Rat) + (b : Rat) := by push_cast; rfl
theorem nat_mul (a b : Nat) : ((a * b : Nat) : Rat) = (a : Rat) * (b : Rat) := by push_cast; rfl
/-- rounding, as fractions -/
theorem rq_rat {n : Nat} (c d : Nat) (hf : Fl.rq n d < 9218868437227405312) {u : Rat} (hu : ((2 ^ d : Nat) : Rat) * u = 1) (hu0 : 0 < u) :
  Ab (rr (Fl.rq n d) - (n : Rat) * u * en) (1 / 9007199254740992 * ((n : Rat) * u * en) + 1 / 2 * en) := by
 obtain ⟨e, h1, h2, h3⟩ := Fl.rq_errT n d hf
 have g1 := nat_le h1
 have g2 := nat_le h2
 have g3 := nat_le h3
 simp only [nat_add, nat_mul] at g1 g2 g3
 unfold rr
 generalize (Fl.vl (Fl.rq n d) : Rat) = v at *
 generalize ((2 ^ d : Nat) : Rat) = D at *
 generalize (n : Rat) = N at *
 generalize (e : Rat) = E at *
 have he := en_pos
 have hue : 0 < u * en := Rat.mul_pos hu0 he
 have k1 := Rat.mul_le_mul_of_nonneg_right g1 (Rat.le_of_lt hue)
 have k2 := Rat.mul_le_mul_of_nonneg_right g2 (Rat.le_of_lt hue)
 have k3 := Rat.mul_le_mul_of_nonneg_right g3 (Rat.le_of_lt hue)
 have a1 : (2 : Rat) * (v * D) * (u * en) = 2 * (v * en) := by
  have : v * D * (u * en) = v * en * (D * u) := by grind
  grind
 have a2 : D * (u * en) = en := by
  have : D * (u * en) = (D * u) * en := by grind
  rw [this, hu]; grind
 generalize hX : N * u * en = X
 generalize hV : v * en = V at *
 generalize hEE : E * (u * en) = F at *
 have b1 : (((2 : Nat) : Rat) * N + E) * (u * en) = 2 * X + F := by rw [← hX, ← hEE]; grind
 have b2 : (((2 : Nat) : Rat) * (v * D) + E) * (u * en) = 2 * V + F := by rw [← hV, ← hEE]; grind
 have b3 : ((2 : Nat) : Rat) * (v * D) * (u * en) = 2 * V := by grind
 have b4 : ((2 : Nat) : Rat) * N * (u * en) = 2 * X := by rw [← hX]; grind
 have b5 : ((4503599627370496 : Nat) : Rat) * E * (u * en) = 4503599627370496 * F := by rw [← hEE]; grind
 have b6 : (N + ((4503599627370496 : Nat) : Rat) * D) * (u * en) = X + 4503599627370496 * en := by rw [← hX]; grind
 rw [b3, b1] at k1
 rw [b4, b2] at k2
 rw [b5, b6] at k3
 unfold Ab
 constructor <;> grind
end Go.Proofs.YtfgfofedacehiaaGreat.Rt

/-
 OWN TEXT: how far lengths and roots are from the true ones: sums, squares, square roots, powers of two, places.
-/
set_option linter.unusedVariables false
set_option exponentiation.threshold 3000
namespace Go.Proofs.YtfgfofedacehiaaGreat.Rt
open Sv (en en_unit en_pos Ab)
theorem rr_add {a b x : Nat} (sa : Fl.sg a = false) (sb : Fl.sg b = false) (fa : Fl.rg a < 9218868437227405312) (fb : Fl.rg b < 9218868437227405312) (h : opR .add a b x) (hx : x < 9218868437227405312) :
  Ab (rr x - (rr (Fl.rg a) + rr (Fl.rg b))) (1 / 9007199254740992 * (rr (Fl.rg a) + rr (Fl.rg b)) + en) := by
 have e := add_word sa sb fa fb h
 subst e
 have k := rq_rat (n := Fl.vl (Fl.rg a) + Fl.vl (Fl.rg b)) 0 0 hx (u := 1) (by grind) (by grind)
 have he := en_pos
 rw [nat_add] at k
 unfold Ab rr at *
 constructor <;> grind
theorem rr_sq {a x : Nat} (sa : Fl.sg a = false) (fa : Fl.rg a < 9218868437227405312) (h : opR .mul a a x) (hx : Fl.rg x < 9218868437227405312) :
  Fl.sg x = false ∧ Fl.rg x = x ∧ Ab (rr x - rr (Fl.rg a) * rr (Fl.rg a)) (1 / 9007199254740992 * (rr (Fl.rg a) * rr (Fl.rg a)) + en) := by
 have e := mul_word fa fa h
 rw [sa, Bool.xor_self, wd_false] at e
 obtain ⟨c, hc⟩ : ∃ c : Nat, c = 1074 := ⟨_, rfl⟩
 rw [← hc] at e
 have hu : ((2 ^ c : Nat) : Rat) * en = 1 := by rw [hc]; exact en_unit
 clear hc
 obtain ⟨r1, r2⟩ := rg_rung (Fl.rq_le (Fl.vl (Fl.rg a) * Fl.vl (Fl.rg a)) c)
 rw [← e] at r1 r2
 refine ⟨r2, r1, ?_⟩
 rw [r1, e] at hx
 rw [e]
 have k := rq_rat (n := Fl.vl (Fl.rg a) * Fl.vl (Fl.rg a)) 0 c hx (u := en) hu en_pos
 have he := en_pos
 rw [nat_mul] at k
 have q : (Fl.vl (Fl.rg a) : Rat) * (Fl.vl (Fl.rg a) : Rat) * en * en = rr (Fl.rg a) * rr (Fl.rg a) := by unfold rr; grind
 rw [q] at k
 unfold Ab at *
 constructor <;> grind
/-- a root: next to a number whose square is next to it -/
theorem rr_sqrt {x l : Nat} (hx : Fl.rg x < 9218868437227405312) (hs : Fl.sg x = false) (hz : ¬ Fl.rg x = 0) (h : sqtR x l) (hl : Fl.rg l < 9218868437227405312) :
  Fl.sg l = false ∧ Fl.rg l = l ∧ ∃ v t : Rat, 0 ≤ t ∧ 36028797018963968 * t ≤ v ∧ (v - t) * (v - t) ≤ rr (Fl.rg x) ∧ rr (Fl.rg x) ≤ (v + t) * (v + t) ∧ Ab (rr l - v) (1 / 9007199254740992 * v + en) := by
 obtain ⟨c, hc⟩ : ∃ c : Nat, c = 1074 := ⟨_, rfl⟩
 obtain ⟨w, st, q, e, hw, h1, h2, h3, h4⟩ := Fl.sqrt_fin c hc hx hs hz
 have hu : ((2 ^ c : Nat) : Rat) * en = 1 := by rw [hc]; exact en_unit
 clear hc
 have e1 : l = Fl.rq ((2 * w + st) * 2 ^ q) 0 := sqt_word h e
 obtain ⟨r1, r2⟩ := rg_rung (Fl.rq_le ((2 * w + st) * 2 ^ q) 0)
 rw [← e1] at r1 r2
 refine ⟨r2, r1, ?_⟩
 rw [r1] at hl
 rw [e1] at hl ⊢
 have k := rq_rat (n := (2 * w + st) * 2 ^ q) 0 0 hl (u := 1) (by grind) (by grind)
 have he := en_pos
 have sq : ∀ {a b : Nat}, a * a ≤ b * 2 ^ c → (a : Rat) * en * ((a : Rat) * en) ≤ (b : Rat) * en := by
  intro a b g
  have g := nat_le g
  rw [nat_mul, nat_mul] at g
  have := Rat.mul_le_mul_of_nonneg_right g (Rat.le_of_lt (Rat.mul_pos he he))
  have q : (b : Rat) * ((2 ^ c : Nat) : Rat) * (en * en) = (b : Rat) * en := by
   have : (b : Rat) * ((2 ^ c : Nat) : Rat) * (en * en) = (b : Rat) * en * (((2 ^ c : Nat) : Rat) * en) := by grind
   rw [this, hu]; grind
  rw [q] at this
  grind
 have sq' : ∀ {a b : Nat}, b * 2 ^ c ≤ a * a → (b : Rat) * en ≤ (a : Rat) * en * ((a : Rat) * en) := by
  intro a b g
  have g := nat_le g
  rw [nat_mul, nat_mul] at g
  have := Rat.mul_le_mul_of_nonneg_right g (Rat.le_of_lt (Rat.mul_pos he he))
  have q : (b : Rat) * ((2 ^ c : Nat) : Rat) * (en * en) = (b : Rat) * en := by
   have : (b : Rat) * ((2 ^ c : Nat) : Rat) * (en * en) = (b : Rat) * en * (((2 ^ c : Nat) : Rat) * en) := by grind
   rw [this, hu]; grind
  rw [q] at this
  grind
 have ez : (2 * w + st) * 2 ^ q = w * 2 ^ (q + 1) + st * 2 ^ q := by rw [Nat.pow_succ, Nat.add_mul, Nat.mul_comm 2 w, Nat.mul_assoc, Nat.mul_comm 2]
 have ew : (((2 * w + st) * 2 ^ q : Nat) : Rat) = ((w * 2 ^ (q + 1) : Nat) : Rat) + ((st * 2 ^ q : Nat) : Rat) := by rw [ez, nat_add]
 refine ⟨(((2 * w + st) * 2 ^ q : Nat) : Rat) * en, ((st * 2 ^ q : Nat) : Rat) * en, Rat.mul_nonneg (by exact_mod_cast Nat.zero_le _) (Rat.le_of_lt he), ?_, ?_, ?_, ?_⟩
 ·
  have : 36028797018963968 * (st * 2 ^ q) ≤ (2 * w + st) * 2 ^ q := by
   rw [← Nat.mul_assoc]
   refine Nat.mul_le_mul_right _ ?_
   omega
  have g := nat_le this
  rw [nat_mul] at g
  have := Rat.mul_le_mul_of_nonneg_right g (Rat.le_of_lt he)
  grind
 ·
  rw [ew]
  have := sq h1
  unfold rr
  generalize ((w * 2 ^ (q + 1) : Nat) : Rat) = W at *
  generalize ((st * 2 ^ q : Nat) : Rat) = S at *
  have e2 : (W + S) * en - S * en = W * en := by grind
  rw [e2]; exact this
 ·
  have g : Fl.vl (Fl.rg x) * 2 ^ c ≤ ((2 * w + st) * 2 ^ q + st * 2 ^ q) * ((2 * w + st) * 2 ^ q + st * 2 ^ q) := by
   by_cases c1 : (w * 2 ^ (q + 1)) * (w * 2 ^ (q + 1)) < Fl.vl (Fl.rg x) * 2 ^ c
   ·
    obtain rfl := h4 c1
    have : (2 * w + 1) * 2 ^ q + 1 * 2 ^ q = (w + 1) * 2 ^ (q + 1) := by rw [Nat.pow_succ, ← Nat.add_mul, Nat.mul_comm (2 ^ q) 2, ← Nat.mul_assoc]; congr 1; omega
    rw [this]
    exact Nat.le_of_lt h2
   ·
    refine Nat.le_trans (Nat.le_of_not_lt c1) ?_
    have : w * 2 ^ (q + 1) ≤ (2 * w + st) * 2 ^ q + st * 2 ^ q := by rw [ez]; omega
    exact Nat.mul_le_mul this this
  have := sq' g
  rw [nat_add] at this
  unfold rr
  rw [Rat.add_mul] at this
  exact this
 ·
  unfold Ab at *
  constructor <;> grind
end Go.Proofs.YtfgfofedacehiaaGreat.Rt

/-
 OWN TEXT: how far lengths and roots are from the true ones: powers of two, places.
-/
set_option linter.unusedVariables false
set_option exponentiation.threshold 3000
namespace Go.Proofs.YtfgfofedacehiaaGreat.Rt
open Sv (en en_unit en_pos Ab unit_of pos_of)
def pw (n : Int) : Rat := ((2 ^ n.toNat : Nat) : Rat) * ((2 ^ (-n).toNat : Nat) : Rat)⁻¹
theorem two_pos (k : Nat) : (0 : Rat) < ((2 ^ k : Nat) : Rat) := by exact_mod_cast Nat.two_pow_pos k
theorem pw_pos (n : Int) : 0 < pw n := Rat.mul_pos (two_pos _) (pos_of _)
theorem pw_of (n : Int) (i j : Nat) (h : n = (i : Int) - (j : Int)) : pw n * ((2 ^ j : Nat) : Rat) = ((2 ^ i : Nat) : Rat) := by
 have e : 2 ^ n.toNat * 2 ^ j = 2 ^ i * 2 ^ (-n).toNat := by rw [← Nat.pow_add, ← Nat.pow_add]; congr 1; omega
 have e' : ((2 ^ n.toNat : Nat) : Rat) * ((2 ^ j : Nat) : Rat) = ((2 ^ i : Nat) : Rat) * ((2 ^ (-n).toNat : Nat) : Rat) := by rw [← nat_mul, ← nat_mul, e]
 have u := unit_of (-n).toNat
 unfold pw
 generalize ((2 ^ n.toNat : Nat) : Rat) = A at *
 generalize ((2 ^ j : Nat) : Rat) = B at *
 generalize ((2 ^ i : Nat) : Rat) = C at *
 generalize ((2 ^ (-n).toNat : Nat) : Rat) = D at *
 generalize D⁻¹ = E at *
 have : A * E * B = (A * B) * E := by grind
 rw [this, e']
 have : C * D * E = C * (D * E) := by grind
 rw [this, u]
 grind
theorem cancel {a b c : Rat} (hc : 0 < c) (h : a * c = b * c) : a = b := by
 have : (a - b) * c = 0 := by grind
 rcases Rat.mul_eq_zero.1 this with e | e
 · grind
 · grind
theorem pw_add (a b : Int) : pw (a + b) = pw a * pw b := by
 have h1 := pw_of a a.toNat (-a).toNat (by omega)
 have h2 := pw_of b b.toNat (-b).toNat (by omega)
 have h3 := pw_of (a + b) (a.toNat + b.toNat) ((-a).toNat + (-b).toNat) (by omega)
 refine cancel (two_pos ((-a).toNat + (-b).toNat)) ?_
 rw [h3]
 rw [Nat.pow_add, Nat.pow_add, nat_mul, nat_mul, ← h1, ← h2]
 generalize ((2 ^ (-a).toNat : Nat) : Rat) = X
 generalize ((2 ^ (-b).toNat : Nat) : Rat) = Y
 grind
theorem pw_zero : pw 0 = 1 := by
 have h := pw_of 0 0 0 (by omega)
 have e : ((2 ^ 0 : Nat) : Rat) = 1 := by exact_mod_cast Nat.pow_zero 2
 rw [e] at h
 grind
theorem pw_neg (n : Int) : pw n * pw (-n) = 1 := by rw [← pw_add, show n + -n = 0 by omega, pw_zero]
theorem rr_zero : rr 0 = 0 := by
 unfold rr
 rw [show Fl.vl 0 = 0 from rfl]
 have : ((0 : Nat) : Rat) = 0 := rfl
 rw [this]; grind
theorem rr_le {r s : Nat} (h : r ≤ s) : rr r ≤ rr s := by
 unfold rr
 exact Rat.mul_le_mul_of_nonneg_right (nat_le (Fl.vl_le_iff.2 h)) (Rat.le_of_lt en_pos)
/-- four places -/
theorem rr_step (r : Nat) : rr r + en ≤ rr (r + 1) ∧ rr r + 1 / 9007199254740992 * rr r ≤ rr (r + 1) := by
 obtain ⟨h1, h2⟩ := Fl.vl_gap r
 have g1 := nat_le h1
 have g2 := nat_le h2
 have he := en_pos
 simp only [nat_add, nat_mul] at g1 g2
 have k1 := Rat.mul_le_mul_of_nonneg_right g1 (Rat.le_of_lt he)
 have k2 := Rat.mul_le_mul_of_nonneg_right g2 (Rat.le_of_lt he)
 unfold rr
 generalize (Fl.vl r : Rat) = a at *
 generalize (Fl.vl (r + 1) : Rat) = b at *
 have e1 : a * en + en ≤ b * en := by grind
 generalize hA : a * en = A at *
 generalize hB : b * en = B at *
 have e2 : 9007199254740992 * A + B ≤ 9007199254740992 * B := by grind
 constructor <;> grind
theorem rr_four (r : Nat) : rr r + 4 * en ≤ rr (r + 4) ∧ rr r + 4 / 9007199254740992 * rr r ≤ rr (r + 4) := by
 have h1 := rr_step r
 have h2 := rr_step (r + 1)
 have h3 := rr_step (r + 2)
 have h4 := rr_step (r + 3)
 have l1 := rr_le (show r ≤ r + 1 by omega)
 have l2 := rr_le (show r ≤ r + 2 by omega)
 have l3 := rr_le (show r ≤ r + 3 by omega)
 rw [show r + 1 + 1 = r + 2 by omega] at h2
 rw [show r + 2 + 1 = r + 3 by omega] at h3
 rw [show r + 3 + 1 = r + 4 by omega] at h4
 constructor <;> grind
/-- times a power of two -/
theorem rr_scale {x : Nat} (n : Int) (hf : Fl.rg x < 9218868437227405312) (h1 : Fl.rg (scF x n) < 9218868437227405312) :
  Ab (rr (Fl.rg (scF x n)) - pw n * rr (Fl.rg x)) (2 * en) ∧ (4503599627370496 < Fl.rg (scF x n) → rr (Fl.rg (scF x n)) = pw n * rr (Fl.rg x)) := by
 have he := en_pos
 by_cases hz : Fl.rg x = 0
 ·
  rw [scF_stay (Or.inl hz), hz, rr_zero]
  refine ⟨?_, fun h => absurd h (by omega)⟩
  unfold Ab
  constructor <;> grind
 ·
  have ex : pw n * rr (Fl.rg x) = ((Fl.vl (Fl.rg x) * 2 ^ n.toNat : Nat) : Rat) * ((2 ^ (-n).toNat : Nat) : Rat)⁻¹ * en := by
   unfold pw rr
   rw [nat_mul]
   grind
  have nrm : 4503599627370496 < Fl.rg (scF x n) → rr (Fl.rg (scF x n)) = pw n * rr (Fl.rg x) := by
   intro c
   have e := scale_nat n hf hz h1 c
   rw [ex, ← e, nat_mul]
   have u := unit_of (-n).toNat
   unfold rr
   generalize ((2 ^ (-n).toNat : Nat) : Rat) = D at *
   generalize D⁻¹ = E at *
   generalize (Fl.vl (Fl.rg (scF x n)) : Rat) = v
   have : v * D * E * en = v * en * (D * E) := by grind
   rw [this, u]; grind
  refine ⟨?_, nrm⟩
  by_cases c : 4503599627370496 < Fl.rg (scF x n)
  ·
   rw [nrm c]
   unfold Ab
   constructor <;> grind
  ·
   have er := rg_scF hf hz n
   rw [er] at h1 c ⊢
   unfold Fl.rz at h1 c ⊢
   have k := rq_rat 0 (-n).toNat h1 (unit_of _) (pos_of _)
   rw [← ex] at k
   have b := rr_le (Nat.le_of_not_lt c)
   have b0 : rr 4503599627370496 = 4503599627370496 * en := by
    unfold rr
    rw [show Fl.vl 4503599627370496 = 4503599627370496 by decide]
    rfl
   rw [b0] at b
   unfold Ab at *
   constructor <;> grind
theorem rr_scale_far {x : Nat} (n : Int) (hf : Fl.rg x < 9218868437227405312) (hz : ¬ Fl.rg x = 0) (h1 : ¬ Fl.rg (scF x n) < 9218868437227405312) : rr 9218868437227405311 ≤ pw n * rr (Fl.rg x) := by
 have ex : pw n * rr (Fl.rg x) = ((Fl.vl (Fl.rg x) * 2 ^ n.toNat : Nat) : Rat) * ((2 ^ (-n).toNat : Nat) : Rat)⁻¹ * en := by
  unfold pw rr
  rw [nat_mul]
  grind
 rw [rg_scF hf hz n] at h1
 unfold Fl.rz at h1
 have g : Fl.vl 9218868437227405311 * 2 ^ (-n).toNat ≤ Fl.vl (Fl.rg x) * 2 ^ n.toNat := by
  rcases Nat.lt_or_ge (Fl.vl (Fl.rg x) * 2 ^ n.toNat) (Fl.vl 9218868437227405311 * 2 ^ (-n).toNat) with c | c
  ·
   exfalso
   have m := Fl.rq_mono _ _ (-n).toNat (Nat.le_of_lt c)
   have e := Fl.rq_mul (Fl.vl 9218868437227405311) (-n).toNat 0
   rw [Nat.zero_add, Fl.rq_vl _ (by omega)] at e
   omega
  · exact c
 have g' := nat_le g
 rw [nat_mul] at g'
 have u := unit_of (-n).toNat
 have hp := pos_of (-n).toNat
 have he := en_pos
 rw [ex]
 unfold rr
 generalize ((2 ^ (-n).toNat : Nat) : Rat) = D at *
 generalize D⁻¹ = E at *
 generalize ((Fl.vl (Fl.rg x) * 2 ^ n.toNat : Nat) : Rat) = N at *
 generalize (Fl.vl 9218868437227405311 : Rat) = v at *
 have k := Rat.mul_le_mul_of_nonneg_right g' (Rat.le_of_lt (Rat.mul_pos hp he))
 have e1 : v * D * (E * en) = v * en * (D * E) := by grind
 rw [e1, u] at k
 grind
end Go.Proofs.YtfgfofedacehiaaGreat.Rt

/-
 OWN TEXT: how far lengths and roots are from the true ones: the length of what lies next to 1.
-/
set_option linter.unusedVariables false
set_option exponentiation.threshold 3000
namespace Go.Proofs.YtfgfofedacehiaaGreat.Rt
open Sv (en en_unit en_pos Ab unit_of pos_of)
theorem big_two : (1606938044258990275541962092341162602522202993782792835301376 : Nat) ≤ 2 ^ 1074 := by decide +kernel
theorem en_small : 1606938044258990275541962092341162602522202993782792835301376 * en ≤ 1 := by
 have h := nat_le big_two
 have k := Rat.mul_le_mul_of_nonneg_right h (Rat.le_of_lt en_pos)
 rw [en_unit] at k
 exact k
theorem sq_nn (x : Rat) : 0 ≤ x * x := by
 rcases (Rat.le_total : 0 ≤ x ∨ x ≤ 0) with h | h
 · exact Rat.mul_nonneg h h
 ·
  have : x * x = (-x) * (-x) := by grind
  rw [this]
  exact Rat.mul_nonneg (by grind) (by grind)
theorem vl_half' : Fl.vl 4602678819172646912 = 4503599627370496 * 2 ^ 1021 := by decide +kernel
theorem half_two : (4503599627370496 * 2 ^ 1021 : Nat) * 2 = 2 ^ 1074 := by decide +kernel
theorem rr_half : rr 4602678819172646912 = 1 / 2 := by
 unfold rr
 have h : (Fl.vl 4602678819172646912 * 2 : Nat) = 2 ^ 1074 := by rw [vl_half', half_two]
 have e : ((Fl.vl 4602678819172646912 : Nat) : Rat) * ((2 : Nat) : Rat) = ((2 ^ 1074 : Nat) : Rat) := by rw [← nat_mul, h]
 have u := en_unit
 generalize ((2 ^ 1074 : Nat) : Rat) = D at *
 generalize (Fl.vl 4602678819172646912 : Rat) = v at *
 have : v * en * 2 = 1 := by
  have : v * en * 2 = v * ((2 : Nat) : Rat) * en := by grind
  rw [this, e, u]
 grind
/-- products' bounds, apart: a square next to v's -/
theorem near_sq {l v t s e h : Rat} (hh : h = 1 / 9007199254740992) (ht : 0 ≤ t) (htv : 36028797018963968 * t ≤ v) (h1 : (v - t) * (v - t) ≤ s) (h2 : s ≤ (v + t) * (v + t)) (h3 : Ab (l - v) (h * v + e)) (he : 0 < e) (he1 : 1606938044258990275541962092341162602522202993782792835301376 * e ≤ 1) (hs : 1 / 8 ≤ s) :
  Ab (l * l - s) (13 / 5 * (h * s)) := by
 have hv : 0 ≤ v := by grind
 -- t * v and t * t
 have t1 : 36028797018963968 * (t * v) ≤ v * v := by
  have := Rat.mul_le_mul_of_nonneg_right htv hv
  grind
 have t2 : 36028797018963968 * (t * t) ≤ t * v := by
  have := Rat.mul_le_mul_of_nonneg_left htv ht
  grind
 have tv : 0 ≤ t * v := Rat.mul_nonneg ht hv
 have tt := sq_nn t
 have e1 : (v - t) * (v - t) = v * v - 2 * (t * v) + t * t := by grind
 have e2 : (v + t) * (v + t) = v * v + 2 * (t * v) + t * t := by grind
 rw [e1] at h1
 rw [e2] at h2
 -- l * l against v * v
 have d := h3
 have p : Ab (l + v) (2 * v + (h * v + e)) := by
  unfold Ab at *
  rw [hh] at *
  constructor <;> grind
 have m := d.mul p
 have e3 : (l - v) * (l + v) = l * l - v * v := by grind
 rw [e3] at m
 have e4 : (h * v + e) * (2 * v + (h * v + e)) = 2 * h * (v * v) + h * h * (v * v) + 2 * h * (e * v) + 2 * (e * v) + e * e := by grind
 rw [e4] at m
 have ev : 0 ≤ e * v := Rat.mul_nonneg (Rat.le_of_lt he) hv
 have ev2 : e * v ≤ e + e * (v * v) := by
  have q : v ≤ 1 + v * v := by
   have := sq_nn (v - 1 / 2)
   grind
  have := Rat.mul_le_mul_of_nonneg_left q (Rat.le_of_lt he)
  grind
 have vv := sq_nn v
 have ee : e * e ≤ e := by
  have := Rat.mul_le_mul_of_nonneg_left (show e ≤ 1 by grind) (Rat.le_of_lt he)
  grind
 have evv : 1606938044258990275541962092341162602522202993782792835301376 * (e * (v * v)) ≤ v * v := by
  have := Rat.mul_le_mul_of_nonneg_right he1 vv
  grind
 have evn : 0 ≤ e * (v * v) := Rat.mul_nonneg (Rat.le_of_lt he) vv
 clear h3 d p e1 e2 e3 e4 htv
 subst hh
 generalize e * (v * v) = A at *
 generalize e * v = B at *
 generalize e * e = C at *
 generalize v * v = V at *
 generalize t * v = T at *
 generalize t * t = Q at *
 generalize l * l = L at *
 unfold Ab at *
 obtain ⟨m1, m2⟩ := m
 constructor <;> grind
theorem tog_near {u v l : Nat} (su : Fl.sg u = false) (sv : Fl.sg v = false) (hu : Fl.rg u ≤ 4611686018427387904) (hv : Fl.rg v ≤ 4611686018427387904) (hl : 4602678819172646912 ≤ Fl.rg u ∨ 4602678819172646912 ≤ Fl.rg v) (h : togR u v l) :
  Fl.sg l = false ∧ Fl.rg l = l ∧ 4602678819172646912 ≤ l ∧ l ≤ 4616189618054758400 ∧ Ab (rr l * rr l - (rr (Fl.rg u) * rr (Fl.rg u) + rr (Fl.rg v) * rr (Fl.rg v))) (47 / 10 * (1 / 9007199254740992 * (rr (Fl.rg u) * rr (Fl.rg u) + rr (Fl.rg v) * rr (Fl.rg v)))) := by
 obtain ⟨s, ⟨p, q, h1, h2, h3⟩, h4⟩ := h
 have ep := mul_word (by omega) (by omega) h1
 have eq := mul_word (by omega) (by omega) h2
 rw [su, Bool.xor_false, wd_false] at ep
 rw [sv, Bool.xor_false, wd_false] at eq
 have lp : p ≤ 4616189618054758400 := by
  rw [ep, ← two_sq]
  exact Fl.rq_mono _ _ _ (Nat.mul_le_mul (Fl.vl_le_iff.2 hu) (Fl.vl_le_iff.2 hu))
 have lq : q ≤ 4616189618054758400 := by
  rw [eq, ← two_sq]
  exact Fl.rq_mono _ _ _ (Nat.mul_le_mul (Fl.vl_le_iff.2 hv) (Fl.vl_le_iff.2 hv))
 obtain ⟨rp, sp⟩ := rg_rung (r := p) (by omega)
 obtain ⟨rq, sq⟩ := rg_rung (r := q) (by omega)
 have es := add_word sp sq (by omega) (by omega) h3
 rw [rp, rq] at es
 have hp : p ≤ s := by
  have := Fl.rq_mono (Fl.vl p) (Fl.vl p + Fl.vl q) 0 (by omega)
  rw [Fl.rq_vl p (by omega), ← es] at this
  exact this
 have hq : q ≤ s := by
  have := Fl.rq_mono (Fl.vl q) (Fl.vl p + Fl.vl q) 0 (by omega)
  rw [Fl.rq_vl q (by omega), ← es] at this
  exact this
 have hs : s ≤ 4620693217682128896 := by
  rw [es, ← four_four]
  exact Fl.rq_mono _ _ _ (Nat.add_le_add (Fl.vl_le_iff.2 lp) (Fl.vl_le_iff.2 lq))
 have low : 4598175219545276416 ≤ s := by
  rcases hl with c | c
  ·
   refine Nat.le_trans ?_ hp
   rw [ep, ← half_sq, ← vl_half']
   exact Fl.rq_mono _ _ _ (Nat.mul_le_mul (Fl.vl_le_iff.2 c) (Fl.vl_le_iff.2 c))
  ·
   refine Nat.le_trans ?_ hq
   rw [eq, ← half_sq, ← vl_half']
   exact Fl.rq_mono _ _ _ (Nat.mul_le_mul (Fl.vl_le_iff.2 c) (Fl.vl_le_iff.2 c))
 have b1 := (rr_sq su (by omega) h1 (by omega)).2.2
 have b2 := (rr_sq sv (by omega) h2 (by omega)).2.2
 have b3 := rr_add sp sq (by omega) (by omega) h3 (by omega)
 rw [rp, rq] at b3
 obtain ⟨k1, k2⟩ := sqt_mid low hs h4
 obtain ⟨rs, ss⟩ := rg_rung (r := s) (by omega)
 obtain ⟨rl, sl⟩ := rg_rung (r := l) (by omega)
 obtain ⟨_, _, v', t, g1, g2, g3, g4, g5⟩ := rr_sqrt (x := s) (by omega) ss (by omega) h4 (by omega)
 rw [rs] at g3 g4
 have he := en_pos
 have hes := en_small
 -- the squares' sum
 have h4' : 1 / 4 ≤ rr (Fl.rg u) * rr (Fl.rg u) + rr (Fl.rg v) * rr (Fl.rg v) := by
  have n1 := sq_nn (rr (Fl.rg u))
  have n2 := sq_nn (rr (Fl.rg v))
  have half : ∀ {r : Nat}, 4602678819172646912 ≤ r → 1 / 4 ≤ rr r * rr r := by
   intro r c
   have c' := rr_le c
   rw [rr_half] at c'
   have := Rat.mul_le_mul_of_nonneg_left c' (show 0 ≤ rr r by grind)
   grind
  rcases hl with c | c
  · have := half c; grind
  · have := half c; grind
 have n1 := sq_nn (rr (Fl.rg u))
 have n2 := sq_nn (rr (Fl.rg v))
 generalize rr (Fl.rg u) * rr (Fl.rg u) = U at *
 generalize rr (Fl.rg v) * rr (Fl.rg v) = V at *
 have hsS : Ab (rr s - (U + V)) (101 / 50 * (1 / 9007199254740992 * (U + V))) := by
  unfold Ab at *
  clear g1 g2 g3 g4 g5
  obtain ⟨x1, x2⟩ := b1
  obtain ⟨y1, y2⟩ := b2
  obtain ⟨z1, z2⟩ := b3
  constructor <;> grind
 have hs8 : 1 / 8 ≤ rr s := by
  unfold Ab at hsS
  obtain ⟨x1, x2⟩ := hsS
  clear g1 g2 g3 g4 g5 b1 b2 b3
  grind
 have m := near_sq rfl g1 g2 g3 g4 g5 he hes hs8
 refine ⟨sl, rl, k1, k2, ?_⟩
 generalize rr l * rr l = L at *
 generalize rr s = S at *
 clear g1 g2 g3 g4 g5 b1 b2 b3
 unfold Ab at *
 obtain ⟨x1, x2⟩ := hsS
 obtain ⟨y1, y2⟩ := m
 constructor <;> grind
end Go.Proofs.YtfgfofedacehiaaGreat.Rt

/-
 OWN TEXT: how far lengths are from the true ones.
-/
set_option linter.unusedVariables false
set_option exponentiation.threshold 3000
namespace Go.Proofs.YtfgfofedacehiaaGreat.Rt
open Sv (en en_unit en_pos Ab unit_of pos_of)
/-- the true square of a length -/
def nq (a b : Nat) : Rat := rr (Fl.rg a) * rr (Fl.rg a) + rr (Fl.rg b) * rr (Fl.rg b)
/-- what lies next to 1 is scaled nearly; its greater part just so -/
theorem scaled_near {x y : Nat} (n : Int) (fx : Fl.rg x < 9218868437227405312) (hxy : Fl.rg y ≤ Fl.rg x) (l1 : 4602678819172646912 ≤ Fl.rg (scF x n)) (l2 : Fl.rg (scF x n) ≤ 4611686018427387904) :
  rr (Fl.rg (scF x n)) = pw n * rr (Fl.rg x) ∧ Ab (rr (Fl.rg (scF y n)) - pw n * rr (Fl.rg y)) (2 * en) ∧ Fl.rg (scF y n) ≤ Fl.rg (scF x n) ∧
  Ab ((rr (Fl.rg (scF x n)) * rr (Fl.rg (scF x n)) + rr (Fl.rg (scF y n)) * rr (Fl.rg (scF y n))) - pw n * pw n * (rr (Fl.rg x) * rr (Fl.rg x) + rr (Fl.rg y) * rr (Fl.rg y))) (12 * en) := by
 have m := scF_mono n (by omega) fx hxy
 have e1 := (rr_scale n fx (by omega)).2 (by omega)
 have e2 := (rr_scale (x := y) n (by omega) (by omega)).1
 refine ⟨e1, e2, m, ?_⟩
 have he := en_pos
 have hes := en_small
 have two : rr 4611686018427387904 = 2 := by
  unfold rr
  have h : (Fl.vl 4611686018427387904 : Nat) = 2 * 2 ^ 1074 := by decide +kernel
  have u := en_unit
  rw [h, nat_mul]
  generalize ((2 ^ 1074 : Nat) : Rat) = D at *
  have : ((2 : Nat) : Rat) * D * en = 2 * (D * en) := by grind
  rw [this, u]; grind
 have b2 := rr_le (Nat.le_trans m l2)
 rw [two] at b2
 have b0 := rr_nn (Fl.rg (scF y n))
 rw [e1]
 generalize rr (Fl.rg (scF y n)) = v at *
 generalize hw : pw n * rr (Fl.rg y) = w at *
 have hsum : Ab (v + w) 5 := by
  unfold Ab at *
  have hw0 : 0 ≤ w := by rw [← hw]; exact Rat.mul_nonneg (Rat.le_of_lt (pw_pos n)) (rr_nn _)
  constructor <;> grind
 have p := e2.mul hsum
 have q : pw n * rr (Fl.rg x) * (pw n * rr (Fl.rg x)) + v * v - pw n * pw n * (rr (Fl.rg x) * rr (Fl.rg x) + rr (Fl.rg y) * rr (Fl.rg y)) = (v - w) * (v + w) := by
  rw [← hw]; grind
 rw [q]
 unfold Ab at *
 constructor <;> grind
/-- four places down are not above, four places up are not below -/
theorem down_ok {D L M n e h : Rat} (hh : h = 1 / 9007199254740992) (h0 : 0 ≤ D) (he : 0 < e) (hM : 0 ≤ M) (d1 : D + 4 * e ≤ L) (d2 : D + 4 * h * D ≤ L) (hm : M * M ≤ n + 24 / 5 * (h * n)) (hc : L = M ∨ (Ab (L - M) (2 * e) ∧ 2 * (h * D) ≤ e)) : D * D ≤ n := by
 have dd := sq_nn D
 have key : D * D + 24 / 5 * (h * (D * D)) ≤ M * M → D * D ≤ n := by
  intro k
  subst hh
  generalize D * D = X at *
  generalize M * M = Y at *
  grind
 refine key ?_
 rcases hc with rfl | ⟨h1, h2⟩
 ·
  have k := Rat.mul_le_mul_of_nonneg_left d2 (show 0 ≤ D + 4 * h * D by subst hh; grind)
  have k2 := Rat.mul_le_mul_of_nonneg_right d2 hM
  have e1 : (D + 4 * h * D) * (D + 4 * h * D) = D * D + 8 * (h * (D * D)) + 16 * (h * h * (D * D)) := by grind
  rw [e1] at k
  clear e1
  subst hh
  have c : (D + 4 * (1 / 9007199254740992) * D) * L = L * (D + 4 * (1 / 9007199254740992) * D) := by grind
  rw [c] at k
  have c2 : (D + 4 * (1 / 9007199254740992) * D) * L = L * (D + 4 * (1 / 9007199254740992) * D) := by grind
  generalize D * D = X at *
  generalize L * (D + 4 * (1 / 9007199254740992) * D) = Z at *
  generalize L * L = Y at *
  grind
 ·
  unfold Ab at h1
  have d3 : D + 2 * e ≤ M := by grind
  have k := Rat.mul_le_mul_of_nonneg_left d3 (show 0 ≤ D + 2 * e by grind)
  have k2 := Rat.mul_le_mul_of_nonneg_right d3 hM
  have k3 := Rat.mul_le_mul_of_nonneg_right h2 h0
  have e1 : (D + 2 * e) * (D + 2 * e) = D * D + 4 * (e * D) + 4 * (e * e) := by grind
  have ee := sq_nn e
  have c : (D + 2 * e) * M = M * (D + 2 * e) := by grind
  rw [e1, c] at k
  rw [c] at k2
  have c3 : 2 * (h * D) * D = 2 * (h * (D * D)) := by grind
  have w0 : 0 ≤ e * D := Rat.mul_nonneg (Rat.le_of_lt he) h0
  rw [c3] at k3
  generalize D * D = X at *
  generalize M * M = Y at *
  generalize M * (D + 2 * e) = Z at *
  generalize e * D = W at *
  generalize e * e = V at *
  generalize h * X = U at *
  grind
theorem up_ok {E L M n e h : Rat} (hh : h = 1 / 9007199254740992) (hL : 0 ≤ L) (he : 0 < e) (hM : 0 ≤ M) (d1 : L + 4 * e ≤ E) (d2 : L + 4 * h * L ≤ E) (hm : n ≤ M * M + 24 / 5 * (h * n)) (hc : L = M ∨ (Ab (L - M) (2 * e) ∧ 2 * (h * E) ≤ e + e / 100)) : n ≤ E * E := by
 have hE : 0 ≤ E := by grind
 have ee := sq_nn E
 have key : M * M + 24 / 5 * (h * (E * E)) ≤ E * E → n ≤ E * E := by
  intro k
  subst hh
  generalize E * E = X at *
  generalize M * M = Y at *
  grind
 refine key ?_
 rcases hc with rfl | ⟨h1, h2⟩
 ·
  -- E * E against the square of what is below
  have a1 : 0 ≤ L + 4 * h * L := by subst hh; grind
  have k := Rat.mul_le_mul_of_nonneg_left d2 hE
  have k2 := Rat.mul_le_mul_of_nonneg_right d2 a1
  have e1 : (L + 4 * h * L) * (L + 4 * h * L) = L * L + 8 * (h * (L * L)) + 16 * (h * h * (L * L)) := by grind
  have c : (L + 4 * h * L) * E = E * (L + 4 * h * L) := by grind
  rw [e1] at k2
  have ll := sq_nn L
  clear e1 c
  subst hh
  generalize E * (L + 4 * (1 / 9007199254740992) * L) = Z at *
  generalize L * L = Y at *
  generalize E * E = X at *
  grind
 ·
  unfold Ab at h1
  have d3 : M ≤ E - 2 * e := by grind
  have d4 : 0 ≤ E - 2 * e := by grind
  have k := Rat.mul_le_mul_of_nonneg_left d3 hM
  have k2 := Rat.mul_le_mul_of_nonneg_right d3 d4
  have k3 := Rat.mul_le_mul_of_nonneg_right h2 hE
  have k4 := Rat.mul_le_mul_of_nonneg_left (show 4 * e ≤ E by grind) (Rat.le_of_lt he)
  have e1 : (E - 2 * e) * (E - 2 * e) = E * E - 4 * (e * E) + 4 * (e * e) := by grind
  have e2 : 2 * (h * E) * E = 2 * (h * (E * E)) := by grind
  have e3 : (e + e / 100) * E = e * E + e * E / 100 := by grind
  have e4 : e * (4 * e) = 4 * (e * e) := by grind
  rw [e1] at k2
  rw [e2, e3] at k3
  rw [e4] at k4
  clear e1 e2 e3 e4
  have w0 : 0 ≤ e * E := Rat.mul_nonneg (Rat.le_of_lt he) hE
  generalize M * (E - 2 * e) = Z at *
  generalize E * E = X at *
  generalize M * M = Y at *
  generalize e * E = W at *
  generalize e * e = V at *
  generalize h * X = U at *
  grind
theorem nq_big {a b : Nat} (na : Fl.nan a = false) (nb : Fl.nan b = false) : nq a b = rr (bigF a b) * rr (bigF a b) + rr (smaF a b) * rr (smaF a b) := by
 unfold nq
 rcases (sma_big a b na nb).2 with ⟨e1, e2⟩ | ⟨e1, e2⟩
 · rw [e1, e2]
 · rw [e1, e2]; grind
theorem rr_top : rr 4503599627370496 = 4503599627370496 * en ∧ rr 4503599627370500 = 4503599627370500 * en := by
 constructor
 · unfold rr; rw [show Fl.vl 4503599627370496 = 4503599627370496 by decide]; rfl
 · unfold rr; rw [show Fl.vl 4503599627370500 = 4503599627370500 by decide]; rfl
/-- a length is between the floats four places beside it -/
theorem len_true {a b r : Nat} (ha : a < 18446744073709551616) (hb : b < 18446744073709551616) (fa : Fl.rg a < 9218868437227405312) (fb : Fl.rg b < 9218868437227405312) (hz : ¬ bigF a b = 0) (h : lenP a b r) :
  0 < nq a b ∧ Fl.sg r = false ∧ Fl.rg r ≤ 9218868437227405312 ∧ ¬ Fl.rg r = 0 ∧
  (∀ d, d + 4 = (if Fl.rg r < 9218868437227405312 then Fl.rg r else 9218868437227405311) → rr d * rr d ≤ nq a b) ∧
  (Fl.rg r < 9218868437227405312 → nq a b ≤ rr (Fl.rg r + 4) * rr (Fl.rg r + 4) ∧ nq a b ≤ (2 * rr 9218868437227405311) * (2 * rr 9218868437227405311)) := by
 have na : Fl.nan a = false := by unfold Fl.nan; exact decide_eq_false (by omega)
 have nb : Fl.nan b = false := by unfold Fl.nan; exact decide_eq_false (by omega)
 obtain ⟨l, ht, rfl⟩ := h
 obtain ⟨hsb, hs2⟩ := sma_big a b na nb
 have hbl : bigF a b < 9218868437227405312 := by rcases hs2 with ⟨e1, e2⟩ | ⟨e1, e2⟩ <;> omega
 obtain ⟨rU, sU⟩ := rg_rung (r := bigF a b) (by omega)
 obtain ⟨rV, sV⟩ := rg_rung (r := smaF a b) (by omega)
 have nb' := nq_big na nb
 generalize bigF a b = U at *
 generalize smaF a b = V at *
 have ek : paE U = ptE U := pa_pt (by omega) (by omega)
 rw [ek] at ht ⊢
 obtain ⟨g, hg⟩ : ∃ g, g = 1021 := ⟨_, rfl⟩
 obtain ⟨u1, u2, u3, u4⟩ := unit_form (x := U) g hg (by omega) (by omega) (by omega)
 obtain ⟨s1, s2, s3, s4⟩ := scaled_near (x := U) (y := V) (-ptE U) (by omega) (by omega) u3 (by omega)
 obtain ⟨l1, l2, l3, l4, l5⟩ := tog_near (sg_scF0 sU (by omega) _) (sg_scF0 sV (by omega) _) (by omega) (by omega) (Or.inl u3) ht
 obtain ⟨q1, q2, q3, q4, q5⟩ := len_low (x := U) (y := V) (by omega) (by omega) (by omega) sU sV (by omega) ht
 have hpw := pw_neg (ptE U)
 have hpp := pw_pos (ptE U)
 rw [rU, rV, ← nb'] at s4
 generalize nq a b = n at *
 generalize hk : ptE U = k at *
 -- the square of the length next to 1
 have he := en_pos
 have hes := en_small
 have hS : 1 / 4 ≤ rr (Fl.rg (scF U (-k))) * rr (Fl.rg (scF U (-k))) + rr (Fl.rg (scF V (-k))) * rr (Fl.rg (scF V (-k))) := by
  have c' := rr_le u3
  rw [rr_half] at c'
  have := Rat.mul_le_mul_of_nonneg_left c' (show 0 ≤ rr (Fl.rg (scF U (-k))) by grind)
  have := sq_nn (rr (Fl.rg (scF V (-k))))
  grind
 generalize rr (Fl.rg (scF U (-k))) * rr (Fl.rg (scF U (-k))) + rr (Fl.rg (scF V (-k))) * rr (Fl.rg (scF V (-k))) = S at *
 have hN : Ab (rr l * rr l - pw (-k) * pw (-k) * n) (24 / 5 * (1 / 9007199254740992 * (pw (-k) * pw (-k) * n))) ∧ 1 / 8 ≤ pw (-k) * pw (-k) * n := by
  clear s1 s2 hpw
  generalize pw (-k) * pw (-k) * n = N at *
  generalize rr l * rr l = L at *
  unfold Ab at *
  obtain ⟨x1, x2⟩ := s4
  obtain ⟨y1, y2⟩ := l5
  refine ⟨⟨?_, ?_⟩, ?_⟩ <;> grind
 obtain ⟨hN, hN8⟩ := hN
 -- scaled back
 have hM0 : 0 ≤ pw k * rr l := Rat.mul_nonneg (Rat.le_of_lt hpp) (rr_nn l)
 have hn0 : 0 < n := by
  rcases Classical.em (0 < n) with c | c
  · exact c
  ·
   exfalso
   have c := Rat.not_lt.1 c
   have := Rat.mul_nonneg (Rat.le_of_lt (Rat.mul_pos (pw_pos (-k)) (pw_pos (-k)))) (show 0 ≤ -n by grind)
   grind
 have hMn : Ab (pw k * rr l * (pw k * rr l) - n) (24 / 5 * (1 / 9007199254740992 * n)) := by
  have pp : 0 ≤ pw k * pw k := Rat.le_of_lt (Rat.mul_pos hpp hpp)
  obtain ⟨x1, x2⟩ := hN
  have k1 := Rat.mul_le_mul_of_nonneg_left x1 pp
  have k2 := Rat.mul_le_mul_of_nonneg_left x2 pp
  have e1 : pw k * pw k * (pw (-k) * pw (-k) * n) = n := by
   have : pw k * pw k * (pw (-k) * pw (-k) * n) = (pw k * pw (-k)) * (pw k * pw (-k)) * n := by grind
   rw [this, hpw]; grind
  have e2 : pw k * pw k * (rr l * rr l - pw (-k) * pw (-k) * n) = pw k * rr l * (pw k * rr l) - n := by
   rw [← e1]; grind
  have e3 : pw k * pw k * (24 / 5 * (1 / 9007199254740992 * (pw (-k) * pw (-k) * n))) = 24 / 5 * (1 / 9007199254740992 * n) := by
   have : pw k * pw k * (24 / 5 * (1 / 9007199254740992 * (pw (-k) * pw (-k) * n))) = 24 / 5 * (1 / 9007199254740992 * (pw k * pw k * (pw (-k) * pw (-k) * n))) := by grind
   rw [this, e1]
  have e4 : pw k * pw k * -(24 / 5 * (1 / 9007199254740992 * (pw (-k) * pw (-k) * n))) = -(24 / 5 * (1 / 9007199254740992 * n)) := by rw [← e3]; grind
  rw [e2, e4] at k1
  rw [e2, e3] at k2
  exact ⟨k1, k2⟩
 obtain ⟨top1, top2⟩ := rr_top
 have m1 : pw k * rr l * (pw k * rr l) ≤ n + 24 / 5 * (1 / 9007199254740992 * n) := by
  have := hMn.2; grind
 have m2 : n ≤ pw k * rr l * (pw k * rr l) + 24 / 5 * (1 / 9007199254740992 * n) := by
  have := hMn.1; grind
 clear hMn hN hN8 hpw s4 l5 s2 s1 hS nb'
 refine ⟨hn0, q1, q3, by omega, ?_, ?_⟩
 ·
  intro d hd
  obtain ⟨d1, d2⟩ := rr_four d
  by_cases hr : Fl.rg (scF l k) < 9218868437227405312
  ·
   rw [if_pos hr] at hd
   obtain ⟨t1, t2⟩ := rr_scale (x := l) k (by omega) hr
   rw [l2] at t1 t2
   rw [hd] at d1 d2
   refine down_ok rfl (rr_nn d) he hM0 d1 (by grind) m1 ?_
   by_cases c : 4503599627370496 < Fl.rg (scF l k)
   · exact Or.inl (t2 c)
   ·
    have b := rr_le (Nat.le_of_not_lt c)
    rw [top1] at b
    refine Or.inr ⟨t1, ?_⟩
    clear m1 m2 t1 t2 d2
    grind
  ·
   rw [if_neg hr] at hd
   have t := rr_scale_far (x := l) k (by omega) (by omega) hr
   rw [l2] at t
   rw [hd] at d1 d2
   refine down_ok (L := pw k * rr l) rfl (rr_nn d) he hM0 (by grind) (by grind) m1 (Or.inl rfl)
 ·
  intro hr
  obtain ⟨t1, t2⟩ := rr_scale (x := l) k (by omega) hr
  rw [l2] at t1 t2
  obtain ⟨d1, d2⟩ := rr_four (Fl.rg (scF l k))
  refine ⟨up_ok rfl (rr_nn _) he hM0 d1 (by grind) m2 ?_, ?_⟩
  ·
   by_cases c : 4503599627370496 < Fl.rg (scF l k)
   · exact Or.inl (t2 c)
   ·
    have b := rr_le (show Fl.rg (scF l k) + 4 ≤ 4503599627370500 by omega)
    rw [top2] at b
    refine Or.inr ⟨t1, ?_⟩
    clear m1 m2 t1 t2 d2 d1
    grind
  ·
   have b := rr_le (show Fl.rg (scF l k) ≤ 9218868437227405311 by omega)
   have b2 := rr_le (show 4602678819172646912 ≤ 9218868437227405311 by omega)
   rw [rr_half] at b2
   unfold Ab at t1
   have b3 : pw k * rr l ≤ 3 / 2 * rr 9218868437227405311 := by
    clear m1 m2 t2 d1 d2
    grind
   have x0 : 0 ≤ 3 / 2 * rr 9218868437227405311 := by grind
   have k1 := Rat.mul_le_mul_of_nonneg_left b3 hM0
   have k2 := Rat.mul_le_mul_of_nonneg_right b3 x0
   have xx := sq_nn (rr 9218868437227405311)
   clear t1 t2 d1 d2 m1 b b2 b3
   generalize rr 9218868437227405311 = X at *
   generalize pw k * rr l = M at *
   have e1 : 3 / 2 * X * (3 / 2 * X) = 9 / 4 * (X * X) := by grind
   have e2 : (2 * X) * (2 * X) = 4 * (X * X) := by grind
   rw [e1] at k2
   rw [e2]
   generalize X * X = Y at *
   generalize M * (3 / 2 * X) = Z at *
   generalize M * M = W at *
   clear e1 e2
   grind
end Go.Proofs.YtfgfofedacehiaaGreat.Rt

/-
 OWN TEXT: how far roots are from the true ones: quotients; the greater part.
-/
set_option linter.unusedVariables false
set_option exponentiation.threshold 3000
namespace Go.Proofs.YtfgfofedacehiaaGreat.Rt
open Sv (en en_unit en_pos Ab unit_of pos_of)
theorem rr_quo {a b x : Nat} (fa : Fl.rg a < 9218868437227405312) (fb : Fl.rg b < 9218868437227405312) (h0 : ¬ Fl.rg b = 0) (h : opR .quo a b x) :
  ∃ R, x = Fl.wd (Fl.sg a ^^ Fl.sg b) R ∧ R ≤ 9218868437227405312 ∧ (R < 9218868437227405312 → Ab (rr R * rr (Fl.rg b) - rr (Fl.rg a)) (1 / 2251799813685248 * rr (Fl.rg a) + 2 * (en * rr (Fl.rg b)))) ∧
   (¬ R < 9218868437227405312 → rr 9218868437227405311 * rr (Fl.rg b) ≤ 2 * rr (Fl.rg a)) := by
 obtain ⟨c, hc⟩ : ∃ c : Nat, c = 1074 := ⟨_, rfl⟩
 have hu : ((2 ^ c : Nat) : Rat) * en = 1 := by rw [hc]; exact en_unit
 obtain ⟨R, h1, h2, h3, h4⟩ := Fl.div_errF c hc fa fb h0
 obtain ⟨Q, e, S, g1, g2, g3, g4⟩ := Fl.div_form c hc fa fb h0
 have he := en_pos
 have eR : Fl.rq Q e = R := by
  have := h1.symm.trans g1
  have := Option.some.inj this
  have k := congrArg Fl.rg this
  rw [Fl.rg_wd _ _ (by omega), Fl.rg_wd _ _ (by have := Fl.rq_le Q e; omega)] at k
  exact k.symm
 have ex : x = Fl.wd (Fl.sg a ^^ Fl.sg b) R := by
  rcases h.2 with k | k
  · exact Option.some.inj (k.symm.trans h1)
  · exact absurd (h1.symm.trans k.1) (by intro c; cases c)
 clear hc
 refine ⟨R, ex, h2, fun hr => ?_, fun hr => ?_⟩
 ·
  obtain ⟨k1, k2⟩ := h4 hr
  have k1 := nat_le k1
  have k2 := nat_le k2
  simp only [nat_add, nat_mul] at k1 k2
  unfold rr
  generalize (Fl.vl R : Rat) = V at *
  generalize (Fl.vl (Fl.rg a) : Rat) = X at *
  generalize (Fl.vl (Fl.rg b) : Rat) = Y at *
  generalize ((2 ^ c : Nat) : Rat) = W at *
  have f1 := Rat.mul_le_mul_of_nonneg_right k1 (Rat.le_of_lt (Rat.mul_pos he he))
  have f2 := Rat.mul_le_mul_of_nonneg_right k2 (Rat.le_of_lt (Rat.mul_pos he he))
  have q1 : X * W * (en * en) = X * en := by
   have : X * W * (en * en) = X * en * (W * en) := by grind
   rw [this, hu]; grind
  have c1 : ((2251799813685248 : Nat) : Rat) = 2251799813685248 := rfl
  have c2 : ((4503599627370496 : Nat) : Rat) = 4503599627370496 := rfl
  rw [c1, c2] at f1 f2
  have r1 : 2251799813685248 * (V * Y * (en * en)) ≤ 2251799813685248 * (X * W * (en * en)) + (X * W * (en * en) + 4503599627370496 * (Y * en * en)) := by grind
  have r2 : 2251799813685248 * (X * W * (en * en)) ≤ 2251799813685248 * (V * Y * (en * en)) + (X * W * (en * en) + 4503599627370496 * (Y * en * en)) := by grind
  rw [q1] at r1 r2
  have z1 : V * en * (Y * en) = V * Y * (en * en) := by grind
  have z2 : en * (Y * en) = Y * en * en := by grind
  rw [z1, z2]
  generalize V * Y * (en * en) = A at *
  generalize Y * en * en = B at *
  generalize X * en = C at *
  clear f1 f2 k1 k2 z1 z2 q1
  constructor <;> grind
 ·
  rw [← eR] at hr
  have g : Fl.vl 9218868437227405311 * 2 ^ e ≤ Q := by
   rcases Nat.lt_or_ge Q (Fl.vl 9218868437227405311 * 2 ^ e) with c | c
   ·
    exfalso
    have m := Fl.rq_mono _ _ e (Nat.le_of_lt c)
    have e' := Fl.rq_mul (Fl.vl 9218868437227405311) e 0
    rw [Nat.zero_add, Fl.rq_vl _ (by omega)] at e'
    omega
   · exact c
  have k1 := nat_le g
  have k2 := nat_le g2
  have k3 := nat_le g3
  have k4 := nat_le g4
  simp only [nat_add, nat_mul] at k1 k2 k3 k4
  have f1 := Rat.mul_le_mul_of_nonneg_right k3 (Rat.le_of_lt (Rat.mul_pos he he))
  have u2 := unit_of e
  have p2 := pos_of e
  unfold rr
  have hS0 : (0 : Rat) ≤ (S : Rat) := by exact_mod_cast Nat.zero_le _
  generalize (Fl.vl 9218868437227405311 : Rat) = M at *
  generalize (Fl.vl (Fl.rg a) : Rat) = X at *
  generalize hY : (Fl.vl (Fl.rg b) : Rat) = Y at *
  generalize ((2 ^ c : Nat) : Rat) = W at *
  generalize ((2 ^ e : Nat) : Rat) = V at *
  generalize V⁻¹ = I at *
  generalize (Q : Rat) = Q at *
  generalize (S : Rat) = S at *
  have hY0 : 0 ≤ Y := by rw [← hY]; exact_mod_cast Nat.zero_le _
  have m0 := Rat.mul_le_mul_of_nonneg_left k1 hY0
  have m4 := Rat.mul_le_mul_of_nonneg_left k4 hY0
  have c1 : ((9007199254740992 : Nat) : Rat) = 9007199254740992 := rfl
  rw [c1] at m4
  -- Y M V <= Y Q <= 2 X W V
  have g1 : Y * (M * V) ≤ 2 * (X * W * V) := by
   have : Y * (9007199254740992 * S) = 9007199254740992 * (Y * S) := by grind
   rw [this] at m4
   have q0 : 0 ≤ X * W * V := by
    rw [← c1] at m4
    have : 0 ≤ Y * S := Rat.mul_nonneg hY0 hS0
    grind
   grind
  have g2 := Rat.mul_le_mul_of_nonneg_right g1 (Rat.le_of_lt (Rat.mul_pos p2 (Rat.mul_pos he he)))
  have e1 : Y * (M * V) * (I * (en * en)) = M * en * (Y * en) := by
   have : Y * (M * V) * (I * (en * en)) = M * en * (Y * en) * (V * I) := by grind
   rw [this, u2]; grind
  have e2 : 2 * (X * W * V) * (I * (en * en)) = 2 * (X * en) := by
   have : 2 * (X * W * V) * (I * (en * en)) = 2 * (X * en) * (W * en) * (V * I) := by grind
   rw [this, u2, hu]; grind
  rw [e1, e2] at g2
  exact g2
theorem sq_le {a b : Rat} (hb : 0 ≤ b) (h : a * a ≤ b * b) : a ≤ b := by
 rcases Classical.em (a ≤ b) with c | c
 · exact c
 ·
  exfalso
  have c := Rat.not_le.1 c
  have ha : 0 < a := by grind
  have k1 := Rat.mul_lt_mul_of_pos_right c ha
  have k2 := Rat.mul_le_mul_of_nonneg_left (Rat.le_of_lt c) hb
  have : b * a = a * b := by grind
  grind
/-- how far a root's square is from the number -/
theorem root_rat {e X Y L s q d n : Rat} (he : 0 < e) (hX : 0 ≤ X) (hY : 0 ≤ Y) (hL : 0 ≤ L) (hs : 0 ≤ s) (hq0 : 0 ≤ q) (hd0 : 0 ≤ d) (hn0 : 0 < n) (hn : n = X * X + Y * Y)
  (hl : Ab (L * L - n) (24 / 5 * (1 / 9007199254740992 * n))) (hP : Ab (2 * (s * s) - (X + L)) (39 / 5 * (1 / 9007199254740992 * (X + L)))) (hd : Ab (d - 2 * s) (2 * (1 / 9007199254740992 * s) + e))
  (hq : Ab (q * d - Y) (4 * (1 / 9007199254740992 * Y) + 2 * (e * d))) (hes : 1606938044258990275541962092341162602522202993782792835301376 * e ≤ s) :
  (s * s - q * q - X) * (s * s - q * q - X) + (2 * (s * q) - Y) * (2 * (s * q) - Y) ≤ n * (1024 * (1 / 9007199254740992 * (1 / 9007199254740992))) := by
 have XX := sq_nn X
 have YY := sq_nn Y
 have LL := sq_nn L
 have hl1 : n ≤ L * L + 5 * (1 / 9007199254740992 * (L * L)) := by unfold Ab at hl; grind
 have hl2 : L * L ≤ n + 5 * (1 / 9007199254740992 * n) := by unfold Ab at hl; grind
 have e1 : (L + 3 * (1 / 9007199254740992 * L)) * (L + 3 * (1 / 9007199254740992 * L)) = L * L + 6 * (1 / 9007199254740992 * (L * L)) + 9 * (1 / 9007199254740992 * (1 / 9007199254740992 * (L * L))) := by grind
 have bX : X ≤ L + 3 * (1 / 9007199254740992 * L) := sq_le (by grind) (by rw [e1]; grind)
 have bY : Y ≤ L + 3 * (1 / 9007199254740992 * L) := sq_le (by grind) (by rw [e1]; grind)
 clear e1
 -- 2 s s
 have hE : Ab (2 * (s * s) - (X + L)) (157 / 10 * (1 / 9007199254740992 * L)) := by unfold Ab at *; constructor <;> grind
 -- products with e
 have k1 := Rat.mul_le_mul_of_nonneg_right hes hs
 have k2 := Rat.mul_le_mul_of_nonneg_right hes hq0
 have k3 := Rat.mul_le_mul_of_nonneg_right hes hd0
 have k4 := Rat.mul_le_mul_of_nonneg_left hd.2 hs
 have k5 := Rat.mul_le_mul_of_nonneg_left hd.2 hq0
 have k6 := Rat.mul_le_mul_of_nonneg_left hd.1 hq0
 have es0 : 0 ≤ e * s := Rat.mul_nonneg (Rat.le_of_lt he) hs
 have eq0 : 0 ≤ e * q := Rat.mul_nonneg (Rat.le_of_lt he) hq0
 have ed0 : 0 ≤ e * d := Rat.mul_nonneg (Rat.le_of_lt he) hd0
 have sq0 : 0 ≤ s * q := Rat.mul_nonneg hs hq0
 have hDY : Ab (2 * (s * q) - Y) (26 / 5 * (1 / 9007199254740992 * L)) := by
  have a1 : s * (d - 2 * s) = s * d - 2 * (s * s) := by grind
  have a2 : s * (2 * (1 / 9007199254740992 * s) + e) = 2 * (1 / 9007199254740992 * (s * s)) + e * s := by grind
  have a3 : q * (d - 2 * s) = q * d - 2 * (s * q) := by grind
  have a4 : q * (2 * (1 / 9007199254740992 * s) + e) = 2 * (1 / 9007199254740992 * (s * q)) + e * q := by grind
  have a5 : q * -(2 * (1 / 9007199254740992 * s) + e) = -(2 * (1 / 9007199254740992 * (s * q)) + e * q) := by grind
  rw [a1, a2] at k4
  rw [a3, a4] at k5
  rw [a3, a5] at k6
  have a6 : 1606938044258990275541962092341162602522202993782792835301376 * e * s = 1606938044258990275541962092341162602522202993782792835301376 * (e * s) := by grind
  have a7 : 1606938044258990275541962092341162602522202993782792835301376 * e * q = 1606938044258990275541962092341162602522202993782792835301376 * (e * q) := by grind
  have a8 : 1606938044258990275541962092341162602522202993782792835301376 * e * d = 1606938044258990275541962092341162602522202993782792835301376 * (e * d) := by grind
  rw [a6] at k1
  rw [a7] at k2
  rw [a8] at k3
  clear a1 a2 a3 a4 a5 a6 a7 a8 hl hP hd hn
  generalize s * s = S2 at *
  generalize s * q = B at *
  generalize s * d = D2 at *
  generalize q * d = A at *
  generalize e * s = ES at *
  generalize e * q = EQ at *
  generalize e * d = ED at *
  unfold Ab at *
  obtain ⟨x1, x2⟩ := hq
  obtain ⟨y1, y2⟩ := hE
  constructor <;> grind
 have hL0 : 0 < L := by
  rcases Classical.em (0 < L) with c | c
  · exact c
  ·
   exfalso
   have : L = 0 := by grind
   rw [this] at hl1
   grind
 clear k1 k2 k3 k4 k5 k6 es0 eq0 ed0 hes hd hq
 generalize hG : 2 * (s * s) - (X + L) = G at *
 generalize hD : 2 * (s * q) - Y = D at *
 have T : 4 * (s * s) * (s * s - q * q - X) = (L * L - n) + 2 * (L * G) + G * G - 2 * (Y * D) - D * D := by
  rw [← hG, ← hD, hn]
  grind
 have hLL : Ab L L := by unfold Ab; constructor <;> grind
 have hYY : Ab Y (L + 3 * (1 / 9007199254740992 * L)) := by unfold Ab; constructor <;> grind
 have b1 := hLL.mul hE
 have b2 := hE.mul hE
 have b3 := hYY.mul hDY
 have b4 := hDY.mul hDY
 have r1 : L * (157 / 10 * (1 / 9007199254740992 * L)) = 157 / 10 * (1 / 9007199254740992 * (L * L)) := by grind
 have r2 : 157 / 10 * (1 / 9007199254740992 * L) * (157 / 10 * (1 / 9007199254740992 * L)) = 24649 / 100 * (1 / 9007199254740992 * (1 / 9007199254740992 * (L * L))) := by grind
 have r3 : (L + 3 * (1 / 9007199254740992 * L)) * (26 / 5 * (1 / 9007199254740992 * L)) = 26 / 5 * (1 / 9007199254740992 * (L * L)) + 78 / 5 * (1 / 9007199254740992 * (1 / 9007199254740992 * (L * L))) := by grind
 have r4 : 26 / 5 * (1 / 9007199254740992 * L) * (26 / 5 * (1 / 9007199254740992 * L)) = 676 / 25 * (1 / 9007199254740992 * (1 / 9007199254740992 * (L * L))) := by grind
 rw [r1] at b1
 rw [r2] at b2
 rw [r3] at b3
 rw [r4] at b4
 have hT : Ab (4 * (s * s) * (s * s - q * q - X)) (47 * (1 / 9007199254740992 * (L * L))) := by
  rw [T]
  clear T r1 r2 r3 r4 hE hDY hG hD hn hP
  generalize L * L = M at *
  generalize L * G = LG at *
  generalize G * G = GG at *
  generalize Y * D = YD at *
  generalize D * D = DD at *
  unfold Ab at *
  obtain ⟨x1, x2⟩ := b1
  obtain ⟨y1, y2⟩ := b2
  obtain ⟨z1, z2⟩ := b3
  obtain ⟨w1, w2⟩ := b4
  constructor <;> grind
 have hS : 2 * L - 32 * (1 / 9007199254740992 * L) ≤ 4 * (s * s) := by
  unfold Ab at hE
  grind
 have hp : 0 < 2 * L - 32 * (1 / 9007199254740992 * L) := by grind
 have hDX : Ab (s * s - q * q - X) (24 * (1 / 9007199254740992 * L)) := by
  clear T b1 b2 b3 b4 r1 r2 r3 r4 hE hDY hP hl hl1 hl2
  generalize s * s - q * q - X = F at *
  generalize 4 * (s * s) = W at *
  have c0 : (2 * L - 32 * (1 / 9007199254740992 * L)) * (24 * (1 / 9007199254740992 * L)) = 48 * (1 / 9007199254740992 * (L * L)) - 768 * (1 / 9007199254740992 * (1 / 9007199254740992 * (L * L))) := by grind
  have pos : 0 < L * L := Rat.mul_pos hL0 hL0
  have one : ∀ F : Rat, W * F ≤ 47 * (1 / 9007199254740992 * (L * L)) → F ≤ 24 * (1 / 9007199254740992 * L) := by
   intro F hF
   rcases Classical.em (F ≤ 24 * (1 / 9007199254740992 * L)) with c | c
   · exact c
   ·
    exfalso
    have c := Rat.not_le.1 c
    have hF0 : 0 ≤ F := by grind
    have q1 := Rat.mul_le_mul_of_nonneg_right hS hF0
    have q2 := Rat.mul_le_mul_of_nonneg_left (Rat.le_of_lt c) (Rat.le_of_lt hp)
    rw [c0] at q2
    grind
  unfold Ab at hT ⊢
  have o1 := one F hT.2
  have o2 := one (-F) (by grind)
  constructor <;> grind
 have b5 := hDX.mul hDX
 have r5 : 24 * (1 / 9007199254740992 * L) * (24 * (1 / 9007199254740992 * L)) = 576 * (1 / 9007199254740992 * (1 / 9007199254740992 * (L * L))) := by grind
 rw [r5] at b5
 clear T b1 b2 b3 r1 r2 r3 r4 r5 hE hDY hP hl hT hS hp hDX hn
 generalize (s * s - q * q - X) * (s * s - q * q - X) = U at *
 generalize D * D = V at *
 generalize L * L = M at *
 unfold Ab at *
 obtain ⟨x1, x2⟩ := b5
 obtain ⟨y1, y2⟩ := b4
 grind
end Go.Proofs.YtfgfofedacehiaaGreat.Rt

