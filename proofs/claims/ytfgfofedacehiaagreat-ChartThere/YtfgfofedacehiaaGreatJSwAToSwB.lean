/-
 OWN TEXT: how far a difference, a product, a quotient of floats is from the true one, as fractions.
-/
import Derived.Test.YtfgfofedacehiaaGreatJRpAToEqA
import Derived.Test.YtfgfofedacehiaaGreatJFlCToFlG
namespace Go.Proofs.YtfgfofedacehiaaGreat.Fl
set_option linter.unusedVariables false
theorem log2_mono4 {n n' : Nat} (h0 : n ≠ 0) (h : n ≤ n') : n.log2 ≤ n'.log2 := (Nat.le_log2 (by omega)).2 (Nat.le_trans (log2_le n h0) h)
theorem rne_mono4 (n n' s : Nat) (h : n ≤ n') : rne n s ≤ rne n' s := by
 have hp := Nat.two_pow_pos s
 have d1 := Nat.div_add_mod n (2 ^ s)
 have d2 := Nat.div_add_mod n' (2 ^ s)
 have m1 := Nat.mod_lt n hp
 have m2 := Nat.mod_lt n' hp
 have hq : n / 2 ^ s ≤ n' / 2 ^ s := Nat.div_le_div_right h
 unfold rne
 rcases Nat.lt_or_ge (n / 2 ^ s) (n' / 2 ^ s) with c | c
 · split <;> split <;> omega
 ·
  have e : n / 2 ^ s = n' / 2 ^ s := by omega
  rw [e] at d1 ⊢
  have hm : n % 2 ^ s ≤ n' % 2 ^ s := by omega
  split <;> split <;> omega
theorem rq_mono4 (n n' d : Nat) (h : n ≤ n') : rq n d ≤ rq n' d := by
 by_cases h0 : n = 0
 · unfold rq; rw [if_pos h0]; exact Nat.zero_le _
 ·
  have h0' : n' ≠ 0 := by omega
  have hl := log2_mono4 h0 h
  unfold rq
  rw [if_neg h0, if_neg h0']
  by_cases c : n.log2 - (52 + d) = n'.log2 - (52 + d)
  ·
   rw [c]
   have := rne_mono4 n n' (n'.log2 - (52 + d) + d) h
   omega
  ·
   have a1 : rne n (n.log2 - (52 + d) + d) ≤ 9007199254740992 := by
    refine rne_le _ _ _ ?_
    have := log2_lt n h0
    rw [show (9007199254740992 : Nat) = 2 ^ 53 by decide, ← Nat.pow_add]
    exact Nat.le_of_lt (Nat.lt_of_lt_of_le this (Nat.pow_le_pow_right (by decide) (by omega)))
   have a2 : 4503599627370496 ≤ rne n' (n'.log2 - (52 + d) + d) := by
    refine le_rne _ _ _ ?_
    have := log2_le n' h0'
    rw [show (4503599627370496 : Nat) = 2 ^ 52 by decide, ← Nat.pow_add]
    exact Nat.le_trans (Nat.pow_le_pow_right (by decide) (by omega)) this
   omega
theorem rq_err (n d : Nat) (hf : rq n d < 9218868437227405312) : ∃ e, vl (rq n d) * 2 ^ d ≤ n + e ∧ n ≤ vl (rq n d) * 2 ^ d + e ∧ 4503599627370496 * e ≤ n + 4503599627370496 * 2 ^ d := by
 by_cases z : n = 0
 ·
  subst z
  have : rq 0 d = 0 := by unfold rq; rfl
  rw [this, show vl 0 = 0 by decide]
  exact ⟨0, by omega, by omega, by omega⟩
 ·
  obtain ⟨k, hk⟩ : ∃ k, k = n.log2 - (52 + d) := ⟨_, rfl⟩
  have hl := log2_lt n z
  have hl2 := log2_le n z
  have hp := Nat.two_pow_pos (k + d)
  have m1 : rne n (k + d) ≤ 9007199254740992 := by
   refine rne_le _ _ _ ?_
   rw [show (9007199254740992 : Nat) = 2 ^ 53 from rfl, ← Nat.pow_add]
   have : 2 ^ (n.log2 + 1) ≤ 2 ^ (53 + (k + d)) := Nat.pow_le_pow_right (by omega) (by omega)
   omega
  have m2 : k = 0 ∨ 4503599627370496 ≤ rne n (k + d) := by
   by_cases c : k = 0
   · exact Or.inl c
   ·
    right
    refine le_rne _ _ _ ?_
    rw [show (4503599627370496 : Nat) = 2 ^ 52 from rfl, ← Nat.pow_add, show 52 + (k + d) = n.log2 by omega]
    exact hl2
  have er : rq n d = k * 4503599627370496 + rne n (k + d) := by
   unfold rq at hf ⊢
   rw [if_neg z, ← hk] at hf ⊢
   omega
  have ev : vl (rq n d) * 2 ^ d = rne n (k + d) * 2 ^ (k + d) := by
   rw [er, vl_comb k _ m1 m2, Nat.mul_assoc, ← Nat.pow_add]
  rw [ev]
  have hb := rne_bounds n (k + d)
  refine ⟨2 ^ (k + d), by omega, by omega, ?_⟩
  by_cases c : k = 0
  · rw [c, Nat.zero_add]; omega
  ·
   have : 4503599627370496 * 2 ^ (k + d) ≤ n := by
    rw [show (4503599627370496 : Nat) = 2 ^ 52 from rfl, ← Nat.pow_add, show 52 + (k + d) = n.log2 by omega]
    exact hl2
   omega
theorem quo_parts (m n a b c M q r st : Nat) (hn : 0 < n) (hdm : n * q + r = m * 2 ^ M) (hr : r ≤ n * st) :
  n * 2 ^ b * ((2 * q + st) * 2 ^ (a + c)) ≤ m * 2 ^ a * 2 ^ c * 2 ^ (b + M + 1) + n * 2 ^ b * (st * 2 ^ (a + c)) ∧
  m * 2 ^ a * 2 ^ c * 2 ^ (b + M + 1) ≤ n * 2 ^ b * ((2 * q + st) * 2 ^ (a + c)) + n * 2 ^ b * (st * 2 ^ (a + c)) := by
 obtain ⟨W, hW⟩ : ∃ W, W = 2 ^ b * 2 ^ (a + c) := ⟨_, rfl⟩
 have e1 : n * 2 ^ b * ((2 * q + st) * 2 ^ (a + c)) = (2 * (n * q) + n * st) * W := by rw [hW]; grind
 have e2 : m * 2 ^ a * 2 ^ c * 2 ^ (b + M + 1) = (2 * (n * q) + 2 * r) * W := by
  rw [← Nat.mul_add, hdm, hW, Nat.pow_add, Nat.pow_add, Nat.pow_add]
  grind
 have e3 : n * 2 ^ b * (st * 2 ^ (a + c)) = n * st * W := by rw [hW]; grind
 rw [e1, e2, e3, ← Nat.add_mul, ← Nat.add_mul]
 exact ⟨Nat.mul_le_mul_right W (by omega), Nat.mul_le_mul_right W (by omega)⟩
theorem div_form {x y : Nat} (c : Nat) (hc : c = 1074) (hx : rg x < 9218868437227405312) (hy : rg y < 9218868437227405312) (h0 : ¬ rg y = 0) :
  ∃ Q e S, Ieee.double.div x y = some (wd (sg x ^^ sg y) (rq Q e)) ∧ vl (rg y) * Q ≤ vl (rg x) * 2 ^ c * 2 ^ e + vl (rg y) * S ∧ vl (rg x) * 2 ^ c * 2 ^ e ≤ vl (rg y) * Q + vl (rg y) * S ∧
   9007199254740992 * S ≤ Q := by
 obtain ⟨m, a, hm, em⟩ := read_fin hx
 obtain ⟨n, b, hn, en⟩ := read_fin hy
 have hn0 : n ≠ 0 := by
  intro e
  rw [e, Nat.zero_mul] at en
  exact vl_pos h0 en.symm
 have hY : 0 < vl (rg y) := by have := vl_pos h0; omega
 obtain ⟨M, hM⟩ : ∃ M, 52 + 2 + n.log2 - m.log2 = M := ⟨_, rfl⟩
 have hdm := Nat.div_add_mod (m * 2 ^ M) n
 obtain ⟨q, hq⟩ : ∃ q, m * 2 ^ M / n = q := ⟨_, rfl⟩
 obtain ⟨r, hr⟩ : ∃ r, m * 2 ^ M % n = r := ⟨_, rfl⟩
 have hrn : r < n := by rw [← hr]; exact Nat.mod_lt _ (by omega)
 rw [hq, hr] at hdm
 obtain ⟨st, hst⟩ : ∃ st, (r != 0).toNat = st := ⟨_, rfl⟩
 have hst0 : r = 0 → st = 0 := by intro e; rw [← hst, e]; rfl
 have hst1 : r ≠ 0 → st = 1 := by intro e; rw [← hst, show (r != 0) = true by simp [e]]; rfl
 have hrs : r ≤ n * st := by
  by_cases z : r = 0
  · omega
  · rw [hst1 z]; omega
 have hs2 : 9007199254740992 * st ≤ 2 * q + st := by
  by_cases z : m = 0
  ·
   have : r = 0 := by rw [← hr, z, Nat.zero_mul, Nat.zero_mod]
   rw [hst0 this]; omega
  ·
   have l1 := log2_le m z
   have l2 := log2_lt n hn0
   have l3 : 2 ^ (n.log2 + 1 + 53) ≤ 2 ^ (m.log2 + M) := Nat.pow_le_pow_right (by decide) (by omega)
   have l4 : 2 ^ (m.log2 + M) ≤ m * 2 ^ M := by rw [Nat.pow_add]; exact Nat.mul_le_mul_right _ l1
   have l5 : n * 9007199254740992 ≤ m * 2 ^ M := by
    refine Nat.le_trans ?_ (Nat.le_trans l3 l4)
    rw [Nat.pow_add, show (2 : Nat) ^ 53 = 9007199254740992 by decide]
    exact Nat.mul_le_mul_right _ (by omega)
   have l6 : 9007199254740992 ≤ q := by
    rw [← hq]
    exact (Nat.le_div_iff_mul_le (by omega)).2 (by rw [Nat.mul_comm]; exact l5)
   have : st ≤ 1 := by
    by_cases y : r = 0
    · rw [hst0 y]; omega
    · rw [hst1 y]; omega
   omega
 have hdiv : Ieee.double.div x y = some (wd (sg x ^^ sg y) (rq ((2 * q + st) * 2 ^ (a + c)) (b + M + 1))) := by
  have hne := nearest_eq (sg x ^^ sg y) (2 * q + st) (a + c) (b + M + 1)
  rw [show -1074 + ((a + c : Nat) : Int) - ((b + M + 1 : Nat) : Int) = -1074 + (a : Int) - (-1074 + (b : Int)) - (M : Int) - 1 by omega] at hne
  unfold Ieee.Format.div
  rw [hm, hn]
  unfold Ieee.Datum.quotient
  simp only []
  rw [if_neg hn0, show Ieee.double.fractionBits = 52 from rfl, hM, Nat.shiftLeft_eq, hq, hr, hst, ← hne]
  rfl
 obtain ⟨p1, p2⟩ := quo_parts m n a b c M q r st (by omega) hdm hrs
 rw [em, en] at p1 p2
 refine ⟨(2 * q + st) * 2 ^ (a + c), b + M + 1, st * 2 ^ (a + c), hdiv, p1, p2, ?_⟩
 rw [← Nat.mul_assoc]
 exact Nat.mul_le_mul_right _ hs2
theorem err_lin (v1 v2 v3 v4 v5 v6 : Nat) (h1 : v1 ≤ v4 + v2) (h2 : v4 ≤ v1 + v2) (h3 : 9007199254740992 * v2 ≤ v1) (h4 : v5 ≤ v1 + v3) (h5 : v1 ≤ v5 + v3) (h6 : 4503599627370496 * v3 ≤ v1 + 4503599627370496 * v6) :
  2251799813685248 * v5 ≤ 2251799813685248 * v4 + (v4 + 4503599627370496 * v6) ∧ 2251799813685248 * v4 ≤ 2251799813685248 * v5 + (v4 + 4503599627370496 * v6) := by
 constructor <;> omega
theorem div_errF {x y : Nat} (c : Nat) (hc : c = 1074) (hx : rg x < 9218868437227405312) (hy : rg y < 9218868437227405312) (h0 : ¬ rg y = 0) :
  ∃ R, Ieee.double.div x y = some (wd (sg x ^^ sg y) R) ∧ R ≤ 9218868437227405312 ∧ (vl (rg x) ≤ vl (rg y) → R < 9218868437227405312) ∧ (R < 9218868437227405312 →
   2251799813685248 * (vl R * vl (rg y)) ≤ 2251799813685248 * (vl (rg x) * 2 ^ c) + (vl (rg x) * 2 ^ c + 4503599627370496 * vl (rg y)) ∧
   2251799813685248 * (vl (rg x) * 2 ^ c) ≤ 2251799813685248 * (vl R * vl (rg y)) + (vl (rg x) * 2 ^ c + 4503599627370496 * vl (rg y))) := by
 obtain ⟨Q, e, S, h1, h2, h3, h4⟩ := div_form c hc hx hy h0
 have hY : 0 < vl (rg y) := by have := vl_pos h0; omega
 generalize vl (rg y) = Y at *
 generalize vl (rg x) = X at *
 have hYS : 9007199254740992 * (Y * S) ≤ Y * Q := by rw [Nat.mul_left_comm]; exact Nat.mul_le_mul_left Y h4
 refine ⟨rq Q e, h1, rq_le _ _, fun hb => ?_, fun hfin => ?_⟩
 ·
  have hQ : Q ≤ 2 * 2 ^ c * 2 ^ e := by
   refine Nat.le_of_mul_le_mul_left (c := Y) ?_ hY
   have k1 : X * 2 ^ c * 2 ^ e ≤ Y * 2 ^ c * 2 ^ e := Nat.mul_le_mul_right _ (Nat.mul_le_mul_right _ hb)
   have k2 : Y * (2 * 2 ^ c * 2 ^ e) = 2 * (Y * 2 ^ c * 2 ^ e) := by grind
   rw [k2]
   generalize Y * 2 ^ c * 2 ^ e = u at *
   generalize X * 2 ^ c * 2 ^ e = v at *
   generalize Y * Q = s at *
   generalize Y * S = t at *
   omega
  have k1 := rq_mono4 Q (2 * 2 ^ c * 2 ^ e) e hQ
  have k2 := rq_mul (2 * 2 ^ c) e 0
  rw [Nat.zero_add] at k2
  rw [k2] at k1
  have k3 := (rq_rep (2 * 2 ^ c) ⟨2, c, rfl, by omega⟩ (by rw [log2_mul _ _ (by omega), hc]; decide)).2
  omega
 obtain ⟨d, d1, d2, d3⟩ := rq_err Q e hfin
 generalize vl (rq Q e) = Z at *
 have m1 := Nat.mul_le_mul_left Y d1
 have m2 := Nat.mul_le_mul_left Y d2
 have m3 := Nat.mul_le_mul_left Y d3
 rw [Nat.mul_add] at m1 m2 m3
 rw [Nat.mul_left_comm Y 4503599627370496, Nat.mul_left_comm Y 4503599627370496] at m3
 obtain ⟨g1, g2⟩ := err_lin _ _ _ _ _ _ h2 h3 hYS m1 m2 m3
 have hE := Nat.two_pow_pos e
 generalize 2 ^ e = E at *
 have f1 : 2251799813685248 * (Y * (Z * E)) = 2251799813685248 * (Z * Y) * E := by grind
 have f2 : 2251799813685248 * (X * 2 ^ c * E) = 2251799813685248 * (X * 2 ^ c) * E := by grind
 have f3 : X * 2 ^ c * E + 4503599627370496 * (Y * E) = (X * 2 ^ c + 4503599627370496 * Y) * E := by grind
 rw [f1, f2, f3, ← Nat.add_mul] at g1 g2
 exact ⟨Nat.le_of_mul_le_mul_right g1 hE, Nat.le_of_mul_le_mul_right g2 hE⟩
theorem vl_le {r s : Nat} (h : r ≤ s) : vl r ≤ vl s := by
 rcases Nat.lt_or_ge r s with c | c
 · exact Nat.le_of_lt (vl_mono c)
 · rw [show r = s by omega]; exact Nat.le_refl _
theorem quo_le (m n a b M : Nat) (hn : 0 < n) (h : m * 2 ^ a ≤ n * 2 ^ b) (h1 : m = 0 ∨ n ≤ m * 2 ^ M) :
  (2 * (m <<< M / n) + (m <<< M % n != 0).toNat) * 2 ^ a ≤ 2 ^ (b + M + 1) := by
 rw [Nat.shiftLeft_eq]
 have hD : m * 2 ^ M * 2 ^ a ≤ n * 2 ^ (b + M) := by
  rw [Nat.mul_right_comm, Nat.pow_add, ← Nat.mul_assoc]
  exact Nat.mul_le_mul_right _ h
 have hP2 : 2 ^ (b + M + 1) = 2 * 2 ^ (b + M) := by rw [Nat.pow_succ, Nat.mul_comm]
 rw [hP2]
 have hdm := Nat.div_add_mod (m * 2 ^ M) n
 by_cases r0 : m * 2 ^ M % n = 0
 ·
  rw [r0]
  rw [r0, Nat.add_zero] at hdm
  generalize m * 2 ^ M / n = q at *
  rw [← hdm, Nat.mul_assoc] at hD
  have := Nat.le_of_mul_le_mul_left hD hn
  simp only [bne_self_eq_false, Bool.toNat_false, Nat.add_zero]
  rw [Nat.mul_assoc]
  omega
 ·
  have hm : n ≤ m * 2 ^ M := by
   rcases h1 with e | e
   · rw [e, Nat.zero_mul, Nat.zero_mod] at r0; exact absurd rfl r0
   · exact e
  have hq : 1 ≤ m * 2 ^ M / n := Nat.div_pos hm hn
  have hb : (m * 2 ^ M % n != 0).toNat = 1 := by
   rw [show (m * 2 ^ M % n != 0) = true by simp [r0]]; rfl
  rw [hb]
  generalize hqe : m * 2 ^ M / n = q at *
  generalize m * 2 ^ M % n = r at *
  have hlt : n * (q * 2 ^ a) < n * 2 ^ (b + M) := by
   refine Nat.lt_of_lt_of_le ?_ hD
   rw [← Nat.mul_assoc, ← hdm]
   exact Nat.mul_lt_mul_of_pos_right (by omega) (Nat.two_pow_pos a)
  have hlt2 := Nat.lt_of_mul_lt_mul_left hlt
  have hab : a < b + M := by
   rcases Nat.lt_or_ge a (b + M) with c | c
   · exact c
   ·
    have := Nat.pow_le_pow_right (n := 2) (by decide) c
    have k := Nat.le_mul_of_pos_left (2 ^ a) (show 0 < q by omega)
    omega
  have e : 2 ^ (b + M) = 2 ^ (b + M - a) * 2 ^ a := by rw [← Nat.pow_add, show b + M - a + a = b + M by omega]
  rw [e] at hlt2 ⊢
  have hx := Nat.lt_of_mul_lt_mul_right hlt2
  rw [← Nat.mul_assoc]
  exact Nat.mul_le_mul_right _ (by omega)
theorem div_le {x y : Nat} (c : Nat) (hc : c = 1074) (hx : rg x < 9218868437227405312) (hy : rg y < 9218868437227405312) (h0 : ¬ rg y = 0) (h : rg x ≤ rg y) :
  ∃ z, Ieee.double.div x y = some z ∧ z < 18446744073709551616 ∧ rg z ≤ 4607182418800017408 := by
 obtain ⟨m, a, hm, em⟩ := read_fin hx
 obtain ⟨n, b, hn, en⟩ := read_fin hy
 have hn0 : n ≠ 0 := by
  intro e
  rw [e, Nat.zero_mul] at en
  exact vl_pos h0 en.symm
 unfold Ieee.Format.div
 rw [hm, hn]
 unfold Ieee.Datum.quotient
 simp only []
 rw [if_neg hn0]
 have hfb : Ieee.double.fractionBits = 52 := rfl
 rw [hfb]
 generalize hM : 52 + 2 + n.log2 - m.log2 = M
 have h1 : m = 0 ∨ n ≤ m * 2 ^ M := by
  by_cases z : m = 0
  · exact Or.inl z
  ·
   right
   have l1 := log2_le m z
   have l2 := log2_lt n hn0
   have l3 : 2 ^ (n.log2 + 1) ≤ 2 ^ (m.log2 + M) := Nat.pow_le_pow_right (by decide) (by omega)
   have l4 : 2 ^ (m.log2 + M) ≤ m * 2 ^ M := by rw [Nat.pow_add]; exact Nat.mul_le_mul_right _ l1
   omega
 have hv : m * 2 ^ a ≤ n * 2 ^ b := by rw [em, en]; exact vl_le h
 have hq := quo_le m n a b M (by omega) hv h1
 generalize 2 * (m <<< M / n) + (m <<< M % n != 0).toNat = Q at *
 have hne := nearest_eq (sg x ^^ sg y) Q (a + c) (b + M + 1)
 rw [show -1074 + ((a + c : Nat) : Int) - ((b + M + 1 : Nat) : Int) = -1074 + (a : Int) - (-1074 + (b : Int)) - (M : Int) - 1 by omega] at hne
 have hle : rq (Q * 2 ^ (a + c)) (b + M + 1) ≤ 4607182418800017408 := by
  have k := rq_mono4 (Q * 2 ^ (a + c)) (vl 4607182418800017408 * 2 ^ (b + M + 1)) (0 + (b + M + 1)) (by
   rw [vl_one, ← hc, Nat.pow_add, ← Nat.mul_assoc, Nat.mul_comm (2 ^ c)]
   exact Nat.mul_le_mul_right _ hq)
  rw [rq_mul, rq_vl _ (by decide), Nat.zero_add] at k
  exact k
 refine ⟨wd (sg x ^^ sg y) (rq (Q * 2 ^ (a + c)) (b + M + 1)), ?_, wd_lt _ _ (by omega), by rw [rg_wd _ _ (by omega)]; exact hle⟩
 rw [← hne]
 rfl
end Go.Proofs.YtfgfofedacehiaaGreat.Fl

/-
 OWN TEXT: how far a difference, a product, a quotient of floats is from the true one, as fractions (continued); when they are finite.
-/
set_option linter.unusedVariables false
set_option exponentiation.threshold 3000
namespace Go.Proofs.YtfgfofedacehiaaGreat.Sv
/-- x is at most b, without its sign -/
def Ab (x b : Rat) : Prop := -b ≤ x ∧ x ≤ b
theorem Ab.add {x y a b : Rat} (h : Ab x a) (k : Ab y b) : Ab (x + y) (a + b) := by
 unfold Ab at *; constructor <;> grind
theorem Ab.sub {x y a b : Rat} (h : Ab x a) (k : Ab y b) : Ab (x - y) (a + b) := by
 unfold Ab at *; constructor <;> grind
theorem Ab.mono {x a b : Rat} (h : Ab x a) (k : a ≤ b) : Ab x b := by
 unfold Ab at *; constructor <;> grind
theorem Ab.nn {x a : Rat} (h : Ab x a) : 0 ≤ a := by
 unfold Ab at *; grind
theorem Ab.mul {x y a b : Rat} (h : Ab x a) (k : Ab y b) : Ab (x * y) (a * b) := by
 obtain ⟨h1, h2⟩ := h
 obtain ⟨k1, k2⟩ := k
 have p1 : 0 ≤ (a - x) * (b + y) := Rat.mul_nonneg (by grind) (by grind)
 have p2 : 0 ≤ (a + x) * (b - y) := Rat.mul_nonneg (by grind) (by grind)
 have p3 : 0 ≤ (a - x) * (b - y) := Rat.mul_nonneg (by grind) (by grind)
 have p4 : 0 ≤ (a + x) * (b + y) := Rat.mul_nonneg (by grind) (by grind)
 constructor <;> grind
def ab (x : Rat) : Rat := if 0 ≤ x then x else -x
theorem ab_ab (x : Rat) : Ab x (ab x) := by unfold Ab ab; split <;> constructor <;> grind
theorem ab_le {x b : Rat} (h : Ab x b) : ab x ≤ b := by unfold Ab at h; unfold ab; split <;> grind
theorem ab_nn (x : Rat) : 0 ≤ ab x := (ab_ab x).nn
/-- the least float above nought -/
def en : Rat := ((2 ^ 1074 : Nat) : Rat)⁻¹
theorem unit_of (c : Nat) : ((2 ^ c : Nat) : Rat) * ((2 ^ c : Nat) : Rat)⁻¹ = 1 := by
 refine Rat.mul_inv_cancel _ ?_
 have := Nat.two_pow_pos c
 intro h
 have h2 : ((2 ^ c : Nat) : Rat) = ((0 : Nat) : Rat) := h
 have h3 := Rat.natCast_inj.1 h2
 omega
theorem en_unit : ((2 ^ 1074 : Nat) : Rat) * en = 1 := unit_of 1074
theorem pos_of (c : Nat) : 0 < ((2 ^ c : Nat) : Rat)⁻¹ := by
 refine Rat.inv_pos.2 ?_
 have h : ((0 : Nat) : Rat) < ((2 ^ c : Nat) : Rat) := Rat.natCast_lt_natCast.2 (Nat.two_pow_pos c)
 exact h
theorem en_pos : 0 < en := pos_of 1074
/-- what a float is worth -/
def rv (x : Nat) : Rat := (Fl.val x : Rat) * en
/-- a float that is a number -/
def Fi (x : Nat) : Prop := x < 18446744073709551616 ∧ Fl.rg x < 9218868437227405312
theorem Fi.fin {x : Nat} (h : Fi x) : Fl.finB x = true := decide_eq_true h.2
theorem val_wd (s : Bool) (r : Nat) (h : r ≤ 9218868437227405312) : Fl.val (Fl.wd s r) = if s then -(Fl.vl r : Int) else Fl.vl r := by
 unfold Fl.val; rw [Fl.sg_wd s r (by omega), Fl.rg_wd s r (by omega)]
theorem c_wd (s : Bool) (r : Nat) (h : r ≤ 9218868437227405312) : Fl.bitsF (Fl.wd s r) = Fl.wd s r := by
 refine c_num ?_
 unfold Fl.nan
 rw [Fl.rg_wd s r (by omega)]
 exact decide_eq_false (by omega)
theorem fi_wd {s : Bool} {r : Nat} (h : r ≤ 9218868437227405312) : Fi (Fl.wd s r) ↔ r < 9218868437227405312 := by
 unfold Fi
 rw [Fl.rg_wd s r (by omega)]
 exact ⟨fun h => h.2, fun k => ⟨Fl.wd_lt s r (by omega), k⟩⟩
theorem op_sub_eq {a b : Nat} (ha : Fi a) (hb : Fi b) : op .sub a b = Fl.wd (if Fl.val a - Fl.val b = 0 then Fl.sg a && !Fl.sg b else decide (Fl.val a - Fl.val b < 0)) (Fl.rq (Fl.val a - Fl.val b).natAbs 0) := by
 have h := Fl.sub_fin hb.1 ha.2 hb.2
 unfold op
 show (match Ieee.double.sub a b with | some z => Fl.bitsF z | none => 9221120237041090560) = _
 rw [h]
 exact c_wd _ _ (Fl.rq_le _ _)
theorem op_mul_eq {a b : Nat} (ha : Fi a) (hb : Fi b) : op .mul a b = Fl.wd (Fl.sg a ^^ Fl.sg b) (Fl.rq (Fl.vl (Fl.rg a) * Fl.vl (Fl.rg b)) 1074) := by
 have h := Fl.mul_fin ha.2 hb.2
 unfold op
 show (match Ieee.double.mul a b with | some z => Fl.bitsF z | none => 9221120237041090560) = _
 rw [h]
 exact c_wd _ _ (Fl.rq_le _ _)
theorem sub_val {a b : Nat} (ha : Fi a) (hb : Fi b) (hs : Fi (op .sub a b)) : ∃ e : Nat, Fl.val (op .sub a b) ≤ Fl.val a - Fl.val b + e ∧ Fl.val a - Fl.val b ≤ Fl.val (op .sub a b) + e ∧ 4503599627370496 * e ≤ (Fl.val a - Fl.val b).natAbs + 4503599627370496 := by
 rw [op_sub_eq ha hb] at hs ⊢
 have hr := (fi_wd (Fl.rq_le _ _)).1 hs
 generalize Fl.val a - Fl.val b = T at *
 obtain ⟨e, h1, h2, h3⟩ := Fl.rq_err T.natAbs 0 hr
 rw [Nat.pow_zero, Nat.mul_one] at h1 h2
 rw [Nat.pow_zero, Nat.mul_one] at h3
 refine ⟨e, ?_⟩
 rw [val_wd _ _ (Fl.rq_le _ _)]
 by_cases z : T = 0
 ·
  subst z
  have h0 : Fl.rq (0 : Int).natAbs 0 = 0 := rfl
  rw [h0] at h1 h2 ⊢
  have v0 : Fl.vl 0 = 0 := by decide
  rw [v0]
  split <;> (refine ⟨?_, ?_, h3⟩ <;> simp)
 ·
  rw [if_neg z]
  generalize Fl.vl (Fl.rq T.natAbs 0) = V at *
  by_cases y : T < 0
  ·
   rw [decide_eq_true y, if_pos rfl]
   refine ⟨by omega, by omega, h3⟩
  ·
   rw [decide_eq_false y]
   simp only [Bool.false_eq_true, if_false]
   refine ⟨by omega, by omega, h3⟩
theorem int_en {d : Int} {e : Nat} (h1 : d ≤ e) (h2 : -(e : Int) ≤ d) : Ab ((d : Rat) * en) ((e : Rat) * en) := by
 have k1 : (d : Rat) ≤ ((e : Int) : Rat) := Rat.intCast_le_intCast.2 h1
 have k2 : ((-(e : Int) : Int) : Rat) ≤ (d : Rat) := Rat.intCast_le_intCast.2 h2
 rw [Rat.intCast_neg] at k2
 have k3 : ((e : Int) : Rat) = (e : Rat) := Rat.intCast_natCast e
 rw [k3] at k1 k2
 have m1 := Rat.mul_le_mul_of_nonneg_right k1 (Rat.le_of_lt en_pos)
 have m2 := Rat.mul_le_mul_of_nonneg_right k2 (Rat.le_of_lt en_pos)
 constructor <;> grind
theorem nat_en {T : Int} {B : Rat} (h : Ab ((T : Rat) * en) B) : ((T.natAbs : Nat) : Rat) * en ≤ B := by
 have hb := h.nn
 rcases Int.natAbs_eq T with e | e
 ·
  have : ((T : Int) : Rat) = ((T.natAbs : Nat) : Rat) := by rw [← Rat.intCast_natCast, ← e]
  rw [← this]; exact h.2
 ·
  have : ((T : Int) : Rat) = -((T.natAbs : Nat) : Rat) := by rw [← Rat.intCast_natCast, ← Rat.intCast_neg, ← e]
  have h1 := h.1
  rw [this] at h1
  grind
theorem rv_sub (a b : Nat) : rv a - rv b = ((Fl.val a - Fl.val b : Int) : Rat) * en := by unfold rv; rw [Rat.intCast_sub]; grind
/-- a difference -/
theorem sub_err {a b : Nat} (ha : Fi a) (hb : Fi b) (hs : Fi (op .sub a b)) {B : Rat} (h : Ab (rv a - rv b) B) : Ab (rv (op .sub a b) - (rv a - rv b)) (1 / 4503599627370496 * B + en) := by
 obtain ⟨e, h1, h2, h3⟩ := sub_val ha hb hs
 rw [rv_sub] at h ⊢
 have k := nat_en h
 have z : rv (op .sub a b) - ((Fl.val a - Fl.val b : Int) : Rat) * en = ((Fl.val (op .sub a b) - (Fl.val a - Fl.val b) : Int) : Rat) * en := by unfold rv; rw [Rat.intCast_sub (Fl.val (op .sub a b))]; grind
 rw [z]
 refine (int_en (e := e) (by omega) (by omega)).mono ?_
 have h4 : ((4503599627370496 * e : Nat) : Rat) ≤ (((Fl.val a - Fl.val b).natAbs + 4503599627370496 : Nat) : Rat) := Rat.natCast_le_natCast.2 h3
 rw [Rat.natCast_mul, Rat.natCast_add] at h4
 have h5 := Rat.mul_le_mul_of_nonneg_right h4 (Rat.le_of_lt en_pos)
 have c : ((4503599627370496 : Nat) : Rat) = 4503599627370496 := rfl
 rw [c] at h5
 grind
/-- it is a number -/
theorem rq_fin (N d : Nat) (h : N ≤ 2 ^ 2000 * 2 ^ d) : Fl.rq N d < 9218868437227405312 := by
 have k1 := Fl.rq_mono4 N (2 ^ 2000 * 2 ^ d) d h
 have k2 := Fl.rq_mul (2 ^ 2000) d 0
 rw [Nat.zero_add] at k2
 rw [k2] at k1
 have k3 : Fl.rq (2 ^ 2000) 0 < 9218868437227405312 := by decide +kernel
 omega
theorem nat_big {N : Nat} {B : Rat} (h : (N : Rat) * en ≤ B) (hB : B ≤ 1152921504606846976) : N ≤ 1152921504606846976 * 2 ^ 1074 := by
 have h1 : (N : Rat) * en * ((2 ^ 1074 : Nat) : Rat) ≤ 1152921504606846976 * ((2 ^ 1074 : Nat) : Rat) := Rat.mul_le_mul_of_nonneg_right (Rat.le_trans h hB) (Rat.natCast_nonneg)
 have h2 := en_unit
 have h3 : (N : Rat) ≤ 1152921504606846976 * ((2 ^ 1074 : Nat) : Rat) := by
  generalize ((2 ^ 1074 : Nat) : Rat) = W at *
  have q : (N : Rat) * en * W = N := by rw [show (N : Rat) * en * W = (N : Rat) * (W * en) by grind, h2]; grind
  rw [q] at h1
  exact h1
 have h4 : ((1152921504606846976 * 2 ^ 1074 : Nat) : Rat) = 1152921504606846976 * ((2 ^ 1074 : Nat) : Rat) := by rw [Rat.natCast_mul]; rfl
 rw [← h4] at h3
 exact Rat.natCast_le_natCast.1 h3
theorem sub_fi {a b : Nat} (ha : Fi a) (hb : Fi b) {B : Rat} (h : Ab (rv a - rv b) B) (hB : B ≤ 1152921504606846976) : Fi (op .sub a b) := by
 rw [op_sub_eq ha hb]
 refine (fi_wd (Fl.rq_le _ _)).2 (rq_fin _ _ ?_)
 rw [rv_sub] at h
 have k := nat_big (nat_en h) hB
 refine Nat.le_trans k ?_
 rw [Nat.pow_zero, Nat.mul_one]
 decide +kernel
theorem val_abs (a : Nat) : (Fl.val a).natAbs = Fl.vl (Fl.rg a) := by
 unfold Fl.val; split <;> simp
theorem val_mul_sg (a b : Nat) : Fl.val a * Fl.val b = if (Fl.sg a ^^ Fl.sg b) then -((Fl.vl (Fl.rg a) * Fl.vl (Fl.rg b) : Nat) : Int) else ((Fl.vl (Fl.rg a) * Fl.vl (Fl.rg b) : Nat) : Int) := by
 unfold Fl.val
 cases Fl.sg a <;> cases Fl.sg b <;> simp [Int.natCast_mul, Int.neg_mul, Int.mul_neg]
theorem rv_mul (a b : Nat) : rv a * rv b = ((Fl.val a * Fl.val b : Int) : Rat) * (en * en) := by unfold rv; rw [Rat.intCast_mul]; grind
theorem sgn_rat (s : Bool) (N : Nat) : (((if s then -(N : Int) else (N : Int)) : Int) : Rat) = (if s then -1 else 1) * (N : Rat) := by
 cases s
 · simp [Rat.intCast_natCast]
 · simp [Rat.intCast_neg, Rat.intCast_natCast, Rat.neg_mul]
theorem ab_sgn (s : Bool) {x b : Rat} (h : Ab x b) : Ab ((if s then -1 else 1) * x) b := by
 cases s
 · simpa [Rat.one_mul] using h
 · unfold Ab at *; simp only [if_true]; constructor <;> grind
theorem sgn_ab (s : Bool) {x b : Rat} (h : Ab ((if s then -1 else 1) * x) b) : Ab x b := by
 cases s
 · simpa [Rat.one_mul] using h
 · unfold Ab at *; simp only [if_true] at h; constructor <;> grind
/-- a product -/
theorem mul_err {a b : Nat} (ha : Fi a) (hb : Fi b) (hs : Fi (op .mul a b)) {B : Rat} (h : Ab (rv a * rv b) B) : Ab (rv (op .mul a b) - rv a * rv b) (1 / 4503599627370496 * B + en) := by
 rw [rv_mul, val_mul_sg, sgn_rat] at h ⊢
 unfold rv
 rw [op_mul_eq ha hb] at hs ⊢
 have hr := (fi_wd (Fl.rq_le _ _)).1 hs
 rw [val_wd _ _ (Fl.rq_le _ _), sgn_rat]
 generalize (Fl.sg a ^^ Fl.sg b) = s at *
 generalize Fl.vl (Fl.rg a) * Fl.vl (Fl.rg b) = N at *
 obtain ⟨e, h1, h2, h3⟩ := Fl.rq_err N 1074 hr
 generalize Fl.vl (Fl.rq N 1074) = V at *
 have hN : Ab ((N : Rat) * (en * en)) B := sgn_ab s (by rw [← Rat.mul_assoc]; exact h)
 rw [show (if s then (-1 : Rat) else 1) * (V : Rat) * en - (if s then (-1 : Rat) else 1) * (N : Rat) * (en * en) = (if s then (-1 : Rat) else 1) * ((V : Rat) * en - (N : Rat) * (en * en)) by grind]
 refine ab_sgn s ?_
 have hu := en_unit
 have hp := en_pos
 have g1 : ((V * 2 ^ 1074 : Nat) : Rat) ≤ ((N + e : Nat) : Rat) := Rat.natCast_le_natCast.2 h1
 have g2 : ((N : Nat) : Rat) ≤ ((V * 2 ^ 1074 + e : Nat) : Rat) := Rat.natCast_le_natCast.2 h2
 have g3 : ((4503599627370496 * e : Nat) : Rat) ≤ ((N + 4503599627370496 * 2 ^ 1074 : Nat) : Rat) := Rat.natCast_le_natCast.2 h3
 rw [Rat.natCast_mul, Rat.natCast_add] at g1
 rw [Rat.natCast_add, Rat.natCast_mul] at g2
 rw [Rat.natCast_mul, Rat.natCast_add, Rat.natCast_mul] at g3
 have c : ((4503599627370496 : Nat) : Rat) = 4503599627370496 := rfl
 rw [c] at g3
 generalize ((2 ^ 1074 : Nat) : Rat) = W at *
 have hp2 : 0 ≤ en * en := Rat.mul_nonneg (Rat.le_of_lt hp) (Rat.le_of_lt hp)
 have f1 := Rat.mul_le_mul_of_nonneg_right g1 hp2
 have f2 := Rat.mul_le_mul_of_nonneg_right g2 hp2
 have f3 := Rat.mul_le_mul_of_nonneg_right g3 hp2
 have q1 : (V : Rat) * W * (en * en) = (V : Rat) * en := by rw [show (V : Rat) * W * (en * en) = (V : Rat) * (W * en) * en by grind, hu]; grind
 have q2 : 4503599627370496 * W * (en * en) = 4503599627370496 * en := by rw [show (4503599627370496 : Rat) * W * (en * en) = 4503599627370496 * (W * en) * en by grind, hu]; grind
 have e1 : ((N : Rat) + (e : Rat)) * (en * en) = (N : Rat) * (en * en) + (e : Rat) * (en * en) := by grind
 have e2 : ((V : Rat) * W + (e : Rat)) * (en * en) = (V : Rat) * en + (e : Rat) * (en * en) := by rw [← q1]; grind
 have e3 : ((N : Rat) + 4503599627370496 * W) * (en * en) = (N : Rat) * (en * en) + 4503599627370496 * en := by rw [← q2]; grind
 rw [q1, e1] at f1
 rw [e2] at f2
 rw [e3] at f3
 have hN2 := hN.2
 have f3' : 4503599627370496 * ((e : Rat) * (en * en)) ≤ (N : Rat) * (en * en) + 4503599627370496 * en := by rw [← Rat.mul_assoc]; exact f3
 generalize (e : Rat) * (en * en) = E at *
 generalize (N : Rat) * (en * en) = NN at *
 generalize (V : Rat) * en = VV at *
 constructor <;> grind
theorem mul_fi {a b : Nat} (ha : Fi a) (hb : Fi b) {B : Rat} (h : Ab (rv a * rv b) B) (hB : B ≤ 1152921504606846976) : Fi (op .mul a b) := by
 rw [op_mul_eq ha hb]
 refine (fi_wd (Fl.rq_le _ _)).2 (rq_fin _ _ ?_)
 rw [rv_mul, val_mul_sg, sgn_rat, Rat.mul_assoc] at h
 have h := (sgn_ab _ h).2
 generalize Fl.vl (Fl.rg a) * Fl.vl (Fl.rg b) = N at *
 have hu := en_unit
 have h1 : (N : Rat) * en ≤ B * ((2 ^ 1074 : Nat) : Rat) := by
  have k := Rat.mul_le_mul_of_nonneg_right h (Rat.natCast_nonneg (a := 2 ^ 1074))
  have q : (N : Rat) * (en * en) * ((2 ^ 1074 : Nat) : Rat) = (N : Rat) * en := by
   generalize ((2 ^ 1074 : Nat) : Rat) = W at *
   rw [show (N : Rat) * (en * en) * W = (N : Rat) * en * (W * en) by grind, hu]; grind
  rw [q] at k
  exact k
 have h2 : (N : Rat) ≤ 1152921504606846976 * (((2 ^ 1074 : Nat) : Rat) * ((2 ^ 1074 : Nat) : Rat)) := by
  have k := Rat.mul_le_mul_of_nonneg_right h1 (Rat.natCast_nonneg (a := 2 ^ 1074))
  have k2 := Rat.mul_le_mul_of_nonneg_right hB (Rat.mul_nonneg (Rat.natCast_nonneg (a := 2 ^ 1074)) (Rat.natCast_nonneg (a := 2 ^ 1074)))
  generalize ((2 ^ 1074 : Nat) : Rat) = W at *
  have q : (N : Rat) * en * W = N := by rw [show (N : Rat) * en * W = (N : Rat) * (W * en) by grind, hu]; grind
  rw [q] at k
  grind
 have h4 : ((1152921504606846976 * (2 ^ 1074 * 2 ^ 1074) : Nat) : Rat) = 1152921504606846976 * (((2 ^ 1074 : Nat) : Rat) * ((2 ^ 1074 : Nat) : Rat)) := by rw [Rat.natCast_mul, Rat.natCast_mul]; rfl
 rw [← h4] at h2
 refine Nat.le_trans (Rat.natCast_le_natCast.1 h2) ?_
 rw [← Nat.mul_assoc]
 refine Nat.mul_le_mul_right _ ?_
 decide +kernel
theorem op_quo_eq {a b : Nat} (ha : Fi a) (hb : Fi b) (h0 : ¬ Fl.rg b = 0) : ∃ R, op .quo a b = Fl.wd (Fl.sg a ^^ Fl.sg b) R ∧ R ≤ 9218868437227405312 ∧ (Fl.vl (Fl.rg a) ≤ Fl.vl (Fl.rg b) → R < 9218868437227405312) ∧ (R < 9218868437227405312 →
   2251799813685248 * (Fl.vl R * Fl.vl (Fl.rg b)) ≤ 2251799813685248 * (Fl.vl (Fl.rg a) * 2 ^ 1074) + (Fl.vl (Fl.rg a) * 2 ^ 1074 + 4503599627370496 * Fl.vl (Fl.rg b)) ∧
   2251799813685248 * (Fl.vl (Fl.rg a) * 2 ^ 1074) ≤ 2251799813685248 * (Fl.vl R * Fl.vl (Fl.rg b)) + (Fl.vl (Fl.rg a) * 2 ^ 1074 + 4503599627370496 * Fl.vl (Fl.rg b))) := by
 obtain ⟨R, h1, h2, h3, h4⟩ := Fl.div_errF 1074 rfl ha.2 hb.2 h0
 refine ⟨R, ?_, h2, h3, h4⟩
 unfold op
 show (match Ieee.double.div a b with | some z => Fl.bitsF z | none => 9221120237041090560) = _
 rw [h1]
 exact c_wd _ _ h2
/-- a quotient, times its divisor -/
theorem quo_err {a b : Nat} (ha : Fi a) (hb : Fi b) (h0 : ¬ Fl.rg b = 0) (hs : Fi (op .quo a b)) {B C : Rat} (hB : Ab (rv a) B) (hC : Ab (rv b) C) : Ab (rv (op .quo a b) * rv b - rv a) (1 / 2251799813685248 * B + 2 * en * C) := by
 obtain ⟨R, e, h2, h3, h4⟩ := op_quo_eq ha hb h0
 rw [e] at hs ⊢
 have hr := (fi_wd h2).1 hs
 obtain ⟨h5, h6⟩ := h4 hr
 have eb : Fl.val b = if Fl.sg b then -(Fl.vl (Fl.rg b) : Int) else Fl.vl (Fl.rg b) := rfl
 have ea : Fl.val a = if Fl.sg a then -(Fl.vl (Fl.rg a) : Int) else Fl.vl (Fl.rg a) := rfl
 unfold rv at hB hC ⊢
 rw [ea, sgn_rat] at hB ⊢
 rw [eb, sgn_rat] at hC ⊢
 rw [val_wd _ _ h2, sgn_rat]
 have hB2 := (sgn_ab _ (by rw [← Rat.mul_assoc]; exact hB)).2
 have hC2 := (sgn_ab _ (by rw [← Rat.mul_assoc]; exact hC)).2
 generalize Fl.vl (Fl.rg a) = X at *
 generalize Fl.vl (Fl.rg b) = Y at *
 generalize Fl.vl R = V at *
 have hsg : ∀ s t : Bool, (if (s ^^ t) then (-1 : Rat) else 1) * (if t then (-1 : Rat) else 1) = if s then -1 else 1 := by intro s t; cases s <;> cases t <;> simp <;> grind
 rw [show (if (Fl.sg a ^^ Fl.sg b) then (-1 : Rat) else 1) * (V : Rat) * en * ((if Fl.sg b then (-1 : Rat) else 1) * (Y : Rat) * en) - (if Fl.sg a then (-1 : Rat) else 1) * (X : Rat) * en
  = ((if (Fl.sg a ^^ Fl.sg b) then (-1 : Rat) else 1) * (if Fl.sg b then (-1 : Rat) else 1)) * ((V : Rat) * (Y : Rat) * (en * en)) - (if Fl.sg a then (-1 : Rat) else 1) * (X : Rat) * en by grind, hsg]
 rw [show (if Fl.sg a then (-1 : Rat) else 1) * ((V : Rat) * (Y : Rat) * (en * en)) - (if Fl.sg a then (-1 : Rat) else 1) * (X : Rat) * en = (if Fl.sg a then (-1 : Rat) else 1) * ((V : Rat) * (Y : Rat) * (en * en) - (X : Rat) * en) by grind]
 refine ab_sgn _ ?_
 have hu := en_unit
 have hp := en_pos
 have g1 : ((2251799813685248 * (V * Y) : Nat) : Rat) ≤ ((2251799813685248 * (X * 2 ^ 1074) + (X * 2 ^ 1074 + 4503599627370496 * Y) : Nat) : Rat) := Rat.natCast_le_natCast.2 h5
 have g2 : ((2251799813685248 * (X * 2 ^ 1074) : Nat) : Rat) ≤ ((2251799813685248 * (V * Y) + (X * 2 ^ 1074 + 4503599627370496 * Y) : Nat) : Rat) := Rat.natCast_le_natCast.2 h6
 simp only [Rat.natCast_mul, Rat.natCast_add] at g1 g2
 have c : ((4503599627370496 : Nat) : Rat) = 4503599627370496 := rfl
 have c2 : ((2251799813685248 : Nat) : Rat) = 2251799813685248 := rfl
 rw [c, c2] at g1 g2
 generalize ((2 ^ 1074 : Nat) : Rat) = W at *
 have hp2 : 0 ≤ en * en := Rat.mul_nonneg (Rat.le_of_lt hp) (Rat.le_of_lt hp)
 have f1 := Rat.mul_le_mul_of_nonneg_right g1 hp2
 have f2 := Rat.mul_le_mul_of_nonneg_right g2 hp2
 have q1 : (X : Rat) * W * (en * en) = (X : Rat) * en := by rw [show (X : Rat) * W * (en * en) = (X : Rat) * (W * en) * en by grind, hu]; grind
 have r1 : 2251799813685248 * ((V : Rat) * Y * (en * en)) ≤ 2251799813685248 * ((X : Rat) * W * (en * en)) + ((X : Rat) * W * (en * en) + 4503599627370496 * ((Y : Rat) * en * en)) := by grind
 have r2 : 2251799813685248 * ((X : Rat) * W * (en * en)) ≤ 2251799813685248 * ((V : Rat) * Y * (en * en)) + ((X : Rat) * W * (en * en) + 4503599627370496 * ((Y : Rat) * en * en)) := by grind
 rw [q1] at r1 r2
 have hY : (Y : Rat) * en * en ≤ C * en := Rat.mul_le_mul_of_nonneg_right hC2 (Rat.le_of_lt hp)
 generalize (Y : Rat) * en * en = YY at *
 generalize (V : Rat) * Y * (en * en) = VV at *
 generalize (X : Rat) * en = XX at *
 have hc : 2 * en * C = 2 * (C * en) := by grind
 rw [hc]
 generalize C * en = CC at *
 constructor <;> grind
theorem quo_le {a b R : Nat} (ha : Fi a) (hb : Fi b) (h0 : ¬ Fl.rg b = 0) (h : Fl.rg a ≤ Fl.rg b) (e : op .quo a b = Fl.wd (Fl.sg a ^^ Fl.sg b) R) (h2 : R ≤ 9218868437227405312) : Fl.vl R ≤ 2 ^ 1074 := by
 obtain ⟨z, h1, h3, h4⟩ := Fl.div_le 1074 rfl ha.2 hb.2 h0 h
 have e2 : op .quo a b = Fl.bitsF z := by
  unfold op
  show (match Ieee.double.div a b with | some z => Fl.bitsF z | none => 9221120237041090560) = _
  rw [h1]
 have hz : Fl.nan z = false := decide_eq_false (by omega)
 rw [c_num hz, e] at e2
 rw [← e2, Fl.rg_wd _ _ (by omega)] at h4
 rw [← Fl.vl_one]
 rcases Nat.lt_or_eq_of_le h4 with q | q
 · exact Nat.le_of_lt (Fl.vl_mono q)
 · rw [q]; exact Nat.le_refl _
/-- a quotient by what is not less -/
theorem quo_one {a b : Nat} (ha : Fi a) (hb : Fi b) (h0 : ¬ Fl.rg b = 0) (h : Fl.rg a ≤ Fl.rg b) : Fi (op .quo a b) ∧ Ab (rv (op .quo a b)) 1 := by
 have hv : Fl.vl (Fl.rg a) ≤ Fl.vl (Fl.rg b) := by
  rcases Nat.lt_or_eq_of_le h with q | q
  · exact Nat.le_of_lt (Fl.vl_mono q)
  · rw [q]; exact Nat.le_refl _
 obtain ⟨R, e, h2, h3, h4⟩ := op_quo_eq ha hb h0
 have hr := h3 hv
 rw [e]
 refine ⟨(fi_wd h2).2 hr, ?_⟩
 obtain ⟨h5, h6⟩ := h4 hr
 unfold rv
 rw [val_wd _ _ h2, sgn_rat, Rat.mul_assoc]
 refine ab_sgn _ ?_
 have hR := quo_le ha hb h0 h e h2
 have hR2 : ((Fl.vl R : Nat) : Rat) ≤ ((2 ^ 1074 : Nat) : Rat) := Rat.natCast_le_natCast.2 hR
 have k := Rat.mul_le_mul_of_nonneg_right hR2 (Rat.le_of_lt en_pos)
 rw [en_unit] at k
 have k2 := Rat.mul_nonneg (Rat.natCast_nonneg (a := Fl.vl R)) (Rat.le_of_lt en_pos)
 constructor <;> grind
end Go.Proofs.YtfgfofedacehiaaGreat.Sv

