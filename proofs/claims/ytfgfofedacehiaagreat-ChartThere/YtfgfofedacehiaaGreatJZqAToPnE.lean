/-
 OWN TEXT: numbers that are exact: so many units of a power of two, none below nought.
-/
import Derived.Test.YtfgfofedacehiaaGreatJRmCToRmF
import Derived.Test.YtfgfofedacehiaaGreatJRoOToRoP
import Derived.Test.YtfgfofedacehiaaGreatJEoAToFnSame
import Derived.Test.YtfgfofedacehiaaGreatJPoAToAnM
namespace Go.Proofs.YtfgfofedacehiaaGreat
set_option linter.unusedVariables false
/-- the word x is n units of 2^c (in units of the least place) -/
def uJ (c x n : Nat) : Prop := Fl.sg x = false ∧ Fl.rg x < 9218868437227405312 ∧ x < 18446744073709551616 ∧ Fl.vl (Fl.rg x) = n * 2 ^ c
theorem uJ.self {c x n : Nat} (h : uJ c x n) : Fl.rg x = x := by
 have h1 := h.1
 have h3 := h.2.2.1
 have := Fl.wd_self h3
 rw [h1, wd_false] at this
 exact this
theorem fit_log {k c : Nat} (hc : c ≤ 2000) (hk : k ≤ 9007199254740992) : (k * 2 ^ c).log2 < 2098 := by
 by_cases z : k = 0
 · subst z; rw [Nat.zero_mul]; decide
 ·
  rw [Fl.log2_mul k c z]
  have : k.log2 < 54 := (Nat.log2_lt z).2 (by omega)
  omega
/-- rounded, it is itself -/
theorem uJ_rq {c n x : Nat} (hc : c ≤ 2000) (hn : n ≤ 9007199254740992) (hx : x = Fl.rq (n * 2 ^ c) 0) : uJ c x n := by
 obtain ⟨h1, h2⟩ := Fl.rq_rep (n * 2 ^ c) ⟨n, c, rfl, hn⟩ (fit_log hc hn)
 obtain ⟨r1, r2⟩ := rg_rung (r := Fl.rq (n * 2 ^ c) 0) (by omega)
 subst hx
 exact ⟨r2, by rw [r1]; exact h2, by omega, by rw [r1]; exact h1⟩
theorem uJ.mul {c d e a b r m n : Nat} (ha : uJ c a m) (hb : uJ d b n) (he : c + d = e + 1074) (he2 : e ≤ 2000) (hs : m * n ≤ 9007199254740992) (h : opR .mul a b r) : uJ e r (m * n) := by
 have hw := mul_word ha.2.1 hb.2.1 h
 rw [ha.1, hb.1, Bool.xor_self, wd_false, ha.2.2.2, hb.2.2.2, Nat.mul_mul_mul_comm, ← Nat.pow_add, he, Nat.pow_add, ← Nat.mul_assoc] at hw
 have k := Fl.rq_mul (m * n * 2 ^ e) 1074 0
 rw [Nat.zero_add] at k
 rw [k] at hw
 exact uJ_rq he2 hs hw
theorem uJ.add {c a b r m n : Nat} (ha : uJ c a m) (hb : uJ c b n) (he2 : c ≤ 2000) (hs : m + n ≤ 9007199254740992) (h : opR .add a b r) : uJ c r (m + n) := by
 have hw := add_word ha.1 hb.1 ha.2.1 hb.2.1 h
 rw [ha.2.2.2, hb.2.2.2, ← Nat.add_mul] at hw
 exact uJ_rq he2 hs hw
theorem uJ.half {c a r n : Nat} (ha : uJ c a (2 * n)) (he2 : c ≤ 2000) (hs : n ≤ 9007199254740992) (h : opR .quo a 4611686018427387904 r) : uJ c r n := by
 have hm := Fl.div_two (x := a) ha.2.1
 have e : r = Fl.wd (Fl.sg a) (Fl.rq (Fl.vl (Fl.rg a)) 1) := by
  rcases h.2 with k | k
  · exact (Option.some.inj (hm.symm.trans k)).symm
  · exact absurd (hm.symm.trans k.1) (by intro c; cases c)
 rw [ha.1, wd_false, ha.2.2.2, show 2 * n * 2 ^ c = n * 2 ^ c * 2 ^ 1 by rw [Nat.pow_one, Nat.mul_comm 2 n, Nat.mul_assoc, Nat.mul_comm 2 (2 ^ c), ← Nat.mul_assoc]] at e
 have k := Fl.rq_mul (n * 2 ^ c) 1 0
 rw [Nat.zero_add] at k
 rw [k] at e
 exact uJ_rq he2 hs e
theorem norm_pow (n : Nat) (h1 : 1 ≤ n) (h2 : n < 9007199254740992) : ∃ j, j ≤ 52 ∧ 4503599627370496 ≤ n * 2 ^ j ∧ n * 2 ^ j < 9007199254740992 := by
 have hz : n ≠ 0 := by omega
 have k1 := Fl.log2_le n hz
 have k2 := Fl.log2_lt n hz
 have k3 : n.log2 < 53 := (Nat.log2_lt hz).2 (by omega)
 refine ⟨52 - n.log2, by omega, ?_, ?_⟩
 ·
  have : 2 ^ n.log2 * 2 ^ (52 - n.log2) = 4503599627370496 := by rw [← Nat.pow_add, show n.log2 + (52 - n.log2) = 52 by omega]
  have := Nat.mul_le_mul_right (2 ^ (52 - n.log2)) k1
  omega
 ·
  have : 2 ^ (n.log2 + 1) * 2 ^ (52 - n.log2) = 9007199254740992 := by rw [← Nat.pow_add, show n.log2 + 1 + (52 - n.log2) = 53 by omega]
  have := Nat.mul_lt_mul_of_pos_right k2 (Nat.two_pow_pos (52 - n.log2))
  omega
/-- the root of a square -/
theorem uJ.root {c f x y n : Nat} (hx : uJ c x (n * n)) (hf : c + 1074 = 2 * f) (hc : c ≤ 2000) (hf0 : 600 ≤ f) (hn : n * n ≤ 9007199254740992) (h : sqtR x y) : uJ f y n := by
 by_cases z : n = 0
 ·
  subst z
  have hv := hx.2.2.2
  rw [Nat.mul_zero, Nat.zero_mul] at hv
  have hr : Fl.rg x = 0 := by
   by_cases q : Fl.rg x = 0
   · exact q
   · exact absurd hv (Fl.vl_pos q)
  have hx0 : x = 0 := by rw [← hx.self]; exact hr
  subst hx0
  have e : Ieee.double.sqrt 0 = some 0 := by decide +kernel
  have hy : y = 0 := by
   rcases h.2 with q | q
   · rw [e] at q; exact (Option.some.inj q).symm
   · rw [e] at q; cases q.1
  subst hy
  exact ⟨by decide, by decide, by decide, by rw [Nat.zero_mul]; decide⟩
 ·
  have hn1 : n ≤ n * n := Nat.le_mul_of_pos_right n (by omega)
  have hnl : n < 9007199254740992 := by
   rcases Nat.lt_or_ge n 9007199254740992 with q | q
   · exact q
   ·
    exfalso
    have : 9007199254740992 * 2 ≤ n * n := Nat.mul_le_mul q (by omega)
    omega
  obtain ⟨j, j1, j2, j3⟩ := norm_pow n (by omega) hnl
  obtain ⟨g, hg⟩ : ∃ g, g + j = f := ⟨f - j, by omega⟩
  have hb : n * 2 ^ j * 2 ^ g = n * 2 ^ f := by rw [Nat.mul_assoc, ← Nat.pow_add, Nat.add_comm j g, hg]
  obtain ⟨G, hG⟩ : ∃ G, g + g = G + 1074 ∨ (g + g < 1074 ∧ G = 0) := by
   rcases Nat.lt_or_ge (g + g) 1074 with q | q
   · exact ⟨0, Or.inr ⟨q, rfl⟩⟩
   · exact ⟨g + g - 1074, Or.inl (by omega)⟩
  have hself := hx.self
  have hsq : Fl.rq ((n * 2 ^ j * 2 ^ g) * (n * 2 ^ j * 2 ^ g)) 1074 = Fl.rg x := by
   rw [hb, Nat.mul_mul_mul_comm, ← Nat.pow_add, show f + f = c + 1074 by omega, Nat.pow_add, ← Nat.mul_assoc]
   have k := Fl.rq_mul (n * n * 2 ^ c) 1074 0
   rw [Nat.zero_add] at k
   rw [k]
   have := (uJ_rq hc hn rfl).self
   have hv := hx.2.2.2
   rw [← hv, Fl.rq_vl _ (by have := hx.2.1; omega)]
  have hz : ¬ Fl.rg x = 0 := by
   intro q
   have hv := hx.2.2.2
   rw [q] at hv
   have : Fl.vl 0 = 0 := rfl
   rw [this] at hv
   have := Nat.mul_pos (Nat.mul_pos (show 0 < n by omega) (show 0 < n by omega)) (Nat.two_pow_pos c)
   omega
  rcases hG with hG | ⟨hG, _⟩
  ·
   obtain ⟨r, s1, s2, s3⟩ := Fl.sqrt_ge (x := x) 1074 rfl hG (by omega) j2 j3 hx.2.1 hx.1 (by rw [hsq]; exact Nat.le_refl _)
   obtain ⟨r', t1, t2⟩ := Fl.sqrt_le (x := x) 1074 rfl hG (by omega) j2 j3 hx.1 hz (by rw [hsq]; exact hx.2.1) (by rw [hsq]; exact Nat.le_refl _)
   rw [s1] at t1
   have : r = r' := by have := Option.some.inj t1; rw [wd_false, wd_false] at this; exact this
   subst this
   have hr : r = Fl.rq (n * 2 ^ j * 2 ^ g) 0 := by omega
   have hy := sqt_word h s1
   rw [hy, hr, hb]
   exact uJ_rq (by omega) (by omega) rfl
  ·
   exfalso
   omega
end Go.Proofs.YtfgfofedacehiaaGreat

/-
 OWN TEXT: how far a quotient by parts is from a whole number that it should be: plain integers.
-/
namespace Go.Proofs.YtfgfofedacehiaaGreat.Zq
set_option linter.unusedVariables false
theorem cancel {G x y : Nat} (hG : 0 < G) (h : G * x ≤ G * y) : x ≤ y := Nat.le_of_mul_le_mul_left h hG
theorem s1 {a1 lU X G : Nat} (h1 : 2251799813685248 * a1 ≤ lU + 4503599627370496 * G) (h2 : lU ≤ X) (h3 : G * 1267650600228229401496703205376 ≤ X) : 1125899906842624 * a1 ≤ X := by omega
theorem s2 {X a1 gk lU : Nat} (h1 : gk ≤ lU + a1) (h2 : lU ≤ X) (h3 : 1125899906842624 * a1 ≤ X) : gk ≤ 2 * X := by omega
theorem s3 {f lk X n : Nat} (h : 4503599627370496 * f ≤ lk + 4503599627370496) (h1 : lk ≤ n * X) (hX : 4503599627370496 ≤ X) : 4503599627370496 * f ≤ n * X + X := by omega
theorem s4 {m lk f X n : Nat} (h : m ≤ lk + f) (h1 : lk ≤ n * X) (h2 : 4503599627370496 * f ≤ (n + 1) * X) (hn : n ≤ 20000) : m ≤ (n + 1) * X := by
 have : (n + 1) * X ≤ 20001 * X := Nat.mul_le_mul_right X (by omega)
 rw [Nat.add_mul, Nat.one_mul] at *
 omega
theorem s6 {X a1 x2 x3 x4 x5 y : Nat} (h : y ≤ 5000 * a1 + (x4 + x5 + 1000 * x2 + 1000 * x3)) (b1 : 1125899906842624 * a1 ≤ X) (b2 : 4503599627370496 * x2 ≤ 3 * X) (b3 : 4503599627370496 * x3 ≤ 5 * X) (b4 : 4503599627370496 * x4 ≤ 8001 * X) (b5 : 4503599627370496 * x5 ≤ 12002 * X) : 68719476736 * y ≤ X := by omega
end Go.Proofs.YtfgfofedacehiaaGreat.Zq

/-
 OWN TEXT: sines and cosines of fit floats, as they come out, are at most 1 without their signs.
-/
set_option linter.unusedVariables false
set_option exponentiation.threshold 3000
namespace Go.Proofs.YtfgfofedacehiaaGreat
/-- how far rounding goes -/
theorem rq_err (n d : Nat) (hf : Fl.rq n d < 9218868437227405312) : ∃ e, Fl.vl (Fl.rq n d) * 2 ^ d ≤ n + e ∧ n ≤ Fl.vl (Fl.rq n d) * 2 ^ d + e ∧ 4503599627370496 * e ≤ n + 4503599627370496 * 2 ^ d := by
 by_cases z : n = 0
 ·
  subst z
  have : Fl.rq 0 d = 0 := by unfold Fl.rq; rfl
  rw [this, show Fl.vl 0 = 0 by decide]
  exact ⟨0, by omega, by omega, by omega⟩
 ·
  obtain ⟨k, hk⟩ : ∃ k, k = n.log2 - (52 + d) := ⟨_, rfl⟩
  have hl := Fl.log2_lt n z
  have hl2 := Fl.log2_le n z
  have hp := Nat.two_pow_pos (k + d)
  have m1 : Fl.rne n (k + d) ≤ 9007199254740992 := by
   refine Fl.rne_le _ _ _ ?_
   rw [show (9007199254740992 : Nat) = 2 ^ 53 from rfl, ← Nat.pow_add]
   have : 2 ^ (n.log2 + 1) ≤ 2 ^ (53 + (k + d)) := Nat.pow_le_pow_right (by omega) (by omega)
   omega
  have m2 : k = 0 ∨ 4503599627370496 ≤ Fl.rne n (k + d) := by
   by_cases c : k = 0
   · exact Or.inl c
   ·
    right
    refine Fl.le_rne _ _ _ ?_
    rw [show (4503599627370496 : Nat) = 2 ^ 52 from rfl, ← Nat.pow_add, show 52 + (k + d) = n.log2 by omega]
    exact hl2
  have er : Fl.rq n d = k * 4503599627370496 + Fl.rne n (k + d) := by
   unfold Fl.rq at hf ⊢
   rw [if_neg z, ← hk] at hf ⊢
   omega
  have ev : Fl.vl (Fl.rq n d) * 2 ^ d = Fl.rne n (k + d) * 2 ^ (k + d) := by
   rw [er, Fl.vl_comb k _ m1 m2, Nat.mul_assoc, ← Nat.pow_add]
  rw [ev]
  have hb := Fl.rne_bounds n (k + d)
  refine ⟨2 ^ (k + d), by omega, by omega, ?_⟩
  by_cases c : k = 0
  · rw [c, Nat.zero_add]; omega
  ·
   have : 4503599627370496 * 2 ^ (k + d) ≤ n := by
    rw [show (4503599627370496 : Nat) = 2 ^ 52 from rfl, ← Nat.pow_add, show 52 + (k + d) = n.log2 by omega]
    exact hl2
   omega
end Go.Proofs.YtfgfofedacehiaaGreat

