/-
 OWN TEXT: numbers that are exact: so many units of a power of two, none below nought.
-/
import Derived.Test.YtfgfofedacehiaaGreatJRmCToRmF
import Derived.Test.YtfgfofedacehiaaGreatJAnPToEpL
import Derived.Test.YtfgfofedacehiaaGreatJWhA
namespace Go.Proofs.YtfgfofedacehiaaGreat
set_option linter.unusedVariables false
/-- the word x is n units of 2^c (in units of the least place) -/
def uJ (c x n : Nat) : Prop := Fl.sg x = false ∧ Fl.rg x < 9218868437227405312 ∧ x < 18446744073709551616 ∧ Fl.vl (Fl.rg x) = n * 2 ^ c
theorem fit_log {k c : Nat} (hc : c ≤ 2000) (hk : k ≤ 9007199254740992) : (k * 2 ^ c).log2 < 2098 := by
 by_cases z : k = 0
 · subst z; rw [Nat.zero_mul]; decide
 ·
  rw [Fl.log2_mul k c z]
  have : k.log2 < 54 := (Nat.log2_lt z).2 (by omega)
  omega
/-- rounded, it is itself -/
theorem uJ_rq {c n x : Nat} (hc : c ≤ 2000) (hn : n ≤ 9007199254740992) (hx : x = Fl.rq (n * 2 ^ c) 0) : uJ c x n := by
 obtain ⟨h1, h2⟩ := Fl.rq_rep (n * 2 ^ c) ⟨n, c, rfl, hn⟩ (fit_log hc hn)
 obtain ⟨r1, r2⟩ := rg_rung (r := Fl.rq (n * 2 ^ c) 0) (by omega)
 subst hx
 exact ⟨r2, by rw [r1]; exact h2, by omega, by rw [r1]; exact h1⟩
theorem uJ.mul {c d e a b r m n : Nat} (ha : uJ c a m) (hb : uJ d b n) (he : c + d = e + 1074) (he2 : e ≤ 2000) (hs : m * n ≤ 9007199254740992) (h : opR .mul a b r) : uJ e r (m * n) := by
 have hw := mul_word ha.2.1 hb.2.1 h
 rw [ha.1, hb.1, Bool.xor_self, wd_false, ha.2.2.2, hb.2.2.2, Nat.mul_mul_mul_comm, ← Nat.pow_add, he, Nat.pow_add, ← Nat.mul_assoc] at hw
 have k := Fl.rq_mul (m * n * 2 ^ e) 1074 0
 rw [Nat.zero_add] at k
 rw [k] at hw
 exact uJ_rq he2 hs hw
theorem uJ.add {c a b r m n : Nat} (ha : uJ c a m) (hb : uJ c b n) (he2 : c ≤ 2000) (hs : m + n ≤ 9007199254740992) (h : opR .add a b r) : uJ c r (m + n) := by
 have hw := add_word ha.1 hb.1 ha.2.1 hb.2.1 h
 rw [ha.2.2.2, hb.2.2.2, ← Nat.add_mul] at hw
 exact uJ_rq he2 hs hw
theorem uJ.half {c a r n : Nat} (ha : uJ c a (2 * n)) (he2 : c ≤ 2000) (hs : n ≤ 9007199254740992) (h : opR .quo a 4611686018427387904 r) : uJ c r n := by
 have hm := Fl.div_two (x := a) ha.2.1
 have e : r = Fl.wd (Fl.sg a) (Fl.rq (Fl.vl (Fl.rg a)) 1) := by
  rcases h.2 with k | k
  · exact (Option.some.inj (hm.symm.trans k)).symm
  · exact absurd (hm.symm.trans k.1) (by intro c; cases c)
 rw [ha.1, wd_false, ha.2.2.2, show 2 * n * 2 ^ c = n * 2 ^ c * 2 ^ 1 by rw [Nat.pow_one, Nat.mul_comm 2 n, Nat.mul_assoc, Nat.mul_comm 2 (2 ^ c), ← Nat.mul_assoc]] at e
 have k := Fl.rq_mul (n * 2 ^ c) 1 0
 rw [Nat.zero_add] at k
 rw [k] at e
 exact uJ_rq he2 hs e
end Go.Proofs.YtfgfofedacehiaaGreat

/-
 OWN TEXT: how far a quotient by parts is from a whole number that it should be: plain integers.
-/
namespace Go.Proofs.YtfgfofedacehiaaGreat.Zq
set_option linter.unusedVariables false
theorem s1 {a1 lU X G : Nat} (h1 : 2251799813685248 * a1 ≤ lU + 4503599627370496 * G) (h2 : lU ≤ X) (h3 : G * 1267650600228229401496703205376 ≤ X) : 1125899906842624 * a1 ≤ X := by omega
theorem s2 {X a1 gk lU : Nat} (h1 : gk ≤ lU + a1) (h2 : lU ≤ X) (h3 : 1125899906842624 * a1 ≤ X) : gk ≤ 2 * X := by omega
theorem s3 {f lk X n : Nat} (h : 4503599627370496 * f ≤ lk + 4503599627370496) (h1 : lk ≤ n * X) (hX : 4503599627370496 ≤ X) : 4503599627370496 * f ≤ n * X + X := by omega
theorem s4 {m lk f X n : Nat} (h : m ≤ lk + f) (h1 : lk ≤ n * X) (h2 : 4503599627370496 * f ≤ (n + 1) * X) (hn : n ≤ 20000) : m ≤ (n + 1) * X := by
 have : (n + 1) * X ≤ 20001 * X := Nat.mul_le_mul_right X (by omega)
 rw [Nat.add_mul, Nat.one_mul] at *
 omega
theorem s6 {X a1 x2 x3 x4 x5 y : Nat} (h : y ≤ 5000 * a1 + (x4 + x5 + 1000 * x2 + 1000 * x3)) (b1 : 1125899906842624 * a1 ≤ X) (b2 : 4503599627370496 * x2 ≤ 3 * X) (b3 : 4503599627370496 * x3 ≤ 5 * X) (b4 : 4503599627370496 * x4 ≤ 8001 * X) (b5 : 4503599627370496 * x5 ≤ 12002 * X) : 68719476736 * y ≤ X := by omega
end Go.Proofs.YtfgfofedacehiaaGreat.Zq

