/-
 OWN TEXT: plain laws on floats: square roots, rounded: where they lie; the root of a square, rounded, is the number.
-/
import Derived.Test.YtfgfofedacehiaaGreatJFlCToFlG
import Derived.Test.YtfgfofedacehiaaGreatJRpAToEqA
import Derived.Test.YtfgfofedacehiaaGreatJLsAToEoC
set_option linter.unusedVariables false
namespace Go.Proofs.YtfgfofedacehiaaGreat.Fl
theorem root_spec (n : Nat) : ∀ (todo root : Nat), root * root ≤ n → n < (root + 2 ^ todo) * (root + 2 ^ todo) →
  Ieee.Datum.rootFrom n todo root * Ieee.Datum.rootFrom n todo root ≤ n ∧ n < (Ieee.Datum.rootFrom n todo root + 1) * (Ieee.Datum.rootFrom n todo root + 1)
 | 0, root, h1, h2 => ⟨h1, by rw [Nat.pow_zero] at h2; exact h2⟩
 | todo + 1, root, h1, h2 => by
  have e : 1 <<< todo = 2 ^ todo := by rw [Nat.shiftLeft_eq, Nat.one_mul]
  unfold Ieee.Datum.rootFrom
  simp only [e]
  by_cases c : (root + 2 ^ todo) * (root + 2 ^ todo) ≤ n
  ·
   rw [if_pos c]
   refine root_spec n todo _ c ?_
   rw [Nat.pow_succ] at h2
   rw [show root + 2 ^ todo + 2 ^ todo = root + 2 ^ todo * 2 by omega]
   exact h2
  ·
   rw [if_neg c]
   exact root_spec n todo root h1 (by omega)
theorem root_all (n : Nat) (h : n ≠ 0) : Ieee.Datum.rootFrom n (n.log2 / 2 + 1) 0 * Ieee.Datum.rootFrom n (n.log2 / 2 + 1) 0 ≤ n ∧ n < (Ieee.Datum.rootFrom n (n.log2 / 2 + 1) 0 + 1) * (Ieee.Datum.rootFrom n (n.log2 / 2 + 1) 0 + 1) := by
 refine root_spec n _ 0 (by omega) ?_
 rw [Nat.zero_add, ← Nat.pow_add]
 exact Nat.lt_of_lt_of_le (log2_lt n h) (Nat.pow_le_pow_right (by omega) (by omega))
/-- the root of a number above nought: W and a half, or W, of its last place, W at most the true root, and the next place above it -/
theorem sqrt_fin {x : Nat} (c : Nat) (hc : c = 1074) (hx : rg x < 9218868437227405312) (hs : sg x = false) (hz : ¬ rg x = 0) :
  ∃ w st q : Nat, Ieee.double.sqrt x = some (wd false (rq ((2 * w + st) * 2 ^ q) 0)) ∧ 18014398509481984 ≤ w ∧
   (w * 2 ^ (q + 1)) * (w * 2 ^ (q + 1)) ≤ vl (rg x) * 2 ^ c ∧ vl (rg x) * 2 ^ c < ((w + 1) * 2 ^ (q + 1)) * ((w + 1) * 2 ^ (q + 1)) ∧
   st ≤ 1 ∧ ((w * 2 ^ (q + 1)) * (w * 2 ^ (q + 1)) < vl (rg x) * 2 ^ c → st = 1) := by
 obtain ⟨m, k, hm, em⟩ := read_fin hx
 have hm0 : m ≠ 0 := by
  intro e
  rw [e, Nat.zero_mul] at em
  exact vl_pos hz em.symm
 unfold Ieee.Format.sqrt
 rw [hm, hs]
 unfold Ieee.Datum.root
 simp only []
 rw [if_neg hm0, if_neg (by decide)]
 have hfb : Ieee.double.fractionBits = 52 := rfl
 rw [hfb]
 generalize hM0 : 2 * (52 + 2) - m.log2 = m0
 have hr1 : 0 ≤ (-1074 + (k : Int) - (m0 : Int)) % 2 := Int.emod_nonneg _ (by decide)
 have hr2 : (-1074 + (k : Int) - (m0 : Int)) % 2 < 2 := Int.emod_lt_of_pos _ (by decide)
 generalize hM : m0 + ((-1074 + (k : Int) - (m0 : Int)) % 2).toNat = more
 have hmm : more ≤ m0 + 1 := by omega
 have hm0b : m0 ≤ 108 := by omega
 have heven : (-1074 + (k : Int) - (more : Int)) % 2 = 0 := by omega
 have hl : 108 ≤ m.log2 + more := by omega
 clear hM hM0
 generalize hn : m <<< more = n
 have hn' : n = m * 2 ^ more := by rw [← hn, Nat.shiftLeft_eq]
 have hn0 : n ≠ 0 := by rw [hn']; exact Nat.mul_ne_zero hm0 (by have := Nat.two_pow_pos more; omega)
 obtain ⟨w1, w2⟩ := root_all n hn0
 generalize Ieee.Datum.rootFrom n (n.log2 / 2 + 1) 0 = w at *
 obtain ⟨q, hq⟩ : ∃ q : Nat, (q : Int) = (-1074 + (k : Int) - (more : Int)) / 2 - 1 + 1074 := ⟨((-1074 + (k : Int) - (more : Int)) / 2 - 1 + 1074).toNat, by omega⟩
 have hqq : more + (q + 1 + (q + 1)) = k + c := by omega
 have hV : n * (2 ^ (q + 1) * 2 ^ (q + 1)) = vl (rg x) * 2 ^ c := by
  rw [hn', ← em, ← Nat.pow_add, Nat.mul_assoc, ← Nat.pow_add, hqq, Nat.pow_add, Nat.mul_assoc]
 have hp := Nat.two_pow_pos (q + 1)
 have sq : ∀ y : Nat, (y * 2 ^ (q + 1)) * (y * 2 ^ (q + 1)) = y * y * (2 ^ (q + 1) * 2 ^ (q + 1)) := fun y => by
  rw [Nat.mul_mul_mul_comm]
 refine ⟨w, (w * w != n).toNat, q, ?_, ?_, ?_, ?_, ?_, ?_⟩
 ·
  simp only [Option.map_some]
  have h := nearest_eq false (2 * w + (w * w != n).toNat) q 0
  have e : (-1074 + (k : Int) - (more : Int)) / 2 - 1 = -1074 + (q : Int) - ((0 : Nat) : Int) := by omega
  unfold Ieee.Format.write
  simp only []
  rw [e, h]
 ·
  have h1 : 2 ^ 108 ≤ n := by
   rw [hn']
   refine Nat.le_trans (Nat.pow_le_pow_right (by omega) hl) ?_
   rw [Nat.pow_add]
   exact Nat.mul_le_mul_right _ (log2_le m hm0)
  rcases Nat.lt_or_ge w 18014398509481984 with g | g
  ·
   have : (w + 1) * (w + 1) ≤ 18014398509481984 * 18014398509481984 := Nat.mul_le_mul (by omega) (by omega)
   omega
  · exact g
 · rw [sq, ← hV]; exact Nat.mul_le_mul_right _ w1
 · rw [sq, ← hV]; exact Nat.mul_lt_mul_of_pos_right w2 (Nat.mul_pos hp hp)
 · cases (w * w != n) <;> decide
 ·
  intro h
  rw [sq, ← hV] at h
  have : w * w < n := Nat.lt_of_mul_lt_mul_right h
  have e : (w * w != n) = true := by simpa using (by omega : ¬ w * w = n)
  rw [e]; rfl
theorem sq_lt {a b : Nat} (h : a * a < b * b) : a < b := by
 rcases Nat.lt_or_ge a b with g | g
 · exact g
 · have := Nat.mul_le_mul g g; omega
/-- rounding of what lies below the middle above a rung -/
theorem rq_up (Z b g : Nat) (hb : 4503599627370496 ≤ b) (hb' : b < 9007199254740992) (hg : 1 ≤ g) (h : Z < (2 * b + 1) * 2 ^ (g - 1)) : rq Z 0 ≤ rq (b * 2 ^ g) 0 := by
 have e2 : 2 ^ g = 2 * 2 ^ (g - 1) := by
  have : 2 ^ (g - 1 + 1) = 2 ^ (g - 1) * 2 := Nat.pow_succ ..
  rw [show g - 1 + 1 = g by omega] at this
  omega
 have hp := Nat.two_pow_pos (g - 1)
 by_cases c : Z ≤ b * 2 ^ g
 · exact rq_mono _ _ _ c
 ·
  have hz : Z ≠ 0 := by omega
  have hd : Z / 2 ^ g = b := by
   refine Nat.div_eq_of_lt_le (by omega) ?_
   rw [Nat.succ_mul]
   have : (2 * b + 1) * 2 ^ (g - 1) = b * (2 * 2 ^ (g - 1)) + 2 ^ (g - 1) := by rw [Nat.add_mul, Nat.one_mul, Nat.mul_assoc, Nat.mul_left_comm]
   rw [← e2] at this
   omega
  have hm : 2 * (Z % 2 ^ g) < 2 ^ g := by
   have := Nat.div_add_mod Z (2 ^ g)
   rw [hd] at this
   have k : (2 * b + 1) * 2 ^ (g - 1) = b * (2 * 2 ^ (g - 1)) + 2 ^ (g - 1) := by rw [Nat.add_mul, Nat.one_mul, Nat.mul_assoc, Nat.mul_left_comm]
   rw [← e2, Nat.mul_comm b] at k
   omega
  have hl : Z.log2 = 52 + g := by
   refine Nat.le_antisymm (Nat.le_of_lt_succ ((Nat.log2_lt hz).2 ?_)) ((Nat.le_log2 hz).2 ?_)
   ·
    rw [show (52 + g).succ = 53 + g by omega, Nat.pow_add]
    have k1 := Nat.div_add_mod Z (2 ^ g)
    have k2 := Nat.mod_lt Z (Nat.two_pow_pos g)
    rw [hd, Nat.mul_comm] at k1
    have : (b + 1) * 2 ^ g ≤ 2 ^ 53 * 2 ^ g := Nat.mul_le_mul_right _ (by omega)
    rw [Nat.succ_mul] at this
    omega
   ·
    rw [Nat.pow_add]
    have : 2 ^ 52 * 2 ^ g ≤ b * 2 ^ g := Nat.mul_le_mul_right _ hb
    omega
  have hb0 : b ≠ 0 := by omega
  have hbl : b.log2 = 52 := Nat.le_antisymm (Nat.le_of_lt_succ ((Nat.log2_lt hb0).2 hb')) ((Nat.le_log2 hb0).2 hb)
  have r1 : rne Z g = b := by unfold rne; rw [hd, if_neg (by omega)]; rfl
  unfold rq
  rw [if_neg hz, if_neg (Nat.mul_ne_zero hb0 (by have := Nat.two_pow_pos g; omega)), hl, log2_mul b g hb0, hbl]
  rw [show 52 + g - (52 + 0) = g by omega, Nat.add_zero, r1, rne_exact]
  exact Nat.le_refl _
/-- rounding of what lies above the middle below a rung -/
theorem rq_down (Z b g : Nat) (hb : 4503599627370496 < b) (hb' : b < 9007199254740992) (hg : 1 ≤ g) (h : (2 * b - 1) * 2 ^ (g - 1) < Z) : rq (b * 2 ^ g) 0 ≤ rq Z 0 := by
 have e2 : 2 ^ g = 2 * 2 ^ (g - 1) := by
  have : 2 ^ (g - 1 + 1) = 2 ^ (g - 1) * 2 := Nat.pow_succ ..
  rw [show g - 1 + 1 = g by omega] at this
  omega
 have hp := Nat.two_pow_pos (g - 1)
 by_cases c : b * 2 ^ g ≤ Z
 · exact rq_mono _ _ _ c
 ·
  have hz : Z ≠ 0 := by omega
  obtain ⟨b1, rfl⟩ : ∃ b1, b = b1 + 1 := ⟨b - 1, by omega⟩
  have k : (2 * (b1 + 1) - 1) * 2 ^ (g - 1) = b1 * (2 * 2 ^ (g - 1)) + 2 ^ (g - 1) := by rw [show 2 * (b1 + 1) - 1 = 2 * b1 + 1 by omega, Nat.add_mul, Nat.one_mul, Nat.mul_assoc, Nat.mul_left_comm]
  rw [← e2] at k
  have k0 : (b1 + 1) * 2 ^ g = b1 * 2 ^ g + 2 ^ g := by rw [Nat.succ_mul]
  have hd : Z / 2 ^ g = b1 := by
   refine Nat.div_eq_of_lt_le (by omega) (by show Z < (b1 + 1) * 2 ^ g; omega)
  have k1 := Nat.div_add_mod Z (2 ^ g)
  rw [hd, Nat.mul_comm] at k1
  have k2 := Nat.mod_lt Z (Nat.two_pow_pos g)
  have hm : 2 ^ g < 2 * (Z % 2 ^ g) := by omega
  have hl : Z.log2 = 52 + g := by
   refine Nat.le_antisymm (Nat.le_of_lt_succ ((Nat.log2_lt hz).2 ?_)) ((Nat.le_log2 hz).2 ?_)
   ·
    rw [show (52 + g).succ = 53 + g by omega, Nat.pow_add]
    have : (b1 + 1) * 2 ^ g ≤ 2 ^ 53 * 2 ^ g := Nat.mul_le_mul_right _ (by omega)
    omega
   ·
    rw [Nat.pow_add]
    have : 2 ^ 52 * 2 ^ g ≤ b1 * 2 ^ g := Nat.mul_le_mul_right _ (by omega)
    omega
  have hb0 : b1 + 1 ≠ 0 := by omega
  have hbl : (b1 + 1).log2 = 52 := Nat.le_antisymm (Nat.le_of_lt_succ ((Nat.log2_lt hb0).2 hb')) ((Nat.le_log2 hb0).2 (by show 4503599627370496 ≤ _; omega))
  have r1 : rne Z g = b1 + 1 := by unfold rne; rw [hd, if_pos (Or.inl hm)]
  unfold rq
  rw [if_neg hz, if_neg (Nat.mul_ne_zero hb0 (by have := Nat.two_pow_pos g; omega)), hl, log2_mul (b1 + 1) g hb0, hbl]
  rw [show 52 + g - (52 + 0) = g by omega, show g + 0 = g from rfl, r1, rne_exact]
  exact Nat.le_refl _
/-- a root below the middle above b -/
theorem sqrt_up {x : Nat} (c b g : Nat) (hc : c = 1074) (hx : rg x < 9218868437227405312) (hs : sg x = false) (hz : ¬ rg x = 0) (hb : 4503599627370496 ≤ b) (hb' : b < 9007199254740992) (hg : 1 ≤ g)
  (h : vl (rg x) * 2 ^ c < ((2 * b + 1) * 2 ^ (g - 1)) * ((2 * b + 1) * 2 ^ (g - 1))) :
  ∃ r, Ieee.double.sqrt x = some (wd false r) ∧ r ≤ rq (b * 2 ^ g) 0 := by
 obtain ⟨w, st, q, e, hw, h1, h2, h3, h4⟩ := sqrt_fin c hc hx hs hz
 refine ⟨_, e, rq_up _ b g hb hb' hg ?_⟩
 have hp := Nat.two_pow_pos q
 have eq : 2 ^ (q + 1) = 2 ^ q * 2 := Nat.pow_succ ..
 have lw := sq_lt (Nat.lt_of_le_of_lt h1 h)
 by_cases gq : q + 1 ≤ g - 1
 ·
  obtain ⟨t, ht⟩ : ∃ t, g - 1 = t + (q + 1) := ⟨g - 1 - (q + 1), by omega⟩
  have ey : (2 * b + 1) * 2 ^ (g - 1) = ((2 * b + 1) * 2 ^ t) * 2 ^ (q + 1) := by rw [ht, Nat.pow_add, Nat.mul_assoc]
  rw [ey] at lw ⊢
  clear ey h
  generalize (2 * b + 1) * 2 ^ t = y at *
  have hy : w < y := Nat.lt_of_mul_lt_mul_right lw
  have k : (w + 1) * 2 ^ (q + 1) ≤ y * 2 ^ (q + 1) := Nat.mul_le_mul_right _ hy
  refine Nat.lt_of_lt_of_le ?_ k
  rw [eq, Nat.add_mul, Nat.add_mul, Nat.one_mul, Nat.mul_right_comm 2 w, ← Nat.mul_assoc w]
  have : st * 2 ^ q ≤ 1 * 2 ^ q := Nat.mul_le_mul_right _ h3
  rw [Nat.mul_comm 2 (2 ^ q), Nat.mul_comm (2 ^ q * 2) w, ← Nat.mul_assoc w]
  omega
 ·
  exfalso
  have k1 : 2 ^ (g - 1) ≤ 2 ^ q := Nat.pow_le_pow_right (by omega) (by omega)
  have k2 : (2 * b + 1) * 2 ^ (g - 1) ≤ 18014398509481984 * 2 ^ q := Nat.mul_le_mul (by omega) k1
  have k3 : 18014398509481984 * 2 ^ (q + 1) ≤ w * 2 ^ (q + 1) := Nat.mul_le_mul_right _ hw
  rw [eq] at k3 lw
  omega
/-- a root above the middle below b -/
theorem sqrt_down {x : Nat} (c b g : Nat) (hc : c = 1074) (hx : rg x < 9218868437227405312) (hs : sg x = false) (hz : ¬ rg x = 0) (hb : 4503599627370496 ≤ b) (hb' : b < 9007199254740992) (hg : 1 ≤ g)
  (h : ((2 * b - 1) * 2 ^ (g - 1)) * ((2 * b - 1) * 2 ^ (g - 1)) < vl (rg x) * 2 ^ c) (h0 : b = 4503599627370496 → (b * 2 ^ g) * (b * 2 ^ g) ≤ vl (rg x) * 2 ^ c) :
  ∃ r, Ieee.double.sqrt x = some (wd false r) ∧ rq (b * 2 ^ g) 0 ≤ r ∧ r ≤ 9218868437227405312 := by
 obtain ⟨w, st, q, e, hw, h1, h2, h3, h4⟩ := sqrt_fin c hc hx hs hz
 refine ⟨_, e, ?_, rq_le _ _⟩
 have hp := Nat.two_pow_pos q
 have eq : 2 ^ (q + 1) = 2 ^ q * 2 := Nat.pow_succ ..
 have eg : 2 ^ g = 2 * 2 ^ (g - 1) := by
  have : 2 ^ (g - 1 + 1) = 2 ^ (g - 1) * 2 := Nat.pow_succ ..
  rw [show g - 1 + 1 = g by omega] at this
  omega
 have ez : (2 * w + st) * 2 ^ q = w * 2 ^ (q + 1) + st * 2 ^ q := by rw [eq, Nat.add_mul, Nat.mul_comm 2 w, Nat.mul_assoc, Nat.mul_comm 2]
 by_cases gq : q + 1 ≤ g - 1
 ·
  by_cases cb : b = 4503599627370496
  ·
   refine rq_mono _ _ _ ?_
   have k := h0 cb
   obtain ⟨t, ht⟩ : ∃ t, g = t + (q + 1) := ⟨g - (q + 1), by omega⟩
   have ey : b * 2 ^ g = (b * 2 ^ t) * 2 ^ (q + 1) := by rw [ht, Nat.pow_add, Nat.mul_assoc]
   rw [ey] at k ⊢
   have lw := sq_lt (Nat.lt_of_le_of_lt k h2)
   clear ey h h0
   generalize b * 2 ^ t = y at *
   have hy : y < w + 1 := Nat.lt_of_mul_lt_mul_right lw
   have : y * 2 ^ (q + 1) ≤ w * 2 ^ (q + 1) := Nat.mul_le_mul_right _ (by omega)
   omega
  ·
   refine rq_down _ b g (by omega) hb' hg ?_
   obtain ⟨t, ht⟩ : ∃ t, g - 1 = t + (q + 1) := ⟨g - 1 - (q + 1), by omega⟩
   have ey : (2 * b - 1) * 2 ^ (g - 1) = ((2 * b - 1) * 2 ^ t) * 2 ^ (q + 1) := by rw [ht, Nat.pow_add, Nat.mul_assoc]
   rw [ey] at h ⊢
   have lw := sq_lt (Nat.lt_trans h h2)
   clear ey h0
   generalize (2 * b - 1) * 2 ^ t = y at *
   have hy : y < w + 1 := Nat.lt_of_mul_lt_mul_right lw
   rcases Nat.lt_or_ge y w with g1 | g1
   ·
    have : (y + 1) * 2 ^ (q + 1) ≤ w * 2 ^ (q + 1) := Nat.mul_le_mul_right _ g1
    rw [Nat.succ_mul] at this
    omega
   ·
    have ey : y = w := by omega
    subst ey
    have := h4 h
    subst this
    omega
 ·
  refine rq_mono _ _ _ ?_
  have k1 : 2 ^ (g - 1) ≤ 2 ^ q := Nat.pow_le_pow_right (by omega) (by omega)
  have k2 : b * 2 ^ (g - 1) ≤ 18014398509481984 * 2 ^ q := Nat.mul_le_mul (by omega) k1
  have k3 : 18014398509481984 * 2 ^ (q + 1) ≤ w * 2 ^ (q + 1) := Nat.mul_le_mul_right _ hw
  have k4 : b * 2 ^ g = 2 * (b * 2 ^ (g - 1)) := by rw [eg, Nat.mul_left_comm]
  omega
end Go.Proofs.YtfgfofedacehiaaGreat.Fl

/-
 OWN TEXT: plain laws on floats: a square, rounded, lies between the middles; so its root, rounded, is the number.
-/
set_option linter.unusedVariables false
namespace Go.Proofs.YtfgfofedacehiaaGreat.Fl
theorem sq_rq (b g c G : Nat) (hG : g + g = G + c) : rq ((b * 2 ^ g) * (b * 2 ^ g)) c = rq (b * b * 2 ^ G) 0 := by
 have e : (b * 2 ^ g) * (b * 2 ^ g) = b * b * 2 ^ G * 2 ^ c := by rw [Nat.mul_mul_mul_comm, ← Nat.pow_add, hG, Nat.pow_add, ← Nat.mul_assoc]
 rw [e]
 have := rq_mul (b * b * 2 ^ G) c 0
 rw [Nat.zero_add] at this
 exact this
theorem sq_mid (b g c G E : Nat) (hG : g + g = G + c) (hE : E = 2 ^ g * 2 ^ g) (hb : 4503599627370496 ≤ b) (hb' : b < 9007199254740992) (hf : rq ((b * 2 ^ g) * (b * 2 ^ g)) c < 9218868437227405312) :
  (2 * b - 1) * (2 * b - 1) * E < 4 * (vl (rq ((b * 2 ^ g) * (b * 2 ^ g)) c) * 2 ^ c) ∧ 4 * (vl (rq ((b * 2 ^ g) * (b * 2 ^ g)) c) * 2 ^ c) < (2 * b + 1) * (2 * b + 1) * E ∧
  vl (rq ((b * 2 ^ g) * (b * 2 ^ g)) c) * 2 ^ c ≤ b * b * E + 4503599627370496 * E ∧ (b = 4503599627370496 → b * b * E ≤ vl (rq ((b * 2 ^ g) * (b * 2 ^ g)) c) * 2 ^ c) := by
 rw [sq_rq b g c G hG] at hf ⊢
 have eE : E = 2 ^ G * 2 ^ c := by rw [hE, ← Nat.pow_add, hG, Nat.pow_add]
 have hp := Nat.two_pow_pos G
 have hpc := Nat.two_pow_pos c
 have hE0 : 0 < E := by rw [eE]; exact Nat.mul_pos hp hpc
 have hbb0 : b * b ≠ 0 := Nat.mul_ne_zero (by omega) (by omega)
 have hm0 : b * b * 2 ^ G ≠ 0 := Nat.mul_ne_zero hbb0 (by omega)
 have b1 : 4503599627370496 * 4503599627370496 ≤ b * b := Nat.mul_le_mul hb hb
 have b2 : b * b < 9007199254740992 * 9007199254740992 := Nat.mul_lt_mul_of_lt_of_lt hb' hb'
 have L1 : 104 ≤ (b * b).log2 := (Nat.le_log2 hbb0).2 (by show 2 ^ 104 ≤ _; omega)
 have L2 : (b * b).log2 < 106 := (Nat.log2_lt hbb0).2 (by show _ < 2 ^ 106; omega)
 have hl : (b * b * 2 ^ G).log2 = (b * b).log2 + G := log2_mul _ _ hbb0
 have hv := vl_rq _ hm0 hf
 have hbd := rne_bounds (b * b * 2 ^ G) ((b * b * 2 ^ G).log2 - 52)
 rw [← hv] at hbd
 generalize hP : vl (rq (b * b * 2 ^ G) 0) = P at *
 have hL : 2 ^ ((b * b * 2 ^ G).log2 - 52) ≤ 2 * (if (b * b).log2 = 104 then 2251799813685248 * 2 ^ G * 1 else 4503599627370496 * 2 ^ G) ∧ ((b * b).log2 = 104 ∨ 4503599627370496 < b) := by
  rcases (show (b * b).log2 = 104 ∨ (b * b).log2 = 105 by omega) with e | e
  ·
   rw [hl, e, if_pos rfl, show 104 + G - 52 = 52 + G by omega, Nat.pow_add]
   exact ⟨by show 4503599627370496 * 2 ^ G ≤ _; omega, Or.inl rfl⟩
  ·
   rw [hl, e, if_neg (by omega), show 105 + G - 52 = 53 + G by omega, Nat.pow_add]
   refine ⟨by show 9007199254740992 * 2 ^ G ≤ _; omega, Or.inr ?_⟩
   have k := log2_le (b * b) hbb0
   rw [e] at k
   rcases Nat.lt_or_ge 4503599627370496 b with g1 | g1
   · exact g1
   ·
    have := Nat.mul_le_mul g1 g1
    have : (2 : Nat) ^ 105 ≤ 4503599627370496 * 4503599627370496 := Nat.le_trans k this
    exact absurd this (by decide)
 obtain ⟨hL, hor⟩ := hL
 have ePc : ∀ y : Nat, y * 2 ^ G * 2 ^ c = y * E := fun y => by rw [eE, Nat.mul_assoc]
 have key : ∃ d, 4 * d + 1 < 4 * b ∧ d ≤ 4503599627370496 ∧ P * 2 ^ c ≤ b * b * E + d * E ∧ b * b * E ≤ P * 2 ^ c + d * E := by
  have t1 : 2 * P * 2 ^ c ≤ (2 * (b * b * 2 ^ G) + 2 ^ ((b * b * 2 ^ G).log2 - 52)) * 2 ^ c := Nat.mul_le_mul_right _ hbd.1
  have t2 : 2 * (b * b * 2 ^ G) * 2 ^ c ≤ (2 * P + 2 ^ ((b * b * 2 ^ G).log2 - 52)) * 2 ^ c := Nat.mul_le_mul_right _ hbd.2
  rw [Nat.add_mul] at t1 t2
  have s1 : 2 * (b * b * 2 ^ G) * 2 ^ c = 2 * (b * b * E) := by rw [Nat.mul_assoc 2, ePc]
  have s2 : 2 * P * 2 ^ c = 2 * (P * 2 ^ c) := Nat.mul_assoc ..
  rw [s1] at t1 t2
  rw [s2] at t1 t2
  rcases (show (b * b).log2 = 104 ∨ (b * b).log2 = 105 by omega) with e | e
  ·
   rw [if_pos e] at hL
   have u := Nat.mul_le_mul_right (2 ^ c) hL
   rw [show 2 * (2251799813685248 * 2 ^ G * 1) * 2 ^ c = 4503599627370496 * 2 ^ G * 2 ^ c by rw [Nat.mul_one, ← Nat.mul_assoc], ePc] at u
   exact ⟨2251799813685248, by omega, by omega, by omega, by omega⟩
  ·
   rw [if_neg (by omega)] at hL
   have u := Nat.mul_le_mul_right (2 ^ c) hL
   rw [show 2 * (4503599627370496 * 2 ^ G) * 2 ^ c = 9007199254740992 * 2 ^ G * 2 ^ c by rw [← Nat.mul_assoc], ePc] at u
   exact ⟨4503599627370496, by omega, by omega, by omega, by omega⟩
 obtain ⟨d, k0, k1, k2, k3⟩ := key
 have q1 : (2 * b - 1) * (2 * b - 1) + 4 * b = 4 * (b * b) + 1 := by
  obtain ⟨a, rfl⟩ : ∃ a, b = a + 1 := ⟨b - 1, by omega⟩
  rw [show 2 * (a + 1) - 1 = 2 * a + 1 by omega]
  have e1 : (2 * a + 1) * (2 * a + 1) = 2 * 2 * (a * a) + 4 * a + 1 := by rw [Nat.add_mul, Nat.mul_add, Nat.mul_mul_mul_comm]; omega
  have e2 : (a + 1) * (a + 1) = a * a + 2 * a + 1 := by rw [Nat.add_mul, Nat.mul_add]; omega
  omega
 have q2 : (2 * b + 1) * (2 * b + 1) = 4 * (b * b) + 4 * b + 1 := by
  have e1 : (2 * b + 1) * (2 * b + 1) = 2 * 2 * (b * b) + 4 * b + 1 := by rw [Nat.add_mul, Nat.mul_add, Nat.mul_mul_mul_comm]; omega
  omega
 have q3 : (4 * d + 1) * E < 4 * b * E := Nat.mul_lt_mul_of_pos_right k0 hE0
 have q1E : (2 * b - 1) * (2 * b - 1) * E + 4 * b * E = 4 * (b * b * E) + E := by rw [← Nat.add_mul, q1, Nat.add_mul, Nat.one_mul, Nat.mul_assoc 4]
 have q2E : (2 * b + 1) * (2 * b + 1) * E = 4 * (b * b * E) + 4 * b * E + E := by rw [q2, Nat.add_mul, Nat.add_mul, Nat.one_mul, Nat.mul_assoc 4]
 have q3E : (4 * d + 1) * E = 4 * (d * E) + E := by rw [Nat.add_mul, Nat.one_mul, Nat.mul_assoc]
 have q4 : d * E ≤ 4503599627370496 * E := Nat.mul_le_mul_right _ k1
 refine ⟨by omega, by omega, by omega, ?_⟩
 intro e
 subst e
 have hr := rq_rep (4503599627370496 * 4503599627370496 * 2 ^ G) ⟨1, 104 + G, by rw [Nat.pow_add, Nat.one_mul], by decide⟩ (by
  rcases Nat.lt_or_ge (4503599627370496 * 4503599627370496 * 2 ^ G).log2 2098 with g1 | g1
  · exact g1
  · rw [rq_far _ 0 hm0 (by omega)] at hf; omega)
 rw [← hP, hr.1, ePc]
 exact Nat.le_refl _
theorem quarter_sq (y g E : Nat) (hg : 1 ≤ g) (hE : E = 2 ^ g * 2 ^ g) : 4 * ((y * 2 ^ (g - 1)) * (y * 2 ^ (g - 1))) = y * y * E := by
 have e2 : 2 ^ g = 2 * 2 ^ (g - 1) := by
  have : 2 ^ (g - 1 + 1) = 2 ^ (g - 1) * 2 := Nat.pow_succ ..
  rw [show g - 1 + 1 = g by omega] at this
  omega
 rw [hE, e2, Nat.mul_mul_mul_comm, Nat.mul_mul_mul_comm 2, Nat.mul_left_comm 4]
/-- at least the root of a square, rounded -/
theorem sqrt_ge {x b g G : Nat} (c : Nat) (hc : c = 1074) (hG : g + g = G + c) (hg : 1 ≤ g) (hb : 4503599627370496 ≤ b) (hb' : b < 9007199254740992) (hx : rg x < 9218868437227405312) (hs : sg x = false)
  (h : rq ((b * 2 ^ g) * (b * 2 ^ g)) c ≤ rg x) : ∃ r, Ieee.double.sqrt x = some (wd false r) ∧ rq (b * 2 ^ g) 0 ≤ r ∧ r ≤ 9218868437227405312 := by
 obtain ⟨E, hE⟩ : ∃ E, E = 2 ^ g * 2 ^ g := ⟨_, rfl⟩
 obtain ⟨m1, m2, m3, m4⟩ := sq_mid b g c G E hG hE hb hb' (by omega)
 have hv : vl (rq ((b * 2 ^ g) * (b * 2 ^ g)) c) * 2 ^ c ≤ vl (rg x) * 2 ^ c := Nat.mul_le_mul_right _ (vl_le_iff.2 h)
 have hz : ¬ rg x = 0 := by
  intro e
  rw [e] at hv
  have : vl 0 = 0 := rfl
  rw [this, Nat.zero_mul] at hv
  omega
 refine sqrt_down c b g hc hx hs hz hb hb' hg ?_ ?_
 ·
  have := quarter_sq (2 * b - 1) g E hg hE
  omega
 ·
  intro e
  have k := m4 e
  rw [Nat.mul_mul_mul_comm, ← hE]
  omega
/-- at most the root of a square, rounded -/
theorem sqrt_le {x b g G : Nat} (c : Nat) (hc : c = 1074) (hG : g + g = G + c) (hg : 1 ≤ g) (hb : 4503599627370496 ≤ b) (hb' : b < 9007199254740992) (hs : sg x = false) (hz : ¬ rg x = 0)
  (hf : rq ((b * 2 ^ g) * (b * 2 ^ g)) c < 9218868437227405312) (h : rg x ≤ rq ((b * 2 ^ g) * (b * 2 ^ g)) c) : ∃ r, Ieee.double.sqrt x = some (wd false r) ∧ r ≤ rq (b * 2 ^ g) 0 := by
 obtain ⟨E, hE⟩ : ∃ E, E = 2 ^ g * 2 ^ g := ⟨_, rfl⟩
 obtain ⟨m1, m2, m3, m4⟩ := sq_mid b g c G E hG hE hb hb' hf
 have hv : vl (rg x) * 2 ^ c ≤ vl (rq ((b * 2 ^ g) * (b * 2 ^ g)) c) * 2 ^ c := Nat.mul_le_mul_right _ (vl_le_iff.2 h)
 refine sqrt_up c b g hc (by omega) hs hz hb hb' hg ?_
 have := quarter_sq (2 * b + 1) g E hg hE
 omega
end Go.Proofs.YtfgfofedacehiaaGreat.Fl

