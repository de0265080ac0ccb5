/-
  OWN TEXT: plain laws of rounding a fraction whose worth is a whole number of halves, quarters ..
-/
import Derived.Test.YtmbjgakehghdjaaJad
import Derived.Test.YtmbjgakehghdjaaJaq
import Derived.Test.YtmbjgakehghdjaaJar
import Derived.Test.YtmbjgakehghdjaaJas
namespace Go.Proofs.Ytmbjgakehghdjaa.Fl
set_option linter.unusedVariables false

/-- a rung by way of its figure: the figure, rounded where the unit is right -/
theorem rq_round (n d j : Nat) (hn : 0 < n) (hq : n / 2 ^ (d + j) < 9007199254740992) (hj : j = 0 ∨ 4503599627370496 ≤ n / 2 ^ (d + j)) :
    rq n d = rq (rne n (d + j) * 2 ^ j) 0 := by
  have hp := Nat.two_pow_pos (d + j)
  have hdm := Nat.div_add_mod n (2 ^ (d + j))
  have hm := Nat.mod_lt n hp
  have hN1 : rne n (d + j) ≤ 9007199254740992 := by unfold rne; split <;> omega
  have hN2 : n / 2 ^ (d + j) ≤ rne n (d + j) := by unfold rne; omega
  have hlt : n < 2 ^ (d + j + 53) := by
    rw [Nat.pow_add 2 (d + j) 53]
    calc n < 2 ^ (d + j) * (n / 2 ^ (d + j) + 1) := by rw [Nat.mul_add, Nat.mul_one]; omega
      _ ≤ 2 ^ (d + j) * 2 ^ 53 := Nat.mul_le_mul_left _ (by omega)
  have hlog : n.log2 < d + j + 53 := (Nat.log2_lt (by omega)).2 hlt
  have hg : n.log2 - (52 + d) = j := by
    rcases hj with e | e
    · omega
    · have : 2 ^ (d + j + 52) ≤ n := by
        rw [Nat.pow_add 2 (d + j) 52]
        calc 2 ^ (d + j) * 2 ^ 52 ≤ 2 ^ (d + j) * (n / 2 ^ (d + j)) := Nat.mul_le_mul_left _ (by omega)
          _ ≤ n := by omega
      have := (Nat.le_log2 (by omega)).2 this
      omega
  have hL : rq n d = min (j * 4503599627370496 + rne n (d + j)) 9218868437227405312 := by
    unfold rq
    rw [if_neg (by omega), hg, Nat.add_comm j d]
  rw [hL]
  generalize rne n (d + j) = N at *
  generalize n / 2 ^ (d + j) = q at *
  clear hL hg hlog hlt hm hdm
  by_cases z : N = 0
  · subst z
    have : j = 0 := by omega
    subst this
    rfl
  · have hz : N * 2 ^ j ≠ 0 := Nat.mul_ne_zero z (by have := Nat.two_pow_pos j; omega)
    have hl : (N * 2 ^ j).log2 = N.log2 + j := log2_mul N j z
    have n1 := log2_le N z
    have n2 := log2_lt N z
    unfold rq
    rw [if_neg hz, hl]
    have h53 : N.log2 < 54 := (Nat.log2_lt z).2 (by omega)
    rcases Nat.lt_or_ge N.log2 52 with c | c
    · have : j = 0 := by
        rcases hj with e | e
        · exact e
        · have := (Nat.le_log2 z).2 (show 2 ^ 52 ≤ N by omega)
          omega
      subst this
      rw [show N.log2 + 0 - (52 + 0) = 0 by omega, Nat.pow_zero, Nat.mul_one, Nat.add_zero, rne_zero]
    · rcases Nat.lt_or_ge N.log2 53 with c2 | c2
      · rw [show N.log2 + j - (52 + 0) = j by omega, Nat.add_zero, rne_exact]
      · have e : N.log2 = 53 := by omega
        have e2 : N = 9007199254740992 := by rw [e] at n1; omega
        rw [e, e2, show 53 + j - (52 + 0) = j + 1 by omega, Nat.add_zero]
        rw [show 9007199254740992 * 2 ^ j = 4503599627370496 * 2 ^ (j + 1) by rw [Nat.pow_succ]; omega, rne_exact]
        rw [show (j + 1) * 4503599627370496 + 4503599627370496 = j * 4503599627370496 + 9007199254740992 by omega]

/-- the quotient and the rest of one fraction by another -/
theorem div_same (X Y n P : Nat) (hY : 0 < Y) (hP : 0 < P) (h : X * P = Y * n) : X / Y = n / P ∧ X % Y * P = Y * (n % P) := by
  have h1 := Nat.div_add_mod n P
  have h2 := Nat.mod_lt n hP
  have h3 : X * P = Y * (n / P) * P + Y * (n % P) := by
    rw [h, Nat.mul_assoc, ← Nat.mul_add, Nat.mul_comm (n / P) P, h1]
  have h4 : Y * (n % P) < Y * P := Nat.mul_lt_mul_of_pos_left h2 hY
  have h5 : Y * (n / P) ≤ X := by
    refine Nat.le_of_mul_le_mul_right ?_ hP
    omega
  obtain ⟨R, hR⟩ : ∃ R, X = Y * (n / P) + R := ⟨X - Y * (n / P), by omega⟩
  have h6 : R * P = Y * (n % P) := by
    rw [hR, Nat.add_mul] at h3
    omega
  have h7 : R < Y := by
    refine Nat.lt_of_mul_lt_mul_right (a := P) ?_
    rw [h6]; exact h4
  have e1 : X / Y = n / P := by
    rw [hR, Nat.mul_add_div hY, Nat.div_eq_of_lt h7, Nat.add_zero]
  have e2 : X % Y = R := by
    rw [hR, Nat.mul_add_mod, Nat.mod_eq_of_lt h7]
  exact ⟨e1, by rw [e2]; exact h6⟩

/-- the figure below 2^53: what the halves tell -/
theorem fig_one (X Y n P : Nat) (s : Nat) (hP : P = 2 ^ s) (hY : 0 < Y) (h : X * P = Y * n) :
    rne n s = X / Y + (if Y < 2 * (X % Y) ∨ (Y = 2 * (X % Y) ∧ X / Y % 2 = 1) then 1 else 0) := by
  have hp : 0 < P := by rw [hP]; exact Nat.two_pow_pos s
  obtain ⟨e1, e2⟩ := div_same X Y n P hY hp h
  unfold rne
  rw [← hP, e1]
  congr 1
  have a1 : (P < 2 * (n % P)) ↔ (Y < 2 * (X % Y)) := by
    rw [← Nat.mul_lt_mul_left (a0 := hY) (b := P), ← Nat.mul_lt_mul_right (a0 := hp) (b := Y)]
    rw [Nat.mul_left_comm, ← e2, Nat.mul_assoc]
  have a2 : (P = 2 * (n % P)) ↔ (Y = 2 * (X % Y)) := by
    constructor
    · intro e
      refine Nat.eq_of_mul_eq_mul_right hp ?_
      rw [Nat.mul_assoc, e2, Nat.mul_left_comm, ← e]
    · intro e
      refine Nat.eq_of_mul_eq_mul_left hY ?_
      rw [Nat.mul_left_comm, ← e2, ← Nat.mul_assoc, ← e]
  simp only [a1, a2]

/-- the figure from 2^53 on: what its last bit and the rest tell -/
theorem fig_two (X Y n P : Nat) (s : Nat) (hP : P = 2 ^ s) (hY : 0 < Y) (h : X * P = Y * n) :
    rne n (s + 1) = X / Y / 2 + (if X / Y % 2 = 1 ∧ (¬ X % Y = 0 ∨ X / Y / 2 % 2 = 1) then 1 else 0) := by
  have hp : 0 < P := by rw [hP]; exact Nat.two_pow_pos s
  obtain ⟨e1, e2⟩ := div_same X Y n P hY hp h
  have hz : X % Y = 0 ↔ n % P = 0 := by
    constructor
    · intro e
      rw [e, Nat.zero_mul] at e2
      rcases Nat.mul_eq_zero.1 e2.symm with c | c
      · omega
      · exact c
    · intro e
      rw [e, Nat.mul_zero] at e2
      rcases Nat.mul_eq_zero.1 e2 with c | c
      · exact c
      · omega
  have h1 := Nat.div_add_mod n P
  have h2 := Nat.mod_lt n hp
  unfold rne
  rw [Nat.pow_succ, ← hP, e1]
  simp only [hz]
  generalize hq : n / P = q at *
  generalize hr : n % P = r at *
  have h3 : n = P * 2 * (q / 2) + (P * (q % 2) + r) := by
    have := Nat.div_add_mod q 2
    rw [← h1, ← Nat.add_assoc, Nat.mul_assoc, ← Nat.mul_add, this]
  have h4 : P * (q % 2) + r < P * 2 := by
    rcases Nat.mod_two_eq_zero_or_one q with c | c <;> rw [c] <;> omega
  have e3 : n / (P * 2) = q / 2 := by
    rw [h3, Nat.mul_add_div (by omega), Nat.div_eq_of_lt h4, Nat.add_zero]
  have e4 : n % (P * 2) = P * (q % 2) + r := by
    rw [h3, Nat.mul_add_mod, Nat.mod_eq_of_lt h4]
  rw [e3, e4]
  congr 1
  rcases Nat.mod_two_eq_zero_or_one q with c | c
  · rw [c, if_neg (by omega), if_neg (by omega)]
  · rw [c, Nat.mul_one]
    by_cases c2 : r = 0
    · by_cases c3 : q / 2 % 2 = 1
      · rw [if_pos (by omega), if_pos (by omega)]
      · rw [if_neg (by omega), if_neg (by omega)]
    · rw [if_pos (by omega), if_pos (by omega)]
end Go.Proofs.Ytmbjgakehghdjaa.Fl
/-
  OWN TEXT: plain laws of halving and doubling floats, and of a float made whole.
-/
namespace Go.Proofs.Ytmbjgakehghdjaa.Fl
set_option linter.unusedVariables false

/-- half a float -/
theorem div_two {x : Nat} (hx : rg x < 9218868437227405312) : Ieee.double.div x 4611686018427387904 = some (wd (sg x) (rq (vl (rg x)) 1)) := by
  obtain ⟨m, k, hm, em⟩ := read_fin hx
  have r2 : Ieee.double.read 4611686018427387904 = .number false 4503599627370496 (-51) := rfl
  unfold Ieee.Format.div
  rw [hm, r2]
  unfold Ieee.Datum.quotient
  simp only []
  rw [if_neg (by omega), show (4503599627370496 : Nat).log2 = 52 by decide]
  have hfb : Ieee.double.fractionBits = 52 := rfl
  rw [hfb]
  by_cases z : m = 0
  · subst z
    have hv : vl (rg x) = 0 := by rw [← em, Nat.zero_mul]
    rw [hv, show Nat.log2 0 = 0 from rfl, Nat.zero_shiftLeft]
    simp only [Nat.zero_div, Nat.zero_mod, Nat.mul_zero, Option.map_some]
    rw [Bool.xor_false, show rq 0 1 = 0 from rfl]
    show some (Ieee.double.nearest (sg x) 0 _) = _
    unfold Ieee.Format.nearest
    rw [if_pos rfl]
    cases sg x <;> rfl
  · have hml : m.log2 ≤ 53 := by
      by_cases c : rg x < 4503599627370496
      · have h1 : m * 2 ^ k < 4503599627370496 := by rw [em, vl_small c]; exact c
        have h2 : m ≤ m * 2 ^ k := Nat.le_mul_of_pos_right m (Nat.two_pow_pos k)
        have := (Nat.log2_lt z (k := 52)).2 (by omega)
        omega
      · have h1 := read_eq x
        rw [hm, if_neg c, if_pos hx] at h1
        injection h1 with _ h1 _
        have := (Nat.log2_lt z (k := 53)).2 (by omega)
        omega
    obtain ⟨t, ht⟩ : ∃ t, 52 + 2 + 52 - m.log2 = 52 + t := ⟨52 + 2 + 52 - m.log2 - 52, by omega⟩
    rw [ht, Nat.shiftLeft_eq, Nat.pow_add, show (2 : Nat) ^ 52 = 4503599627370496 by decide, Nat.mul_left_comm, Nat.mul_div_cancel_left _ (by omega), Nat.mul_mod_right]
    simp only [bne_self_eq_false, Bool.toNat_false, Nat.add_zero, Option.map_some, Bool.xor_false]
    have h := nearest_eq (sg x) (2 * (m * 2 ^ t)) k (t + 2)
    rw [show -1074 + (k : Int) - ((t + 2 : Nat) : Int) = -1074 + (k : Int) - -51 - ((52 + t : Nat) : Int) - 1 by omega] at h
    show some (Ieee.double.nearest _ _ _) = _
    rw [h, show 2 * (m * 2 ^ t) * 2 ^ k = m * 2 ^ k * 2 ^ (t + 1) by rw [Nat.pow_succ, Nat.mul_assoc m, Nat.mul_comm (2 ^ k), ← Nat.mul_assoc m, ← Nat.mul_assoc m]; rw [Nat.mul_comm 2, Nat.mul_right_comm], show t + 2 = 1 + (t + 1) by omega, rq_mul, em]

theorem mul_two' {x : Nat} (hx : rg x < 9218868437227405312) : Ieee.double.mul x 4611686018427387904 = some (wd (sg x) (rq (vl (rg x) * 2) 0)) := by
  have r1 : rg 4611686018427387904 = 4611686018427387904 := by decide
  have s1 : sg 4611686018427387904 = false := by decide
  have e := mul_fin (x := x) (y := 4611686018427387904) hx (by rw [r1]; decide)
  rw [r1, s1, Bool.xor_false, rq_by' 4611686018427387904 _ 1074 1 1074 vl_two rfl] at e
  exact e

/-- up a binade -/
theorem vl_up (r i : Nat) (h : 4503599627370496 ≤ r) : vl (r + i * 4503599627370496) = vl r * 2 ^ i := by
  rw [vl_big h, vl_big (by omega), Nat.mul_assoc, ← Nat.pow_add]
  congr 2
  · omega
  · omega
theorem half_step (r : Nat) (h : 9007199254740992 ≤ r) (hr : r ≤ 9218868437227405312) : rq (vl r) 1 = r - 4503599627370496 := by
  have e := vl_up (r - 4503599627370496) 1 (by omega)
  rw [show r - 4503599627370496 + 1 * 4503599627370496 = r by omega] at e
  rw [e]
  have := rq_mul (vl (r - 4503599627370496)) 1 0
  rw [Nat.zero_add] at this
  rw [this, rq_vl _ (by omega)]

/-- two numbers of 53 bits by powers of two are one only if both are -/
theorem bits_uniq (m n a b : Nat) (hm : 4503599627370496 ≤ m) (hm' : m < 9007199254740992) (hn : 4503599627370496 ≤ n) (hn' : n < 9007199254740992) (h : m * 2 ^ a = n * 2 ^ b) : a = b ∧ m = n := by
  have l1 : m.log2 = 52 := by
    have h1 := (Nat.le_log2 (n := m) (k := 52) (by omega)).2 (by omega)
    have h2 := (Nat.log2_lt (n := m) (k := 53) (by omega)).2 (by omega)
    omega
  have l2 : n.log2 = 52 := by
    have h1 := (Nat.le_log2 (n := n) (k := 52) (by omega)).2 (by omega)
    have h2 := (Nat.log2_lt (n := n) (k := 53) (by omega)).2 (by omega)
    omega
  have e := congrArg Nat.log2 h
  rw [log2_mul m a (by omega), log2_mul n b (by omega), l1, l2] at e
  have e2 : a = b := by omega
  subst e2
  exact ⟨rfl, Nat.eq_of_mul_eq_mul_right (Nat.two_pow_pos a) h⟩
end Go.Proofs.Ytmbjgakehghdjaa.Fl
namespace Go.Proofs.Ytmbjgakehghdjaa
/-- what a float's parts are is told by their worth -/
theorem pt_uniq {x r i j : Nat} (hx : x < 18446744073709551616) (hf : Fl.rg x < 9218868437227405312) (hz : ¬ Fl.rg x = 0) (h1 : 4602678819172646912 ≤ r) (h2 : r < 4607182418800017408) (h : Fl.vl r * 2 ^ i = Fl.vl (Fl.rg x) * 2 ^ j) :
    Fl.wd (Fl.sg x) r = ptF x ∧ (i : Int) - (j : Int) = ptE x := by
  obtain ⟨y1, y2, y3, y4, c1, c2, v1⟩ := nm_facts hx hf hz
  obtain ⟨e', he⟩ : ∃ e' : Nat, (-nmE x).toNat = e' := ⟨_, rfl⟩
  rw [he] at v1
  have hE : nmE x = -(e' : Int) := by omega
  unfold ptF ptE
  rw [hE]
  generalize Fl.rg (nmF x) = y at *
  have a1 := Fl.vl_big (r := r) (by omega)
  have a2 := Fl.vl_big (r := y) y3
  obtain ⟨c, hc⟩ : ∃ c, c = 1021 := ⟨_, rfl⟩
  have er : r / 4503599627370496 - 1 = c := by omega
  rw [er] at a1
  have k1 : (4503599627370496 + r % 4503599627370496) * 2 ^ (c + i + e') = (4503599627370496 + y % 4503599627370496) * 2 ^ (y / 4503599627370496 - 1 + j) := by
    have e1 : (4503599627370496 + r % 4503599627370496) * 2 ^ (c + i + e') = Fl.vl r * 2 ^ i * 2 ^ e' := by
      rw [a1, Nat.pow_add, Nat.pow_add, ← Nat.mul_assoc, ← Nat.mul_assoc]
    have e2 : (4503599627370496 + y % 4503599627370496) * 2 ^ (y / 4503599627370496 - 1 + j) = Fl.vl (Fl.rg x) * 2 ^ j * 2 ^ e' := by
      rw [Nat.pow_add, ← Nat.mul_assoc, ← a2, v1, Nat.mul_right_comm]
    rw [e1, e2, h]
  obtain ⟨k2, k3⟩ := Fl.bits_uniq _ _ _ _ (by omega) (by omega) (by omega) (by omega) k1
  refine ⟨?_, by omega⟩
  congr 1
  omega
end Go.Proofs.Ytmbjgakehghdjaa
/-
  OWN TEXT: a float by its parts: scaled to a half and more, and back; what is as great or greater stays so.
-/
set_option linter.unusedVariables false
namespace Go.Proofs.Ytmbjgakehghdjaa
/-- the figures of a float, from 2^52 on -/
def mtF (x : Nat) : Nat := 4503599627370496 + Fl.rg (nmF x) % 4503599627370496
theorem mt_lo (x : Nat) : 4503599627370496 ≤ mtF x := by unfold mtF; omega
theorem mt_hi (x : Nat) : mtF x < 9007199254740992 := by unfold mtF; omega
theorem rz_form {x : Nat} (hx : x < 18446744073709551616) (hf : Fl.rg x < 9218868437227405312) (hz : ¬ Fl.rg x = 0) (n : Int) : Fl.rz (Fl.vl (Fl.rg x)) n = Fl.rz (mtF x) (n + ptE x + 1021) := by
  obtain ⟨y1, y2, y3, y4, c1, c2, v1⟩ := nm_facts hx hf hz
  have hpt : ptE x = nmE x + (((Fl.rg (nmF x) / 4503599627370496 : Nat) : Int) - 1023 + 1) := rfl
  unfold mtF
  generalize hy : Fl.rg (nmF x) = y at *
  have v2 := Fl.vl_comb (y / 4503599627370496 - 1) (4503599627370496 + y % 4503599627370496) (by omega) (Or.inr (by omega))
  rw [show (y / 4503599627370496 - 1) * 4503599627370496 + (4503599627370496 + y % 4503599627370496) = y by omega, v1] at v2
  have s1 := Fl.rz_shift (Fl.vl (Fl.rg x)) (-nmE x).toNat (n + nmE x)
  rw [show n + nmE x + (((-nmE x).toNat : Nat) : Int) = n by omega] at s1
  rw [← s1, v2, Fl.rz_shift, hpt]
  congr 1
  omega
theorem rz_nat (v k : Nat) (n : Int) (h : n = (k : Int)) : Fl.rz v n = Fl.rq (v * 2 ^ k) 0 := by
  subst h
  unfold Fl.rz
  rw [show (-(k : Int)).toNat = 0 by omega, Int.toNat_natCast]
theorem rz_mono {v v' : Nat} (n : Int) (h : v ≤ v') : Fl.rz v n ≤ Fl.rz v' n := Fl.rq_mono _ _ _ (Nat.mul_le_mul_right _ h)
theorem rg_scF {x : Nat} (hf : Fl.rg x < 9218868437227405312) (hz : ¬ Fl.rg x = 0) (n : Int) : Fl.rg (scF x n) = Fl.rz (Fl.vl (Fl.rg x)) n := by
  rw [scF_fin hf hz, Fl.rg_wd _ _ (by have := Fl.rz_le (Fl.vl (Fl.rg x)) n; omega)]
theorem sg_scF0 {x : Nat} (hs : Fl.sg x = false) (hf : Fl.rg x < 9218868437227405312) (n : Int) : Fl.sg (scF x n) = false := by
  by_cases hz : Fl.rg x = 0
  · rw [scF_stay (Or.inl hz)]; exact hs
  · rw [scF_sg n hf hz]; exact hs
/-- what is as great or greater, times a power of two, stays so -/
theorem scF_mono {x y : Nat} (n : Int) (hx : Fl.rg x < 9218868437227405312) (hy : Fl.rg y < 9218868437227405312) (h : Fl.rg x ≤ Fl.rg y) : Fl.rg (scF x n) ≤ Fl.rg (scF y n) := by
  by_cases zx : Fl.rg x = 0
  · rw [scF_stay (Or.inl zx), zx]; omega
  · rw [rg_scF hx zx, rg_scF hy (by omega)]
    exact rz_mono n (Fl.vl_le_iff.2 h)
theorem pa_pt {x : Nat} (hf : Fl.rg x < 9218868437227405312) (hz : ¬ Fl.rg x = 0) : paE x = ptE x := by
  unfold paE; rw [if_neg (by omega)]
/-- scaled by its own order: half and more -/
theorem unit_form {x : Nat} (g : Nat) (hg : g = 1021) (hx : x < 18446744073709551616) (hf : Fl.rg x < 9218868437227405312) (hz : ¬ Fl.rg x = 0) :
    Fl.rg (scF x (-ptE x)) = Fl.rq (mtF x * 2 ^ g) 0 ∧ Fl.vl (Fl.rg (scF x (-ptE x))) = mtF x * 2 ^ g ∧ 4602678819172646912 ≤ Fl.rg (scF x (-ptE x)) ∧ Fl.rg (scF x (-ptE x)) < 4607182418800017408 := by
  have h1 := rz_form hx hf hz (-ptE x)
  rw [rz_nat (mtF x) g _ (by omega)] at h1
  have h2 := vl_half (Fl.rg (nmF x) % 4503599627370496) g (by omega) hg
  have h3 : Fl.rq (mtF x * 2 ^ g) 0 = 4602678819172646912 + Fl.rg (nmF x) % 4503599627370496 := by
    show Fl.rq ((4503599627370496 + Fl.rg (nmF x) % 4503599627370496) * 2 ^ g) 0 = _
    rw [← h2]
    exact Fl.rq_vl _ (by omega)
  rw [rg_scF hf hz, h1]
  refine ⟨rfl, ?_, by omega, by omega⟩
  rw [h3, h2]
  rfl
/-- a rung that is a multiple by a power of two of another one's worth -/
theorem scale_nat {x : Nat} (n : Int) (hf : Fl.rg x < 9218868437227405312) (hz : ¬ Fl.rg x = 0) (h1 : Fl.rg (scF x n) < 9218868437227405312) (h2 : 4503599627370496 < Fl.rg (scF x n)) :
    Fl.vl (Fl.rg (scF x n)) * 2 ^ (-n).toNat = Fl.vl (Fl.rg x) * 2 ^ n.toNat := by
  have h := scale_exact n hf hz h1 h2
  have k := congrArg Int.natAbs h
  rw [Int.natAbs_mul, Int.natAbs_mul, Fl.val_abs, Fl.val_abs, Int.natAbs_natCast, Int.natAbs_natCast] at k
  exact k
theorem scale_back {v v' : Nat} (n : Int) (h : v * 2 ^ n.toNat = v' * 2 ^ (-n).toNat) : Fl.rz v n = Fl.rq v' 0 := by
  unfold Fl.rz
  rw [h]
  have := Fl.rq_mul v' (-n).toNat 0
  rw [Nat.zero_add] at this
  exact this
end Go.Proofs.Ytmbjgakehghdjaa
