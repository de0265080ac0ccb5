/-
  OWN TEXT: plain laws of rounding a fraction whose worth is a whole number of halves, quarters ..
-/
import Derived.Test.YtpfaaimfembhdaaJFlCToFlG
namespace Go.Proofs.Ytpfaaimfembhdaa.Fl
set_option linter.unusedVariables false

/-- a rung by way of its figure: the figure, rounded where the unit is right -/
theorem rq_round (n d j : Nat) (hn : 0 < n) (hq : n / 2 ^ (d + j) < 9007199254740992) (hj : j = 0 ∨ 4503599627370496 ≤ n / 2 ^ (d + j)) :
    rq n d = rq (rne n (d + j) * 2 ^ j) 0 := by
  have hp := Nat.two_pow_pos (d + j)
  have hdm := Nat.div_add_mod n (2 ^ (d + j))
  have hm := Nat.mod_lt n hp
  have hN1 : rne n (d + j) ≤ 9007199254740992 := by unfold rne; split <;> omega
  have hN2 : n / 2 ^ (d + j) ≤ rne n (d + j) := by unfold rne; omega
  have hlt : n < 2 ^ (d + j + 53) := by
    rw [Nat.pow_add 2 (d + j) 53]
    calc n < 2 ^ (d + j) * (n / 2 ^ (d + j) + 1) := by rw [Nat.mul_add, Nat.mul_one]; omega
      _ ≤ 2 ^ (d + j) * 2 ^ 53 := Nat.mul_le_mul_left _ (by omega)
  have hlog : n.log2 < d + j + 53 := (Nat.log2_lt (by omega)).2 hlt
  have hg : n.log2 - (52 + d) = j := by
    rcases hj with e | e
    · omega
    · have : 2 ^ (d + j + 52) ≤ n := by
        rw [Nat.pow_add 2 (d + j) 52]
        calc 2 ^ (d + j) * 2 ^ 52 ≤ 2 ^ (d + j) * (n / 2 ^ (d + j)) := Nat.mul_le_mul_left _ (by omega)
          _ ≤ n := by omega
      have := (Nat.le_log2 (by omega)).2 this
      omega
  have hL : rq n d = min (j * 4503599627370496 + rne n (d + j)) 9218868437227405312 := by
    unfold rq
    rw [if_neg (by omega), hg, Nat.add_comm j d]
  rw [hL]
  generalize rne n (d + j) = N at *
  generalize n / 2 ^ (d + j) = q at *
  clear hL hg hlog hlt hm hdm
  by_cases z : N = 0
  · subst z
    have : j = 0 := by omega
    subst this
    rfl
  · have hz : N * 2 ^ j ≠ 0 := Nat.mul_ne_zero z (by have := Nat.two_pow_pos j; omega)
    have hl : (N * 2 ^ j).log2 = N.log2 + j := log2_mul N j z
    have n1 := log2_le N z
    have n2 := log2_lt N z
    unfold rq
    rw [if_neg hz, hl]
    have h53 : N.log2 < 54 := (Nat.log2_lt z).2 (by omega)
    rcases Nat.lt_or_ge N.log2 52 with c | c
    · have : j = 0 := by
        rcases hj with e | e
        · exact e
        · have := (Nat.le_log2 z).2 (show 2 ^ 52 ≤ N by omega)
          omega
      subst this
      rw [show N.log2 + 0 - (52 + 0) = 0 by omega, Nat.pow_zero, Nat.mul_one, Nat.add_zero, rne_zero]
    · rcases Nat.lt_or_ge N.log2 53 with c2 | c2
      · rw [show N.log2 + j - (52 + 0) = j by omega, Nat.add_zero, rne_exact]
      · have e : N.log2 = 53 := by omega
        have e2 : N = 9007199254740992 := by rw [e] at n1; omega
        rw [e, e2, show 53 + j - (52 + 0) = j + 1 by omega, Nat.add_zero]
        rw [show 9007199254740992 * 2 ^ j = 4503599627370496 * 2 ^ (j + 1) by rw [Nat.pow_succ]; omega, rne_exact]
        rw [show (j + 1) * 4503599627370496 + 4503599627370496 = j * 4503599627370496 + 9007199254740992 by omega]

/-- the quotient and the rest of one fraction by another -/
theorem div_same (X Y n P : Nat) (hY : 0 < Y) (hP : 0 < P) (h : X * P = Y * n) : X / Y = n / P ∧ X % Y * P = Y * (n % P) := by
  have h1 := Nat.div_add_mod n P
  have h2 := Nat.mod_lt n hP
  have h3 : X * P = Y * (n / P) * P + Y * (n % P) := by
    rw [h, Nat.mul_assoc, ← Nat.mul_add, Nat.mul_comm (n / P) P, h1]
  have h4 : Y * (n % P) < Y * P := Nat.mul_lt_mul_of_pos_left h2 hY
  have h5 : Y * (n / P) ≤ X := by
    refine Nat.le_of_mul_le_mul_right ?_ hP
    omega
  obtain ⟨R, hR⟩ : ∃ R, X = Y * (n / P) + R := ⟨X - Y * (n / P), by omega⟩
  have h6 : R * P = Y * (n % P) := by
    rw [hR, Nat.add_mul] at h3
    omega
  have h7 : R < Y := by
    refine Nat.lt_of_mul_lt_mul_right (a := P) ?_
    rw [h6]; exact h4
  have e1 : X / Y = n / P := by
    rw [hR, Nat.mul_add_div hY, Nat.div_eq_of_lt h7, Nat.add_zero]
  have e2 : X % Y = R := by
    rw [hR, Nat.mul_add_mod, Nat.mod_eq_of_lt h7]
  exact ⟨e1, by rw [e2]; exact h6⟩

/-- the figure below 2^53: what the halves tell -/
theorem fig_one (X Y n P : Nat) (s : Nat) (hP : P = 2 ^ s) (hY : 0 < Y) (h : X * P = Y * n) :
    rne n s = X / Y + (if Y < 2 * (X % Y) ∨ (Y = 2 * (X % Y) ∧ X / Y % 2 = 1) then 1 else 0) := by
  have hp : 0 < P := by rw [hP]; exact Nat.two_pow_pos s
  obtain ⟨e1, e2⟩ := div_same X Y n P hY hp h
  unfold rne
  rw [← hP, e1]
  congr 1
  have a1 : (P < 2 * (n % P)) ↔ (Y < 2 * (X % Y)) := by
    rw [← Nat.mul_lt_mul_left (a0 := hY) (b := P), ← Nat.mul_lt_mul_right (a0 := hp) (b := Y)]
    rw [Nat.mul_left_comm, ← e2, Nat.mul_assoc]
  have a2 : (P = 2 * (n % P)) ↔ (Y = 2 * (X % Y)) := by
    constructor
    · intro e
      refine Nat.eq_of_mul_eq_mul_right hp ?_
      rw [Nat.mul_assoc, e2, Nat.mul_left_comm, ← e]
    · intro e
      refine Nat.eq_of_mul_eq_mul_left hY ?_
      rw [Nat.mul_left_comm, ← e2, ← Nat.mul_assoc, ← e]
  simp only [a1, a2]

/-- the figure from 2^53 on: what its last bit and the rest tell -/
theorem fig_two (X Y n P : Nat) (s : Nat) (hP : P = 2 ^ s) (hY : 0 < Y) (h : X * P = Y * n) :
    rne n (s + 1) = X / Y / 2 + (if X / Y % 2 = 1 ∧ (¬ X % Y = 0 ∨ X / Y / 2 % 2 = 1) then 1 else 0) := by
  have hp : 0 < P := by rw [hP]; exact Nat.two_pow_pos s
  obtain ⟨e1, e2⟩ := div_same X Y n P hY hp h
  have hz : X % Y = 0 ↔ n % P = 0 := by
    constructor
    · intro e
      rw [e, Nat.zero_mul] at e2
      rcases Nat.mul_eq_zero.1 e2.symm with c | c
      · omega
      · exact c
    · intro e
      rw [e, Nat.mul_zero] at e2
      rcases Nat.mul_eq_zero.1 e2 with c | c
      · exact c
      · omega
  have h1 := Nat.div_add_mod n P
  have h2 := Nat.mod_lt n hp
  unfold rne
  rw [Nat.pow_succ, ← hP, e1]
  simp only [hz]
  generalize hq : n / P = q at *
  generalize hr : n % P = r at *
  have h3 : n = P * 2 * (q / 2) + (P * (q % 2) + r) := by
    have := Nat.div_add_mod q 2
    rw [← h1, ← Nat.add_assoc, Nat.mul_assoc, ← Nat.mul_add, this]
  have h4 : P * (q % 2) + r < P * 2 := by
    rcases Nat.mod_two_eq_zero_or_one q with c | c <;> rw [c] <;> omega
  have e3 : n / (P * 2) = q / 2 := by
    rw [h3, Nat.mul_add_div (by omega), Nat.div_eq_of_lt h4, Nat.add_zero]
  have e4 : n % (P * 2) = P * (q % 2) + r := by
    rw [h3, Nat.mul_add_mod, Nat.mod_eq_of_lt h4]
  rw [e3, e4]
  congr 1
  rcases Nat.mod_two_eq_zero_or_one q with c | c
  · rw [c, if_neg (by omega), if_neg (by omega)]
  · rw [c, Nat.mul_one]
    by_cases c2 : r = 0
    · by_cases c3 : q / 2 % 2 = 1
      · rw [if_pos (by omega), if_pos (by omega)]
      · rw [if_neg (by omega), if_neg (by omega)]
    · rw [if_pos (by omega), if_pos (by omega)]
end Go.Proofs.Ytpfaaimfembhdaa.Fl
