/-
  OWN TEXT: lengths, roots, polar forms, units of complex numbers: what the chapter's steps come to.
-/
import Derived.Test.YtmbjgakehghdjaaJag
import Derived.Test.YtmbjgakehghdjaaJaf
import Derived.Test.YtmbjgakehghdjaaJad
import Derived.Test.YtmbjgakehghdjaaJae
namespace Go.Proofs.Ytmbjgakehghdjaa
open Go.ChangeShapes Go.WideShapes Go.ChangeAt Go.RowKit
set_option linter.unusedVariables false
/-- y is the root of x -/
def sqtR (x y : Nat) : Prop := y < 18446744073709551616 ∧ (Ieee.double.sqrt x = some y ∨ (Ieee.double.sqrt x = none ∧ Fl.nan y = true))
theorem sqt_none {x : Nat} (h : Fl.nan x = true) : Ieee.double.sqrt x = none := by
  unfold Ieee.Format.sqrt
  rw [Fl.read_nan (Fl.nan_lt h)]
  rfl
theorem sqtR.sim {x x' y y' : Nat} (h : sqtR x y) (k : sqtR x' y') (e : simR x x') : simR y y' := by
  rcases e with e | ⟨e1, e2⟩
  · subst e
    rcases h.2 with a | ⟨a1, a2⟩
    · rcases k.2 with b | ⟨b1, b2⟩
      · rw [a] at b; exact Or.inl (Option.some.inj b)
      · rw [a] at b1; cases b1
    · rcases k.2 with b | ⟨b1, b2⟩
      · rw [a1] at b; cases b
      · exact Or.inr ⟨a2, b2⟩
  · rcases h.2 with a | ⟨a1, a2⟩
    · rw [sqt_none e1] at a; cases a
    · rcases k.2 with b | ⟨b1, b2⟩
      · rw [sqt_none e2] at b; cases b
      · exact Or.inr ⟨a2, b2⟩
def sqaR (a b r : Nat) : Prop := ∃ p q, opR .mul a a p ∧ opR .mul b b q ∧ opR .add p q r
theorem sqaR.sim {a b a' b' r r' : Nat} (h : sqaR a b r) (k : sqaR a' b' r') (e1 : simR a a') (e2 : simR b b') : simR r r' := by
  obtain ⟨p, q, h1, h2, h3⟩ := h
  obtain ⟨p', q', k1, k2, k3⟩ := k
  exact h3.sim isAdd k3 (h1.sim isMul k1 e1 e1) (h2.sim isMul k2 e2 e2)
def togR (u v r : Nat) : Prop := ∃ s, sqaR u v s ∧ sqtR s r
theorem togR.sim {a b a' b' r r' : Nat} (h : togR a b r) (k : togR a' b' r') (e1 : simR a a') (e2 : simR b b') : simR r r' := by
  obtain ⟨s, h1, h2⟩ := h
  obtain ⟨s', k1, k2⟩ := k
  exact h2.sim k2 (h1.sim k1 e1 e2)
theorem tog_lt {u v r : Nat} (h : togR u v r) : r < 18446744073709551616 := by obtain ⟨_, _, h⟩ := h; exact h.1
/-- the greater part without its sign, and the lesser one -/
def bigF (a b : Nat) : Nat := if Fl.ltF (Fl.rg a) (Fl.rg b) = true then Fl.rg b else Fl.rg a
def smaF (a b : Nat) : Nat := if Fl.ltF (Fl.rg a) (Fl.rg b) = true then Fl.rg a else Fl.rg b
theorem big_lt (a b : Nat) : bigF a b < 9223372036854775808 := by unfold bigF; split; exact Fl.rg_lt _; exact Fl.rg_lt _
theorem sma_lt (a b : Nat) : smaF a b < 9223372036854775808 := by unfold smaF; split; exact Fl.rg_lt _; exact Fl.rg_lt _
theorem sc_sim {t t' : Nat} (n : Int) (h : simR t t') : simR (scF t n) (scF t' n) := by
  rcases h with e | ⟨e1, e2⟩
  · rw [e]; exact simR.refl _
  · rw [scF_stay (Or.inr (Nat.le_of_lt (Fl.nan_lt e1))), scF_stay (Or.inr (Nat.le_of_lt (Fl.nan_lt e2)))]; exact Or.inr ⟨e1, e2⟩
/-- the length of a number whose parts are finite -/
def lenP (a b r : Nat) : Prop := ∃ l, togR (scF (bigF a b) (-paE (bigF a b))) (scF (smaF a b) (-paE (bigF a b))) l ∧ r = scF l (paE (bigF a b))
def lenR (a b r : Nat) : Prop := r < 18446744073709551616 ∧
  if Fl.rg a = 9218868437227405312 ∨ Fl.rg b = 9218868437227405312 then r = 9218868437227405312 else if Fl.nan a = true ∨ Fl.nan b = true then Fl.nan r = true else if bigF a b = 0 then r = 0 else lenP a b r
theorem lenR.sim {a b r r' : Nat} (h : lenR a b r) (k : lenR a b r') : simR r r' := by
  obtain ⟨_, h⟩ := h
  obtain ⟨_, k⟩ := k
  by_cases c1 : Fl.rg a = 9218868437227405312 ∨ Fl.rg b = 9218868437227405312
  · rw [if_pos c1] at h k; exact Or.inl (h.trans k.symm)
  · rw [if_neg c1] at h k
    by_cases c2 : Fl.nan a = true ∨ Fl.nan b = true
    · rw [if_pos c2] at h k; exact Or.inr ⟨h, k⟩
    · rw [if_neg c2] at h k
      by_cases c3 : bigF a b = 0
      · rw [if_pos c3] at h k; exact Or.inl (h.trans k.symm)
      · rw [if_neg c3] at h k
        obtain ⟨l, h1, h2⟩ := h
        obtain ⟨l', k1, k2⟩ := k
        rw [h2, k2]
        exact sc_sim _ (h1.sim k1 (simR.refl _) (simR.refl _))
/-- the root of a number whose parts are finite, not both nought; of halves of its order -/
def rooP (a b re im : Nat) : Prop := ∃ l s0 h t d, togR (scF (Fl.rg a) (-(2 * (paE (bigF a b) / 2)))) (scF (Fl.rg b) (-(2 * (paE (bigF a b) / 2)))) l ∧
  opR .add (scF (Fl.rg a) (-(2 * (paE (bigF a b) / 2)))) l s0 ∧ opR .quo s0 4611686018427387904 h ∧ sqtR h t ∧ opR .mul 4611686018427387904 (scF t (paE (bigF a b) / 2)) d ∧
  if Fl.leF 0 a = true then re = scF t (paE (bigF a b) / 2) ∧ opR .quo b d im else opR .quo (Fl.rg b) d re ∧ im = Fl.wd (Fl.sg b) (Fl.rg (scF t (paE (bigF a b) / 2)))
theorem cp_sim {b s s' : Nat} (hb : b = b) (h : simR s s') : simR (Fl.wd (Fl.sg b) (Fl.rg s)) (Fl.wd (Fl.sg b) (Fl.rg s')) := by
  rcases h with e | ⟨e1, e2⟩
  · rw [e]; exact simR.refl _
  · refine Or.inr ⟨?_, ?_⟩
    · unfold Fl.nan; rw [Fl.rg_wd _ _ (Fl.rg_lt _)]; exact e1
    · unfold Fl.nan; rw [Fl.rg_wd _ _ (Fl.rg_lt _)]; exact e2
theorem rooP.sim {a b re im re' im' : Nat} (h : rooP a b re im) (k : rooP a b re' im') : simR re re' ∧ simR im im' := by
  obtain ⟨l, s0, q, t, d, h1, h2, h3, h4, h5, h6⟩ := h
  obtain ⟨l', s0', q', t', d', k1, k2, k3, k4, k5, k6⟩ := k
  have el := h1.sim k1 (simR.refl _) (simR.refl _)
  have e0 := h2.sim isAdd k2 (simR.refl _) el
  have eq := h3.sim isQuo k3 e0 (simR.refl _)
  have et := h4.sim k4 eq
  have es := sc_sim (paE (bigF a b) / 2) et
  have ed := h5.sim isMul k5 (simR.refl _) es
  by_cases c : Fl.leF 0 a = true
  · rw [if_pos c] at h6 k6
    refine ⟨?_, h6.2.sim isQuo k6.2 (simR.refl _) ed⟩
    rw [h6.1, k6.1]; exact es
  · rw [if_neg c] at h6 k6
    refine ⟨h6.1.sim isQuo k6.1 (simR.refl _) ed, ?_⟩
    rw [h6.2, k6.2]; exact cp_sim rfl es
def rooR (a b re im : Nat) : Prop :=
  if Fl.rg b = 9218868437227405312 then re = 9218868437227405312 ∧ im = b
  else if Fl.rg a = 9218868437227405312 ∧ Fl.nan b = true then if Fl.sg a = false then re = 9218868437227405312 ∧ Fl.nan im = true else Fl.nan re = true ∧ im = 9218868437227405312
  else if Fl.rg a = 9218868437227405312 then if Fl.sg a = false then re = 9218868437227405312 ∧ im = Fl.wd (Fl.sg b) 0 else re = 0 ∧ im = Fl.wd (Fl.sg b) 9218868437227405312
  else if Fl.nan a = true ∨ Fl.nan b = true then Fl.nan re = true ∧ Fl.nan im = true
  else if Fl.rg a = 0 ∧ Fl.rg b = 0 then re = 0 ∧ im = b
  else rooP a b re im
theorem rooR.sim {a b re im re' im' : Nat} (h : rooR a b re im) (k : rooR a b re' im') : simR re re' ∧ simR im im' := by
  unfold rooR at h k
  by_cases c1 : Fl.rg b = 9218868437227405312
  · rw [if_pos c1] at h k; exact ⟨Or.inl (h.1.trans k.1.symm), Or.inl (h.2.trans k.2.symm)⟩
  · rw [if_neg c1] at h k
    by_cases c2 : Fl.rg a = 9218868437227405312 ∧ Fl.nan b = true
    · rw [if_pos c2] at h k
      by_cases s : Fl.sg a = false
      · rw [if_pos s] at h k; exact ⟨Or.inl (h.1.trans k.1.symm), Or.inr ⟨h.2, k.2⟩⟩
      · rw [if_neg s] at h k; exact ⟨Or.inr ⟨h.1, k.1⟩, Or.inl (h.2.trans k.2.symm)⟩
    · rw [if_neg c2] at h k
      by_cases c3 : Fl.rg a = 9218868437227405312
      · rw [if_pos c3] at h k
        by_cases s : Fl.sg a = false
        · rw [if_pos s] at h k; exact ⟨Or.inl (h.1.trans k.1.symm), Or.inl (h.2.trans k.2.symm)⟩
        · rw [if_neg s] at h k; exact ⟨Or.inl (h.1.trans k.1.symm), Or.inl (h.2.trans k.2.symm)⟩
      · rw [if_neg c3] at h k
        by_cases c4 : Fl.nan a = true ∨ Fl.nan b = true
        · rw [if_pos c4] at h k; exact ⟨Or.inr ⟨h.1, k.1⟩, Or.inr ⟨h.2, k.2⟩⟩
        · rw [if_neg c4] at h k
          by_cases c5 : Fl.rg a = 0 ∧ Fl.rg b = 0
          · rw [if_pos c5] at h k; exact ⟨Or.inl (h.1.trans k.1.symm), Or.inl (h.2.trans k.2.symm)⟩
          · rw [if_neg c5] at h k; exact h.sim k
/-- the place of a length and an angle -/
def plaR (l t re im : Nat) : Prop := ∃ s c, turR t s c ∧ opR .mul l c re ∧ opR .mul l s im
theorem plaR.sim {l t re im re' im' : Nat} (ht : t < 18446744073709551616) (h : plaR l t re im) (k : plaR l t re' im') : simR re re' ∧ simR im im' := by
  obtain ⟨s, c, h1, h2, h3⟩ := h
  obtain ⟨s', c', k1, k2, k3⟩ := k
  obtain ⟨e1, e2⟩ := h1.sim ht k1
  exact ⟨h2.sim isMul k2 (simR.refl _) e2, h3.sim isMul k3 (simR.refl _) e1⟩
/-- the number of the length 1 -/
def uniR (a b re im : Nat) (ok : Bool) : Prop := if (Fl.finB a && Fl.finB b && !decide (bigF a b = 0)) = true then ok = true ∧ ∃ l, togR (scF a (-paE (bigF a b))) (scF b (-paE (bigF a b))) l ∧ opR .quo (scF a (-paE (bigF a b))) l re ∧ opR .quo (scF b (-paE (bigF a b))) l im else ok = false ∧ re = 0 ∧ im = 0
theorem uniR.sim {a b re im re' im' : Nat} {o o' : Bool} (h : uniR a b re im o) (k : uniR a b re' im' o') : simR re re' ∧ simR im im' ∧ o = o' := by
  unfold uniR at h k
  by_cases c : (Fl.finB a && Fl.finB b && !decide (bigF a b = 0)) = true
  · rw [if_pos c] at h k
    obtain ⟨h0, l, h1, h2, h3⟩ := h
    obtain ⟨k0, l', k1, k2, k3⟩ := k
    have el := h1.sim k1 (simR.refl _) (simR.refl _)
    exact ⟨h2.sim isQuo k2 (simR.refl _) el, h3.sim isQuo k3 (simR.refl _) el, h0.trans k0.symm⟩
  · rw [if_neg c] at h k
    exact ⟨Or.inl (h.2.1.trans k.2.1.symm), Or.inl (h.2.2.trans k.2.2.symm), h.1.trans k.1.symm⟩
/-- near one another -/
def neaR (a b c d most : Nat) (r : Bool) : Prop := ∃ x y l, opR .sub a c x ∧ opR .sub b d y ∧ lenR x y l ∧ r = Fl.leF l most
end Go.Proofs.Ytmbjgakehghdjaa
/-
  OWN TEXT: plain laws of rounding a fraction whose worth is a whole number of halves, quarters ..
-/
namespace Go.Proofs.Ytmbjgakehghdjaa.Fl
set_option linter.unusedVariables false

/-- a rung by way of its figure: the figure, rounded where the unit is right -/
theorem rq_round (n d j : Nat) (hn : 0 < n) (hq : n / 2 ^ (d + j) < 9007199254740992) (hj : j = 0 ∨ 4503599627370496 ≤ n / 2 ^ (d + j)) :
    rq n d = rq (rne n (d + j) * 2 ^ j) 0 := by
  have hp := Nat.two_pow_pos (d + j)
  have hdm := Nat.div_add_mod n (2 ^ (d + j))
  have hm := Nat.mod_lt n hp
  have hN1 : rne n (d + j) ≤ 9007199254740992 := by unfold rne; split <;> omega
  have hN2 : n / 2 ^ (d + j) ≤ rne n (d + j) := by unfold rne; omega
  have hlt : n < 2 ^ (d + j + 53) := by
    rw [Nat.pow_add 2 (d + j) 53]
    calc n < 2 ^ (d + j) * (n / 2 ^ (d + j) + 1) := by rw [Nat.mul_add, Nat.mul_one]; omega
      _ ≤ 2 ^ (d + j) * 2 ^ 53 := Nat.mul_le_mul_left _ (by omega)
  have hlog : n.log2 < d + j + 53 := (Nat.log2_lt (by omega)).2 hlt
  have hg : n.log2 - (52 + d) = j := by
    rcases hj with e | e
    · omega
    · have : 2 ^ (d + j + 52) ≤ n := by
        rw [Nat.pow_add 2 (d + j) 52]
        calc 2 ^ (d + j) * 2 ^ 52 ≤ 2 ^ (d + j) * (n / 2 ^ (d + j)) := Nat.mul_le_mul_left _ (by omega)
          _ ≤ n := by omega
      have := (Nat.le_log2 (by omega)).2 this
      omega
  have hL : rq n d = min (j * 4503599627370496 + rne n (d + j)) 9218868437227405312 := by
    unfold rq
    rw [if_neg (by omega), hg, Nat.add_comm j d]
  rw [hL]
  generalize rne n (d + j) = N at *
  generalize n / 2 ^ (d + j) = q at *
  clear hL hg hlog hlt hm hdm
  by_cases z : N = 0
  · subst z
    have : j = 0 := by omega
    subst this
    rfl
  · have hz : N * 2 ^ j ≠ 0 := Nat.mul_ne_zero z (by have := Nat.two_pow_pos j; omega)
    have hl : (N * 2 ^ j).log2 = N.log2 + j := log2_mul N j z
    have n1 := log2_le N z
    have n2 := log2_lt N z
    unfold rq
    rw [if_neg hz, hl]
    have h53 : N.log2 < 54 := (Nat.log2_lt z).2 (by omega)
    rcases Nat.lt_or_ge N.log2 52 with c | c
    · have : j = 0 := by
        rcases hj with e | e
        · exact e
        · have := (Nat.le_log2 z).2 (show 2 ^ 52 ≤ N by omega)
          omega
      subst this
      rw [show N.log2 + 0 - (52 + 0) = 0 by omega, Nat.pow_zero, Nat.mul_one, Nat.add_zero, rne_zero]
    · rcases Nat.lt_or_ge N.log2 53 with c2 | c2
      · rw [show N.log2 + j - (52 + 0) = j by omega, Nat.add_zero, rne_exact]
      · have e : N.log2 = 53 := by omega
        have e2 : N = 9007199254740992 := by rw [e] at n1; omega
        rw [e, e2, show 53 + j - (52 + 0) = j + 1 by omega, Nat.add_zero]
        rw [show 9007199254740992 * 2 ^ j = 4503599627370496 * 2 ^ (j + 1) by rw [Nat.pow_succ]; omega, rne_exact]
        rw [show (j + 1) * 4503599627370496 + 4503599627370496 = j * 4503599627370496 + 9007199254740992 by omega]

/-- the quotient and the rest of one fraction by another -/
theorem div_same (X Y n P : Nat) (hY : 0 < Y) (hP : 0 < P) (h : X * P = Y * n) : X / Y = n / P ∧ X % Y * P = Y * (n % P) := by
  have h1 := Nat.div_add_mod n P
  have h2 := Nat.mod_lt n hP
  have h3 : X * P = Y * (n / P) * P + Y * (n % P) := by
    rw [h, Nat.mul_assoc, ← Nat.mul_add, Nat.mul_comm (n / P) P, h1]
  have h4 : Y * (n % P) < Y * P := Nat.mul_lt_mul_of_pos_left h2 hY
  have h5 : Y * (n / P) ≤ X := by
    refine Nat.le_of_mul_le_mul_right ?_ hP
    omega
  obtain ⟨R, hR⟩ : ∃ R, X = Y * (n / P) + R := ⟨X - Y * (n / P), by omega⟩
  have h6 : R * P = Y * (n % P) := by
    rw [hR, Nat.add_mul] at h3
    omega
  have h7 : R < Y := by
    refine Nat.lt_of_mul_lt_mul_right (a := P) ?_
    rw [h6]; exact h4
  have e1 : X / Y = n / P := by
    rw [hR, Nat.mul_add_div hY, Nat.div_eq_of_lt h7, Nat.add_zero]
  have e2 : X % Y = R := by
    rw [hR, Nat.mul_add_mod, Nat.mod_eq_of_lt h7]
  exact ⟨e1, by rw [e2]; exact h6⟩

/-- the figure below 2^53: what the halves tell -/
theorem fig_one (X Y n P : Nat) (s : Nat) (hP : P = 2 ^ s) (hY : 0 < Y) (h : X * P = Y * n) :
    rne n s = X / Y + (if Y < 2 * (X % Y) ∨ (Y = 2 * (X % Y) ∧ X / Y % 2 = 1) then 1 else 0) := by
  have hp : 0 < P := by rw [hP]; exact Nat.two_pow_pos s
  obtain ⟨e1, e2⟩ := div_same X Y n P hY hp h
  unfold rne
  rw [← hP, e1]
  congr 1
  have a1 : (P < 2 * (n % P)) ↔ (Y < 2 * (X % Y)) := by
    rw [← Nat.mul_lt_mul_left (a0 := hY) (b := P), ← Nat.mul_lt_mul_right (a0 := hp) (b := Y)]
    rw [Nat.mul_left_comm, ← e2, Nat.mul_assoc]
  have a2 : (P = 2 * (n % P)) ↔ (Y = 2 * (X % Y)) := by
    constructor
    · intro e
      refine Nat.eq_of_mul_eq_mul_right hp ?_
      rw [Nat.mul_assoc, e2, Nat.mul_left_comm, ← e]
    · intro e
      refine Nat.eq_of_mul_eq_mul_left hY ?_
      rw [Nat.mul_left_comm, ← e2, ← Nat.mul_assoc, ← e]
  simp only [a1, a2]

/-- the figure from 2^53 on: what its last bit and the rest tell -/
theorem fig_two (X Y n P : Nat) (s : Nat) (hP : P = 2 ^ s) (hY : 0 < Y) (h : X * P = Y * n) :
    rne n (s + 1) = X / Y / 2 + (if X / Y % 2 = 1 ∧ (¬ X % Y = 0 ∨ X / Y / 2 % 2 = 1) then 1 else 0) := by
  have hp : 0 < P := by rw [hP]; exact Nat.two_pow_pos s
  obtain ⟨e1, e2⟩ := div_same X Y n P hY hp h
  have hz : X % Y = 0 ↔ n % P = 0 := by
    constructor
    · intro e
      rw [e, Nat.zero_mul] at e2
      rcases Nat.mul_eq_zero.1 e2.symm with c | c
      · omega
      · exact c
    · intro e
      rw [e, Nat.mul_zero] at e2
      rcases Nat.mul_eq_zero.1 e2 with c | c
      · exact c
      · omega
  have h1 := Nat.div_add_mod n P
  have h2 := Nat.mod_lt n hp
  unfold rne
  rw [Nat.pow_succ, ← hP, e1]
  simp only [hz]
  generalize hq : n / P = q at *
  generalize hr : n % P = r at *
  have h3 : n = P * 2 * (q / 2) + (P * (q % 2) + r) := by
    have := Nat.div_add_mod q 2
    rw [← h1, ← Nat.add_assoc, Nat.mul_assoc, ← Nat.mul_add, this]
  have h4 : P * (q % 2) + r < P * 2 := by
    rcases Nat.mod_two_eq_zero_or_one q with c | c <;> rw [c] <;> omega
  have e3 : n / (P * 2) = q / 2 := by
    rw [h3, Nat.mul_add_div (by omega), Nat.div_eq_of_lt h4, Nat.add_zero]
  have e4 : n % (P * 2) = P * (q % 2) + r := by
    rw [h3, Nat.mul_add_mod, Nat.mod_eq_of_lt h4]
  rw [e3, e4]
  congr 1
  rcases Nat.mod_two_eq_zero_or_one q with c | c
  · rw [c, if_neg (by omega), if_neg (by omega)]
  · rw [c, Nat.mul_one]
    by_cases c2 : r = 0
    · by_cases c3 : q / 2 % 2 = 1
      · rw [if_pos (by omega), if_pos (by omega)]
      · rw [if_neg (by omega), if_neg (by omega)]
    · rw [if_pos (by omega), if_pos (by omega)]
end Go.Proofs.Ytmbjgakehghdjaa.Fl
/-
  OWN TEXT: plain laws of halving and doubling floats, and of a float made whole.
-/
namespace Go.Proofs.Ytmbjgakehghdjaa.Fl
set_option linter.unusedVariables false

/-- half a float -/
theorem div_two {x : Nat} (hx : rg x < 9218868437227405312) : Ieee.double.div x 4611686018427387904 = some (wd (sg x) (rq (vl (rg x)) 1)) := by
  obtain ⟨m, k, hm, em⟩ := read_fin hx
  have r2 : Ieee.double.read 4611686018427387904 = .number false 4503599627370496 (-51) := rfl
  unfold Ieee.Format.div
  rw [hm, r2]
  unfold Ieee.Datum.quotient
  simp only []
  rw [if_neg (by omega), show (4503599627370496 : Nat).log2 = 52 by decide]
  have hfb : Ieee.double.fractionBits = 52 := rfl
  rw [hfb]
  by_cases z : m = 0
  · subst z
    have hv : vl (rg x) = 0 := by rw [← em, Nat.zero_mul]
    rw [hv, show Nat.log2 0 = 0 from rfl, Nat.zero_shiftLeft]
    simp only [Nat.zero_div, Nat.zero_mod, Nat.mul_zero, Option.map_some]
    rw [Bool.xor_false, show rq 0 1 = 0 from rfl]
    show some (Ieee.double.nearest (sg x) 0 _) = _
    unfold Ieee.Format.nearest
    rw [if_pos rfl]
    cases sg x <;> rfl
  · have hml : m.log2 ≤ 53 := by
      by_cases c : rg x < 4503599627370496
      · have h1 : m * 2 ^ k < 4503599627370496 := by rw [em, vl_small c]; exact c
        have h2 : m ≤ m * 2 ^ k := Nat.le_mul_of_pos_right m (Nat.two_pow_pos k)
        have := (Nat.log2_lt z (k := 52)).2 (by omega)
        omega
      · have h1 := read_eq x
        rw [hm, if_neg c, if_pos hx] at h1
        injection h1 with _ h1 _
        have := (Nat.log2_lt z (k := 53)).2 (by omega)
        omega
    obtain ⟨t, ht⟩ : ∃ t, 52 + 2 + 52 - m.log2 = 52 + t := ⟨52 + 2 + 52 - m.log2 - 52, by omega⟩
    rw [ht, Nat.shiftLeft_eq, Nat.pow_add, show (2 : Nat) ^ 52 = 4503599627370496 by decide, Nat.mul_left_comm, Nat.mul_div_cancel_left _ (by omega), Nat.mul_mod_right]
    simp only [bne_self_eq_false, Bool.toNat_false, Nat.add_zero, Option.map_some, Bool.xor_false]
    have h := nearest_eq (sg x) (2 * (m * 2 ^ t)) k (t + 2)
    rw [show -1074 + (k : Int) - ((t + 2 : Nat) : Int) = -1074 + (k : Int) - -51 - ((52 + t : Nat) : Int) - 1 by omega] at h
    show some (Ieee.double.nearest _ _ _) = _
    rw [h, show 2 * (m * 2 ^ t) * 2 ^ k = m * 2 ^ k * 2 ^ (t + 1) by rw [Nat.pow_succ, Nat.mul_assoc m, Nat.mul_comm (2 ^ k), ← Nat.mul_assoc m, ← Nat.mul_assoc m]; rw [Nat.mul_comm 2, Nat.mul_right_comm], show t + 2 = 1 + (t + 1) by omega, rq_mul, em]

theorem mul_two' {x : Nat} (hx : rg x < 9218868437227405312) : Ieee.double.mul x 4611686018427387904 = some (wd (sg x) (rq (vl (rg x) * 2) 0)) := by
  have r1 : rg 4611686018427387904 = 4611686018427387904 := by decide
  have s1 : sg 4611686018427387904 = false := by decide
  have e := mul_fin (x := x) (y := 4611686018427387904) hx (by rw [r1]; decide)
  rw [r1, s1, Bool.xor_false, rq_by' 4611686018427387904 _ 1074 1 1074 vl_two rfl] at e
  exact e

/-- up a binade -/
theorem vl_up (r i : Nat) (h : 4503599627370496 ≤ r) : vl (r + i * 4503599627370496) = vl r * 2 ^ i := by
  rw [vl_big h, vl_big (by omega), Nat.mul_assoc, ← Nat.pow_add]
  congr 2
  · omega
  · omega
theorem half_step (r : Nat) (h : 9007199254740992 ≤ r) (hr : r ≤ 9218868437227405312) : rq (vl r) 1 = r - 4503599627370496 := by
  have e := vl_up (r - 4503599627370496) 1 (by omega)
  rw [show r - 4503599627370496 + 1 * 4503599627370496 = r by omega] at e
  rw [e]
  have := rq_mul (vl (r - 4503599627370496)) 1 0
  rw [Nat.zero_add] at this
  rw [this, rq_vl _ (by omega)]

/-- two numbers of 53 bits by powers of two are one only if both are -/
theorem bits_uniq (m n a b : Nat) (hm : 4503599627370496 ≤ m) (hm' : m < 9007199254740992) (hn : 4503599627370496 ≤ n) (hn' : n < 9007199254740992) (h : m * 2 ^ a = n * 2 ^ b) : a = b ∧ m = n := by
  have l1 : m.log2 = 52 := by
    have h1 := (Nat.le_log2 (n := m) (k := 52) (by omega)).2 (by omega)
    have h2 := (Nat.log2_lt (n := m) (k := 53) (by omega)).2 (by omega)
    omega
  have l2 : n.log2 = 52 := by
    have h1 := (Nat.le_log2 (n := n) (k := 52) (by omega)).2 (by omega)
    have h2 := (Nat.log2_lt (n := n) (k := 53) (by omega)).2 (by omega)
    omega
  have e := congrArg Nat.log2 h
  rw [log2_mul m a (by omega), log2_mul n b (by omega), l1, l2] at e
  have e2 : a = b := by omega
  subst e2
  exact ⟨rfl, Nat.eq_of_mul_eq_mul_right (Nat.two_pow_pos a) h⟩
end Go.Proofs.Ytmbjgakehghdjaa.Fl
namespace Go.Proofs.Ytmbjgakehghdjaa
/-- what a float's parts are is told by their worth -/
theorem pt_uniq {x r i j : Nat} (hx : x < 18446744073709551616) (hf : Fl.rg x < 9218868437227405312) (hz : ¬ Fl.rg x = 0) (h1 : 4602678819172646912 ≤ r) (h2 : r < 4607182418800017408) (h : Fl.vl r * 2 ^ i = Fl.vl (Fl.rg x) * 2 ^ j) :
    Fl.wd (Fl.sg x) r = ptF x ∧ (i : Int) - (j : Int) = ptE x := by
  obtain ⟨y1, y2, y3, y4, c1, c2, v1⟩ := nm_facts hx hf hz
  obtain ⟨e', he⟩ : ∃ e' : Nat, (-nmE x).toNat = e' := ⟨_, rfl⟩
  rw [he] at v1
  have hE : nmE x = -(e' : Int) := by omega
  unfold ptF ptE
  rw [hE]
  generalize Fl.rg (nmF x) = y at *
  have a1 := Fl.vl_big (r := r) (by omega)
  have a2 := Fl.vl_big (r := y) y3
  obtain ⟨c, hc⟩ : ∃ c, c = 1021 := ⟨_, rfl⟩
  have er : r / 4503599627370496 - 1 = c := by omega
  rw [er] at a1
  have k1 : (4503599627370496 + r % 4503599627370496) * 2 ^ (c + i + e') = (4503599627370496 + y % 4503599627370496) * 2 ^ (y / 4503599627370496 - 1 + j) := by
    have e1 : (4503599627370496 + r % 4503599627370496) * 2 ^ (c + i + e') = Fl.vl r * 2 ^ i * 2 ^ e' := by
      rw [a1, Nat.pow_add, Nat.pow_add, ← Nat.mul_assoc, ← Nat.mul_assoc]
    have e2 : (4503599627370496 + y % 4503599627370496) * 2 ^ (y / 4503599627370496 - 1 + j) = Fl.vl (Fl.rg x) * 2 ^ j * 2 ^ e' := by
      rw [Nat.pow_add, ← Nat.mul_assoc, ← a2, v1, Nat.mul_right_comm]
    rw [e1, e2, h]
  obtain ⟨k2, k3⟩ := Fl.bits_uniq _ _ _ _ (by omega) (by omega) (by omega) (by omega) k1
  refine ⟨?_, by omega⟩
  congr 1
  omega
end Go.Proofs.Ytmbjgakehghdjaa
