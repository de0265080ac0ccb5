/-
  OWN TEXT: what is made of a mirror image is the mirror image of what is made: exponentials, logarithms, powers, sines of complex numbers.
-/
import Derived.Test.YtdbfhbpillgacaaJnAq
import Derived.Test.YtdbfhbpillgacaaJnAs
import Derived.Test.YtdbfhbpillgacaaAnN
import Derived.Test.YtdbfhbpillgacaaRmF
set_option linter.unusedVariables false
namespace Go.Proofs.Ytdbfhbpillgacaa
theorem simN_of {a b : Nat} (h : simR b (Fl.ng a)) : simN a b := by
  rcases h with e | ⟨e1, e2⟩
  · exact Or.inl e
  · rw [Fl.nan_ng] at e2; exact Or.inr ⟨e2, e1⟩
theorem simN_two {a b c : Nat} (ha : a < 18446744073709551616) (h : simN a b) (k : simN b c) : simR a c := by
  rcases h with e | ⟨e1, e2⟩
  · subst e
    rcases k with e | ⟨e1, e2⟩
    · rw [Fl.ng_ng ha] at e; exact Or.inl e.symm
    · rw [Fl.nan_ng] at e1; exact Or.inr ⟨e1, e2⟩
  · rcases k with e | ⟨_, e3⟩
    · subst e; exact Or.inr ⟨e1, by rw [Fl.nan_ng]; exact e2⟩
    · exact Or.inr ⟨e1, e3⟩
theorem simN_sim {a b c : Nat} (h : simN a b) (k : simR b c) : simN a c := by
  rcases k with e | ⟨e1, e2⟩
  · rw [← e]; exact h
  · rcases h with e | ⟨e3, _⟩
    · subst e; rw [Fl.nan_ng] at e1; exact Or.inr ⟨e1, e2⟩
    · exact Or.inr ⟨e3, e2⟩
theorem sim_simN {a b c : Nat} (h : simR a b) (k : simN b c) : simN a c := by
  rcases h with e | ⟨e1, e2⟩
  · rw [e]; exact k
  · rcases k with e | ⟨_, e3⟩
    · subst e; exact Or.inr ⟨e1, by rw [Fl.nan_ng]; exact e2⟩
    · exact Or.inr ⟨e1, e3⟩
theorem sim_sym {a b : Nat} (h : simR a b) : simR b a := by
  rcases h with e | ⟨e1, e2⟩
  · exact Or.inl e.symm
  · exact Or.inr ⟨e2, e1⟩
/-- half the sum of exponentials does not hang on the sign -/
theorem cosh_mir {x y y' : Nat} (hx : x < 18446744073709551616) (h : coshR x y) (k : coshR (Fl.ng x) y') : simR y y' := by
  obtain ⟨a, b, s, h1, h2, h3, h4⟩ := h
  obtain ⟨a', b', s', k1, k2, k3, k4⟩ := k
  rw [Fl.ng_ng hx] at k2
  exact h4.sim isMul k4 ((add_comm5 h3).sim isAdd k3 (h2.sim (Fl.ng_lt hx) k1) (h1.sim hx k2)) (simR.refl _)
theorem signed_ng {h x : Nat} (hh : Fl.rg h < 18446744073709551616) (hx : x < 18446744073709551616) (n : Fl.nan x = false) : signedF h (Fl.ng x) = Fl.ng (signedF h x) := by
  unfold signedF Fl.minusB
  rw [Fl.nan_ng, n, Fl.sg_ng hx]
  cases Fl.sg x
  · rw [if_pos (by decide), if_neg (by decide)]
  · rw [if_neg (by decide), if_pos (by decide), Fl.ng_ng hh]
theorem sgn_mir {h h' x y y' : Nat} (hx : x < 18446744073709551616) (n : Fl.nan x = false) (k : sgnR h x y) (k' : sgnR h' (Fl.ng x) y') (e : simR h h') : simN y y' := by
  have hl : Fl.rg h < 18446744073709551616 := by have := Fl.rg_lt h; omega
  have hl' : Fl.rg h' < 18446744073709551616 := by have := Fl.rg_lt h'; omega
  unfold sgnR at k'
  rw [signed_ng hl' hx n] at k'
  have s1 : simR y (signedF h x) := same_cases k
  have s2 : simR y' (Fl.ng (signedF h' x)) := same_cases k'
  have s3 : simR (signedF h x) (signedF h' x) := by
    rcases e with e | ⟨e1, e2⟩
    · rw [e]; exact simR.refl _
    · exact Or.inr ⟨signed_nan e1, signed_nan e2⟩
  exact sim_simN s1 (sim_simN s3 (simN_of s2))
/-- half the difference of exponentials has its sign turned -/
theorem sinh_mir {x y y' : Nat} (hx : x < 18446744073709551616) (h : sinhR x y) (k : sinhR (Fl.ng x) y') : simN y y' := by
  unfold sinhR at h k
  rw [Fl.nan_ng] at k
  cases n : Fl.nan x
  · rw [if_neg (by rw [n]; decide)] at h k
    obtain ⟨e, h1, h2⟩ := h
    obtain ⟨e', k1, k2⟩ := k
    rw [Fl.rg_ng] at k1
    have es := h1.sim (by have := Fl.rg_lt x; omega) k1
    have ei : e = 9218868437227405312 ↔ e' = 9218868437227405312 := by
      rcases es with a | ⟨a1, a2⟩
      · rw [a]
      · constructor
        · intro b; rw [b, inf_num] at a1; cases a1
        · intro b; rw [b, inf_num] at a2; cases a2
    by_cases c2 : e = 9218868437227405312
    · rw [if_pos c2] at h2
      rw [if_pos (ei.1 c2)] at k2
      exact sgn_mir hx n h2 k2 es
    · rw [if_neg c2] at h2
      rw [if_neg (fun z => c2 (ei.2 z))] at k2
      obtain ⟨b, d, s, q, a1, a2, a3, a4, a5⟩ := h2
      obtain ⟨b', d', s', q', b1, b2, b3, b4, b5⟩ := k2
      have eb := a1.sim isAdd b1 es (simR.refl _)
      have ed := a2.sim isQuo b2 es eb
      have et := a3.sim isAdd b3 es ed
      exact sgn_mir hx n a5 b5 (a4.sim isMul b4 et (simR.refl _))
  · rw [if_pos n] at h k
    exact Or.inr ⟨h, k⟩
theorem eqF_ng {b : Nat} (hb : b < 18446744073709551616) : Fl.eqF (Fl.ng b) 0 = Fl.eqF b 0 := by
  cases n : Fl.nan b
  · rw [Fl.eqF_of (by rw [Fl.nan_ng]; exact n) (by decide), Fl.eqF_of n (by decide), Fl.key_ng hb, show Fl.key 0 = 0 by decide]
    by_cases c : Fl.key b = 0
    · rw [c]; rfl
    · rw [decide_eq_false (by omega), decide_eq_false c]
  · unfold Fl.eqF; rw [Fl.nan_ng, n]; rfl
theorem eqF_simN {b b' : Nat} (hb : b < 18446744073709551616) (h : simN b b') : Fl.eqF b' 0 = Fl.eqF b 0 := by
  rcases h with e | ⟨e1, e2⟩
  · subst e; exact eqF_ng hb
  · unfold Fl.eqF; rw [e1, e2]; rfl
theorem tur_nan {x a b : Nat} (h : turR x a b) (n : Fl.nan x = true) : Fl.nan a = true ∧ Fl.nan b = true := by
  obtain ⟨_, _, h⟩ := h
  rw [if_neg (by unfold fitB Fl.leF; rw [Fl.nan_rg, n]; simp)] at h
  exact h
theorem tur_simN {x x' a b a' b' : Nat} (hx : x < 18446744073709551616) (h : turR x a b) (k : turR x' a' b') (e : simN x x') : simN a a' ∧ simR b b' := by
  rcases e with e | ⟨e1, e2⟩
  · subst e
    obtain ⟨m1, m2⟩ := tur_mir hx h k
    exact ⟨simN_of m1, sim_sym m2⟩
  · have h1 := tur_nan h e1
    have k1 := tur_nan k e2
    exact ⟨Or.inr ⟨h1.1, k1.1⟩, Or.inr ⟨h1.2, k1.2⟩⟩
/-- exponentials of mirrored numbers -/
theorem cex_mir {a b a' b' re im re' im' : Nat} (ha : a < 18446744073709551616) (hb : b < 18446744073709551616) (h : cexR a b re im) (k : cexR a' b' re' im') (e1 : simR a a') (e2 : simN b b') : simR re re' ∧ simN im im' := by
  obtain ⟨e, h1, h2⟩ := h
  obtain ⟨e', k1, k2⟩ := k
  have ee := expR_sim ha h1 k1 e1
  rw [eqF_simN hb e2] at k2
  by_cases c : Fl.eqF b 0 = true
  · rw [if_pos c] at h2 k2
    rw [h2.1, h2.2, k2.1, k2.2]; exact ⟨ee, e2⟩
  · rw [if_neg c] at h2 k2
    obtain ⟨s, c, a1, a2, a3⟩ := h2
    obtain ⟨s', c', b1, b2, b3⟩ := k2
    obtain ⟨t1, t2⟩ := tur_simN hb a1 b1 e2
    exact ⟨a2.sim isMul b2 ee t2, mul_left a1.1 (mul_comm5 a3) (mul_comm5 b3) t1 ee⟩
/-- logarithms of mirrored numbers -/
theorem clo_mir {a b re im re' im' : Nat} (hb : b < 18446744073709551616) (h : cloR a b re im) (k : cloR a (Fl.ng b) re' im') : simR re re' ∧ simN im im' := by
  obtain ⟨l, h1, h2, h3, h4⟩ := h
  obtain ⟨l', k1, k2, k3, k4⟩ := k
  exact ⟨logR_sim h2 k2 (len_same h1 k1 (Or.inl ⟨rfl, Fl.rg_ng b⟩)), simN_of (off_mir hb h4 h3 k3)⟩
/-- real powers of mirrored numbers -/
theorem cre_mir {a b p re im re' im' : Nat} (hb : b < 18446744073709551616) (hp : Fl.eqF p 0 = false) (h : creR a b p re im) (k : creR a (Fl.ng b) p re' im') : simR re re' ∧ simN im im' := by
  unfold creR at h k
  rw [if_neg (by rw [hp]; decide)] at h k
  obtain ⟨x, y, u, v, h1, h2, h3, h4⟩ := h
  obtain ⟨x', y', u', v', k1, k2, k3, k4⟩ := k
  obtain ⟨e1, e2⟩ := clo_mir hb h1 k1
  obtain ⟨_, _, _, _, hy⟩ := h1
  exact cex_mir h2.1 h3.1 h4 k4 (h2.sim isMul k2 e1 (simR.refl _)) (mul_left hy h3 k3 e2 (simR.refl _))
theorem part_mir {x y s c ch sh s' c' ch' sh' : Nat} (hx : x < 18446744073709551616) (hy : y < 18446744073709551616) (h : cpart x y s c ch sh) (k : cpart x (Fl.ng y) s' c' ch' sh') : simR s s' ∧ simR c c' ∧ simR ch ch' ∧ simN sh sh' := by
  obtain ⟨h1, h2, h3⟩ := h
  obtain ⟨k1, k2, k3⟩ := k
  obtain ⟨a, b⟩ := h1.sim hx k1
  exact ⟨a, b, cosh_mir hy h2 k2, sinh_mir hy h3 k3⟩
theorem part_tur {x y s c ch sh s' c' ch' sh' : Nat} (hx : x < 18446744073709551616) (hy : y < 18446744073709551616) (h : cpart x y s c ch sh) (k : cpart (Fl.ng x) y s' c' ch' sh') : simN s s' ∧ simR c c' ∧ simR ch ch' ∧ simR sh sh' := by
  obtain ⟨h1, h2, h3⟩ := h
  obtain ⟨k1, k2, k3⟩ := k
  obtain ⟨a, b⟩ := tur_simN hx h1 k1 (Or.inl rfl)
  exact ⟨a, b, h2.sim hy k2, h3.sim hy k3⟩
theorem mul_right {a a' t t' s s' : Nat} (ht : t < 18446744073709551616) (h : opR .mul a t s) (k : opR .mul a' t' s') (e : simR a a') (et : simN t t') : simN s s' := mul_left ht (mul_comm5 h) (mul_comm5 k) et e
/-- a word, or no number -/
def Wd (a : Nat) : Prop := a < 18446744073709551616 ∨ Fl.nan a = true
theorem mul_leftN {a a' t t' s s' : Nat} (ha : Wd a) (h : opR .mul a t s) (k : opR .mul a' t' s') (e : simN a a') (et : simR t t') : simN s s' := by
  rcases ha with ha | ha
  · exact mul_left ha h k e et
  · have n' : Fl.nan a' = true := by
      rcases e with e | ⟨_, e⟩
      · rw [e, Fl.nan_ng]; exact ha
      · exact e
    exact Or.inr ⟨h.nan (nan_left _ isMul ha), k.nan (nan_left _ isMul n')⟩
theorem mul_rightN {a a' t t' s s' : Nat} (ht : Wd t) (h : opR .mul a t s) (k : opR .mul a' t' s') (e : simR a a') (et : simN t t') : simN s s' := mul_leftN ht (mul_comm5 h) (mul_comm5 k) et e
theorem sgn_wd {h x y : Nat} (k : sgnR h x y) : Wd y := by
  rcases same_cases k with e | ⟨e, _⟩
  · left
    rw [e]
    unfold signedF
    have := Fl.rg_lt h
    split
    · exact Fl.ng_lt (by omega)
    · omega
  · exact Or.inr e
theorem sinh_wd {x y : Nat} (h : sinhR x y) : Wd y := by
  unfold sinhR at h
  by_cases c : Fl.nan x = true
  · rw [if_pos c] at h; exact Or.inr h
  · rw [if_neg c] at h
    obtain ⟨e, _, h⟩ := h
    by_cases c2 : e = 9218868437227405312
    · rw [if_pos c2] at h; exact sgn_wd h
    · rw [if_neg c2] at h
      obtain ⟨_, _, _, _, _, _, _, _, h⟩ := h
      exact sgn_wd h
/-- sines, cosines, and the hyperbolic ones, of mirrored numbers -/
theorem csi_mir {a b re im re' im' : Nat} (ha : a < 18446744073709551616) (hb : b < 18446744073709551616) (h : csiR a b re im) (k : csiR a (Fl.ng b) re' im') : simR re re' ∧ simN im im' := by
  obtain ⟨s, c, ch, sh, h1, h2, h3⟩ := h
  obtain ⟨s', c', ch', sh', k1, k2, k3⟩ := k
  obtain ⟨e1, e2, e3, e4⟩ := part_mir ha hb h1 k1
  exact ⟨h2.sim isMul k2 e1 e3, mul_rightN (sinh_wd h1.2.2) h3 k3 e2 e4⟩
theorem ng_simN {a b : Nat} (ha : a < 18446744073709551616) (h : simN a b) : simN (Fl.ng a) (Fl.ng b) := by
  rcases h with e | ⟨e1, e2⟩
  · rw [e]; exact Or.inl rfl
  · exact Or.inr ⟨by rw [Fl.nan_ng]; exact e1, by rw [Fl.nan_ng]; exact e2⟩
theorem cco_mir {a b re im re' im' : Nat} (ha : a < 18446744073709551616) (hb : b < 18446744073709551616) (h : ccoR a b re im) (k : ccoR a (Fl.ng b) re' im') : simR re re' ∧ simN im im' := by
  obtain ⟨s, c, ch, sh, m, h1, h2, h3, h4⟩ := h
  obtain ⟨s', c', ch', sh', m', k1, k2, k3, k4⟩ := k
  obtain ⟨e1, e2, e3, e4⟩ := part_mir ha hb h1 k1
  rw [h4, k4]
  exact ⟨h2.sim isMul k2 e2 e3, ng_simN h3.1 (mul_rightN (sinh_wd h1.2.2) h3 k3 e1 e4)⟩
theorem csh_mir {a b re im re' im' : Nat} (ha : a < 18446744073709551616) (hb : b < 18446744073709551616) (h : cshR a b re im) (k : cshR a (Fl.ng b) re' im') : simR re re' ∧ simN im im' := by
  obtain ⟨s, c, ch, sh, h1, h2, h3⟩ := h
  obtain ⟨s', c', ch', sh', k1, k2, k3⟩ := k
  obtain ⟨e1, e2, e3, e4⟩ := part_tur hb ha h1 k1
  exact ⟨h2.sim isMul k2 e4 e2, mul_rightN (Or.inl h1.1.1) h3 k3 e3 e1⟩
theorem cch_mir {a b re im re' im' : Nat} (ha : a < 18446744073709551616) (hb : b < 18446744073709551616) (h : cchR a b re im) (k : cchR a (Fl.ng b) re' im') : simR re re' ∧ simN im im' := by
  obtain ⟨s, c, ch, sh, h1, h2, h3⟩ := h
  obtain ⟨s', c', ch', sh', k1, k2, k3⟩ := k
  obtain ⟨e1, e2, e3, e4⟩ := part_tur hb ha h1 k1
  exact ⟨h2.sim isMul k2 e3 e2, mul_rightN (Or.inl h1.1.1) h3 k3 e4 e1⟩
/-- the sine of i a is i times the hyperbolic one of a; the cosine is the hyperbolic one -/
theorem sin_tur {a b re im re2 im2 : Nat} (ha : a < 18446744073709551616) (hb : b < 18446744073709551616) (h : cshR a b re2 im2) (k : csiR (Fl.ng b) a re im) : simN im2 re ∧ simR im re2 := by
  obtain ⟨s, c, ch, sh, h1, h2, h3⟩ := h
  obtain ⟨s', c', ch', sh', k1, k2, k3⟩ := k
  obtain ⟨e1, e2, e3, e4⟩ := part_tur hb ha h1 k1
  exact ⟨mul_leftN (Or.inl h1.1.1) (mul_comm5 h3) k2 e1 e3, (mul_comm5 k3).sim isMul h2 (sim_sym e4) (sim_sym e2)⟩
theorem cos_tur {a b re im re2 im2 : Nat} (ha : a < 18446744073709551616) (hb : b < 18446744073709551616) (h : cchR a b re2 im2) (k : ccoR (Fl.ng b) a re im) : simR re re2 ∧ simR im im2 := by
  obtain ⟨s, c, ch, sh, h1, h2, h3⟩ := h
  obtain ⟨s', c', ch', sh', m, k1, k2, k3, k4⟩ := k
  obtain ⟨e1, e2, e3, e4⟩ := part_tur hb ha h1 k1
  refine ⟨(mul_comm5 k2).sim isMul h2 (sim_sym e3) (sim_sym e2), ?_⟩
  have n : simN im2 m := mul_leftN (Or.inl h1.1.1) (mul_comm5 h3) k3 e1 e4
  rw [k4]
  rcases n with e | ⟨n1, n2⟩
  · rw [e, Fl.ng_ng h3.1]; exact simR.refl _
  · exact Or.inr ⟨by rw [Fl.nan_ng]; exact n2, n1⟩
theorem mul_one5 {x u : Nat} (hx : Wd x) (h : opR .mul x 4607182418800017408 u) : simR u x := by
  cases n : Fl.nan x
  · rcases hx with hx | hx
    · have e : floatBits .mul .f64 4607182418800017408 x = some x := by
        show Ieee.double.mul _ _ = _
        have rx : Fl.rg x ≤ 9218868437227405312 := by unfold Fl.nan at n; have := of_decide_eq_false n; omega
        rcases Nat.lt_or_ge (Fl.rg x) 9218868437227405312 with g | g
        · exact Fl.mul_one g hx
        · have hi := Fl.read_inf (x := x) (by omega)
          have h1 : Ieee.double.read 4607182418800017408 = .number false 4503599627370496 (-52) := by decide +kernel
          unfold Ieee.Format.mul
          rw [hi, h1]
          have k := Fl.wd_self hx
          rw [show Fl.rg x = 9218868437227405312 by omega] at k
          simp only [Ieee.Datum.product, show ¬ (4503599627370496 : Nat) = 0 by decide, if_false, Bool.xor_false, Option.map_some]
          rw [show Ieee.double.write (.infinity (Fl.sg x)) = Fl.wd (Fl.sg x) 9218868437227405312 by cases Fl.sg x <;> rfl, k]
      have h2 := (mul_comm5 h).2
      rcases h2 with m | m
      · exact Or.inl (Option.some.inj (m.symm.trans e))
      · exact absurd (m.1.symm.trans e) (by intro c; cases c)
    · rw [n] at hx; cases hx
  · exact Or.inr ⟨h.nan (nan_left _ isMul n), n⟩
/-- the power by 1 is the exponential of the logarithm -/
theorem cre_one {a b re im x y re' im' : Nat} (h : creR a b 4607182418800017408 re im) (k1 : cloR a b x y) (k2 : cexR x y re' im') (hx : Wd x) : simR re re' ∧ simR im im' := by
  unfold creR at h
  rw [if_neg (by decide)] at h
  obtain ⟨p, q, u, v, h1, h2, h3, h4⟩ := h
  obtain ⟨e1, e2⟩ := h1.sim k1
  obtain ⟨_, _, _, _, hq⟩ := h1
  have f1 : simR u p := mul_one5 (by
    rcases e1 with e | ⟨e, _⟩
    · rw [e]; exact hx
    · exact Or.inr e) h2
  have f2 : simR v q := mul_one5 (Or.inl hq) h3
  exact h4.sim h2.1 h3.1 k2 (by
    rcases f1 with f | ⟨f, f'⟩
    · rw [f]; exact e1
    · rcases e1 with e | ⟨_, e'⟩
      · rw [← e]; exact Or.inr ⟨f, f'⟩
      · exact Or.inr ⟨f, e'⟩) (by
    rcases f2 with f | ⟨f, f'⟩
    · rw [f]; exact e2
    · rcases e2 with e | ⟨_, e'⟩
      · rw [← e]; exact Or.inr ⟨f, f'⟩
      · exact Or.inr ⟨f, e'⟩)
end Go.Proofs.Ytdbfhbpillgacaa
