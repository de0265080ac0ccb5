/-
  OWN TEXT: powers by complex numbers, mirrored: the same but for noughts' signs.
-/
import Derived.Test.YtdbfhbpillgacaaPmA
set_option linter.unusedVariables false
namespace Go.Proofs.Ytdbfhbpillgacaa
/-- b is a with its sign turned, or both are no numbers, or both noughts -/
def simZ (a b : Nat) : Prop := simN a b ∨ (Fl.eqF a 0 = true ∧ Fl.eqF b 0 = true)
theorem add_simZ {c d c' d' v v' : Nat} (hc : c < 18446744073709551616) (hd : d < 18446744073709551616) (h : opR .add c d v) (k : opR .add c' d' v') (e1 : simN c c') (e2 : simN d d') : simZ v v' := by
  rcases e1 with e1 | ⟨n1, n2⟩
  · rcases e2 with e2 | ⟨n1, n2⟩
    · subst e1
      subst e2
      by_cases f : Fl.rg c < 9218868437227405312 ∧ Fl.rg d < 9218868437227405312
      · obtain ⟨s, t, a1, a2, a3, a4, a5, a6, a7⟩ := Fl.add_opp (x := c) (y := d) (x' := Fl.ng c) (y' := Fl.ng d) f.1 f.2 (Fl.key_ng hc) (Fl.key_ng hd)
        have es : v = s := by
          rcases h.2 with m | m
          · exact Option.some.inj (m.symm.trans a1)
          · exact absurd (m.1.symm.trans a1) (by intro c; cases c)
        have et : v' = t := by
          rcases k.2 with m | m
          · exact Option.some.inj (m.symm.trans a2)
          · exact absurd (m.1.symm.trans a2) (by intro c; cases c)
        subst es
        subst et
        by_cases z : Fl.key v = 0
        · right
          rw [Fl.eqF_of a4 (by decide), Fl.eqF_of a5 (by decide), a3, z, show Fl.key 0 = 0 by decide]
          exact ⟨by decide, by decide⟩
        · left; left
          have r : Fl.rg v' = Fl.rg v := Fl.rg_opp a3
          have s1 := Fl.wd_self a6
          have s2 := Fl.wd_self a7
          have k1 : Fl.key v = if Fl.sg v then -(Fl.rg v : Int) else Fl.rg v := rfl
          have k2 : Fl.key v' = if Fl.sg v' then -(Fl.rg v' : Int) else Fl.rg v' := rfl
          have hs : Fl.sg v' = !Fl.sg v := by
            rw [k1, k2, r] at a3
            rw [k1] at z
            cases q1 : Fl.sg v <;> cases q2 : Fl.sg v' <;> rw [q1, q2] at a3 <;> rw [q1] at z <;> simp at a3 z ⊢ <;> omega
          rw [← s2, hs, r, Fl.ng_wd _ _ (Fl.rg_lt v), s1]
      · have hfar : 9218868437227405312 ≤ Fl.rg c ∨ 9218868437227405312 ≤ Fl.rg d := by omega
        rcases Fl.add_ng_far hc hd hfar with ⟨a1, a2⟩ | ⟨b, a1, a2⟩
        · exact Or.inl (Or.inr ⟨h.nan a1, k.nan a2⟩)
        · left; left
          have es : v = Fl.wd b 9218868437227405312 := by
            rcases h.2 with m | m
            · exact Option.some.inj (m.symm.trans a1)
            · exact absurd (m.1.symm.trans a1) (by intro c; cases c)
          have et : v' = Fl.wd (!b) 9218868437227405312 := by
            rcases k.2 with m | m
            · exact Option.some.inj (m.symm.trans a2)
            · exact absurd (m.1.symm.trans a2) (by intro c; cases c)
          rw [es, et, Fl.ng_wd _ _ (by omega)]
    · exact Or.inl (Or.inr ⟨h.nan (nan_right _ isAdd n1), k.nan (nan_right _ isAdd n2)⟩)
  · exact Or.inl (Or.inr ⟨h.nan (nan_left _ isAdd n1), k.nan (nan_left _ isAdd n2)⟩)
/-- a product of mirrored numbers -/
theorem cmu_mir {p q x y x' y' u v u' v' : Nat} (w : World) (hq : q < 18446744073709551616) (hy : y < 18446744073709551616) (h : cmuR p q x y u v) (k : cmuR p (Fl.ng q) x' y' u' v') (e1 : simR x x') (e2 : simN y y') : simR u u' ∧ simZ v v' := by
  obtain ⟨a, b, c, d, h1, h2, h3, h4, h5, h6⟩ := h
  obtain ⟨a', b', c', d', k1, k2, k3, k4, k5, k6⟩ := k
  have hb : simR b b' := by
    obtain ⟨m, _, hm, _, _⟩ := op_run .mul isMul q y' w
    have n1 : simN b m := mul_right hy h2 hm (simR.refl _) e2
    have n2 : simN m b' := mul_left hq hm k2 (Or.inl rfl) (simR.refl _)
    exact simN_two h2.1 n1 n2
  refine ⟨h3.sim isSub k3 (h1.sim isMul k1 (simR.refl _) e1) hb, ?_⟩
  exact add_simZ h4.1 h5.1 h6 k6 (mul_right hy h4 k4 (simR.refl _) e2) (mul_left hq h5 k5 (Or.inl rfl) e1)
/-- exponentials of mirrored numbers, noughts alike -/
theorem cex_simZ {a b a' b' re im re' im' : Nat} (ha : a < 18446744073709551616) (hb : b < 18446744073709551616) (h : cexR a b re im) (k : cexR a' b' re' im') (e1 : simR a a') (e2 : simZ b b') : simR re re' ∧ simZ im im' := by
  rcases e2 with e2 | ⟨z1, z2⟩
  · obtain ⟨r1, r2⟩ := cex_mir ha hb h k e1 e2
    exact ⟨r1, Or.inl r2⟩
  · obtain ⟨e, h1, h2⟩ := h
    obtain ⟨e', k1, k2⟩ := k
    have ee := expR_sim ha h1 k1 e1
    rw [if_pos z1] at h2
    rw [if_pos z2] at k2
    rw [h2.1, h2.2, k2.1, k2.2]
    exact ⟨ee, Or.inr ⟨z1, z2⟩⟩
/-- powers of mirrored numbers by mirrored ones -/
theorem cpo_mir {a b p q re im re' im' : Nat} (w : World) (hb : b < 18446744073709551616) (hq : q < 18446744073709551616) (h : cpoR a b p q re im) (k : cpoR a (Fl.ng b) p (Fl.ng q) re' im') : simR re re' ∧ simZ im im' := by
  unfold cpoR at h k
  rw [eqF_ng hq] at k
  by_cases c : (Fl.eqF p 0 && Fl.eqF q 0) = true
  · rw [if_pos c] at h k
    rw [h.1, h.2, k.1, k.2]
    exact ⟨simR.refl _, Or.inr ⟨by decide, by decide⟩⟩
  · rw [if_neg c] at h k
    obtain ⟨x, y, u, v, h1, h2, h3⟩ := h
    obtain ⟨x', y', u', v', k1, k2, k3⟩ := k
    obtain ⟨e1, e2⟩ := clo_mir hb h1 k1
    obtain ⟨_, _, _, _, hy⟩ := h1
    obtain ⟨f1, f2⟩ := cmu_mir w hq hy h2 k2 e1 e2
    exact cex_simZ (cmu_lt h2).1 (cmu_lt h2).2 h3 k3 f1 f2
end Go.Proofs.Ytdbfhbpillgacaa
