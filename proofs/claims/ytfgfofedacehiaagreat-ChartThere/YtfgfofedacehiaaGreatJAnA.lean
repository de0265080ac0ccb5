/-
 OWN TEXT: sines, cosines, quarters, angles of floats: what the chapter's steps come to.
-/
import Derived.Test.YtfgfofedacehiaaGreatJRpAToEqA
namespace Go.Proofs.YtfgfofedacehiaaGreat
open Go.ChangeShapes Go.WideShapes Go.ChangeAt Go.RowKit
set_option linter.unusedVariables false
theorem isMul : isOp .mul := Or.inr (Or.inr (Or.inl rfl))
theorem isQuo : isOp .quo := Or.inr (Or.inr (Or.inr rfl))
theorem isSub : isOp .sub := Or.inr (Or.inl rfl)
theorem isAdd : isOp .add := Or.inl rfl
/-- the sine's rounds: k from 9 down -/
def sinQ (z : Nat) : Nat → Nat → Prop
 | 0, t => t = 4607182418800017408
 | i + 1, t' => ∃ t d p, sinQ z i t ∧ opR .quo z (floatOfInt .f64 (2 * (9 - (i : Int)) * (2 * (9 - (i : Int)) + 1))) d ∧ opR .mul d t p ∧ opR .sub 4607182418800017408 p t'
def cosQ (z : Nat) : Nat → Nat → Prop
 | 0, t => t = 4607182418800017408
 | i + 1, t' => ∃ t d p, cosQ z i t ∧ opR .quo z (floatOfInt .f64 ((2 * (9 - (i : Int)) - 1) * (2 * (9 - (i : Int))))) d ∧ opR .mul d t p ∧ opR .sub 4607182418800017408 p t'
theorem sinQ.sim {z z' : Nat} (hz : simR z z') : ∀ (i t t' : Nat), sinQ z i t → sinQ z' i t' → simR t t'
 | 0, t, t', h, h' => Or.inl (Eq.trans h (Eq.symm h'))
 | i + 1, t, t', ⟨u, d, p, h1, h2, h3, h4⟩, ⟨u', d', p', k1, k2, k3, k4⟩ =>
  h4.sim isSub k4 (simR.refl _) (h3.sim isMul k3 (h2.sim isQuo k2 hz (simR.refl _)) (sinQ.sim hz i u u' h1 k1))
theorem cosQ.sim {z z' : Nat} (hz : simR z z') : ∀ (i t t' : Nat), cosQ z i t → cosQ z' i t' → simR t t'
 | 0, t, t', h, h' => Or.inl (Eq.trans h (Eq.symm h'))
 | i + 1, t, t', ⟨u, d, p, h1, h2, h3, h4⟩, ⟨u', d', p', k1, k2, k3, k4⟩ =>
  h4.sim isSub k4 (simR.refl _) (h3.sim isMul k3 (h2.sim isQuo k2 hz (simR.refl _)) (cosQ.sim hz i u u' h1 k1))
def sinR (y s : Nat) : Prop := ∃ z t, opR .mul y y z ∧ sinQ z 9 t ∧ opR .mul y t s
def cosR (y c : Nat) : Prop := ∃ z, opR .mul y y z ∧ cosQ z 9 c
theorem sinR.sim {y y' s s' : Nat} (h : sinR y s) (k : sinR y' s') (e : simR y y') : simR s s' := by
 obtain ⟨z, t, h1, h2, h3⟩ := h
 obtain ⟨z', t', k1, k2, k3⟩ := k
 exact h3.sim isMul k3 e (sinQ.sim (h1.sim isMul k1 e e) 9 t t' h2 k2)
theorem cosR.sim {y y' s s' : Nat} (h : cosR y s) (k : cosR y' s') (e : simR y y') : simR s s' := by
 obtain ⟨z, h1, h2⟩ := h
 obtain ⟨z', k1, k2⟩ := k
 exact cosQ.sim (h1.sim isMul k1 e e) 9 s s' h2 k2
/-- x less m times three pieces -/
def lesR (x m a b c y : Nat) : Prop := ∃ p d q e r, opR .mul m a p ∧ opR .sub x p d ∧ opR .mul m b q ∧ opR .sub d q e ∧ opR .mul m c r ∧ opR .sub e r y
theorem lesR.sim {x m m' a b c y y' : Nat} (h : lesR x m a b c y) (k : lesR x m' a b c y') (e : simR m m') : simR y y' := by
 obtain ⟨p, d, q, f, r, h1, h2, h3, h4, h5, h6⟩ := h
 obtain ⟨p', d', q', f', r', k1, k2, k3, k4, k5, k6⟩ := k
 exact h6.sim isSub k6 (h4.sim isSub k4 (h2.sim isSub k2 (simR.refl _) (h1.sim isMul k1 e (simR.refl _))) (h3.sim isMul k3 e (simR.refl _))) (h5.sim isMul k5 e (simR.refl _))
/-- m: how often a float goes into x, whole -/
def folR (x c n : Nat) : Prop := ∃ p, opR .mul x c p ∧ whR p n
theorem folR.sim {x c n n' : Nat} (h : folR x c n) (k : folR x c n') : simR n n' := by
 obtain ⟨p, h1, h2⟩ := h
 obtain ⟨p', k1, k2⟩ := k
 exact h2.sim k2 (h1.sim isMul k1 (simR.refl _) (simR.refl _))
def fitB (x : Nat) : Bool := Fl.leF (Fl.rg x) 4697254411347427328
theorem fit_rg {x : Nat} (hx : x < 18446744073709551616) (h : fitB x = true) : Fl.nan x = false ∧ Fl.rg x ≤ 4697254411347427328 := by
 unfold fitB Fl.leF at h
 rw [Bool.and_eq_true, Bool.and_eq_true, decide_eq_true_eq] at h
 obtain ⟨⟨h1, _⟩, h2⟩ := h
 have n : Fl.nan x = false := by rw [← Fl.nan_rg]; simpa using h1
 refine ⟨n, ?_⟩
 have hl := Fl.rg_lt x
 have hs : Fl.sg (Fl.rg x) = false := by rw [Fl.sg_lt (by omega)]; exact decide_eq_false (by omega)
 rw [show Fl.key 4697254411347427328 = 4697254411347427328 by decide] at h2
 unfold Fl.key at h2
 rw [hs, if_neg (by decide), Fl.rg_rg] at h2
 omega
/-- of a fit float, the whole number is an integer of few bits -/
theorem fol_int {x c n : Nat} (hc : Fl.rg c ≤ 4607182418800017408) (hr : Fl.rg x ≤ 4697254411347427328) (h : folR x c n) : Fl.nan n = false ∧ n < 18446744073709551616 ∧ ∃ q : Int, -4194304 ≤ q ∧ q ≤ 4194304 ∧ floatToIntVal .f64 n .i64 = some q := by
 obtain ⟨p, h1, h2⟩ := h
 have hm := Fl.mul_fin (x := x) (y := c) (by omega) (by omega)
 have e1 : p = Fl.wd (Fl.sg x ^^ Fl.sg c) (Fl.rq (Fl.vl (Fl.rg x) * Fl.vl (Fl.rg c)) 1074) := by
  rcases h1.2 with k | k
  · exact (Option.some.inj (hm.symm.trans k)).symm
  · exact absurd (hm.symm.trans k.1) (by intro c; cases c)
 have vle : ∀ a b : Nat, a ≤ b → Fl.vl a ≤ Fl.vl b := by
  intro a b h
  rcases Nat.lt_or_ge a b with c | c
  · exact Nat.le_of_lt (Fl.vl_mono c)
  · rw [show a = b by omega]; exact Nat.le_refl _
 have hle : Fl.rq (Fl.vl (Fl.rg x) * Fl.vl (Fl.rg c)) 1074 ≤ 4697254411347427328 := by
  have a := Fl.rq_mono (Fl.vl (Fl.rg x) * Fl.vl (Fl.rg c)) (Fl.vl 4697254411347427328 * Fl.vl 4607182418800017408) 1074 (Nat.mul_le_mul (vle _ _ hr) (vle _ _ hc))
  exact Nat.le_trans a (by decide +kernel)
 have hg : Fl.rg p = Fl.rq (Fl.vl (Fl.rg x) * Fl.vl (Fl.rg c)) 1074 := by rw [e1]; exact Fl.rg_wd _ _ (by omega)
 have np : Fl.nan p = false := by unfold Fl.nan; exact decide_eq_false (by omega)
 obtain ⟨n1, n2⟩ := h2
 rw [if_neg (by rw [np]; decide)] at n2
 obtain ⟨cc, hcc⟩ : ∃ c, c = 1074 := ⟨_, rfl⟩
 have hv : Fl.vl (Fl.rg p) ≤ 4194304 * 2 ^ cc := by
  refine Nat.le_trans (vle _ 4697254411347427328 (by omega)) ?_
  rw [hcc]
  decide +kernel
 obtain ⟨k, hk, hw, _, ht⟩ := Fl.whole_int cc hcc (by omega) hv
 subst n2
 refine ⟨?_, n1, _, ?_, ?_, ht⟩
 · rw [hw]; exact Fl.nan_wd _ _ (Fl.rq_le _ _)
 · split <;> omega
 · split <;> omega
/-- x less whole quarters, and how many -/
def quaR (x y : Nat) (n : Int) : Prop := y < 18446744073709551616 ∧
 if fitB x = true then ∃ m, folR x 4603909380684499075 m ∧ if Fl.eqF m 0 = true then y = x ∧ n = 0 else lesR x m 4609753056924401664 4454258360616747008 4297306550709518336 y ∧ ∃ q, floatToIntVal .f64 m .i64 = some q ∧ n = q % 4
 else Fl.nan y = true ∧ n = 0
theorem quaR.sim {x y y' : Nat} {n n' : Int} (hx : x < 18446744073709551616) (h : quaR x y n) (k : quaR x y' n') : simR y y' ∧ n = n' := by
 obtain ⟨_, h⟩ := h
 obtain ⟨_, k⟩ := k
 by_cases c : fitB x = true
 ·
  rw [if_pos c] at h k
  obtain ⟨m, h1, h2⟩ := h
  obtain ⟨m', k1, k2⟩ := k
  have hn := (fol_int (by decide) (fit_rg hx c).2 h1).1
  have em : m = m' := by
   rcases h1.sim k1 with e | ⟨e, _⟩
   · exact e
   · rw [hn] at e; cases e
  subst em
  by_cases c2 : Fl.eqF m 0 = true
  ·
   rw [if_pos c2] at h2 k2
   exact ⟨Or.inl (h2.1.trans k2.1.symm), h2.2.trans k2.2.symm⟩
  ·
   rw [if_neg c2] at h2 k2
   obtain ⟨a1, q, a2, a3⟩ := h2
   obtain ⟨b1, q', b2, b3⟩ := k2
   have eq : q = q' := Option.some.inj (a2.symm.trans b2)
   subst eq
   exact ⟨a1.sim b1 (simR.refl _), a3.trans b3.symm⟩
 ·
  rw [if_neg c] at h k
  exact ⟨Or.inr ⟨h.1, k.1⟩, h.2.trans k.2.symm⟩
theorem quaR.range {x y : Nat} {n : Int} (h : quaR x y n) : 0 ≤ n ∧ n < 4 := by
 obtain ⟨_, h⟩ := h
 by_cases c : fitB x = true
 ·
  rw [if_pos c] at h
  obtain ⟨m, _, h⟩ := h
  by_cases c2 : Fl.eqF m 0 = true
  · rw [if_pos c2] at h; omega
  ·
   rw [if_neg c2] at h
   obtain ⟨_, q, _, e⟩ := h
   omega
 · rw [if_neg c] at h; omega
theorem ng_sim {a b : Nat} (h : simR a b) : simR (Fl.ng a) (Fl.ng b) := by
 rcases h with e | ⟨e1, e2⟩
 · rw [e]; exact simR.refl _
 · exact Or.inr ⟨by rw [Fl.nan_ng]; exact e1, by rw [Fl.nan_ng]; exact e2⟩
/-- sine and cosine by their quarter -/
def turnAt (n : Int) (s c a b : Nat) : Prop := (n = 0 ∧ a = s ∧ b = c) ∨ (n = 1 ∧ a = c ∧ b = Fl.ng s) ∨ (n = 2 ∧ a = Fl.ng s ∧ b = Fl.ng c) ∨ (n = 3 ∧ a = Fl.ng c ∧ b = s)
theorem turnAt.sim {n : Int} {s c s' c' a b a' b' : Nat} (h : turnAt n s c a b) (k : turnAt n s' c' a' b') (e1 : simR s s') (e2 : simR c c') : simR a a' ∧ simR b b' := by
 have n1 := ng_sim e1
 have n2 := ng_sim e2
 rcases h with ⟨x, rfl, rfl⟩ | ⟨x, rfl, rfl⟩ | ⟨x, rfl, rfl⟩ | ⟨x, rfl, rfl⟩ <;> rcases k with ⟨z, rfl, rfl⟩ | ⟨z, rfl, rfl⟩ | ⟨z, rfl, rfl⟩ | ⟨z, rfl, rfl⟩ <;> first | exact ⟨e1, e2⟩ | exact ⟨e2, n1⟩ | exact ⟨n1, n2⟩ | exact ⟨n2, e1⟩ | (exfalso; omega)
def turR (x a b : Nat) : Prop := a < 18446744073709551616 ∧ b < 18446744073709551616 ∧ if fitB x = true then ∃ y n s c, quaR x y n ∧ sinR y s ∧ cosR y c ∧ turnAt n s c a b else Fl.nan a = true ∧ Fl.nan b = true
theorem turR.sim {x a b a' b' : Nat} (hx : x < 18446744073709551616) (h : turR x a b) (k : turR x a' b') : simR a a' ∧ simR b b' := by
 obtain ⟨_, _, h⟩ := h
 obtain ⟨_, _, k⟩ := k
 by_cases c : fitB x = true
 ·
  rw [if_pos c] at h k
  obtain ⟨y, n, s, c, h1, h2, h3, h4⟩ := h
  obtain ⟨y', n', s', c', k1, k2, k3, k4⟩ := k
  obtain ⟨ey, en⟩ := h1.sim hx k1
  subst en
  exact h4.sim k4 (h2.sim k2 ey) (h3.sim k3 ey)
 ·
  rw [if_neg c] at h k
  exact ⟨Or.inr ⟨h.1, k.1⟩, Or.inr ⟨h.2, k.2⟩⟩
/-- the angle's rounds: k from 24 down -/
def angQ (z : Nat) : Nat → Nat → Prop
 | 0, t => t = 0
 | i + 1, t' => ∃ t d p, angQ z i t ∧ opR .quo 4607182418800017408 (floatOfInt .f64 (2 * (24 - (i : Int)) + 1)) d ∧ opR .mul z t p ∧ opR .sub d p t'
theorem angQ.sim {z z' : Nat} (hz : simR z z') : ∀ (i t t' : Nat), angQ z i t → angQ z' i t' → simR t t'
 | 0, t, t', h, h' => Or.inl (Eq.trans h (Eq.symm h'))
 | i + 1, t, t', ⟨u, d, p, h1, h2, h3, h4⟩, ⟨u', d', p', k1, k2, k3, k4⟩ =>
  h4.sim isSub k4 (h2.sim isQuo k2 (simR.refl _) (simR.refl _)) (h3.sim isMul k3 hz (angQ.sim hz i u u' h1 k1))
def angU (u v : Nat) : Prop := ∃ z s, opR .mul u u z ∧ angQ z 25 s ∧ opR .mul u s v
theorem angU.sim {u u' v v' : Nat} (h : angU u v) (k : angU u' v') (e : simR u u') : simR v v' := by
 obtain ⟨z, s, h1, h2, h3⟩ := h
 obtain ⟨z', s', k1, k2, k3⟩ := k
 exact h3.sim isMul k3 e (angQ.sim (h1.sim isMul k1 e e) 25 s s' h2 k2)
def angR (t v : Nat) : Prop := if Fl.ltF 4601130706800738304 t = true then ∃ a b u w x, opR .sub t 4607182418800017408 a ∧ opR .add t 4607182418800017408 b ∧ opR .quo a b u ∧ angU u w ∧ opR .add w 4359948597267291143 x ∧ opR .add 4605249457297304856 x v else angU t v
theorem angR.sim {t t' v v' : Nat} (h : angR t v) (k : angR t' v') (e : simR t t') : simR v v' := by
 unfold angR at h k
 have el : Fl.ltF 4601130706800738304 t = Fl.ltF 4601130706800738304 t' := by
  rcases e with e | ⟨e1, e2⟩
  · rw [e]
  · unfold Fl.ltF; rw [e1, e2]; simp
 rw [← el] at k
 by_cases c : Fl.ltF 4601130706800738304 t = true
 ·
  rw [if_pos c] at h k
  obtain ⟨a, b, u, w, x, h1, h2, h3, h4, h5, h6⟩ := h
  obtain ⟨a', b', u', w', x', k1, k2, k3, k4, k5, k6⟩ := k
  have eu := h3.sim isQuo k3 (h1.sim isSub k1 e (simR.refl _)) (h2.sim isAdd k2 e (simR.refl _))
  exact h6.sim isAdd k6 (simR.refl _) (h5.sim isAdd k5 (h4.sim k4 eu) (simR.refl _))
 ·
  rw [if_neg c] at h k
  exact h.sim k e
/-- the angle of a place to the right and above, of parts p up and q right -/
def basR (p q b : Nat) : Prop := if p = 0 then b = 0 else if p = 9218868437227405312 ∧ q = 9218868437227405312 then b = 4605249457297304856 else if Fl.leF p q = true then ∃ t, opR .quo p q t ∧ angR t b
 else ∃ t v d, opR .quo q p t ∧ angR t v ∧ opR .sub v 4364452196894661639 d ∧ opR .sub 4609753056924675352 d b
theorem basR.sim {p q b b' : Nat} (h : basR p q b) (k : basR p q b') : simR b b' := by
 unfold basR at h k
 by_cases c : p = 0
 · rw [if_pos c] at h k; exact Or.inl (h.trans k.symm)
 ·
  rw [if_neg c] at h k
  by_cases c2 : p = 9218868437227405312 ∧ q = 9218868437227405312
  · rw [if_pos c2] at h k; exact Or.inl (h.trans k.symm)
  ·
   rw [if_neg c2] at h k
   by_cases c3 : Fl.leF p q = true
   ·
    rw [if_pos c3] at h k
    obtain ⟨t, h1, h2⟩ := h
    obtain ⟨t', k1, k2⟩ := k
    exact h2.sim k2 (h1.sim isQuo k1 (simR.refl _) (simR.refl _))
   ·
    rw [if_neg c3] at h k
    obtain ⟨t, v, d, h1, h2, h3, h4⟩ := h
    obtain ⟨t', v', d', k1, k2, k3, k4⟩ := k
    exact h4.sim isSub k4 (simR.refl _) (h3.sim isSub k3 (h2.sim k2 (h1.sim isQuo k1 (simR.refl _) (simR.refl _))) (simR.refl _))
def sidR (x b r : Nat) : Prop := if Fl.sg x = true then ∃ d, opR .sub b 4368955796522032135 d ∧ opR .sub 4614256656552045848 d r else r = b
theorem sidR.sim {x b b' r r' : Nat} (h : sidR x b r) (k : sidR x b' r') (e : simR b b') : simR r r' := by
 unfold sidR at h k
 by_cases c : Fl.sg x = true
 ·
  rw [if_pos c] at h k
  obtain ⟨d, h1, h2⟩ := h
  obtain ⟨d', k1, k2⟩ := k
  exact h2.sim isSub k2 (simR.refl _) (h1.sim isSub k1 e (simR.refl _))
 ·
  rw [if_neg c] at h k
  rw [h, k]; exact e
/-- the angle of a place -/
def offR (y x r : Nat) : Prop := if (Fl.nan y || Fl.nan x) = true then Fl.nan r = true else ∃ b s, basR (Fl.rg y) (Fl.rg x) b ∧ sidR x b s ∧ r = if Fl.sg y = true then Fl.ng s else s
theorem offR.sim {y x r r' : Nat} (h : offR y x r) (k : offR y x r') : simR r r' := by
 unfold offR at h k
 by_cases c : (Fl.nan y || Fl.nan x) = true
 · rw [if_pos c] at h k; exact Or.inr ⟨h, k⟩
 ·
  rw [if_neg c] at h k
  obtain ⟨b, s, h1, h2, h3⟩ := h
  obtain ⟨b', s', k1, k2, k3⟩ := k
  have es := h2.sim k2 (h1.sim k1)
  rw [h3, k3]
  by_cases c2 : Fl.sg y = true
  · rw [if_pos c2, if_pos c2]; exact ng_sim es
  · rw [if_neg c2, if_neg c2]; exact es
/-- one circle at most to or fro -/
def onceR (y z : Nat) : Prop := if Fl.ltF 4614256656552045848 y = true then ∃ d, opR .sub y 4618760256179416344 d ∧ opR .sub d 4373459396149402631 z else if Fl.ltF 13837628693406821656 y = true then z = y else ∃ d, opR .add y 4618760256179416344 d ∧ opR .add d 4373459396149402631 z
theorem ltF_sim {a y y' : Nat} (e : simR y y') : Fl.ltF a y = Fl.ltF a y' := by
 rcases e with e | ⟨e1, e2⟩
 · rw [e]
 · unfold Fl.ltF; rw [e1, e2]; simp
theorem onceR.sim {y y' z z' : Nat} (h : onceR y z) (k : onceR y' z') (e : simR y y') : simR z z' := by
 unfold onceR at h k
 rw [← ltF_sim e, ← ltF_sim e] at k
 by_cases c : Fl.ltF 4614256656552045848 y = true
 ·
  rw [if_pos c] at h k
  obtain ⟨d, h1, h2⟩ := h
  obtain ⟨d', k1, k2⟩ := k
  exact h2.sim isSub k2 (h1.sim isSub k1 e (simR.refl _)) (simR.refl _)
 ·
  rw [if_neg c] at h k
  by_cases c2 : Fl.ltF 13837628693406821656 y = true
  · rw [if_pos c2] at h k; rw [h, k]; exact e
  ·
   rw [if_neg c2] at h k
   obtain ⟨d, h1, h2⟩ := h
   obtain ⟨d', k1, k2⟩ := k
   exact h2.sim isAdd k2 (h1.sim isAdd k1 e (simR.refl _)) (simR.refl _)
def lastR (y z : Nat) : Prop := if (Fl.ltF 4614256656552045848 y || !Fl.ltF 13837628693406821656 y) = true then z = 4614256656552045848 else z = y
theorem lastR.sim {y y' z z' : Nat} (h : lastR y z) (k : lastR y' z') (e : simR y y') : simR z z' := by
 unfold lastR at h k
 rw [← ltF_sim e, ← ltF_sim e] at k
 by_cases c : (Fl.ltF 4614256656552045848 y || !Fl.ltF 13837628693406821656 y) = true
 · rw [if_pos c] at h k; exact Or.inl (h.trans k.symm)
 · rw [if_neg c] at h k; rw [h, k]; exact e
def wraR (x z : Nat) : Prop := if fitB x = true then if (Fl.ltF 13837628693406821656 x && Fl.leF x 4614256656552045848) = true then z = x else ∃ m y u, folR x 4594902181429758083 m ∧ lesR x m 4618760256179142656 4463265559871488000 4306313749964259328 y ∧ onceR y u ∧ lastR u z else Fl.nan z = true
theorem wraR.sim {x z z' : Nat} (h : wraR x z) (k : wraR x z') : simR z z' := by
 unfold wraR at h k
 by_cases c : fitB x = true
 ·
  rw [if_pos c] at h k
  by_cases c2 : (Fl.ltF 13837628693406821656 x && Fl.leF x 4614256656552045848) = true
  · rw [if_pos c2] at h k; exact Or.inl (h.trans k.symm)
  ·
   rw [if_neg c2] at h k
   obtain ⟨m, y, u, h1, h2, h3, h4⟩ := h
   obtain ⟨m', y', u', k1, k2, k3, k4⟩ := k
   exact h4.sim k4 (h3.sim k3 (h2.sim k2 (h1.sim k1)))
 · rw [if_neg c] at h k; exact Or.inr ⟨h, k⟩
end Go.Proofs.YtfgfofedacehiaaGreat

