/-
  OWN TEXT: plain laws on floats times powers of two: parts and their power are the float; times a power of two is exact where it is neither too great nor too small.
-/
import Derived.Test.YtmbjgakehghdjaaJar
import Derived.Test.YtmbjgakehghdjaaJaq
set_option linter.unusedVariables false
namespace Go.Proofs.Ytmbjgakehghdjaa
theorem pt_form {x : Nat} (hx : x < 18446744073709551616) (hf : Fl.rg x < 9218868437227405312) (hz : ¬ Fl.rg x = 0) :
    ptF x < 18446744073709551616 ∧ Fl.sg (ptF x) = Fl.sg x ∧ Fl.rg (ptF x) = 4602678819172646912 + Fl.rg (nmF x) % 4503599627370496 ∧ 4602678819172646912 ≤ Fl.rg (ptF x) ∧ Fl.rg (ptF x) < 4607182418800017408 := by
  have h : 4602678819172646912 + Fl.rg (nmF x) % 4503599627370496 < 4607182418800017408 := by omega
  have e : Fl.rg (ptF x) = 4602678819172646912 + Fl.rg (nmF x) % 4503599627370496 := Fl.rg_wd _ _ (by omega)
  refine ⟨Fl.wd_lt _ _ (by omega), Fl.sg_wd _ _ (by omega), e, by omega, by omega⟩
theorem vl_half (f c : Nat) (hf : f < 4503599627370496) (hc : c = 1021) : Fl.vl (4602678819172646912 + f) = (4503599627370496 + f) * 2 ^ c := by
  have := Fl.vl_comb c (4503599627370496 + f) (by omega) (Or.inr (by omega))
  rw [← this]
  congr 1
  omega
theorem parts_back {x : Nat} (hx : x < 18446744073709551616) (hf : Fl.rg x < 9218868437227405312) (hz : ¬ Fl.rg x = 0) : scF (ptF x) (ptE x) = x := by
  obtain ⟨p1, p2, p3, p4, p5⟩ := pt_form hx hf hz
  obtain ⟨y1, y2, y3, y4, c1, c2, v1⟩ := nm_facts hx hf hz
  have hfin : Fl.finB (ptF x) = true := decide_eq_true (by omega)
  unfold scF
  rw [hfin, decide_eq_false (show ¬ Fl.rg (ptF x) = 0 by omega), p2, p3]
  simp only [Bool.not_false, Bool.and_self, if_true]
  generalize hy : Fl.rg (nmF x) = y at *
  have hE : 1 ≤ y / 4503599627370496 := by omega
  have hE2 : y / 4503599627370496 ≤ 2046 := by omega
  have v2 := Fl.vl_comb (y / 4503599627370496 - 1) (4503599627370496 + y % 4503599627370496) (by omega) (Or.inr (by omega))
  rw [show (y / 4503599627370496 - 1) * 4503599627370496 + (4503599627370496 + y % 4503599627370496) = y by omega, v1] at v2
  have hpt : ptE x = nmE x + (((y / 4503599627370496 : Nat) : Int) - 1023 + 1) := by unfold ptE; rw [hy]
  obtain ⟨c, hc⟩ : ∃ c, c = 1021 := ⟨_, rfl⟩
  rw [vl_half _ c (Nat.mod_lt _ (by omega)) hc, Fl.rz_shift, hpt]
  rw [show nmE x + (((y / 4503599627370496 : Nat) : Int) - 1023 + 1) + ((c : Nat) : Int) = nmE x + ((y / 4503599627370496 - 1 : Nat) : Int) by omega, ← Fl.rz_shift, ← v2, Fl.rz_shift]
  rw [show nmE x + (((-nmE x).toNat : Nat) : Int) = 0 by omega, Fl.rz_zero, Fl.rq_vl _ (by omega)]
  exact Fl.wd_self hx
theorem rq_half (M d : Nat) (hM : M < 9007199254740992) (hd : 1 ≤ d) : Fl.rq M d ≤ 4503599627370496 := by
  by_cases z : M = 0
  · subst z; unfold Fl.rq; simp
  · have hl : M.log2 < 53 := (Nat.log2_lt z).2 hM
    have h1 : Fl.rne M d ≤ 4503599627370496 := by
      refine Fl.rne_le M d 4503599627370496 ?_
      have : 2 ^ 1 ≤ 2 ^ d := Nat.pow_le_pow_right (by omega) hd
      omega
    unfold Fl.rq
    rw [if_neg z, show M.log2 - (52 + d) = 0 by omega, Nat.zero_mul, Nat.zero_add, Nat.zero_add]
    exact Nat.le_trans (Nat.min_le_left _ _) h1
theorem rq_exact (M k : Nat) (hM : M < 9007199254740992) (hf : Fl.rq (M * 2 ^ k) 0 < 9218868437227405312) : Fl.vl (Fl.rq (M * 2 ^ k) 0) = M * 2 ^ k := by
  by_cases c : (M * 2 ^ k).log2 < 2098
  · exact (Fl.rq_rep _ ⟨M, k, rfl, by omega⟩ c).1
  · by_cases z : M * 2 ^ k = 0
    · rw [z]; decide
    · rw [Fl.rq_far _ 0 z (by omega)] at hf; omega
theorem scale_exact {x : Nat} (n : Int) (hf : Fl.rg x < 9218868437227405312) (hz : ¬ Fl.rg x = 0) (h1 : Fl.rg (scF x n) < 9218868437227405312) (h2 : 4503599627370496 < Fl.rg (scF x n)) :
    Fl.val (scF x n) * ((2 ^ (-n).toNat : Nat) : Int) = Fl.val x * ((2 ^ n.toNat : Nat) : Int) := by
  have hfin : Fl.finB x = true := decide_eq_true hf
  have es : scF x n = Fl.wd (Fl.sg x) (Fl.rz (Fl.vl (Fl.rg x)) n) := by
    unfold scF
    rw [hfin, decide_eq_false hz]; rfl
  have hb := Fl.rz_le (Fl.vl (Fl.rg x)) n
  rw [es, Fl.rg_wd _ _ (by omega)] at h1 h2
  have hv : Fl.val (scF x n) = if Fl.sg x then -(Fl.vl (Fl.rz (Fl.vl (Fl.rg x)) n) : Int) else Fl.vl (Fl.rz (Fl.vl (Fl.rg x)) n) := by rw [es]; exact Fl.val_wd _ _ (by omega)
  obtain ⟨k, M, e, hM, hk, hk2⟩ := Fl.rung_parts (Fl.rg x) hf
  have ev : Fl.vl (Fl.rg x) = M * 2 ^ k := by rw [e]; exact Fl.vl_comb k M (by omega) hk
  have key : Fl.vl (Fl.rz (Fl.vl (Fl.rg x)) n) * 2 ^ (-n).toNat = Fl.vl (Fl.rg x) * 2 ^ n.toNat := by
    rw [ev] at h1 h2 ⊢
    rw [Fl.rz_shift] at h1 h2 ⊢
    by_cases c : 0 ≤ n + k
    · have er : Fl.rz M (n + k) = Fl.rq (M * 2 ^ (n + (k : Int)).toNat) 0 := by
        unfold Fl.rz
        rw [show (-(n + (k : Int))).toNat = 0 by omega]
      rw [er] at h1 ⊢
      rw [rq_exact M _ hM h1, Nat.mul_assoc, Nat.mul_assoc, ← Nat.pow_add, ← Nat.pow_add]
      congr 2
      omega
    · exfalso
      have er : Fl.rz M (n + k) = Fl.rq M (-(n + (k : Int))).toNat := by
        unfold Fl.rz
        rw [show (n + (k : Int)).toNat = 0 by omega, Nat.pow_zero, Nat.mul_one]
      rw [er] at h2
      have := rq_half M (-(n + (k : Int))).toNat hM (by omega)
      omega
  rw [hv]
  unfold Fl.val
  have kI : ((Fl.vl (Fl.rz (Fl.vl (Fl.rg x)) n) : Nat) : Int) * ((2 ^ (-n).toNat : Nat) : Int) = ((Fl.vl (Fl.rg x) : Nat) : Int) * ((2 ^ n.toNat : Nat) : Int) := by
    rw [← Int.natCast_mul, ← Int.natCast_mul, key]
  cases Fl.sg x
  · simp only [Bool.false_eq_true, if_false]; exact kI
  · simp only [if_true, Int.neg_mul]; rw [kI]
theorem scF_sg {x : Nat} (n : Int) (hf : Fl.rg x < 9218868437227405312) (hz : ¬ Fl.rg x = 0) : Fl.sg (scF x n) = Fl.sg x := by
  have hfin : Fl.finB x = true := decide_eq_true hf
  have hb := Fl.rz_le (Fl.vl (Fl.rg x)) n
  unfold scF
  rw [hfin, decide_eq_false hz]
  exact Fl.sg_wd _ _ (by omega)
end Go.Proofs.Ytmbjgakehghdjaa
/-
  OWN TEXT: sines, cosines, quarters, angles of floats: what the chapter's steps come to.
-/
namespace Go.Proofs.Ytmbjgakehghdjaa
open Go.ChangeShapes Go.WideShapes Go.ChangeAt Go.RowKit
set_option linter.unusedVariables false
theorem isMul : isOp .mul := Or.inr (Or.inr (Or.inl rfl))
theorem isQuo : isOp .quo := Or.inr (Or.inr (Or.inr rfl))
theorem isSub : isOp .sub := Or.inr (Or.inl rfl)
theorem isAdd : isOp .add := Or.inl rfl
/-- the sine's rounds: k from 9 down -/
def sinQ (z : Nat) : Nat → Nat → Prop
  | 0, t => t = 4607182418800017408
  | i + 1, t' => ∃ t d p, sinQ z i t ∧ opR .quo z (floatOfInt .f64 (2 * (9 - (i : Int)) * (2 * (9 - (i : Int)) + 1))) d ∧ opR .mul d t p ∧ opR .sub 4607182418800017408 p t'
def cosQ (z : Nat) : Nat → Nat → Prop
  | 0, t => t = 4607182418800017408
  | i + 1, t' => ∃ t d p, cosQ z i t ∧ opR .quo z (floatOfInt .f64 ((2 * (9 - (i : Int)) - 1) * (2 * (9 - (i : Int))))) d ∧ opR .mul d t p ∧ opR .sub 4607182418800017408 p t'
theorem sinQ.sim {z z' : Nat} (hz : simR z z') : ∀ (i t t' : Nat), sinQ z i t → sinQ z' i t' → simR t t'
  | 0, t, t', h, h' => Or.inl (Eq.trans h (Eq.symm h'))
  | i + 1, t, t', ⟨u, d, p, h1, h2, h3, h4⟩, ⟨u', d', p', k1, k2, k3, k4⟩ =>
    h4.sim isSub k4 (simR.refl _) (h3.sim isMul k3 (h2.sim isQuo k2 hz (simR.refl _)) (sinQ.sim hz i u u' h1 k1))
theorem cosQ.sim {z z' : Nat} (hz : simR z z') : ∀ (i t t' : Nat), cosQ z i t → cosQ z' i t' → simR t t'
  | 0, t, t', h, h' => Or.inl (Eq.trans h (Eq.symm h'))
  | i + 1, t, t', ⟨u, d, p, h1, h2, h3, h4⟩, ⟨u', d', p', k1, k2, k3, k4⟩ =>
    h4.sim isSub k4 (simR.refl _) (h3.sim isMul k3 (h2.sim isQuo k2 hz (simR.refl _)) (cosQ.sim hz i u u' h1 k1))
def sinR (y s : Nat) : Prop := ∃ z t, opR .mul y y z ∧ sinQ z 9 t ∧ opR .mul y t s
def cosR (y c : Nat) : Prop := ∃ z, opR .mul y y z ∧ cosQ z 9 c
theorem sinR.sim {y y' s s' : Nat} (h : sinR y s) (k : sinR y' s') (e : simR y y') : simR s s' := by
  obtain ⟨z, t, h1, h2, h3⟩ := h
  obtain ⟨z', t', k1, k2, k3⟩ := k
  exact h3.sim isMul k3 e (sinQ.sim (h1.sim isMul k1 e e) 9 t t' h2 k2)
theorem cosR.sim {y y' s s' : Nat} (h : cosR y s) (k : cosR y' s') (e : simR y y') : simR s s' := by
  obtain ⟨z, h1, h2⟩ := h
  obtain ⟨z', k1, k2⟩ := k
  exact cosQ.sim (h1.sim isMul k1 e e) 9 s s' h2 k2
theorem cosQ_lt {z : Nat} : ∀ (i t : Nat), cosQ z i t → t < 18446744073709551616
  | 0, t, h => by have e : t = 4607182418800017408 := h; omega
  | i + 1, t, ⟨_, _, _, _, _, _, h⟩ => h.1
/-- x less m times three pieces -/
def lesR (x m a b c y : Nat) : Prop := ∃ p d q e r, opR .mul m a p ∧ opR .sub x p d ∧ opR .mul m b q ∧ opR .sub d q e ∧ opR .mul m c r ∧ opR .sub e r y
theorem lesR.sim {x m m' a b c y y' : Nat} (h : lesR x m a b c y) (k : lesR x m' a b c y') (e : simR m m') : simR y y' := by
  obtain ⟨p, d, q, f, r, h1, h2, h3, h4, h5, h6⟩ := h
  obtain ⟨p', d', q', f', r', k1, k2, k3, k4, k5, k6⟩ := k
  exact h6.sim isSub k6 (h4.sim isSub k4 (h2.sim isSub k2 (simR.refl _) (h1.sim isMul k1 e (simR.refl _))) (h3.sim isMul k3 e (simR.refl _))) (h5.sim isMul k5 e (simR.refl _))
/-- m: how often a float goes into x, whole -/
def folR (x c n : Nat) : Prop := ∃ p, opR .mul x c p ∧ whR p n
theorem folR.sim {x c n n' : Nat} (h : folR x c n) (k : folR x c n') : simR n n' := by
  obtain ⟨p, h1, h2⟩ := h
  obtain ⟨p', k1, k2⟩ := k
  exact h2.sim k2 (h1.sim isMul k1 (simR.refl _) (simR.refl _))
def fitB (x : Nat) : Bool := Fl.leF (Fl.rg x) 4697254411347427328
theorem fit_rg {x : Nat} (hx : x < 18446744073709551616) (h : fitB x = true) : Fl.nan x = false ∧ Fl.rg x ≤ 4697254411347427328 := by
  unfold fitB Fl.leF at h
  rw [Bool.and_eq_true, Bool.and_eq_true, decide_eq_true_eq] at h
  obtain ⟨⟨h1, _⟩, h2⟩ := h
  have n : Fl.nan x = false := by rw [← Fl.nan_rg]; simpa using h1
  refine ⟨n, ?_⟩
  have hl := Fl.rg_lt x
  have hs : Fl.sg (Fl.rg x) = false := by rw [Fl.sg_lt (by omega)]; exact decide_eq_false (by omega)
  rw [show Fl.key 4697254411347427328 = 4697254411347427328 by decide] at h2
  unfold Fl.key at h2
  rw [hs, if_neg (by decide), Fl.rg_rg] at h2
  omega
/-- of a fit float, the whole number is an integer of few bits -/
theorem fol_int {x c n : Nat} (hc : Fl.rg c ≤ 4607182418800017408) (hr : Fl.rg x ≤ 4697254411347427328) (h : folR x c n) : Fl.nan n = false ∧ n < 18446744073709551616 ∧ ∃ q : Int, -4194304 ≤ q ∧ q ≤ 4194304 ∧ floatToIntVal .f64 n .i64 = some q := by
  obtain ⟨p, h1, h2⟩ := h
  have hm := Fl.mul_fin (x := x) (y := c) (by omega) (by omega)
  have e1 : p = Fl.wd (Fl.sg x ^^ Fl.sg c) (Fl.rq (Fl.vl (Fl.rg x) * Fl.vl (Fl.rg c)) 1074) := by
    rcases h1.2 with k | k
    · exact (Option.some.inj (hm.symm.trans k)).symm
    · exact absurd (hm.symm.trans k.1) (by intro c; cases c)
  have vle : ∀ a b : Nat, a ≤ b → Fl.vl a ≤ Fl.vl b := by
    intro a b h
    rcases Nat.lt_or_ge a b with c | c
    · exact Nat.le_of_lt (Fl.vl_mono c)
    · rw [show a = b by omega]; exact Nat.le_refl _
  have hle : Fl.rq (Fl.vl (Fl.rg x) * Fl.vl (Fl.rg c)) 1074 ≤ 4697254411347427328 := by
    have a := Fl.rq_mono (Fl.vl (Fl.rg x) * Fl.vl (Fl.rg c)) (Fl.vl 4697254411347427328 * Fl.vl 4607182418800017408) 1074 (Nat.mul_le_mul (vle _ _ hr) (vle _ _ hc))
    exact Nat.le_trans a (by decide +kernel)
  have hg : Fl.rg p = Fl.rq (Fl.vl (Fl.rg x) * Fl.vl (Fl.rg c)) 1074 := by rw [e1]; exact Fl.rg_wd _ _ (by omega)
  have np : Fl.nan p = false := by unfold Fl.nan; exact decide_eq_false (by omega)
  obtain ⟨n1, n2⟩ := h2
  rw [if_neg (by rw [np]; decide)] at n2
  obtain ⟨cc, hcc⟩ : ∃ c, c = 1074 := ⟨_, rfl⟩
  have hv : Fl.vl (Fl.rg p) ≤ 4194304 * 2 ^ cc := by
    refine Nat.le_trans (vle _ 4697254411347427328 (by omega)) ?_
    rw [hcc]
    decide +kernel
  obtain ⟨k, hk, hw, _, ht⟩ := Fl.whole_int cc hcc (by omega) hv
  subst n2
  refine ⟨?_, n1, _, ?_, ?_, ht⟩
  · rw [hw]; exact Fl.nan_wd _ _ (Fl.rq_le _ _)
  · split <;> omega
  · split <;> omega
/-- x less whole quarters, and how many -/
def quaR (x y : Nat) (n : Int) : Prop := y < 18446744073709551616 ∧
  if fitB x = true then ∃ m, folR x 4603909380684499075 m ∧ if Fl.eqF m 0 = true then y = x ∧ n = 0 else lesR x m 4609753056924401664 4454258360616747008 4297306550709518336 y ∧ ∃ q, floatToIntVal .f64 m .i64 = some q ∧ n = q % 4
  else Fl.nan y = true ∧ n = 0
theorem quaR.sim {x y y' : Nat} {n n' : Int} (hx : x < 18446744073709551616) (h : quaR x y n) (k : quaR x y' n') : simR y y' ∧ n = n' := by
  obtain ⟨_, h⟩ := h
  obtain ⟨_, k⟩ := k
  by_cases c : fitB x = true
  · rw [if_pos c] at h k
    obtain ⟨m, h1, h2⟩ := h
    obtain ⟨m', k1, k2⟩ := k
    have hn := (fol_int (by decide) (fit_rg hx c).2 h1).1
    have em : m = m' := by
      rcases h1.sim k1 with e | ⟨e, _⟩
      · exact e
      · rw [hn] at e; cases e
    subst em
    by_cases c2 : Fl.eqF m 0 = true
    · rw [if_pos c2] at h2 k2
      exact ⟨Or.inl (h2.1.trans k2.1.symm), h2.2.trans k2.2.symm⟩
    · rw [if_neg c2] at h2 k2
      obtain ⟨a1, q, a2, a3⟩ := h2
      obtain ⟨b1, q', b2, b3⟩ := k2
      have eq : q = q' := Option.some.inj (a2.symm.trans b2)
      subst eq
      exact ⟨a1.sim b1 (simR.refl _), a3.trans b3.symm⟩
  · rw [if_neg c] at h k
    exact ⟨Or.inr ⟨h.1, k.1⟩, h.2.trans k.2.symm⟩
theorem quaR.range {x y : Nat} {n : Int} (h : quaR x y n) : 0 ≤ n ∧ n < 4 := by
  obtain ⟨_, h⟩ := h
  by_cases c : fitB x = true
  · rw [if_pos c] at h
    obtain ⟨m, _, h⟩ := h
    by_cases c2 : Fl.eqF m 0 = true
    · rw [if_pos c2] at h; omega
    · rw [if_neg c2] at h
      obtain ⟨_, q, _, e⟩ := h
      omega
  · rw [if_neg c] at h; omega
theorem ng_sim {a b : Nat} (h : simR a b) : simR (Fl.ng a) (Fl.ng b) := by
  rcases h with e | ⟨e1, e2⟩
  · rw [e]; exact simR.refl _
  · exact Or.inr ⟨by rw [Fl.nan_ng]; exact e1, by rw [Fl.nan_ng]; exact e2⟩
/-- sine and cosine by their quarter -/
def turnAt (n : Int) (s c a b : Nat) : Prop := (n = 0 ∧ a = s ∧ b = c) ∨ (n = 1 ∧ a = c ∧ b = Fl.ng s) ∨ (n = 2 ∧ a = Fl.ng s ∧ b = Fl.ng c) ∨ (n = 3 ∧ a = Fl.ng c ∧ b = s)
theorem turnAt.sim {n : Int} {s c s' c' a b a' b' : Nat} (h : turnAt n s c a b) (k : turnAt n s' c' a' b') (e1 : simR s s') (e2 : simR c c') : simR a a' ∧ simR b b' := by
  have n1 := ng_sim e1
  have n2 := ng_sim e2
  rcases h with ⟨x, rfl, rfl⟩ | ⟨x, rfl, rfl⟩ | ⟨x, rfl, rfl⟩ | ⟨x, rfl, rfl⟩ <;> rcases k with ⟨z, rfl, rfl⟩ | ⟨z, rfl, rfl⟩ | ⟨z, rfl, rfl⟩ | ⟨z, rfl, rfl⟩ <;> first | exact ⟨e1, e2⟩ | exact ⟨e2, n1⟩ | exact ⟨n1, n2⟩ | exact ⟨n2, e1⟩ | (exfalso; omega)
def turR (x a b : Nat) : Prop := a < 18446744073709551616 ∧ b < 18446744073709551616 ∧ if fitB x = true then ∃ y n s c, quaR x y n ∧ sinR y s ∧ cosR y c ∧ turnAt n s c a b else Fl.nan a = true ∧ Fl.nan b = true
theorem turR.sim {x a b a' b' : Nat} (hx : x < 18446744073709551616) (h : turR x a b) (k : turR x a' b') : simR a a' ∧ simR b b' := by
  obtain ⟨_, _, h⟩ := h
  obtain ⟨_, _, k⟩ := k
  by_cases c : fitB x = true
  · rw [if_pos c] at h k
    obtain ⟨y, n, s, c, h1, h2, h3, h4⟩ := h
    obtain ⟨y', n', s', c', k1, k2, k3, k4⟩ := k
    obtain ⟨ey, en⟩ := h1.sim hx k1
    subst en
    exact h4.sim k4 (h2.sim k2 ey) (h3.sim k3 ey)
  · rw [if_neg c] at h k
    exact ⟨Or.inr ⟨h.1, k.1⟩, Or.inr ⟨h.2, k.2⟩⟩
/-- the angle's rounds: k from 24 down -/
def angQ (z : Nat) : Nat → Nat → Prop
  | 0, t => t = 0
  | i + 1, t' => ∃ t d p, angQ z i t ∧ opR .quo 4607182418800017408 (floatOfInt .f64 (2 * (24 - (i : Int)) + 1)) d ∧ opR .mul z t p ∧ opR .sub d p t'
theorem angQ.sim {z z' : Nat} (hz : simR z z') : ∀ (i t t' : Nat), angQ z i t → angQ z' i t' → simR t t'
  | 0, t, t', h, h' => Or.inl (Eq.trans h (Eq.symm h'))
  | i + 1, t, t', ⟨u, d, p, h1, h2, h3, h4⟩, ⟨u', d', p', k1, k2, k3, k4⟩ =>
    h4.sim isSub k4 (h2.sim isQuo k2 (simR.refl _) (simR.refl _)) (h3.sim isMul k3 hz (angQ.sim hz i u u' h1 k1))
def angU (u v : Nat) : Prop := ∃ z s, opR .mul u u z ∧ angQ z 25 s ∧ opR .mul u s v
theorem angU.sim {u u' v v' : Nat} (h : angU u v) (k : angU u' v') (e : simR u u') : simR v v' := by
  obtain ⟨z, s, h1, h2, h3⟩ := h
  obtain ⟨z', s', k1, k2, k3⟩ := k
  exact h3.sim isMul k3 e (angQ.sim (h1.sim isMul k1 e e) 25 s s' h2 k2)
def angR (t v : Nat) : Prop := if Fl.ltF 4601130706800738304 t = true then ∃ a b u w x, opR .sub t 4607182418800017408 a ∧ opR .add t 4607182418800017408 b ∧ opR .quo a b u ∧ angU u w ∧ opR .add w 4359948597267291143 x ∧ opR .add 4605249457297304856 x v else angU t v
theorem angR.sim {t t' v v' : Nat} (h : angR t v) (k : angR t' v') (e : simR t t') : simR v v' := by
  unfold angR at h k
  have el : Fl.ltF 4601130706800738304 t = Fl.ltF 4601130706800738304 t' := by
    rcases e with e | ⟨e1, e2⟩
    · rw [e]
    · unfold Fl.ltF; rw [e1, e2]; simp
  rw [← el] at k
  by_cases c : Fl.ltF 4601130706800738304 t = true
  · rw [if_pos c] at h k
    obtain ⟨a, b, u, w, x, h1, h2, h3, h4, h5, h6⟩ := h
    obtain ⟨a', b', u', w', x', k1, k2, k3, k4, k5, k6⟩ := k
    have eu := h3.sim isQuo k3 (h1.sim isSub k1 e (simR.refl _)) (h2.sim isAdd k2 e (simR.refl _))
    exact h6.sim isAdd k6 (simR.refl _) (h5.sim isAdd k5 (h4.sim k4 eu) (simR.refl _))
  · rw [if_neg c] at h k
    exact h.sim k e
/-- the angle of a place to the right and above, of parts p up and q right -/
def basR (p q b : Nat) : Prop := if p = 0 then b = 0 else if p = 9218868437227405312 ∧ q = 9218868437227405312 then b = 4605249457297304856 else if Fl.leF p q = true then ∃ t, opR .quo p q t ∧ angR t b
  else ∃ t v d, opR .quo q p t ∧ angR t v ∧ opR .sub v 4364452196894661639 d ∧ opR .sub 4609753056924675352 d b
theorem basR.sim {p q b b' : Nat} (h : basR p q b) (k : basR p q b') : simR b b' := by
  unfold basR at h k
  by_cases c : p = 0
  · rw [if_pos c] at h k; exact Or.inl (h.trans k.symm)
  · rw [if_neg c] at h k
    by_cases c2 : p = 9218868437227405312 ∧ q = 9218868437227405312
    · rw [if_pos c2] at h k; exact Or.inl (h.trans k.symm)
    · rw [if_neg c2] at h k
      by_cases c3 : Fl.leF p q = true
      · rw [if_pos c3] at h k
        obtain ⟨t, h1, h2⟩ := h
        obtain ⟨t', k1, k2⟩ := k
        exact h2.sim k2 (h1.sim isQuo k1 (simR.refl _) (simR.refl _))
      · rw [if_neg c3] at h k
        obtain ⟨t, v, d, h1, h2, h3, h4⟩ := h
        obtain ⟨t', v', d', k1, k2, k3, k4⟩ := k
        exact h4.sim isSub k4 (simR.refl _) (h3.sim isSub k3 (h2.sim k2 (h1.sim isQuo k1 (simR.refl _) (simR.refl _))) (simR.refl _))
def sidR (x b r : Nat) : Prop := if Fl.sg x = true then ∃ d, opR .sub b 4368955796522032135 d ∧ opR .sub 4614256656552045848 d r else r = b
theorem sidR.sim {x b b' r r' : Nat} (h : sidR x b r) (k : sidR x b' r') (e : simR b b') : simR r r' := by
  unfold sidR at h k
  by_cases c : Fl.sg x = true
  · rw [if_pos c] at h k
    obtain ⟨d, h1, h2⟩ := h
    obtain ⟨d', k1, k2⟩ := k
    exact h2.sim isSub k2 (simR.refl _) (h1.sim isSub k1 e (simR.refl _))
  · rw [if_neg c] at h k
    rw [h, k]; exact e
/-- the angle of a place -/
def offR (y x r : Nat) : Prop := if (Fl.nan y || Fl.nan x) = true then Fl.nan r = true else ∃ b s, basR (Fl.rg y) (Fl.rg x) b ∧ sidR x b s ∧ r = if Fl.sg y = true then Fl.ng s else s
theorem offR.sim {y x r r' : Nat} (h : offR y x r) (k : offR y x r') : simR r r' := by
  unfold offR at h k
  by_cases c : (Fl.nan y || Fl.nan x) = true
  · rw [if_pos c] at h k; exact Or.inr ⟨h, k⟩
  · rw [if_neg c] at h k
    obtain ⟨b, s, h1, h2, h3⟩ := h
    obtain ⟨b', s', k1, k2, k3⟩ := k
    have es := h2.sim k2 (h1.sim k1)
    rw [h3, k3]
    by_cases c2 : Fl.sg y = true
    · rw [if_pos c2, if_pos c2]; exact ng_sim es
    · rw [if_neg c2, if_neg c2]; exact es
/-- one circle at most to or fro -/
def onceR (y z : Nat) : Prop := if Fl.ltF 4614256656552045848 y = true then ∃ d, opR .sub y 4618760256179416344 d ∧ opR .sub d 4373459396149402631 z else if Fl.ltF 13837628693406821656 y = true then z = y else ∃ d, opR .add y 4618760256179416344 d ∧ opR .add d 4373459396149402631 z
theorem ltF_sim {a y y' : Nat} (e : simR y y') : Fl.ltF a y = Fl.ltF a y' := by
  rcases e with e | ⟨e1, e2⟩
  · rw [e]
  · unfold Fl.ltF; rw [e1, e2]; simp
theorem onceR.sim {y y' z z' : Nat} (h : onceR y z) (k : onceR y' z') (e : simR y y') : simR z z' := by
  unfold onceR at h k
  rw [← ltF_sim e, ← ltF_sim e] at k
  by_cases c : Fl.ltF 4614256656552045848 y = true
  · rw [if_pos c] at h k
    obtain ⟨d, h1, h2⟩ := h
    obtain ⟨d', k1, k2⟩ := k
    exact h2.sim isSub k2 (h1.sim isSub k1 e (simR.refl _)) (simR.refl _)
  · rw [if_neg c] at h k
    by_cases c2 : Fl.ltF 13837628693406821656 y = true
    · rw [if_pos c2] at h k; rw [h, k]; exact e
    · rw [if_neg c2] at h k
      obtain ⟨d, h1, h2⟩ := h
      obtain ⟨d', k1, k2⟩ := k
      exact h2.sim isAdd k2 (h1.sim isAdd k1 e (simR.refl _)) (simR.refl _)
def lastR (y z : Nat) : Prop := if (Fl.ltF 4614256656552045848 y || !Fl.ltF 13837628693406821656 y) = true then z = 4614256656552045848 else z = y
theorem lastR.sim {y y' z z' : Nat} (h : lastR y z) (k : lastR y' z') (e : simR y y') : simR z z' := by
  unfold lastR at h k
  rw [← ltF_sim e, ← ltF_sim e] at k
  by_cases c : (Fl.ltF 4614256656552045848 y || !Fl.ltF 13837628693406821656 y) = true
  · rw [if_pos c] at h k; exact Or.inl (h.trans k.symm)
  · rw [if_neg c] at h k; rw [h, k]; exact e
def wraR (x z : Nat) : Prop := if fitB x = true then if (Fl.ltF 13837628693406821656 x && Fl.leF x 4614256656552045848) = true then z = x else ∃ m y u, folR x 4594902181429758083 m ∧ lesR x m 4618760256179142656 4463265559871488000 4306313749964259328 y ∧ onceR y u ∧ lastR u z else Fl.nan z = true
theorem wraR.sim {x z z' : Nat} (h : wraR x z) (k : wraR x z') : simR z z' := by
  unfold wraR at h k
  by_cases c : fitB x = true
  · rw [if_pos c] at h k
    by_cases c2 : (Fl.ltF 13837628693406821656 x && Fl.leF x 4614256656552045848) = true
    · rw [if_pos c2] at h k; exact Or.inl (h.trans k.symm)
    · rw [if_neg c2] at h k
      obtain ⟨m, y, u, h1, h2, h3, h4⟩ := h
      obtain ⟨m', y', u', k1, k2, k3, k4⟩ := k
      exact h4.sim k4 (h3.sim k3 (h2.sim k2 (h1.sim k1)))
  · rw [if_neg c] at h k; exact Or.inr ⟨h, k⟩
theorem whR_of0 (p : Nat) (hp : p < 18446744073709551616) : whR p (if Fl.nan p = true then p else Fl.whF p) := by
  by_cases c : Fl.nan p = true
  · rw [if_pos c]; exact ⟨hp, by rw [if_pos c]; exact c⟩
  · rw [if_neg c]; exact ⟨(Fl.whF_ng hp (Bool.eq_false_iff.2 c)).2.1, by rw [if_neg c]⟩
theorem les_lt {x m a b c y : Nat} (h : lesR x m a b c y) : y < 18446744073709551616 := by
  obtain ⟨_, _, _, _, _, _, _, _, _, _, h⟩ := h
  exact h.1
end Go.Proofs.Ytmbjgakehghdjaa
/-
  OWN TEXT: lengths, roots, polar forms, units of complex numbers: what the chapter's steps come to.
-/
namespace Go.Proofs.Ytmbjgakehghdjaa
open Go.ChangeShapes Go.WideShapes Go.ChangeAt Go.RowKit
set_option linter.unusedVariables false
/-- y is the root of x -/
def sqtR (x y : Nat) : Prop := y < 18446744073709551616 ∧ (Ieee.double.sqrt x = some y ∨ (Ieee.double.sqrt x = none ∧ Fl.nan y = true))
theorem sqt_none {x : Nat} (h : Fl.nan x = true) : Ieee.double.sqrt x = none := by
  unfold Ieee.Format.sqrt
  rw [Fl.read_nan (Fl.nan_lt h)]
  rfl
theorem sqtR.sim {x x' y y' : Nat} (h : sqtR x y) (k : sqtR x' y') (e : simR x x') : simR y y' := by
  rcases e with e | ⟨e1, e2⟩
  · subst e
    rcases h.2 with a | ⟨a1, a2⟩
    · rcases k.2 with b | ⟨b1, b2⟩
      · rw [a] at b; exact Or.inl (Option.some.inj b)
      · rw [a] at b1; cases b1
    · rcases k.2 with b | ⟨b1, b2⟩
      · rw [a1] at b; cases b
      · exact Or.inr ⟨a2, b2⟩
  · rcases h.2 with a | ⟨a1, a2⟩
    · rw [sqt_none e1] at a; cases a
    · rcases k.2 with b | ⟨b1, b2⟩
      · rw [sqt_none e2] at b; cases b
      · exact Or.inr ⟨a2, b2⟩
def sqaR (a b r : Nat) : Prop := ∃ p q, opR .mul a a p ∧ opR .mul b b q ∧ opR .add p q r
theorem sqaR.sim {a b a' b' r r' : Nat} (h : sqaR a b r) (k : sqaR a' b' r') (e1 : simR a a') (e2 : simR b b') : simR r r' := by
  obtain ⟨p, q, h1, h2, h3⟩ := h
  obtain ⟨p', q', k1, k2, k3⟩ := k
  exact h3.sim isAdd k3 (h1.sim isMul k1 e1 e1) (h2.sim isMul k2 e2 e2)
def togR (u v r : Nat) : Prop := ∃ s, sqaR u v s ∧ sqtR s r
theorem togR.sim {a b a' b' r r' : Nat} (h : togR a b r) (k : togR a' b' r') (e1 : simR a a') (e2 : simR b b') : simR r r' := by
  obtain ⟨s, h1, h2⟩ := h
  obtain ⟨s', k1, k2⟩ := k
  exact h2.sim k2 (h1.sim k1 e1 e2)
theorem tog_lt {u v r : Nat} (h : togR u v r) : r < 18446744073709551616 := by obtain ⟨_, _, h⟩ := h; exact h.1
/-- the greater part without its sign, and the lesser one -/
def bigF (a b : Nat) : Nat := if Fl.ltF (Fl.rg a) (Fl.rg b) = true then Fl.rg b else Fl.rg a
def smaF (a b : Nat) : Nat := if Fl.ltF (Fl.rg a) (Fl.rg b) = true then Fl.rg a else Fl.rg b
theorem big_lt (a b : Nat) : bigF a b < 9223372036854775808 := by unfold bigF; split; exact Fl.rg_lt _; exact Fl.rg_lt _
theorem sma_lt (a b : Nat) : smaF a b < 9223372036854775808 := by unfold smaF; split; exact Fl.rg_lt _; exact Fl.rg_lt _
theorem sc_sim {t t' : Nat} (n : Int) (h : simR t t') : simR (scF t n) (scF t' n) := by
  rcases h with e | ⟨e1, e2⟩
  · rw [e]; exact simR.refl _
  · rw [scF_stay (Or.inr (Nat.le_of_lt (Fl.nan_lt e1))), scF_stay (Or.inr (Nat.le_of_lt (Fl.nan_lt e2)))]; exact Or.inr ⟨e1, e2⟩
/-- the length of a number whose parts are finite -/
def lenP (a b r : Nat) : Prop := ∃ l, togR (scF (bigF a b) (-paE (bigF a b))) (scF (smaF a b) (-paE (bigF a b))) l ∧ r = scF l (paE (bigF a b))
def lenR (a b r : Nat) : Prop := r < 18446744073709551616 ∧
  if Fl.rg a = 9218868437227405312 ∨ Fl.rg b = 9218868437227405312 then r = 9218868437227405312 else if Fl.nan a = true ∨ Fl.nan b = true then Fl.nan r = true else if bigF a b = 0 then r = 0 else lenP a b r
theorem lenR.sim {a b r r' : Nat} (h : lenR a b r) (k : lenR a b r') : simR r r' := by
  obtain ⟨_, h⟩ := h
  obtain ⟨_, k⟩ := k
  by_cases c1 : Fl.rg a = 9218868437227405312 ∨ Fl.rg b = 9218868437227405312
  · rw [if_pos c1] at h k; exact Or.inl (h.trans k.symm)
  · rw [if_neg c1] at h k
    by_cases c2 : Fl.nan a = true ∨ Fl.nan b = true
    · rw [if_pos c2] at h k; exact Or.inr ⟨h, k⟩
    · rw [if_neg c2] at h k
      by_cases c3 : bigF a b = 0
      · rw [if_pos c3] at h k; exact Or.inl (h.trans k.symm)
      · rw [if_neg c3] at h k
        obtain ⟨l, h1, h2⟩ := h
        obtain ⟨l', k1, k2⟩ := k
        rw [h2, k2]
        exact sc_sim _ (h1.sim k1 (simR.refl _) (simR.refl _))
/-- the root of a number whose parts are finite, not both nought; of halves of its order -/
def rooP (a b re im : Nat) : Prop := ∃ l s0 h t d, togR (scF (Fl.rg a) (-(2 * (paE (bigF a b) / 2)))) (scF (Fl.rg b) (-(2 * (paE (bigF a b) / 2)))) l ∧
  opR .add (scF (Fl.rg a) (-(2 * (paE (bigF a b) / 2)))) l s0 ∧ opR .quo s0 4611686018427387904 h ∧ sqtR h t ∧ opR .mul 4611686018427387904 (scF t (paE (bigF a b) / 2)) d ∧
  if Fl.leF 0 a = true then re = scF t (paE (bigF a b) / 2) ∧ opR .quo b d im else opR .quo (Fl.rg b) d re ∧ im = Fl.wd (Fl.sg b) (Fl.rg (scF t (paE (bigF a b) / 2)))
theorem cp_sim {b s s' : Nat} (hb : b = b) (h : simR s s') : simR (Fl.wd (Fl.sg b) (Fl.rg s)) (Fl.wd (Fl.sg b) (Fl.rg s')) := by
  rcases h with e | ⟨e1, e2⟩
  · rw [e]; exact simR.refl _
  · refine Or.inr ⟨?_, ?_⟩
    · unfold Fl.nan; rw [Fl.rg_wd _ _ (Fl.rg_lt _)]; exact e1
    · unfold Fl.nan; rw [Fl.rg_wd _ _ (Fl.rg_lt _)]; exact e2
theorem rooP.sim {a b re im re' im' : Nat} (h : rooP a b re im) (k : rooP a b re' im') : simR re re' ∧ simR im im' := by
  obtain ⟨l, s0, q, t, d, h1, h2, h3, h4, h5, h6⟩ := h
  obtain ⟨l', s0', q', t', d', k1, k2, k3, k4, k5, k6⟩ := k
  have el := h1.sim k1 (simR.refl _) (simR.refl _)
  have e0 := h2.sim isAdd k2 (simR.refl _) el
  have eq := h3.sim isQuo k3 e0 (simR.refl _)
  have et := h4.sim k4 eq
  have es := sc_sim (paE (bigF a b) / 2) et
  have ed := h5.sim isMul k5 (simR.refl _) es
  by_cases c : Fl.leF 0 a = true
  · rw [if_pos c] at h6 k6
    refine ⟨?_, h6.2.sim isQuo k6.2 (simR.refl _) ed⟩
    rw [h6.1, k6.1]; exact es
  · rw [if_neg c] at h6 k6
    refine ⟨h6.1.sim isQuo k6.1 (simR.refl _) ed, ?_⟩
    rw [h6.2, k6.2]; exact cp_sim rfl es
def rooR (a b re im : Nat) : Prop :=
  if Fl.rg b = 9218868437227405312 then re = 9218868437227405312 ∧ im = b
  else if Fl.rg a = 9218868437227405312 ∧ Fl.nan b = true then if Fl.sg a = false then re = 9218868437227405312 ∧ Fl.nan im = true else Fl.nan re = true ∧ im = 9218868437227405312
  else if Fl.rg a = 9218868437227405312 then if Fl.sg a = false then re = 9218868437227405312 ∧ im = Fl.wd (Fl.sg b) 0 else re = 0 ∧ im = Fl.wd (Fl.sg b) 9218868437227405312
  else if Fl.nan a = true ∨ Fl.nan b = true then Fl.nan re = true ∧ Fl.nan im = true
  else if Fl.rg a = 0 ∧ Fl.rg b = 0 then re = 0 ∧ im = b
  else rooP a b re im
theorem rooR.sim {a b re im re' im' : Nat} (h : rooR a b re im) (k : rooR a b re' im') : simR re re' ∧ simR im im' := by
  unfold rooR at h k
  by_cases c1 : Fl.rg b = 9218868437227405312
  · rw [if_pos c1] at h k; exact ⟨Or.inl (h.1.trans k.1.symm), Or.inl (h.2.trans k.2.symm)⟩
  · rw [if_neg c1] at h k
    by_cases c2 : Fl.rg a = 9218868437227405312 ∧ Fl.nan b = true
    · rw [if_pos c2] at h k
      by_cases s : Fl.sg a = false
      · rw [if_pos s] at h k; exact ⟨Or.inl (h.1.trans k.1.symm), Or.inr ⟨h.2, k.2⟩⟩
      · rw [if_neg s] at h k; exact ⟨Or.inr ⟨h.1, k.1⟩, Or.inl (h.2.trans k.2.symm)⟩
    · rw [if_neg c2] at h k
      by_cases c3 : Fl.rg a = 9218868437227405312
      · rw [if_pos c3] at h k
        by_cases s : Fl.sg a = false
        · rw [if_pos s] at h k; exact ⟨Or.inl (h.1.trans k.1.symm), Or.inl (h.2.trans k.2.symm)⟩
        · rw [if_neg s] at h k; exact ⟨Or.inl (h.1.trans k.1.symm), Or.inl (h.2.trans k.2.symm)⟩
      · rw [if_neg c3] at h k
        by_cases c4 : Fl.nan a = true ∨ Fl.nan b = true
        · rw [if_pos c4] at h k; exact ⟨Or.inr ⟨h.1, k.1⟩, Or.inr ⟨h.2, k.2⟩⟩
        · rw [if_neg c4] at h k
          by_cases c5 : Fl.rg a = 0 ∧ Fl.rg b = 0
          · rw [if_pos c5] at h k; exact ⟨Or.inl (h.1.trans k.1.symm), Or.inl (h.2.trans k.2.symm)⟩
          · rw [if_neg c5] at h k; exact h.sim k
/-- the place of a length and an angle -/
def plaR (l t re im : Nat) : Prop := ∃ s c, turR t s c ∧ opR .mul l c re ∧ opR .mul l s im
theorem plaR.sim {l t re im re' im' : Nat} (ht : t < 18446744073709551616) (h : plaR l t re im) (k : plaR l t re' im') : simR re re' ∧ simR im im' := by
  obtain ⟨s, c, h1, h2, h3⟩ := h
  obtain ⟨s', c', k1, k2, k3⟩ := k
  obtain ⟨e1, e2⟩ := h1.sim ht k1
  exact ⟨h2.sim isMul k2 (simR.refl _) e2, h3.sim isMul k3 (simR.refl _) e1⟩
/-- the number of the length 1 -/
def uniR (a b re im : Nat) (ok : Bool) : Prop := if (Fl.finB a && Fl.finB b && !decide (bigF a b = 0)) = true then ok = true ∧ ∃ l, togR (scF a (-paE (bigF a b))) (scF b (-paE (bigF a b))) l ∧ opR .quo (scF a (-paE (bigF a b))) l re ∧ opR .quo (scF b (-paE (bigF a b))) l im else ok = false ∧ re = 0 ∧ im = 0
theorem uniR.sim {a b re im re' im' : Nat} {o o' : Bool} (h : uniR a b re im o) (k : uniR a b re' im' o') : simR re re' ∧ simR im im' ∧ o = o' := by
  unfold uniR at h k
  by_cases c : (Fl.finB a && Fl.finB b && !decide (bigF a b = 0)) = true
  · rw [if_pos c] at h k
    obtain ⟨h0, l, h1, h2, h3⟩ := h
    obtain ⟨k0, l', k1, k2, k3⟩ := k
    have el := h1.sim k1 (simR.refl _) (simR.refl _)
    exact ⟨h2.sim isQuo k2 (simR.refl _) el, h3.sim isQuo k3 (simR.refl _) el, h0.trans k0.symm⟩
  · rw [if_neg c] at h k
    exact ⟨Or.inl (h.2.1.trans k.2.1.symm), Or.inl (h.2.2.trans k.2.2.symm), h.1.trans k.1.symm⟩
/-- near one another -/
def neaR (a b c d most : Nat) (r : Bool) : Prop := ∃ x y l, opR .sub a c x ∧ opR .sub b d y ∧ lenR x y l ∧ r = Fl.leF l most
end Go.Proofs.Ytmbjgakehghdjaa
