/-
  OWN TEXT: floats with their signs turned: products, differences, whole numbers; that no rest of a quarter is nought.
-/
import Derived.Test.YtpfaaimfembhdaaJAnA
namespace Go.Proofs.Ytpfaaimfembhdaa.Fl
set_option linter.unusedVariables false
theorem ng_wd (b : Bool) (r : Nat) (h : r < 9223372036854775808) : wd (!b) r = ng (wd b r) := by
  unfold wd ng
  cases b
  · simp only [Bool.not_false, if_true, Bool.false_eq_true, if_false]; rw [if_pos h]; omega
  · simp only [Bool.not_true, if_true, Bool.false_eq_true, if_false]; rw [if_neg (by omega)]; omega
theorem write_num (b : Bool) (m : Nat) (e : Int) : ∃ r, r ≤ 9218868437227405312 ∧ ∀ b, Ieee.double.write (.number b m e) = wd b r := by
  refine ⟨rq (m * 2 ^ (e + 1074).toNat) (-(e + 1074)).toNat, rq_le _ _, fun b => ?_⟩
  have := nearest_eq b m (e + 1074).toNat (-(e + 1074)).toNat
  rw [show (-1074 + ((e + 1074).toNat : Int) - ((-(e + 1074)).toNat : Int)) = e by omega] at this
  exact this
theorem write_opp (d : Ieee.Datum) (hd : d.isNaN = false) : Ieee.double.write d.opposite = ng (Ieee.double.write d) := by
  cases d with
  | number s m e =>
    obtain ⟨r, hr, h⟩ := write_num s m e
    rw [Ieee.Datum.opposite, h, h]
    exact ng_wd _ _ (by omega)
  | infinity s => cases s <;> rfl
  | nan s t => cases hd
theorem prod_opp (a b : Ieee.Datum) : a.opposite.product b = (a.product b).map Ieee.Datum.opposite ∧ a.product b.opposite = (a.product b).map Ieee.Datum.opposite ∧ ∀ d, a.product b = some d → d.isNaN = false := by
  cases a <;> cases b <;> simp only [Ieee.Datum.opposite, Ieee.Datum.product] <;> (try split) <;> refine ⟨?_, ?_, ?_⟩ <;> first | rfl | (intro d h; cases h; rfl) | (intro d h; cases h) | (simp [Ieee.Datum.opposite, Bool.xor_comm])
theorem mul_ng {a b : Nat} (ha : a < 18446744073709551616) : Ieee.double.mul (ng a) b = (Ieee.double.mul a b).map ng := by
  unfold Ieee.Format.mul
  obtain ⟨h1, _, h3⟩ := prod_opp (Ieee.double.read a) (Ieee.double.read b)
  rw [read_ng ha, h1]
  cases e : (Ieee.double.read a).product (Ieee.double.read b) with
  | none => rfl
  | some d => simp only [Option.map_some, write_opp d (h3 d e)]
theorem mul_ng' {a b : Nat} (hb : b < 18446744073709551616) : Ieee.double.mul a (ng b) = (Ieee.double.mul a b).map ng := by
  unfold Ieee.Format.mul
  obtain ⟨_, h2, h3⟩ := prod_opp (Ieee.double.read a) (Ieee.double.read b)
  rw [read_ng hb, h2]
  cases e : (Ieee.double.read a).product (Ieee.double.read b) with
  | none => rfl
  | some d => simp only [Option.map_some, write_opp d (h3 d e)]
/-- rounding keeps what divides -/
theorem rq_dvd (n k : Nat) (hf : rq n 0 < 9218868437227405312) (h : 2 ^ k ∣ n) : 2 ^ k ∣ vl (rq n 0) := by
  by_cases z : n = 0
  · subst z; exact ⟨0, rfl⟩
  · rw [vl_rq n z hf]
    obtain ⟨t, rfl⟩ := h
    by_cases c : (2 ^ k * t).log2 - 52 ≤ k
    · generalize (2 ^ k * t).log2 - 52 = s at *
      have e : 2 ^ k * t = 2 ^ (k - s) * t * 2 ^ s := by rw [Nat.mul_right_comm, ← Nat.pow_add, show k - s + s = k by omega]
      rw [e, rne_exact, ← e]
      exact ⟨t, rfl⟩
    · exact Nat.dvd_trans (Nat.pow_dvd_pow 2 (by omega)) (Nat.dvd_mul_left _ _)
end Go.Proofs.Ytpfaaimfembhdaa.Fl
namespace Go.Proofs.Ytpfaaimfembhdaa
open Go.ChangeShapes Go.WideShapes Go.ChangeAt Go.RowKit
set_option linter.unusedVariables false
/-- b is a with its sign turned, or both are no numbers -/
def simN (a b : Nat) : Prop := b = Fl.ng a ∨ (Fl.nan a = true ∧ Fl.nan b = true)
theorem simN.sim {a b : Nat} (h : simN a b) : simR b (Fl.ng a) := by
  rcases h with e | ⟨e1, e2⟩
  · exact Or.inl e
  · exact Or.inr ⟨e2, by rw [Fl.nan_ng]; exact e1⟩
theorem mul_left {a a' t t' s s' : Nat} (ha : a < 18446744073709551616) (h : opR .mul a t s) (k : opR .mul a' t' s') (e : simN a a') (et : simR t t') : simN s s' := by
  rcases e with e | ⟨e1, e2⟩
  · subst e
    have m := Fl.mul_ng (a := a) (b := t) ha
    rcases et with et | ⟨t1, t2⟩
    · subst et
      cases z : Ieee.double.mul a t with
      | none =>
        rw [z] at m
        exact Or.inr ⟨h.nan z, k.nan m⟩
      | some v =>
        rw [z] at m
        have z' : floatBits .mul .f64 a t = some v := z
        have m' : floatBits .mul .f64 (Fl.ng a) t = some (Fl.ng v) := m
        left
        have k1 : s = v := by
          rcases h.2 with q | q
          · rw [z'] at q; exact (Option.some.inj q).symm
          · rw [z'] at q; cases q.1
        have k2 : s' = Fl.ng v := by
          rcases k.2 with q | q
          · rw [m'] at q; exact (Option.some.inj q).symm
          · rw [m'] at q; cases q.1
        rw [k1, k2]
    · exact Or.inr ⟨h.nan (nan_right .mul isMul t1), k.nan (nan_right .mul isMul t2)⟩
  · exact Or.inr ⟨h.nan (nan_left .mul isMul e1), k.nan (nan_left .mul isMul e2)⟩
theorem mul_self {a a' s s' : Nat} (ha : a < 18446744073709551616) (h : opR .mul a a s) (k : opR .mul a' a' s') (e : simN a a') : simR s s' := by
  rcases e with e | ⟨e1, e2⟩
  · subst e
    have m := (Fl.mul_ng' (a := Fl.ng a) (b := a) ha).trans (congrArg (Option.map Fl.ng) (Fl.mul_ng (a := a) (b := a) ha))
    cases z : Ieee.double.mul a a with
    | none =>
      rw [z] at m
      exact Or.inr ⟨h.nan z, k.nan m⟩
    | some v =>
      rw [z] at m
      have z' : floatBits .mul .f64 a a = some v := z
      have hv : v < 18446744073709551616 := floatBits_lt0 z'
      have m' : floatBits .mul .f64 (Fl.ng a) (Fl.ng a) = some v := by
        have : Ieee.double.mul (Fl.ng a) (Fl.ng a) = some (Fl.ng (Fl.ng v)) := m
        rw [Fl.ng_ng hv] at this
        exact this
      left
      rcases h.2 with q | q
      · rcases k.2 with p | p
        · rw [z'] at q; rw [m'] at p; exact (Option.some.inj q).symm.trans (Option.some.inj p)
        · rw [m'] at p; cases p.1
      · rw [z'] at q; cases q.1
  · exact Or.inr ⟨h.nan (nan_left .mul isMul e1), k.nan (nan_left .mul isMul e2)⟩
theorem sin_mir {y y' s s' : Nat} (hy : y < 18446744073709551616) (h : sinR y s) (k : sinR y' s') (e : simN y y') : simN s s' := by
  obtain ⟨z, t, h1, h2, h3⟩ := h
  obtain ⟨z', t', k1, k2, k3⟩ := k
  exact mul_left hy h3 k3 e (sinQ.sim (mul_self hy h1 k1 e) 9 t t' h2 k2)
theorem cos_mir {y y' s s' : Nat} (hy : y < 18446744073709551616) (h : cosR y s) (k : cosR y' s') (e : simN y y') : simR s s' := by
  obtain ⟨z, h1, h2⟩ := h
  obtain ⟨z', k1, k2⟩ := k
  exact cosQ.sim (mul_self hy h1 k1 e) 9 s s' h2 k2
/-- a finite float of opposite worth -/
def Mir (r a a' : Nat) : Prop := Fl.rg a ≤ r ∧ Fl.rg a' ≤ r ∧ a' < 18446744073709551616 ∧ Fl.val a' = -Fl.val a
theorem mvl {a b : Nat} (h : a ≤ b) : Fl.vl a ≤ Fl.vl b := by
  rcases Nat.lt_or_ge a b with c | c
  · exact Nat.le_of_lt (Fl.vl_mono c)
  · rw [show a = b by omega]; exact Nat.le_refl _
theorem sub_word {a b x : Nat} (hb : b < 18446744073709551616) (fa : Fl.rg a < 9218868437227405312) (fb : Fl.rg b < 9218868437227405312) (h : opR .sub a b x) :
    x = Fl.wd (if Fl.val a - Fl.val b = 0 then Fl.sg a && !Fl.sg b else decide (Fl.val a - Fl.val b < 0)) (Fl.rq (Fl.val a - Fl.val b).natAbs 0) := by
  have e := Fl.sub_fin (x := a) (y := b) hb fa fb
  rcases h.2 with q | q
  · exact (Option.some.inj (e.symm.trans q)).symm
  · exact absurd (e.symm.trans q.1) (by intro c; cases c)
theorem wd_val (d : Int) (z : Bool) : Fl.val (Fl.wd (if d = 0 then z else decide (d < 0)) (Fl.rq d.natAbs 0)) = if d < 0 then -(Fl.vl (Fl.rq d.natAbs 0) : Int) else Fl.vl (Fl.rq d.natAbs 0) := by
  have h := Fl.rq_le d.natAbs 0
  rw [Fl.val_wd _ _ (by omega)]
  by_cases c : d = 0
  · rw [c]; simp [Fl.rq, Fl.vl]
  · rw [if_neg c]
    by_cases k : d < 0
    · rw [decide_eq_true k, if_pos k]; rfl
    · rw [decide_eq_false k, if_neg k]; rfl
theorem mir_sub {ra rb a a' b b' x x' : Nat} (hb : b < 18446744073709551616) (ma : Mir ra a a') (mb : Mir rb b b') (fa : ra < 9218868437227405312) (fb : rb < 9218868437227405312)
    (h : opR .sub a b x) (k : opR .sub a' b' x') : Mir (Fl.rq (Fl.vl ra + Fl.vl rb) 0) x x' ∧ (Fl.val x = if Fl.val a - Fl.val b < 0 then -(Fl.vl (Fl.rq (Fl.val a - Fl.val b).natAbs 0) : Int) else Fl.vl (Fl.rq (Fl.val a - Fl.val b).natAbs 0)) ∧
    (Fl.val a - Fl.val b ≠ 0 → x' = Fl.ng x) ∧ Fl.rg x = Fl.rq (Fl.val a - Fl.val b).natAbs 0 := by
  obtain ⟨a1, a2, a3, a4⟩ := ma
  obtain ⟨b1, b2, b3, b4⟩ := mb
  have ex := sub_word hb (by omega) (by omega) h
  have ex' := sub_word b3 (by omega) (by omega) k
  rw [a4, b4, show -Fl.val a - -Fl.val b = -(Fl.val a - Fl.val b) by omega, Int.natAbs_neg] at ex'
  have hv : (Fl.val a - Fl.val b).natAbs ≤ Fl.vl ra + Fl.vl rb := by
    have := Int.natAbs_sub_le (Fl.val a) (Fl.val b)
    rw [Fl.val_abs, Fl.val_abs] at this
    have k1 := mvl a1
    have k2 := mvl b1
    omega
  have hq := Fl.rq_mono _ _ 0 hv
  have hl := Fl.rq_le (Fl.val a - Fl.val b).natAbs 0
  have v1 := wd_val (Fl.val a - Fl.val b) (Fl.sg a && !Fl.sg b)
  have v2 := wd_val (-(Fl.val a - Fl.val b)) (Fl.sg a' && !Fl.sg b')
  rw [Int.natAbs_neg] at v2
  rw [← ex] at v1
  rw [← ex'] at v2
  have rx : Fl.rg x = Fl.rq (Fl.val a - Fl.val b).natAbs 0 := by rw [ex]; exact Fl.rg_wd _ _ (by omega)
  have rx' : Fl.rg x' = Fl.rq (Fl.val a - Fl.val b).natAbs 0 := by rw [ex']; exact Fl.rg_wd _ _ (by omega)
  refine ⟨⟨by omega, by omega, k.1, ?_⟩, v1, ?_, rx⟩
  · rw [v1, v2]
    by_cases z : Fl.val a - Fl.val b = 0
    · rw [z]; simp [Fl.rq, Fl.vl]
    · by_cases c : Fl.val a - Fl.val b < 0
      · rw [if_pos c, if_neg (by omega)]; omega
      · rw [if_neg c, if_pos (by omega)]
  · intro z
    rw [ex, ex', if_neg z, if_neg (by omega)]
    rw [← Fl.ng_wd _ _ (by omega)]
    congr 1
    by_cases c : Fl.val a - Fl.val b < 0
    · rw [decide_eq_true c, decide_eq_false (by omega)]; rfl
    · rw [decide_eq_false c, decide_eq_true (by omega)]; rfl
/-- a whole number times a float -/
theorem mir_mul {c q a p p' : Nat} {b : Bool} {m : Nat} (hc : c = 1074) (hm : m = Fl.wd b (Fl.rq (q * 2 ^ c) 0)) (hv : Fl.vl (Fl.rq (q * 2 ^ c) 0) = q * 2 ^ c) (hf : Fl.rq (q * 2 ^ c) 0 < 9218868437227405312) (sa : Fl.sg a = false) (fa : Fl.rg a < 9218868437227405312)
    (h : opR .mul m a p) (k : opR .mul (Fl.ng m) a p') (r : Nat) (hr : Fl.rq (q * Fl.vl (Fl.rg a)) 0 ≤ r) (fr : r < 9218868437227405312) : Mir r p p' ∧ p' = Fl.ng p ∧ Fl.rg p = Fl.rq (q * Fl.vl (Fl.rg a)) 0 ∧ p < 18446744073709551616 := by
  have hml : m < 18446744073709551616 := by rw [hm]; exact Fl.wd_lt _ _ (by omega)
  have rm : Fl.rg m = Fl.rq (q * 2 ^ c) 0 := by rw [hm]; exact Fl.rg_wd _ _ (by omega)
  have e := Fl.mul_fin (x := m) (y := a) (by omega) fa
  rw [rm, hv, Nat.mul_right_comm, ← hc, show c = 0 + c by omega, Nat.zero_add] at e
  have e2 : Fl.rq (q * Fl.vl (Fl.rg a) * 2 ^ c) c = Fl.rq (q * Fl.vl (Fl.rg a)) 0 := by
    have := Fl.rq_mul (q * Fl.vl (Fl.rg a)) c 0
    rw [Nat.zero_add] at this
    exact this
  rw [e2] at e
  have e' : Ieee.double.mul m a = some p := by
    rcases h.2 with z | z
    · exact z
    · exact absurd (e.symm.trans z.1) (by intro c; cases c)
  have n := Fl.mul_ng (a := m) (b := a) hml
  rw [e'] at n
  have hp : p = Fl.wd (Fl.sg m ^^ Fl.sg a) (Fl.rq (q * Fl.vl (Fl.rg a)) 0) := Option.some.inj (e'.symm.trans e)
  have hp' : p' = Fl.ng p := by
    rcases k.2 with z | z
    · exact Option.some.inj (z.symm.trans n)
    · exact absurd (z.1.symm.trans n) (by intro c; cases c)
  have hl := Fl.rq_le (q * Fl.vl (Fl.rg a)) 0
  have rp : Fl.rg p = Fl.rq (q * Fl.vl (Fl.rg a)) 0 := by rw [hp]; exact Fl.rg_wd _ _ (by omega)
  refine ⟨⟨by omega, by rw [hp', Fl.rg_ng]; omega, k.1, by rw [hp']; exact Fl.val_ng h.1⟩, hp', rp, h.1⟩
end Go.Proofs.Ytpfaaimfembhdaa
