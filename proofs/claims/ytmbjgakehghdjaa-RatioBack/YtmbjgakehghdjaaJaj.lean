/-
  OWN TEXT: floats with their signs turned: products, differences, whole numbers; that no rest of a quarter is nought.
-/
import Derived.Test.YtmbjgakehghdjaaJag
import Derived.Test.YtmbjgakehghdjaaJai
namespace Go.Proofs.Ytmbjgakehghdjaa.Fl
set_option linter.unusedVariables false
theorem ng_wd (b : Bool) (r : Nat) (h : r < 9223372036854775808) : wd (!b) r = ng (wd b r) := by
  unfold wd ng
  cases b
  · simp only [Bool.not_false, if_true, Bool.false_eq_true, if_false]; rw [if_pos h]; omega
  · simp only [Bool.not_true, if_true, Bool.false_eq_true, if_false]; rw [if_neg (by omega)]; omega
theorem write_num (b : Bool) (m : Nat) (e : Int) : ∃ r, r ≤ 9218868437227405312 ∧ ∀ b, Ieee.double.write (.number b m e) = wd b r := by
  refine ⟨rq (m * 2 ^ (e + 1074).toNat) (-(e + 1074)).toNat, rq_le _ _, fun b => ?_⟩
  have := nearest_eq b m (e + 1074).toNat (-(e + 1074)).toNat
  rw [show (-1074 + ((e + 1074).toNat : Int) - ((-(e + 1074)).toNat : Int)) = e by omega] at this
  exact this
theorem write_opp (d : Ieee.Datum) (hd : d.isNaN = false) : Ieee.double.write d.opposite = ng (Ieee.double.write d) := by
  cases d with
  | number s m e =>
    obtain ⟨r, hr, h⟩ := write_num s m e
    rw [Ieee.Datum.opposite, h, h]
    exact ng_wd _ _ (by omega)
  | infinity s => cases s <;> rfl
  | nan s t => cases hd
theorem prod_opp (a b : Ieee.Datum) : a.opposite.product b = (a.product b).map Ieee.Datum.opposite ∧ a.product b.opposite = (a.product b).map Ieee.Datum.opposite ∧ ∀ d, a.product b = some d → d.isNaN = false := by
  cases a <;> cases b <;> simp only [Ieee.Datum.opposite, Ieee.Datum.product] <;> (try split) <;> refine ⟨?_, ?_, ?_⟩ <;> first | rfl | (intro d h; cases h; rfl) | (intro d h; cases h) | (simp [Ieee.Datum.opposite, Bool.xor_comm])
theorem mul_ng {a b : Nat} (ha : a < 18446744073709551616) : Ieee.double.mul (ng a) b = (Ieee.double.mul a b).map ng := by
  unfold Ieee.Format.mul
  obtain ⟨h1, _, h3⟩ := prod_opp (Ieee.double.read a) (Ieee.double.read b)
  rw [read_ng ha, h1]
  cases e : (Ieee.double.read a).product (Ieee.double.read b) with
  | none => rfl
  | some d => simp only [Option.map_some, write_opp d (h3 d e)]
theorem mul_ng' {a b : Nat} (hb : b < 18446744073709551616) : Ieee.double.mul a (ng b) = (Ieee.double.mul a b).map ng := by
  unfold Ieee.Format.mul
  obtain ⟨_, h2, h3⟩ := prod_opp (Ieee.double.read a) (Ieee.double.read b)
  rw [read_ng hb, h2]
  cases e : (Ieee.double.read a).product (Ieee.double.read b) with
  | none => rfl
  | some d => simp only [Option.map_some, write_opp d (h3 d e)]
/-- rounding keeps what divides -/
theorem rq_dvd (n k : Nat) (hf : rq n 0 < 9218868437227405312) (h : 2 ^ k ∣ n) : 2 ^ k ∣ vl (rq n 0) := by
  by_cases z : n = 0
  · subst z; exact ⟨0, rfl⟩
  · rw [vl_rq n z hf]
    obtain ⟨t, rfl⟩ := h
    by_cases c : (2 ^ k * t).log2 - 52 ≤ k
    · generalize (2 ^ k * t).log2 - 52 = s at *
      have e : 2 ^ k * t = 2 ^ (k - s) * t * 2 ^ s := by rw [Nat.mul_right_comm, ← Nat.pow_add, show k - s + s = k by omega]
      rw [e, rne_exact, ← e]
      exact ⟨t, rfl⟩
    · exact Nat.dvd_trans (Nat.pow_dvd_pow 2 (by omega)) (Nat.dvd_mul_left _ _)
end Go.Proofs.Ytmbjgakehghdjaa.Fl
namespace Go.Proofs.Ytmbjgakehghdjaa
open Go.ChangeShapes Go.WideShapes Go.ChangeAt Go.RowKit
set_option linter.unusedVariables false
/-- b is a with its sign turned, or both are no numbers -/
def simN (a b : Nat) : Prop := b = Fl.ng a ∨ (Fl.nan a = true ∧ Fl.nan b = true)
theorem simN.sim {a b : Nat} (h : simN a b) : simR b (Fl.ng a) := by
  rcases h with e | ⟨e1, e2⟩
  · exact Or.inl e
  · exact Or.inr ⟨e2, by rw [Fl.nan_ng]; exact e1⟩
theorem mul_left {a a' t t' s s' : Nat} (ha : a < 18446744073709551616) (h : opR .mul a t s) (k : opR .mul a' t' s') (e : simN a a') (et : simR t t') : simN s s' := by
  rcases e with e | ⟨e1, e2⟩
  · subst e
    have m := Fl.mul_ng (a := a) (b := t) ha
    rcases et with et | ⟨t1, t2⟩
    · subst et
      cases z : Ieee.double.mul a t with
      | none =>
        rw [z] at m
        exact Or.inr ⟨h.nan z, k.nan m⟩
      | some v =>
        rw [z] at m
        have z' : floatBits .mul .f64 a t = some v := z
        have m' : floatBits .mul .f64 (Fl.ng a) t = some (Fl.ng v) := m
        left
        have k1 : s = v := by
          rcases h.2 with q | q
          · rw [z'] at q; exact (Option.some.inj q).symm
          · rw [z'] at q; cases q.1
        have k2 : s' = Fl.ng v := by
          rcases k.2 with q | q
          · rw [m'] at q; exact (Option.some.inj q).symm
          · rw [m'] at q; cases q.1
        rw [k1, k2]
    · exact Or.inr ⟨h.nan (nan_right .mul isMul t1), k.nan (nan_right .mul isMul t2)⟩
  · exact Or.inr ⟨h.nan (nan_left .mul isMul e1), k.nan (nan_left .mul isMul e2)⟩
theorem mul_self {a a' s s' : Nat} (ha : a < 18446744073709551616) (h : opR .mul a a s) (k : opR .mul a' a' s') (e : simN a a') : simR s s' := by
  rcases e with e | ⟨e1, e2⟩
  · subst e
    have m := (Fl.mul_ng' (a := Fl.ng a) (b := a) ha).trans (congrArg (Option.map Fl.ng) (Fl.mul_ng (a := a) (b := a) ha))
    cases z : Ieee.double.mul a a with
    | none =>
      rw [z] at m
      exact Or.inr ⟨h.nan z, k.nan m⟩
    | some v =>
      rw [z] at m
      have z' : floatBits .mul .f64 a a = some v := z
      have hv : v < 18446744073709551616 := floatBits_lt0 z'
      have m' : floatBits .mul .f64 (Fl.ng a) (Fl.ng a) = some v := by
        have : Ieee.double.mul (Fl.ng a) (Fl.ng a) = some (Fl.ng (Fl.ng v)) := m
        rw [Fl.ng_ng hv] at this
        exact this
      left
      rcases h.2 with q | q
      · rcases k.2 with p | p
        · rw [z'] at q; rw [m'] at p; exact (Option.some.inj q).symm.trans (Option.some.inj p)
        · rw [m'] at p; cases p.1
      · rw [z'] at q; cases q.1
  · exact Or.inr ⟨h.nan (nan_left .mul isMul e1), k.nan (nan_left .mul isMul e2)⟩
theorem sin_mir {y y' s s' : Nat} (hy : y < 18446744073709551616) (h : sinR y s) (k : sinR y' s') (e : simN y y') : simN s s' := by
  obtain ⟨z, t, h1, h2, h3⟩ := h
  obtain ⟨z', t', k1, k2, k3⟩ := k
  exact mul_left hy h3 k3 e (sinQ.sim (mul_self hy h1 k1 e) 9 t t' h2 k2)
theorem cos_mir {y y' s s' : Nat} (hy : y < 18446744073709551616) (h : cosR y s) (k : cosR y' s') (e : simN y y') : simR s s' := by
  obtain ⟨z, h1, h2⟩ := h
  obtain ⟨z', k1, k2⟩ := k
  exact cosQ.sim (mul_self hy h1 k1 e) 9 s s' h2 k2
/-- a finite float of opposite worth -/
def Mir (r a a' : Nat) : Prop := Fl.rg a ≤ r ∧ Fl.rg a' ≤ r ∧ a' < 18446744073709551616 ∧ Fl.val a' = -Fl.val a
theorem mvl {a b : Nat} (h : a ≤ b) : Fl.vl a ≤ Fl.vl b := by
  rcases Nat.lt_or_ge a b with c | c
  · exact Nat.le_of_lt (Fl.vl_mono c)
  · rw [show a = b by omega]; exact Nat.le_refl _
theorem sub_word {a b x : Nat} (hb : b < 18446744073709551616) (fa : Fl.rg a < 9218868437227405312) (fb : Fl.rg b < 9218868437227405312) (h : opR .sub a b x) :
    x = Fl.wd (if Fl.val a - Fl.val b = 0 then Fl.sg a && !Fl.sg b else decide (Fl.val a - Fl.val b < 0)) (Fl.rq (Fl.val a - Fl.val b).natAbs 0) := by
  have e := Fl.sub_fin (x := a) (y := b) hb fa fb
  rcases h.2 with q | q
  · exact (Option.some.inj (e.symm.trans q)).symm
  · exact absurd (e.symm.trans q.1) (by intro c; cases c)
theorem wd_val (d : Int) (z : Bool) : Fl.val (Fl.wd (if d = 0 then z else decide (d < 0)) (Fl.rq d.natAbs 0)) = if d < 0 then -(Fl.vl (Fl.rq d.natAbs 0) : Int) else Fl.vl (Fl.rq d.natAbs 0) := by
  have h := Fl.rq_le d.natAbs 0
  rw [Fl.val_wd _ _ (by omega)]
  by_cases c : d = 0
  · rw [c]; simp [Fl.rq, Fl.vl]
  · rw [if_neg c]
    by_cases k : d < 0
    · rw [decide_eq_true k, if_pos k]; rfl
    · rw [decide_eq_false k, if_neg k]; rfl
theorem mir_sub {ra rb a a' b b' x x' : Nat} (hb : b < 18446744073709551616) (ma : Mir ra a a') (mb : Mir rb b b') (fa : ra < 9218868437227405312) (fb : rb < 9218868437227405312)
    (h : opR .sub a b x) (k : opR .sub a' b' x') : Mir (Fl.rq (Fl.vl ra + Fl.vl rb) 0) x x' ∧ (Fl.val x = if Fl.val a - Fl.val b < 0 then -(Fl.vl (Fl.rq (Fl.val a - Fl.val b).natAbs 0) : Int) else Fl.vl (Fl.rq (Fl.val a - Fl.val b).natAbs 0)) ∧
    (Fl.val a - Fl.val b ≠ 0 → x' = Fl.ng x) ∧ Fl.rg x = Fl.rq (Fl.val a - Fl.val b).natAbs 0 := by
  obtain ⟨a1, a2, a3, a4⟩ := ma
  obtain ⟨b1, b2, b3, b4⟩ := mb
  have ex := sub_word hb (by omega) (by omega) h
  have ex' := sub_word b3 (by omega) (by omega) k
  rw [a4, b4, show -Fl.val a - -Fl.val b = -(Fl.val a - Fl.val b) by omega, Int.natAbs_neg] at ex'
  have hv : (Fl.val a - Fl.val b).natAbs ≤ Fl.vl ra + Fl.vl rb := by
    have := Int.natAbs_sub_le (Fl.val a) (Fl.val b)
    rw [Fl.val_abs, Fl.val_abs] at this
    have k1 := mvl a1
    have k2 := mvl b1
    omega
  have hq := Fl.rq_mono _ _ 0 hv
  have hl := Fl.rq_le (Fl.val a - Fl.val b).natAbs 0
  have v1 := wd_val (Fl.val a - Fl.val b) (Fl.sg a && !Fl.sg b)
  have v2 := wd_val (-(Fl.val a - Fl.val b)) (Fl.sg a' && !Fl.sg b')
  rw [Int.natAbs_neg] at v2
  rw [← ex] at v1
  rw [← ex'] at v2
  have rx : Fl.rg x = Fl.rq (Fl.val a - Fl.val b).natAbs 0 := by rw [ex]; exact Fl.rg_wd _ _ (by omega)
  have rx' : Fl.rg x' = Fl.rq (Fl.val a - Fl.val b).natAbs 0 := by rw [ex']; exact Fl.rg_wd _ _ (by omega)
  refine ⟨⟨by omega, by omega, k.1, ?_⟩, v1, ?_, rx⟩
  · rw [v1, v2]
    by_cases z : Fl.val a - Fl.val b = 0
    · rw [z]; simp [Fl.rq, Fl.vl]
    · by_cases c : Fl.val a - Fl.val b < 0
      · rw [if_pos c, if_neg (by omega)]; omega
      · rw [if_neg c, if_pos (by omega)]
  · intro z
    rw [ex, ex', if_neg z, if_neg (by omega)]
    rw [← Fl.ng_wd _ _ (by omega)]
    congr 1
    by_cases c : Fl.val a - Fl.val b < 0
    · rw [decide_eq_true c, decide_eq_false (by omega)]; rfl
    · rw [decide_eq_false c, decide_eq_true (by omega)]; rfl
/-- a whole number times a float -/
theorem mir_mul {c q a p p' : Nat} {b : Bool} {m : Nat} (hc : c = 1074) (hm : m = Fl.wd b (Fl.rq (q * 2 ^ c) 0)) (hv : Fl.vl (Fl.rq (q * 2 ^ c) 0) = q * 2 ^ c) (hf : Fl.rq (q * 2 ^ c) 0 < 9218868437227405312) (sa : Fl.sg a = false) (fa : Fl.rg a < 9218868437227405312)
    (h : opR .mul m a p) (k : opR .mul (Fl.ng m) a p') (r : Nat) (hr : Fl.rq (q * Fl.vl (Fl.rg a)) 0 ≤ r) (fr : r < 9218868437227405312) : Mir r p p' ∧ p' = Fl.ng p ∧ Fl.rg p = Fl.rq (q * Fl.vl (Fl.rg a)) 0 ∧ p < 18446744073709551616 := by
  have hml : m < 18446744073709551616 := by rw [hm]; exact Fl.wd_lt _ _ (by omega)
  have rm : Fl.rg m = Fl.rq (q * 2 ^ c) 0 := by rw [hm]; exact Fl.rg_wd _ _ (by omega)
  have e := Fl.mul_fin (x := m) (y := a) (by omega) fa
  rw [rm, hv, Nat.mul_right_comm, ← hc, show c = 0 + c by omega, Nat.zero_add] at e
  have e2 : Fl.rq (q * Fl.vl (Fl.rg a) * 2 ^ c) c = Fl.rq (q * Fl.vl (Fl.rg a)) 0 := by
    have := Fl.rq_mul (q * Fl.vl (Fl.rg a)) c 0
    rw [Nat.zero_add] at this
    exact this
  rw [e2] at e
  have e' : Ieee.double.mul m a = some p := by
    rcases h.2 with z | z
    · exact z
    · exact absurd (e.symm.trans z.1) (by intro c; cases c)
  have n := Fl.mul_ng (a := m) (b := a) hml
  rw [e'] at n
  have hp : p = Fl.wd (Fl.sg m ^^ Fl.sg a) (Fl.rq (q * Fl.vl (Fl.rg a)) 0) := Option.some.inj (e'.symm.trans e)
  have hp' : p' = Fl.ng p := by
    rcases k.2 with z | z
    · exact Option.some.inj (z.symm.trans n)
    · exact absurd (z.1.symm.trans n) (by intro c; cases c)
  have hl := Fl.rq_le (q * Fl.vl (Fl.rg a)) 0
  have rp : Fl.rg p = Fl.rq (q * Fl.vl (Fl.rg a)) 0 := by rw [hp]; exact Fl.rg_wd _ _ (by omega)
  refine ⟨⟨by omega, by rw [hp', Fl.rg_ng]; omega, k.1, by rw [hp']; exact Fl.val_ng h.1⟩, hp', rp, h.1⟩
end Go.Proofs.Ytmbjgakehghdjaa
/-
  OWN TEXT: lengths of mirrored and turned numbers; roots of mirrored numbers, their sides.
-/
set_option linter.unusedVariables false
set_option exponentiation.threshold 3000
namespace Go.Proofs.Ytmbjgakehghdjaa
theorem nan_of_rg {a b : Nat} (h : Fl.rg a = Fl.rg b) : Fl.nan a = Fl.nan b := by unfold Fl.nan; rw [h]
theorem big_swap {a b : Nat} (na : Fl.nan a = false) (nb : Fl.nan b = false) : bigF b a = bigF a b ∧ smaF b a = smaF a b := by
  obtain ⟨h1, h2⟩ := sma_big a b na nb
  obtain ⟨k1, k2⟩ := sma_big b a nb na
  omega
/-- a length does not hang on signs, nor on the order of the parts -/
theorem len_same {a b a' b' r r' : Nat} (h : lenR a b r) (k : lenR a' b' r') (e : (Fl.rg a' = Fl.rg a ∧ Fl.rg b' = Fl.rg b) ∨ (Fl.rg a' = Fl.rg b ∧ Fl.rg b' = Fl.rg a)) : simR r r' := by
  rcases e with ⟨e1, e2⟩ | ⟨e1, e2⟩
  · refine h.sim (r' := r') ?_
    obtain ⟨k0, k⟩ := k
    refine ⟨k0, ?_⟩
    have eb : bigF a' b' = bigF a b := by unfold bigF; rw [e1, e2]
    have es : smaF a' b' = smaF a b := by unfold smaF; rw [e1, e2]
    rw [e1, e2, nan_of_rg e1, nan_of_rg e2, eb] at k
    unfold lenP at k ⊢
    rw [eb, es] at k
    exact k
  · refine h.sim (r' := r') ?_
    obtain ⟨k0, k⟩ := k
    refine ⟨k0, ?_⟩
    rw [e1, e2, nan_of_rg e1, nan_of_rg e2] at k
    by_cases c1 : Fl.rg a = 9218868437227405312 ∨ Fl.rg b = 9218868437227405312
    · rw [if_pos c1]; rw [if_pos (by omega)] at k; exact k
    · rw [if_neg c1]; rw [if_neg (by omega)] at k
      by_cases c2 : Fl.nan a = true ∨ Fl.nan b = true
      · rw [if_pos c2]; rw [if_pos (Or.comm.1 c2)] at k; exact k
      · rw [if_neg c2]; rw [if_neg (fun c => c2 (Or.comm.1 c))] at k
        have na : Fl.nan a = false := Bool.eq_false_iff.2 (fun c => c2 (Or.inl c))
        have nb : Fl.nan b = false := Bool.eq_false_iff.2 (fun c => c2 (Or.inr c))
        obtain ⟨s1, s2⟩ := big_swap na nb
        have eb : bigF a' b' = bigF a b := by rw [← s1]; unfold bigF; rw [e1, e2]
        have es : smaF a' b' = smaF a b := by rw [← s2]; unfold smaF; rw [e1, e2]
        rw [eb] at k
        unfold lenP at k ⊢
        rw [eb, es] at k
        exact k
/-- what a length lies between -/
theorem len_bounds {a b r : Nat} (h : lenR a b r) (na : Fl.nan a = false) (nb : Fl.nan b = false) : Fl.sg r = false ∧ Fl.rg r ≤ 9218868437227405312 ∧ bigF a b ≤ Fl.rg r ∧ ∀ t, opR .add (Fl.rg a) (Fl.rg b) t → Fl.sg t = false ∧ Fl.rg t ≤ 9218868437227405312 ∧ Fl.rg r ≤ Fl.rg t + 1 := by
  obtain ⟨h0, h⟩ := h
  have ra : Fl.rg a ≤ 9218868437227405312 := by unfold Fl.nan at na; have := of_decide_eq_false na; omega
  have rb : Fl.rg b ≤ 9218868437227405312 := by unfold Fl.nan at nb; have := of_decide_eq_false nb; omega
  obtain ⟨sb1, sb2⟩ := sma_big a b na nb
  obtain ⟨a1, a2⟩ := rg_rung ra
  obtain ⟨b1, b2⟩ := rg_rung rb
  by_cases c1 : Fl.rg a = 9218868437227405312 ∨ Fl.rg b = 9218868437227405312
  · rw [if_pos c1] at h
    subst h
    refine ⟨by decide, by decide, by rw [show Fl.rg 9218868437227405312 = 9218868437227405312 by decide]; omega, ?_⟩
    intro t ht
    have key : t = 9218868437227405312 := by
      have e1 : ∀ x, x ≤ 9218868437227405312 → floatBits .add .f64 9218868437227405312 x = some 9218868437227405312 ∧ floatBits .add .f64 x 9218868437227405312 = some 9218868437227405312 := by
        intro x hx
        obtain ⟨x1, x2⟩ := rg_rung hx
        rcases Nat.lt_or_ge x 9218868437227405312 with g | g
        · obtain ⟨m, k, hm, _⟩ := Fl.read_fin (x := x) (by omega)
          have hi := Fl.read_inf (x := 9218868437227405312) (by decide)
          constructor
          · show Ieee.double.add _ _ = _
            unfold Ieee.Format.add
            rw [hi, hm]; rfl
          · show Ieee.double.add _ _ = _
            unfold Ieee.Format.add
            rw [hi, hm]; rfl
        · have : x = 9218868437227405312 := by omega
          subst this
          exact ⟨by decide +kernel, by decide +kernel⟩
      rcases c1 with c | c
      · rw [c] at ht
        have k := (e1 (Fl.rg b) rb).1
        rcases ht.2 with m | m
        · exact (Option.some.inj (k.symm.trans m)).symm
        · exact absurd (k.symm.trans m.1) (by intro c; cases c)
      · rw [c] at ht
        have k := (e1 (Fl.rg a) ra).2
        rcases ht.2 with m | m
        · exact (Option.some.inj (k.symm.trans m)).symm
        · exact absurd (k.symm.trans m.1) (by intro c; cases c)
    subst key
    exact ⟨by decide, by decide, by omega⟩
  · rw [if_neg c1, if_neg (by rw [na, nb]; simp)] at h
    have fa : Fl.rg a < 9218868437227405312 := by omega
    have fb : Fl.rg b < 9218868437227405312 := by omega
    have hadd : ∀ t, opR .add (Fl.rg a) (Fl.rg b) t → t = Fl.rq (Fl.vl (bigF a b) + Fl.vl (smaF a b)) 0 := by
      intro t ht
      have e := add_word a2 b2 (by omega) (by omega) ht
      rw [a1, b1] at e
      rcases sb2 with ⟨g1, g2⟩ | ⟨g1, g2⟩
      · rw [g1, g2]; exact e
      · rw [g1, g2, Nat.add_comm]; exact e
    have hBf : bigF a b < 9218868437227405312 := by omega
    by_cases c2 : bigF a b = 0
    · rw [if_pos c2] at h
      subst h
      refine ⟨by decide, by decide, by rw [c2]; omega, ?_⟩
      intro t ht
      have e := hadd t ht
      have l := Fl.rq_le (Fl.vl (bigF a b) + Fl.vl (smaF a b)) 0
      rw [← e] at l
      obtain ⟨t1, t2⟩ := rg_rung l
      refine ⟨t2, by omega, ?_⟩
      rw [show Fl.rg 0 = 0 by decide]; omega
    · rw [if_neg c2] at h
      obtain ⟨l, h1, h2⟩ := h
      obtain ⟨B1, B2⟩ := rg_rung (r := bigF a b) (by omega)
      obtain ⟨S1, S2⟩ := rg_rung (r := smaF a b) (by omega)
      rw [pa_pt (by omega) (by omega)] at h1 h2
      obtain ⟨L1, L2, L3, L4, L5⟩ := len_low (x := bigF a b) (y := smaF a b) (by omega) (by omega) (by omega) B2 S2 (by omega) h1
      subst h2
      refine ⟨L1, L3, by omega, ?_⟩
      intro t ht
      have e := hadd t ht
      have lt := Fl.rq_le (Fl.vl (bigF a b) + Fl.vl (smaF a b)) 0
      rw [← e] at lt
      obtain ⟨t1, t2⟩ := rg_rung lt
      refine ⟨t2, by omega, ?_⟩
      rw [t1]
      exact len_up (x := bigF a b) (y := smaF a b) (by omega) (by omega) (by omega) B2 S2 (by omega) h1 (by rw [B1, S1]; exact e)
/-- a quotient of finite floats, the lower one not nought: a number, with its sign -/
theorem div_sgn {y : Nat} (b : Nat) (fb : Fl.rg b < 9218868437227405312) (fy : Fl.rg y < 9218868437227405312) (zy : ¬ Fl.rg y = 0) :
    ∃ r, r ≤ 9218868437227405312 ∧ ∀ x, Fl.rg x = Fl.rg b → Ieee.double.div x y = some (Fl.wd (Fl.sg x ^^ Fl.sg y) r) := by
  obtain ⟨m, i, hm, em⟩ := Fl.read_fin (x := b) fb
  obtain ⟨n, j, hn, en⟩ := Fl.read_fin (x := y) fy
  have hn0 : n ≠ 0 := by
    intro e
    rw [e, Nat.zero_mul] at en
    exact Fl.vl_pos zy en.symm
  have hrd : ∀ x, Fl.rg x = Fl.rg b → Ieee.double.read x = .number (Fl.sg x) m (-1074 + (i : Int)) := by
    intro x hx
    have h1 := Fl.read_eq x
    have h2 := Fl.read_eq b
    rw [hm] at h2
    rw [h1, hx]
    by_cases c : Fl.rg b < 4503599627370496
    · rw [if_pos c] at h2 ⊢
      have k := Ieee.Datum.number.inj h2
      rw [k.2.1, k.2.2]
    · rw [if_neg c, if_pos fb] at h2 ⊢
      have k := Ieee.Datum.number.inj h2
      rw [k.2.1, k.2.2]
  obtain ⟨r, hr, hw⟩ := Fl.write_num false (2 * ((m <<< (52 + 2 + n.log2 - m.log2)) / n) + ((m <<< (52 + 2 + n.log2 - m.log2)) % n != 0).toNat) (-1074 + (i : Int) - (-1074 + (j : Int)) - ((52 + 2 + n.log2 - m.log2 : Nat) : Int) - 1)
  refine ⟨r, hr, ?_⟩
  intro x hx
  unfold Ieee.Format.div
  rw [hrd x hx, hn]
  unfold Ieee.Datum.quotient
  simp only []
  rw [if_neg hn0]
  simp only [Option.map_some]
  have := hw (Fl.sg x ^^ Fl.sg y)
  rw [← this]
  rfl
theorem unit_form2 {x : Nat} (g : Nat) (n : Int) (d : Nat) (hg : g = 1021) (hd : d ≤ 1) (hn : n = -ptE x + (d : Int)) (hx : x < 18446744073709551616) (hf : Fl.rg x < 9218868437227405312) (hz : ¬ Fl.rg x = 0) :
    Fl.rg (scF x n) = Fl.rq (mtF x * 2 ^ (g + d)) 0 ∧ Fl.vl (Fl.rg (scF x n)) = mtF x * 2 ^ (g + d) ∧ 4602678819172646912 ≤ Fl.rg (scF x n) ∧ Fl.rg (scF x n) < 4611686018427387904 := by
  have h1 := rz_form hx hf hz n
  rw [rz_nat (mtF x) (g + d) _ (by omega)] at h1
  have h2 := Fl.vl_comb (g + d) (mtF x) (by have := mt_hi x; omega) (Or.inr (mt_lo x))
  have h3 : Fl.rq (mtF x * 2 ^ (g + d)) 0 = (g + d) * 4503599627370496 + mtF x := by
    rw [← h2]
    exact Fl.rq_vl _ (by have := mt_hi x; omega)
  have := mt_hi x
  have := mt_lo x
  rw [rg_scF hf hz, h1]
  refine ⟨rfl, ?_, by omega, by omega⟩
  rw [h3, h2]
theorem two_sq : Fl.rq (Fl.vl 4611686018427387904 * Fl.vl 4611686018427387904) 1074 = 4616189618054758400 := by decide +kernel
theorem four_four : Fl.rq (Fl.vl 4616189618054758400 + Fl.vl 4616189618054758400) 0 = 4620693217682128896 := by decide +kernel
/-- the squares of at most 2, and their sum -/
theorem tog_form2 {u v l : Nat} (su : Fl.sg u = false) (sv : Fl.sg v = false) (hu : Fl.rg u ≤ 4611686018427387904) (hv : Fl.rg v ≤ 4611686018427387904) (h : togR u v l) :
    ∃ p q s, p = Fl.rq (Fl.vl (Fl.rg u) * Fl.vl (Fl.rg u)) 1074 ∧ q = Fl.rq (Fl.vl (Fl.rg v) * Fl.vl (Fl.rg v)) 1074 ∧ p ≤ s ∧ q ≤ s ∧ s ≤ 4620693217682128896 ∧ sqtR s l := by
  obtain ⟨s, ⟨p, q, h1, h2, h3⟩, h4⟩ := h
  have ep := mul_word (by omega) (by omega) h1
  have eq := mul_word (by omega) (by omega) h2
  rw [su, Bool.xor_false, wd_false] at ep
  rw [sv, Bool.xor_false, wd_false] at eq
  have lp : p ≤ 4616189618054758400 := by
    rw [ep, ← two_sq]
    exact Fl.rq_mono _ _ _ (Nat.mul_le_mul (Fl.vl_le_iff.2 hu) (Fl.vl_le_iff.2 hu))
  have lq : q ≤ 4616189618054758400 := by
    rw [eq, ← two_sq]
    exact Fl.rq_mono _ _ _ (Nat.mul_le_mul (Fl.vl_le_iff.2 hv) (Fl.vl_le_iff.2 hv))
  obtain ⟨rp, sp⟩ := rg_rung (r := p) (by omega)
  obtain ⟨rq, sq⟩ := rg_rung (r := q) (by omega)
  have es := add_word sp sq (by omega) (by omega) h3
  rw [rp, rq] at es
  refine ⟨p, q, s, ep, eq, ?_, ?_, ?_, h4⟩
  · have := Fl.rq_mono (Fl.vl p) (Fl.vl p + Fl.vl q) 0 (by omega)
    rw [Fl.rq_vl p (by omega), ← es] at this
    exact this
  · have := Fl.rq_mono (Fl.vl q) (Fl.vl p + Fl.vl q) 0 (by omega)
    rw [Fl.rq_vl q (by omega), ← es] at this
    exact this
  · rw [es, ← four_four]
    exact Fl.rq_mono _ _ _ (Nat.add_le_add (Fl.vl_le_iff.2 lp) (Fl.vl_le_iff.2 lq))
theorem half_sq : Fl.rq ((4503599627370496 * 2 ^ 1021) * (4503599627370496 * 2 ^ 1021)) 1074 = 4598175219545276416 := by decide +kernel
theorem half_r : Fl.rq (4503599627370496 * 2 ^ 1021) 0 = 4602678819172646912 := by decide +kernel
theorem four_sq : Fl.rq ((4503599627370496 * 2 ^ 1024) * (4503599627370496 * 2 ^ 1024)) 1074 = 4625196817309499392 := by decide +kernel
theorem four_r : Fl.rq (4503599627370496 * 2 ^ 1024) 0 = 4616189618054758400 := by decide +kernel
/-- the root of what lies from a quarter to 8 lies from a half to 4 -/
theorem sqt_mid {s l : Nat} (h1 : 4598175219545276416 ≤ s) (h2 : s ≤ 4620693217682128896) (h : sqtR s l) : 4602678819172646912 ≤ l ∧ l ≤ 4616189618054758400 := by
  obtain ⟨rs, ss⟩ := rg_rung (r := s) (by omega)
  obtain ⟨r, k1, k2, k3⟩ := Fl.sqrt_ge (x := s) (b := 4503599627370496) (g := 1021) (G := 968) 1074 rfl (by omega) (by omega) (by omega) (by omega) (by omega) ss (by rw [rs, half_sq]; omega)
  obtain ⟨r', m1, m2⟩ := Fl.sqrt_le (x := s) (b := 4503599627370496) (g := 1024) (G := 974) 1074 rfl (by omega) (by omega) (by omega) (by omega) ss (by omega) (by rw [four_sq]; omega) (by rw [rs, four_sq]; omega)
  rw [half_r] at k2
  rw [four_r] at m2
  have e1 := sqt_word h k1
  have e2 := sqt_word h m1
  omega
end Go.Proofs.Ytmbjgakehghdjaa
/-
  OWN TEXT: the values of sines, cosines, quarters, angles at given floats, by computation.
-/
namespace Go.Proofs.Ytmbjgakehghdjaa
open Go.ChangeShapes Go.WideShapes Go.ChangeAt Go.RowKit
set_option linter.unusedVariables false
def opW (op : BinOp) (a b : Nat) : Option Nat := floatBits op .f64 a b
theorem opw_val {op : BinOp} {a b x v : Nat} (h : opR op a b x) (e : opW op a b = some v) : x = v := by
  have e' : floatBits op .f64 a b = some v := e
  rcases h.2 with k | k
  · rw [e'] at k; exact (Option.some.inj k).symm
  · rw [e'] at k; cases k.1
theorem bsw {α β : Type} {o : Option α} {f : α → Option β} {v : β} (h : o.bind f = some v) : ∃ u, o = some u ∧ f u = some v := Option.bind_eq_some_iff.1 h
def sinV0 (z : Nat) : Nat → Option Nat
  | 0 => some 4607182418800017408
  | i + 1 => (sinV0 z i).bind fun t => (opW .quo z (floatOfInt .f64 (2 * (9 - (i : Int)) * (2 * (9 - (i : Int)) + 1)))).bind fun d => (opW .mul d t).bind fun p => opW .sub 4607182418800017408 p
theorem sin_val0 {z : Nat} : ∀ (i t v : Nat), sinQ z i t → sinV0 z i = some v → t = v
  | 0, t, v, h, k => Eq.trans h (Option.some.inj k)
  | i + 1, t, v, ⟨t1, d, p, h1, h2, h3, h4⟩, k => by
    obtain ⟨u1, k1, k⟩ := bsw k
    obtain ⟨u2, k2, k⟩ := bsw k
    obtain ⟨u3, k3, k⟩ := bsw k
    have e := sin_val0 i t1 u1 h1 k1; subst e
    have e := opw_val h2 k2; subst e
    have e := opw_val h3 k3; subst e
    exact opw_val h4 k
def cosV0 (z : Nat) : Nat → Option Nat
  | 0 => some 4607182418800017408
  | i + 1 => (cosV0 z i).bind fun t => (opW .quo z (floatOfInt .f64 ((2 * (9 - (i : Int)) - 1) * (2 * (9 - (i : Int)))))).bind fun d => (opW .mul d t).bind fun p => opW .sub 4607182418800017408 p
theorem cos_val0 {z : Nat} : ∀ (i t v : Nat), cosQ z i t → cosV0 z i = some v → t = v
  | 0, t, v, h, k => Eq.trans h (Option.some.inj k)
  | i + 1, t, v, ⟨t1, d, p, h1, h2, h3, h4⟩, k => by
    obtain ⟨u1, k1, k⟩ := bsw k
    obtain ⟨u2, k2, k⟩ := bsw k
    obtain ⟨u3, k3, k⟩ := bsw k
    have e := cos_val0 i t1 u1 h1 k1; subst e
    have e := opw_val h2 k2; subst e
    have e := opw_val h3 k3; subst e
    exact opw_val h4 k
def sinV (y : Nat) : Option Nat := (opW .mul y y).bind fun z => (sinV0 z 9).bind fun t => opW .mul y t
theorem sin_val {y s v : Nat} (h : sinR y s) (k : sinV y = some v) : s = v := by
  obtain ⟨z, t, h1, h2, h3⟩ := h
  obtain ⟨u1, k1, k⟩ := bsw k
  have e := opw_val h1 k1; subst e
  obtain ⟨u2, k2, k⟩ := bsw k
  have e := sin_val0 _ _ _ h2 k2; subst e
  exact opw_val h3 k
def cosV (y : Nat) : Option Nat := (opW .mul y y).bind fun z => cosV0 z 9
theorem cos_val {y s v : Nat} (h : cosR y s) (k : cosV y = some v) : s = v := by
  obtain ⟨z, h1, h2⟩ := h
  obtain ⟨u1, k1, k⟩ := bsw k
  have e := opw_val h1 k1; subst e
  exact cos_val0 _ _ _ h2 k
def folV (x c : Nat) : Option Nat := (opW .mul x c).bind fun p => if Fl.nan p = true then none else some (Fl.whF p)
theorem fol_val {x c n v : Nat} (h : folR x c n) (k : folV x c = some v) : n = v := by
  obtain ⟨p, h1, _, h2⟩ := h
  obtain ⟨u1, k1, k⟩ := bsw k
  have e := opw_val h1 k1; subst e
  by_cases c : Fl.nan p = true
  · rw [if_pos c] at k; cases k
  · rw [if_neg c] at k h2; rw [h2]; exact Option.some.inj k
def lesV (x m a b c : Nat) : Option Nat := (opW .mul m a).bind fun p => (opW .sub x p).bind fun d => (opW .mul m b).bind fun q => (opW .sub d q).bind fun e => (opW .mul m c).bind fun r => opW .sub e r
theorem les_val {x m a b c y v : Nat} (h : lesR x m a b c y) (k : lesV x m a b c = some v) : y = v := by
  obtain ⟨p, d, q, f, r, h1, h2, h3, h4, h5, h6⟩ := h
  obtain ⟨u1, k1, k⟩ := bsw k
  obtain ⟨u2, k2, k⟩ := bsw k
  obtain ⟨u3, k3, k⟩ := bsw k
  obtain ⟨u4, k4, k⟩ := bsw k
  obtain ⟨u5, k5, k⟩ := bsw k
  have e := opw_val h1 k1; subst e
  have e := opw_val h2 k2; subst e
  have e := opw_val h3 k3; subst e
  have e := opw_val h4 k4; subst e
  have e := opw_val h5 k5; subst e
  exact opw_val h6 k
def quaV (x : Nat) : Option (Nat × Int) := if fitB x = true then (folV x 4603909380684499075).bind fun m => if Fl.eqF m 0 = true then some (x, 0) else (lesV x m 4609753056924401664 4454258360616747008 4297306550709518336).bind fun y => (floatToIntVal .f64 m .i64).bind fun q => some (y, q % 4) else none
theorem qua_val {x y : Nat} {n : Int} {v : Nat × Int} (h : quaR x y n) (k : quaV x = some v) : (y, n) = v := by
  obtain ⟨_, h⟩ := h
  unfold quaV at k
  by_cases c : fitB x = true
  · rw [if_pos c] at h k
    obtain ⟨m, h1, h2⟩ := h
    obtain ⟨u1, k1, k⟩ := bsw k
    have e := fol_val h1 k1; subst e
    by_cases c2 : Fl.eqF m 0 = true
    · rw [if_pos c2] at h2 k
      rw [h2.1, h2.2]; exact Option.some.inj k
    · rw [if_neg c2] at h2 k
      obtain ⟨a1, q, a2, a3⟩ := h2
      obtain ⟨u2, k2, k⟩ := bsw k
      have e := les_val a1 k2; subst e
      obtain ⟨u3, k3, k⟩ := bsw k
      have e : q = u3 := Option.some.inj (a2.symm.trans k3)
      subst e
      rw [a3]; exact Option.some.inj k
  · rw [if_neg c] at k; cases k
def turV (x : Nat) : Option (Nat × Nat) := (quaV x).bind fun v => (sinV v.1).bind fun s => (cosV v.1).bind fun c => if v.2 = 0 then some (s, c) else if v.2 = 1 then some (c, Fl.ng s) else if v.2 = 2 then some (Fl.ng s, Fl.ng c) else some (Fl.ng c, s)
theorem tur_val {x a b : Nat} {v : Nat × Nat} (h : turR x a b) (k : turV x = some v) : (a, b) = v := by
  obtain ⟨_, _, h⟩ := h
  obtain ⟨u1, k1, k⟩ := bsw k
  have c : fitB x = true := by
    by_cases c : fitB x = true
    · exact c
    · unfold quaV at k1; rw [if_neg c] at k1; cases k1
  rw [if_pos c] at h
  obtain ⟨y, n, s, d, h1, h2, h3, h4⟩ := h
  have e := qua_val h1 k1
  subst e
  obtain ⟨u2, k2, k⟩ := bsw k
  have e := sin_val h2 k2; subst e
  obtain ⟨u3, k3, k⟩ := bsw k
  have e := cos_val h3 k3; subst e
  simp only [] at k
  rcases h4 with ⟨rfl, rfl, rfl⟩ | ⟨rfl, rfl, rfl⟩ | ⟨rfl, rfl, rfl⟩ | ⟨rfl, rfl, rfl⟩ <;> exact Option.some.inj k
def angV0 (z : Nat) : Nat → Option Nat
  | 0 => some 0
  | i + 1 => (angV0 z i).bind fun t => (opW .quo 4607182418800017408 (floatOfInt .f64 (2 * (24 - (i : Int)) + 1))).bind fun d => (opW .mul z t).bind fun p => opW .sub d p
theorem ang_val0 {z : Nat} : ∀ (i t v : Nat), angQ z i t → angV0 z i = some v → t = v
  | 0, t, v, h, k => Eq.trans h (Option.some.inj k)
  | i + 1, t, v, ⟨t1, d, p, h1, h2, h3, h4⟩, k => by
    obtain ⟨u1, k1, k⟩ := bsw k
    obtain ⟨u2, k2, k⟩ := bsw k
    obtain ⟨u3, k3, k⟩ := bsw k
    have e := ang_val0 i t1 u1 h1 k1; subst e
    have e := opw_val h2 k2; subst e
    have e := opw_val h3 k3; subst e
    exact opw_val h4 k
def angVU (u : Nat) : Option Nat := (opW .mul u u).bind fun z => (angV0 z 25).bind fun s => opW .mul u s
theorem angu_val {u y v : Nat} (h : angU u y) (k : angVU u = some v) : y = v := by
  obtain ⟨z, t, h1, h2, h3⟩ := h
  obtain ⟨u1, k1, k⟩ := bsw k
  have e := opw_val h1 k1; subst e
  obtain ⟨u2, k2, k⟩ := bsw k
  have e := ang_val0 _ _ _ h2 k2; subst e
  exact opw_val h3 k
def angV (t : Nat) : Option Nat := if Fl.ltF 4601130706800738304 t = true then (opW .sub t 4607182418800017408).bind fun a => (opW .add t 4607182418800017408).bind fun b => (opW .quo a b).bind fun u => (angVU u).bind fun w => (opW .add w 4359948597267291143).bind fun x => opW .add 4605249457297304856 x else angVU t
theorem ang_val {t y v : Nat} (h : angR t y) (k : angV t = some v) : y = v := by
  unfold angR at h
  unfold angV at k
  by_cases c : Fl.ltF 4601130706800738304 t = true
  · rw [if_pos c] at h k
    obtain ⟨a, b, u, w, x, h1, h2, h3, h4, h5, h6⟩ := h
    obtain ⟨u1, k1, k⟩ := bsw k
    have e := opw_val h1 k1; subst e
    obtain ⟨u2, k2, k⟩ := bsw k
    have e := opw_val h2 k2; subst e
    obtain ⟨u3, k3, k⟩ := bsw k
    have e := opw_val h3 k3; subst e
    obtain ⟨u4, k4, k⟩ := bsw k
    have e := angu_val h4 k4; subst e
    obtain ⟨u5, k5, k⟩ := bsw k
    have e := opw_val h5 k5; subst e
    exact opw_val h6 k
  · rw [if_neg c] at h k
    exact angu_val h k
def basV (p q : Nat) : Option Nat := if p = 0 then some 0 else if p = 9218868437227405312 ∧ q = 9218868437227405312 then some 4605249457297304856 else if Fl.leF p q = true then (opW .quo p q).bind fun t => angV t
  else (opW .quo q p).bind fun t => (angV t).bind fun v => (opW .sub v 4364452196894661639).bind fun d => opW .sub 4609753056924675352 d
theorem bas_val {p q b v : Nat} (h : basR p q b) (k : basV p q = some v) : b = v := by
  unfold basR at h
  unfold basV at k
  by_cases c : p = 0
  · rw [if_pos c] at h k; rw [h]; exact Option.some.inj k
  · rw [if_neg c] at h k
    by_cases c2 : p = 9218868437227405312 ∧ q = 9218868437227405312
    · rw [if_pos c2] at h k; rw [h]; exact Option.some.inj k
    · rw [if_neg c2] at h k
      by_cases c3 : Fl.leF p q = true
      · rw [if_pos c3] at h k
        obtain ⟨t, h1, h2⟩ := h
        obtain ⟨u1, k1, k⟩ := bsw k
        have e := opw_val h1 k1; subst e
        exact ang_val h2 k
      · rw [if_neg c3] at h k
        obtain ⟨t, w, d, h1, h2, h3, h4⟩ := h
        obtain ⟨u1, k1, k⟩ := bsw k
        have e := opw_val h1 k1; subst e
        obtain ⟨u2, k2, k⟩ := bsw k
        have e := ang_val h2 k2; subst e
        obtain ⟨u3, k3, k⟩ := bsw k
        have e := opw_val h3 k3; subst e
        exact opw_val h4 k
def sidV (x b : Nat) : Option Nat := if Fl.sg x = true then (opW .sub b 4368955796522032135).bind fun d => opW .sub 4614256656552045848 d else some b
theorem sid_val {x b r v : Nat} (h : sidR x b r) (k : sidV x b = some v) : r = v := by
  unfold sidR at h
  unfold sidV at k
  by_cases c : Fl.sg x = true
  · rw [if_pos c] at h k
    obtain ⟨d, h1, h2⟩ := h
    obtain ⟨u1, k1, k⟩ := bsw k
    have e := opw_val h1 k1; subst e
    exact opw_val h2 k
  · rw [if_neg c] at h k; rw [h]; exact Option.some.inj k
def offV (y x : Nat) : Option Nat := if (Fl.nan y || Fl.nan x) = true then none else (basV (Fl.rg y) (Fl.rg x)).bind fun b => (sidV x b).bind fun s => some (if Fl.sg y = true then Fl.ng s else s)
theorem off_val {y x r v : Nat} (h : offR y x r) (k : offV y x = some v) : r = v := by
  unfold offR at h
  unfold offV at k
  by_cases c : (Fl.nan y || Fl.nan x) = true
  · rw [if_pos c] at k; cases k
  · rw [if_neg c] at h k
    obtain ⟨b, s, h1, h2, h3⟩ := h
    obtain ⟨u1, k1, k⟩ := bsw k
    have e := bas_val h1 k1; subst e
    obtain ⟨u2, k2, k⟩ := bsw k
    have e := sid_val h2 k2; subst e
    rw [h3]; exact Option.some.inj k
def onceV (y : Nat) : Option Nat := if Fl.ltF 4614256656552045848 y = true then (opW .sub y 4618760256179416344).bind fun d => opW .sub d 4373459396149402631 else if Fl.ltF 13837628693406821656 y = true then some y else (opW .add y 4618760256179416344).bind fun d => opW .add d 4373459396149402631
theorem once_val {y z v : Nat} (h : onceR y z) (k : onceV y = some v) : z = v := by
  unfold onceR at h
  unfold onceV at k
  by_cases c : Fl.ltF 4614256656552045848 y = true
  · rw [if_pos c] at h k
    obtain ⟨d, h1, h2⟩ := h
    obtain ⟨u1, k1, k⟩ := bsw k
    have e := opw_val h1 k1; subst e
    exact opw_val h2 k
  · rw [if_neg c] at h k
    by_cases c2 : Fl.ltF 13837628693406821656 y = true
    · rw [if_pos c2] at h k; rw [h]; exact Option.some.inj k
    · rw [if_neg c2] at h k
      obtain ⟨d, h1, h2⟩ := h
      obtain ⟨u1, k1, k⟩ := bsw k
      have e := opw_val h1 k1; subst e
      exact opw_val h2 k
def wraV (x : Nat) : Option Nat := if fitB x = true then if (Fl.ltF 13837628693406821656 x && Fl.leF x 4614256656552045848) = true then some x else (folV x 4594902181429758083).bind fun m => (lesV x m 4618760256179142656 4463265559871488000 4306313749964259328).bind fun y => (onceV y).bind fun u => some (if (Fl.ltF 4614256656552045848 u || !Fl.ltF 13837628693406821656 u) = true then 4614256656552045848 else u) else none
theorem wra_val {x z v : Nat} (h : wraR x z) (k : wraV x = some v) : z = v := by
  unfold wraR at h
  unfold wraV at k
  by_cases c : fitB x = true
  · rw [if_pos c] at h k
    by_cases c2 : (Fl.ltF 13837628693406821656 x && Fl.leF x 4614256656552045848) = true
    · rw [if_pos c2] at h k; rw [h]; exact Option.some.inj k
    · rw [if_neg c2] at h k
      obtain ⟨m, y, u, h1, h2, h3, h4⟩ := h
      obtain ⟨u1, k1, k⟩ := bsw k
      have e := fol_val h1 k1; subst e
      obtain ⟨u2, k2, k⟩ := bsw k
      have e := les_val h2 k2; subst e
      obtain ⟨u3, k3, k⟩ := bsw k
      have e := once_val h3 k3; subst e
      unfold lastR at h4
      by_cases c3 : (Fl.ltF 4614256656552045848 u || !Fl.ltF 13837628693406821656 u) = true
      · rw [if_pos c3] at h4 k; rw [h4]; exact Option.some.inj k
      · rw [if_neg c3] at h4 k; rw [h4]; exact Option.some.inj k
  · rw [if_neg c] at k; cases k
end Go.Proofs.Ytmbjgakehghdjaa
