/-
  OWN TEXT: sines and cosines of fit floats, as they come out, are at most 1 without their signs.
-/
import Derived.Test.YtdbfhbpillgacaaPnF
import Derived.Test.YtdbfhbpillgacaaRmF
set_option linter.unusedVariables false
set_option exponentiation.threshold 3000
namespace Go.Proofs.Ytdbfhbpillgacaa
/-- from nought to 1, without a minus -/
def In1 (t : Nat) : Prop := t ≤ 4607182418800017408
theorem In1.rg {t : Nat} (h : In1 t) : Fl.rg t = t ∧ Fl.sg t = false := rg_rung (by unfold In1 at h; omega)
theorem one_sub {p t : Nat} (hp : In1 p) (h : opR .sub 4607182418800017408 p t) : In1 t := by
  obtain ⟨r1, s1⟩ := hp.rg
  unfold In1 at hp
  have e := sub_word (by omega) (by decide) (by omega) h
  have v1 : Fl.val 4607182418800017408 = (Fl.vl 4607182418800017408 : Int) := by unfold Fl.val; rw [show Fl.sg 4607182418800017408 = false by decide, show Fl.rg 4607182418800017408 = 4607182418800017408 by decide]; rfl
  have vp : Fl.val p = (Fl.vl p : Int) := by unfold Fl.val; rw [s1, r1]; rfl
  have hv := Fl.vl_le_iff.2 hp
  rw [v1, vp] at e
  have hs : (if (Fl.vl 4607182418800017408 : Int) - (Fl.vl p : Int) = 0 then Fl.sg 4607182418800017408 && !Fl.sg p else decide ((Fl.vl 4607182418800017408 : Int) - (Fl.vl p : Int) < 0)) = false := by
    by_cases z : (Fl.vl 4607182418800017408 : Int) - (Fl.vl p : Int) = 0
    · rw [if_pos z, show Fl.sg 4607182418800017408 = false by decide]; rfl
    · rw [if_neg z]; exact decide_eq_false (by omega)
  rw [hs, wd_false] at e
  unfold In1
  rw [e]
  have k := Fl.rq_mono ((Fl.vl 4607182418800017408 : Int) - (Fl.vl p : Int)).natAbs (Fl.vl 4607182418800017408) 0 (by omega)
  rw [Fl.rq_vl _ (by decide)] at k
  exact k
theorem mul_in {a b x : Nat} (ha : In1 a) (hb : In1 b) (h : opR .mul a b x) : In1 x := by
  obtain ⟨r1, s1⟩ := ha.rg
  obtain ⟨r2, s2⟩ := hb.rg
  unfold In1 at ha hb
  have e := mul_word (by omega) (by omega) h
  rw [s1, s2, Bool.xor_false, wd_false, r1, r2] at e
  unfold In1
  rw [e, ← one_sq]
  exact Fl.rq_mono _ _ _ (Nat.mul_le_mul (Fl.vl_le_iff.2 ha) (Fl.vl_le_iff.2 hb))
theorem quo_in {a k x : Nat} (ha : In1 a) (hk : 4607182418800017408 ≤ k) (hk' : k < 9218868437227405312) (h : opR .quo a k x) : In1 x := by
  obtain ⟨r1, s1⟩ := ha.rg
  obtain ⟨r2, s2⟩ := rg_rung (r := k) (by omega)
  unfold In1 at ha
  obtain ⟨z, hz, _, hle⟩ := Fl.div_le (x := a) (y := k) 1074 rfl (by omega) (by omega) (by omega) (by omega)
  obtain ⟨r, hr, hw⟩ := div_sgn (y := k) a (by omega) (by omega) (by omega)
  have w := hw a rfl
  rw [s1, s2, Bool.xor_false] at w
  have ez : z = Fl.wd false r := Option.some.inj (hz.symm.trans w)
  have ex : x = z := by
    rcases h.2 with m | m
    · exact Option.some.inj (m.symm.trans hz)
    · exact absurd (m.1.symm.trans hz) (by intro c; cases c)
  rw [ex, ez, wd_false]
  rw [ez, wd_false, (rg_rung hr).1] at hle
  exact hle
theorem k_sin : ∀ i : Fin 9, 4607182418800017408 ≤ floatOfInt .f64 (2 * (9 - (i.val : Int)) * (2 * (9 - (i.val : Int)) + 1)) ∧ floatOfInt .f64 (2 * (9 - (i.val : Int)) * (2 * (9 - (i.val : Int)) + 1)) < 9218868437227405312 := by decide +kernel
theorem k_cos : ∀ i : Fin 9, 4607182418800017408 ≤ floatOfInt .f64 ((2 * (9 - (i.val : Int)) - 1) * (2 * (9 - (i.val : Int)))) ∧ floatOfInt .f64 ((2 * (9 - (i.val : Int)) - 1) * (2 * (9 - (i.val : Int)))) < 9218868437227405312 := by decide +kernel
theorem sinQ_in {z : Nat} (hz : In1 z) : ∀ (i t : Nat), i ≤ 9 → sinQ z i t → In1 t
  | 0, t, _, h => by have e : t = 4607182418800017408 := h; unfold In1; omega
  | i + 1, t, hi, ⟨u, d, p, h1, h2, h3, h4⟩ => by
    have k := k_sin ⟨i, by omega⟩
    exact one_sub (mul_in (quo_in hz k.1 k.2 h2) (sinQ_in hz i u (by omega) h1) h3) h4
theorem cosQ_in {z : Nat} (hz : In1 z) : ∀ (i t : Nat), i ≤ 9 → cosQ z i t → In1 t
  | 0, t, _, h => by have e : t = 4607182418800017408 := h; unfold In1; omega
  | i + 1, t, hi, ⟨u, d, p, h1, h2, h3, h4⟩ => by
    have k := k_cos ⟨i, by omega⟩
    exact one_sub (mul_in (quo_in hz k.1 k.2 h2) (cosQ_in hz i u (by omega) h1) h3) h4
theorem sq_in {y z : Nat} (hy : Fl.rg y ≤ 4607182418800017408) (h : opR .mul y y z) : In1 z := by
  have e := mul_word (by omega) (by omega) h
  rw [Bool.xor_self, wd_false] at e
  unfold In1
  rw [e, ← one_sq]
  exact Fl.rq_mono _ _ _ (Nat.mul_le_mul (Fl.vl_le_iff.2 hy) (Fl.vl_le_iff.2 hy))
theorem sin_bd {y s : Nat} (hy : Fl.rg y ≤ 4607182418800017408) (h : sinR y s) : Fl.rg s ≤ 4607182418800017408 := by
  obtain ⟨z, t, h1, h2, h3⟩ := h
  have ht := sinQ_in (sq_in hy h1) 9 t (by omega) h2
  have k := mul_bd hy (show Fl.rg t ≤ 4607182418800017408 by rw [ht.rg.1]; exact ht) (by decide) (by decide) h3
  rw [one_sq] at k
  exact k
theorem cos_bd {y s : Nat} (hy : Fl.rg y ≤ 4607182418800017408) (h : cosR y s) : Fl.rg s ≤ 4607182418800017408 := by
  obtain ⟨z, h1, h2⟩ := h
  have ht := cosQ_in (sq_in hy h1) 9 s (by omega) h2
  rw [ht.rg.1]; exact ht
/-- sine and cosine of a fit float are at most 1 -/
theorem tur_bd {x a b : Nat} (hx : x < 18446744073709551616) (hf : fitB x = true) (h : turR x a b) : Fl.rg a ≤ 4607182418800017408 ∧ Fl.rg b ≤ 4607182418800017408 := by
  obtain ⟨_, _, h⟩ := h
  rw [if_pos hf] at h
  obtain ⟨y, n, s, c, h1, h2, h3, h4⟩ := h
  have hy := qua_bd hx hf h1
  have k1 := sin_bd hy h2
  have k2 := cos_bd hy h3
  rcases h4 with ⟨_, rfl, rfl⟩ | ⟨_, rfl, rfl⟩ | ⟨_, rfl, rfl⟩ | ⟨_, rfl, rfl⟩
  · exact ⟨k1, k2⟩
  · exact ⟨k2, by rw [Fl.rg_ng]; exact k1⟩
  · exact ⟨by rw [Fl.rg_ng]; exact k1, by rw [Fl.rg_ng]; exact k2⟩
  · exact ⟨by rw [Fl.rg_ng]; exact k2, k1⟩
/-- a product with what is at most 1 is a number -/
theorem mul_small {e c r : Nat} (he : Fl.rg e < 9218868437227405312) (hc : Fl.rg c ≤ 4607182418800017408) (h : opR .mul e c r) : Fl.rg r < 9218868437227405312 ∧ floatBits .mul .f64 e c = some r := by
  have k := mul_bd (Nat.le_refl _) hc he (by decide) h
  have q : Fl.rq (Fl.vl (Fl.rg e) * Fl.vl 4607182418800017408) 1074 = Fl.rg e := by
    rw [Fl.vl_one]
    have := Fl.rq_mul (Fl.vl (Fl.rg e)) 1074 0
    rw [Nat.zero_add] at this
    rw [this]
    exact Fl.rq_vl _ (by omega)
  rw [q] at k
  refine ⟨by omega, ?_⟩
  rcases h.2 with m | m
  · exact m
  · have := nan_fin (x := r) (by omega)
    rw [this] at m
    exact absurd m.2 (by decide)
theorem sub_same5 {a : Nat} (ha : a < 18446744073709551616) (hf : Fl.rg a < 9218868437227405312) : floatBits .sub .f64 a a = some 0 := by
  show Ieee.double.sub a a = some 0
  rw [Fl.sub_fin ha hf hf, show Fl.val a - Fl.val a = 0 by omega]
  simp [Fl.rq, Fl.wd]
end Go.Proofs.Ytdbfhbpillgacaa
