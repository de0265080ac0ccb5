/-
 OWN TEXT: sums, products, quotients, roots of floats as complex numbers: how far they are from the true ones (no world).
-/
import Derived.Test.YtfgfofedacehiaaGreatJChP
import Derived.Test.YtfgfofedacehiaaGreatJRtGToRtK
import Derived.Test.YtfgfofedacehiaaGreatJChB
set_option linter.unusedVariables false
set_option exponentiation.threshold 3000
namespace Go.Proofs.YtfgfofedacehiaaGreat.Sv
open Lb (Lb)
def za (a b : El.Z) : El.Z := (op .add a.1 b.1, op .add a.2 b.2)
def zs (a b : El.Z) : El.Z := (op .sub a.1 b.1, op .sub a.2 b.2)
def zn (a : El.Z) : El.Z := (Fl.ng a.1, Fl.ng a.2)
theorem fadd {a b : El.Z} {α β M : Rat} (fa : FZ a) (fb : FZ b) (ha : Lb (cv a) α) (hb : Lb (cv b) β) (hM : α + β ≤ M) (h1 : 1 ≤ M) (h2 : M ≤ 1048576) :
  FZ (za a b) ∧ Lb (cv (za a b) - (cv a + cv b)) (1 / 1125899906842624 * M) := by
 have es := en_small
 have ep := en_pos
 have s1 : Ab (rv a.1 + rv b.1) M := (ha.re.add hb.re).mono hM
 have s2 : Ab (rv a.2 + rv b.2) M := (ha.im.add hb.im).mono hM
 have f1 := add_fi fa.1 fb.1 s1 (by grind)
 have f2 := add_fi fa.2 fb.2 s2 (by grind)
 have e1 := add_err fa.1 fb.1 f1 s1
 have e2 := add_err fa.2 fb.2 f2 s2
 refine ⟨⟨f1, f2⟩, ?_⟩
 have k : 1 / 4503599627370496 * M + en ≤ 1 / 2251799813685248 * M := by grind
 exact (Lb.Lb.of (x := cv (za a b) - (cv a + cv b)) (e1.mono k) (e2.mono k)).mono (by grind)
theorem fsub {a b : El.Z} {α β M : Rat} (fa : FZ a) (fb : FZ b) (ha : Lb (cv a) α) (hb : Lb (cv b) β) (hM : α + β ≤ M) (h1 : 1 ≤ M) (h2 : M ≤ 1048576) :
  FZ (zs a b) ∧ Lb (cv (zs a b) - (cv a - cv b)) (1 / 1125899906842624 * M) := by
 have es := en_small
 have ep := en_pos
 have s1 : Ab (rv a.1 - rv b.1) M := (ha.re.sub hb.re).mono hM
 have s2 : Ab (rv a.2 - rv b.2) M := (ha.im.sub hb.im).mono hM
 have f1 := sub_fi fa.1 fb.1 s1 (by grind)
 have f2 := sub_fi fa.2 fb.2 s2 (by grind)
 have e1 := sub_err fa.1 fb.1 f1 s1
 have e2 := sub_err fa.2 fb.2 f2 s2
 refine ⟨⟨f1, f2⟩, ?_⟩
 have k : 1 / 4503599627370496 * M + en ≤ 1 / 2251799813685248 * M := by grind
 exact (Lb.Lb.of (x := cv (zs a b) - (cv a - cv b)) (e1.mono k) (e2.mono k)).mono (by grind)
theorem fmul {a b : El.Z} {α β M : Rat} (fa : FZ a) (fb : FZ b) (ha : Lb (cv a) α) (hb : Lb (cv b) β) (hM : α * β ≤ M) (h1 : 1 ≤ M) (h2 : M ≤ 1048576) :
  FZ (El.zmul a b) ∧ Lb (cv (El.zmul a b) - cv a * cv b) (1 / 281474976710656 * M) := by
 have es := en_small
 have ep := en_pos
 have p11 : Ab (rv a.1 * rv b.1) M := (ha.re.mul hb.re).mono hM
 have p22 : Ab (rv a.2 * rv b.2) M := (ha.im.mul hb.im).mono hM
 have p12 : Ab (rv a.1 * rv b.2) M := (ha.re.mul hb.im).mono hM
 have p21 : Ab (rv a.2 * rv b.1) M := (ha.im.mul hb.re).mono hM
 have f11 := mul_fi fa.1 fb.1 p11 (by grind)
 have f22 := mul_fi fa.2 fb.2 p22 (by grind)
 have f12 := mul_fi fa.1 fb.2 p12 (by grind)
 have f21 := mul_fi fa.2 fb.1 p21 (by grind)
 have e11 := mul_err fa.1 fb.1 f11 p11
 have e22 := mul_err fa.2 fb.2 f22 p22
 have e12 := mul_err fa.1 fb.2 f12 p12
 have e21 := mul_err fa.2 fb.1 f21 p21
 have k : 1 / 4503599627370496 * M + en ≤ 1 / 4503599627370496 * (2 * M) := by grind
 have e11 := e11.mono k
 have e22 := e22.mono k
 have e12 := e12.mono k
 have e21 := e21.mono k
 have s1 : Ab (rv (op .mul a.1 b.1) - rv (op .mul a.2 b.2)) (3 * M) := (((e11.add p11).sub (e22.add p22)).cong (by grind)).mono (by grind)
 have s2 : Ab (rv (op .mul a.1 b.2) + rv (op .mul a.2 b.1)) (3 * M) := (((e12.add p12).add (e21.add p21)).cong (by grind)).mono (by grind)
 have g1 := sub_fi f11 f22 s1 (by grind)
 have g2 := add_fi f12 f21 s2 (by grind)
 have d1 := sub_err f11 f22 g1 s1
 have d2 := add_err f12 f21 g2 s2
 refine ⟨⟨g1, g2⟩, ?_⟩
 have t1 : Ab (rv (op .sub (op .mul a.1 b.1) (op .mul a.2 b.2)) - (rv a.1 * rv b.1 - rv a.2 * rv b.2)) (1 / 4503599627370496 * (8 * M)) := ((d1.add (e11.sub e22)).cong (by grind)).mono (by grind)
 have t2 : Ab (rv (op .add (op .mul a.1 b.2) (op .mul a.2 b.1)) - (rv a.1 * rv b.2 + rv a.2 * rv b.1)) (1 / 4503599627370496 * (8 * M)) := ((d2.add (e12.add e21)).cong (by grind)).mono (by grind)
 exact (Lb.Lb.of (x := cv (El.zmul a b) - cv a * cv b) t1 t2).mono (by grind)
/-- a float's worth, its sign turned -/
theorem rv_ng {x : Nat} (h : Fi x) : Fi (Fl.ng x) ∧ rv (Fl.ng x) = -rv x := by
 refine ⟨⟨Fl.ng_lt h.1, by rw [Fl.rg_ng]; exact h.2⟩, ?_⟩
 unfold rv
 rw [Fl.val_ng h.1, Rat.intCast_neg]
 grind
theorem fneg {a : El.Z} (fa : FZ a) : FZ (zn a) ∧ cv (zn a) = -cv a := by
 obtain ⟨f1, e1⟩ := rv_ng fa.1
 obtain ⟨f2, e2⟩ := rv_ng fa.2
 exact ⟨⟨f1, f2⟩, Cx.ext' e1 e2⟩
/-- by the half, or twice -/
theorem fscale {a : El.Z} {s : Nat} {α c M : Rat} (fa : FZ a) (fs : Fi s) (hs : rv s = c) (hc : Ab c 2) (ha : Lb (cv a) α) (hM : α * 2 ≤ M) (h1 : 1 ≤ M) (h2 : M ≤ 1048576) :
  FZ (El.zscale a s) ∧ Lb (cv (El.zscale a s) - (Cx.mk c 0) * cv a) (1 / 1125899906842624 * M) := by
 have es := en_small
 have ep := en_pos
 have p1 : Ab (rv a.1 * rv s) M := (ha.re.mul (by rw [hs]; exact hc)).mono hM
 have p2 : Ab (rv a.2 * rv s) M := (ha.im.mul (by rw [hs]; exact hc)).mono hM
 have f1 := mul_fi fa.1 fs p1 (by grind)
 have f2 := mul_fi fa.2 fs p2 (by grind)
 have e1 := mul_err fa.1 fs f1 p1
 have e2 := mul_err fa.2 fs f2 p2
 refine ⟨⟨f1, f2⟩, ?_⟩
 have k : 1 / 4503599627370496 * M + en ≤ 1 / 2251799813685248 * M := by grind
 have r1 : Ab (rv (op .mul a.1 s) - c * rv a.1) (1 / 2251799813685248 * M) := (e1.mono k).cong (by rw [hs, Rat.mul_comm c])
 have r2 : Ab (rv (op .mul a.2 s) - c * rv a.2) (1 / 2251799813685248 * M) := (e2.mono k).cong (by rw [hs, Rat.mul_comm c])
 have r := Lb.Lb.of (x := cv (El.zscale a s) - (Cx.mk c 0) * cv a) (b := 1 / 2251799813685248 * M) (by
  have e : (cv (El.zscale a s) - (Cx.mk c 0) * cv a).re = rv (op .mul a.1 s) - c * rv a.1 := by
   show rv (op .mul a.1 s) - (c * rv a.1 - 0 * rv a.2) = _
   grind
  rw [e]; exact r1) (by
  have e : (cv (El.zscale a s) - (Cx.mk c 0) * cv a).im = rv (op .mul a.2 s) - c * rv a.2 := by
   show rv (op .mul a.2 s) - (c * rv a.2 + 0 * rv a.1) = _
   grind
  rw [e]; exact r2)
 exact r.mono (by grind)
theorem fdiv {a b : El.Z} {H β c : Rat} (fa : FZ a) (fb : FZ b) (ha : Lb (cv a) H) (hb : Lb (cv b) β) (h1 : 1 ≤ H) (h2 : H ≤ 1048576) (hβ : β ≤ 1048576) (hc : 0 ≤ c) (hc2 : c ≤ 4096) (hl : 1 ≤ c * c * Cx.N (cv b)) :
  FZ (El.zdiv a b) ∧ Lb (cv b * cv (El.zdiv a b) - cv a) (1 / 4398046511104 * H) := by
 have q1 := ab_le ha.re
 have q2 := ab_le ha.im
 have q3 := ab_le hb.re
 have q4 := ab_le hb.im
 have n3 := ab_nn (rv b.1)
 have n4 := ab_nn (rv b.2)
 have hN : 0 < Cx.N (cv b) := by
  rcases Classical.em (0 < Cx.N (cv b)) with z | z
  · exact z
  ·
   exfalso
   have : Cx.N (cv b) = 0 := by have := Lb.N_nn (cv b); grind
   rw [this] at hl
   grind
 have hg : (1 / 1048576 : Rat) ≤ ab (rv b.1) ∨ (1 / 1048576 : Rat) ≤ ab (rv b.2) := by
  rcases Classical.em ((1 / 1048576 : Rat) ≤ ab (rv b.1)) with z | z
  · exact Or.inl z
  ·
   rcases Classical.em ((1 / 1048576 : Rat) ≤ ab (rv b.2)) with y | y
   · exact Or.inr y
   ·
    exfalso
    have m1 := Lb.sq_mono n3 (show ab (rv b.1) ≤ 1 / 1048576 by grind)
    have m2 := Lb.sq_mono n4 (show ab (rv b.2) ≤ 1 / 1048576 by grind)
    rw [ab_sq] at m1 m2
    have e : Cx.N (cv b) = rv b.1 * rv b.1 + rv b.2 * rv b.2 := rfl
    have m3 : Cx.N (cv b) ≤ 2 * (1 / 1048576 * (1 / 1048576)) := by rw [e]; grind
    have m4 := Lb.sq_mono hc hc2
    have m5 := Rat.mul_le_mul_of_nonneg_left m3 (sq_nn c)
    grind
 obtain ⟨E, hE, hE2, ⟨f1, e1⟩, f2, e2⟩ := zdiv_gen fa fb (H := 2 * H) (D := 1 / 1048576) (show ab (rv a.1) + ab (rv a.2) ≤ 2 * H by
  have q1 : ab (rv a.1) ≤ H := q1
  have q2 : ab (rv a.2) ≤ H := q2
  grind) (by grind) (by grind) (by grind) (by grind) hg (show ab (rv b.1) ≤ _ by
   have q3 : ab (rv b.1) ≤ β := q3
   grind) (show ab (rv b.2) ≤ _ by
   have q4 : ab (rv b.2) ≤ β := q4
   grind)
 refine ⟨⟨f1, f2⟩, by grind, ?_⟩
 -- times the other number turned about the line
 have k1 := Lb.sq_ab e1
 have k2 := Lb.sq_ab e2
 have id : Cx.N (cv b) * Cx.N (cv b * cv (El.zdiv a b) - cv a) = (rv (El.zdiv a b).1 * (rv b.1 * rv b.1 + rv b.2 * rv b.2) - (rv a.1 * rv b.1 + rv a.2 * rv b.2)) * (rv (El.zdiv a b).1 * (rv b.1 * rv b.1 + rv b.2 * rv b.2) - (rv a.1 * rv b.1 + rv a.2 * rv b.2)) + (rv (El.zdiv a b).2 * (rv b.1 * rv b.1 + rv b.2 * rv b.2) - (rv a.2 * rv b.1 - rv a.1 * rv b.2)) * (rv (El.zdiv a b).2 * (rv b.1 * rv b.1 + rv b.2 * rv b.2) - (rv a.2 * rv b.1 - rv a.1 * rv b.2)) := by
  unfold Cx.N cv
  simp only [Cx.sub_re, Cx.sub_im, Cx.mul_re, Cx.mul_im]
  grind
 have e : Cx.N (cv b) = rv b.1 * rv b.1 + rv b.2 * rv b.2 := rfl
 rw [← e] at hE2
 generalize Cx.N (cv b * cv (El.zdiv a b) - cv a) = X at *
 generalize Cx.N (cv b) = N at *
 have u0 : 24 * uu * (2 * H * E) * (24 * uu * (2 * H * E)) = 2304 * (uu * H) * (uu * H) * (E * E) := by grind
 rw [u0] at k1 k2
 have hu : 0 ≤ 2304 * (uu * H) * (uu * H) := by
  have := sq_nn (uu * H)
  grind
 have m := Rat.mul_le_mul_of_nonneg_left hE2 hu
 have h5 : N * X ≤ 2 * (2304 * (uu * H) * (uu * H)) * N := by rw [id]; grind
 have h6 : X ≤ 2 * (2304 * (uu * H) * (uu * H)) := by
  rcases Classical.em (X ≤ 2 * (2304 * (uu * H) * (uu * H))) with z | z
  · exact z
  ·
   exfalso
   have := Rat.mul_lt_mul_of_pos_right (Rat.not_le.1 z) hN
   grind
 have h7 := sq_nn H
 unfold uu at h6
 grind
theorem froot {a b re im : Nat} {ξ : Rat} (fa : Fi a) (fb : Fi b) (ha : Lb (cv (a, b)) ξ) (h : rooR a b re im) : FZ (re, im) ∧ Lb (cv (re, im) * cv (re, im) - cv (a, b)) (1 / 281474976710656 * ξ) := by
 obtain ⟨f1, f2, k⟩ := Rt.root_law fa.1 fb.1 fa.2 fb.2 h
 refine ⟨⟨f1, f2⟩, by have := ha.1; grind, ?_⟩
 have n : Rt.nq a b = Cx.N (cv (a, b)) := by
  unfold Rt.nq Cx.N cv
  have s : ∀ x, Rt.rr (Fl.rg x) * Rt.rr (Fl.rg x) = rv x * rv x := fun x => by rw [Rt.rv_rr]; split <;> grind
  simp only [s]
 have e : Cx.N (cv (re, im) * cv (re, im) - cv (a, b)) = (rv re * rv re - rv im * rv im - rv a) * (rv re * rv re - rv im * rv im - rv a) + (rv re * rv im + rv re * rv im - rv b) * (rv re * rv im + rv re * rv im - rv b) := by
  unfold Cx.N cv
  simp only [Cx.sub_re, Cx.sub_im, Cx.mul_re, Cx.mul_im]
  grind
 rw [e]
 rw [n] at k
 have m := ha.2
 have := Rat.mul_le_mul_of_nonneg_right m (show (0 : Rat) ≤ 1 / 281474976710656 * (1 / 281474976710656) by grind)
 grind
end Go.Proofs.YtfgfofedacehiaaGreat.Sv

/-
 OWN TEXT: a Moebius map's place there and back, within 2^-22 (no world).
-/
set_option linter.unusedVariables false
set_option exponentiation.threshold 3000
namespace Go.Proofs.YtfgfofedacehiaaGreat.Sv
open Lb (Lb)
/-- the reckoning: A .. D, z; U, T; W is near U / T, G and M are what is divided, R near M / G -/
theorem back_lb {A B C D z U T W P Q G M R : Cx Rat} (la : Lb A 12) (lb : Lb B 12) (lc : Lb C 12) (ld : Lb D 12) (lz : Lb z 12) (hU : U = A * z + B) (hT : T = C * z + D) (nT : 1 ≤ Cx.N T) (nd : 1 ≤ Cx.N (A * D - B * C))
  (h1 : Lb (T * W - U) (1 / 4398046511104 * 156)) (h2 : Lb W 157 → Lb (P - D * W) (1 / 281474976710656 * 1910)) (h3 : Lb P 1890 → Lb (M - (P - B)) (1 / 1125899906842624 * 1910))
  (h4 : Lb W 157 → Lb (Q - C * W) (1 / 281474976710656 * 1910)) (h5 : Lb Q 1890 → Lb (G - (A - Q)) (1 / 1125899906842624 * 1910)) (h6 : Lb M 1900 → Lb G 1900 → 1 ≤ 312 * 312 * Cx.N G → Lb (G * R - M) (1 / 4398046511104 * 1900)) :
  Lb W 157 ∧ Lb P 1890 ∧ Lb Q 1890 ∧ Lb M 1900 ∧ Lb G 1900 ∧ 1 ≤ 312 * 312 * Cx.N G ∧ Lb (R - z) (1 / 4194304) := by
 have lU : Lb U 156 := by rw [hU]; exact ((la.mul lz).add lb).mono (by grind)
 have lT : Lb T 156 := by rw [hT]; exact ((lc.mul lz).add ld).mono (by grind)
 have lW : Lb W 157 := (Lb.Lb.quot (c := 1) (by grind) (by grind) (((h1.add lU).cong (show T * W - U + U = T * W by grind)).mono (show _ ≤ (157 : Rat) by grind))).mono (by grind)
 have e2 := h2 lW
 have lP : Lb P 1890 := (((e2.add (ld.mul lW)).cong (show P - D * W + D * W = P by grind)).mono (by grind))
 have e3 := h3 lP
 have e4 := h4 lW
 have lQ : Lb Q 1890 := (((e4.add (lc.mul lW)).cong (show Q - C * W + C * W = Q by grind)).mono (by grind))
 have e5 := h5 lQ
 have E2 : Lb (M - (D * W - B)) (1 / 70368744177664 * 1000) := ((e3.add e2).cong (by grind)).mono (by grind)
 have E3 : Lb (G - (A - C * W)) (1 / 70368744177664 * 1000) := ((e5.sub e4).cong (by grind)).mono (by grind)
 have lM : Lb M 1900 := (((E2.add ((ld.mul lW).sub lb)).cong (show M - (D * W - B) + (D * W - B) = M by grind)).mono (by grind))
 have lG : Lb G 1900 := (((E3.add (la.sub (lc.mul lW))).cong (show G - (A - C * W) + (A - C * W) = G by grind)).mono (by grind))
 have low : 1 ≤ 312 * 312 * Cx.N G := by
  have k := Lb.low_add nd ((lT.mul E3).sub (lc.mul h1)) (by grind)
  rw [show A * D - B * C + (T * (G - (A - C * W)) - C * (T * W - U)) = T * G by rw [hU, hT]; grind] at k
  have k2 := Lb.low_mul lT k
  grind
 have e6 := h6 lM lG low
 refine ⟨lW, lP, lQ, lM, lG, low, ?_⟩
 have k := ((e6.add E2).sub (lz.mul E3)).add h1
 have k2 := k.cong (show G * R - M + (M - (D * W - B)) - z * (G - (A - C * W)) + (T * W - U) = G * (R - z) by rw [hU, hT]; grind)
 exact (Lb.Lb.quot (c := 312) (by grind) low k2).mono (by grind)
theorem moeb_back {a b c d z u t : El.Z} (fa : FZ a) (fb : FZ b) (fc : FZ c) (fd : FZ d) (fu : FZ u) (ft : FZ t) (la : Lb (cv a) 12) (lb : Lb (cv b) 12) (lc : Lb (cv c) 12) (ld : Lb (cv d) 12) (lz : Lb (cv z) 12)
  (hU : cv u = cv a * cv z + cv b) (hT : cv t = cv c * cv z + cv d) (nT : 1 ≤ Cx.N (cv t)) (nd : 1 ≤ Cx.N (cv a * cv d - cv b * cv c)) :
  FZ (El.zdiv u t) ∧ Lb (cv (El.zdiv u t)) 157 ∧ FZ (El.zmul c (El.zdiv u t)) ∧ FZ (zs a (El.zmul c (El.zdiv u t))) ∧ 1 ≤ 312 * 312 * Cx.N (cv (zs a (El.zmul c (El.zdiv u t)))) ∧ FZ (El.zmul d (El.zdiv u t)) ∧ FZ (zs (El.zmul d (El.zdiv u t)) b) ∧
   FZ (El.zdiv (zs (El.zmul d (El.zdiv u t)) b) (zs a (El.zmul c (El.zdiv u t)))) ∧ Lb (cv (El.zdiv (zs (El.zmul d (El.zdiv u t)) b) (zs a (El.zmul c (El.zdiv u t)))) - cv z) (1 / 4194304) := by
 have lU : Lb (cv u) 156 := by rw [hU]; exact ((la.mul lz).add lb).mono (by grind)
 have lT : Lb (cv t) 156 := by rw [hT]; exact ((lc.mul lz).add ld).mono (by grind)
 obtain ⟨fw, h1⟩ := fdiv (c := 1) fu ft lU lT (by grind) (by grind) (by grind) (by grind) (by grind) (by grind)
 generalize El.zdiv u t = w at *
 have H2 := fun l : Lb (cv w) 157 => fmul (M := 1910) fd fw ld l (by grind) (by grind) (by grind)
 have H4 := fun l : Lb (cv w) 157 => fmul (M := 1910) fc fw lc l (by grind) (by grind) (by grind)
 have lW : Lb (cv w) 157 := (Lb.Lb.quot (c := 1) (by grind) (by grind) (((h1.add lU).cong (show cv t * cv w - cv u + cv u = cv t * cv w by grind)).mono (show _ ≤ (157 : Rat) by grind))).mono (by grind)
 have fp := (H2 lW).1
 have fq := (H4 lW).1
 generalize El.zmul d w = p at *
 generalize El.zmul c w = q at *
 have H3 := fun l : Lb (cv p) 1890 => fsub (M := 1910) fp fb l lb (by grind) (by grind) (by grind)
 have H5 := fun l : Lb (cv q) 1890 => fsub (M := 1910) fa fq la l (by grind) (by grind) (by grind)
 have lP : Lb (cv p) 1890 := ((((H2 lW).2.add (ld.mul lW)).cong (show cv p - cv d * cv w + cv d * cv w = cv p by grind)).mono (by grind))
 have lQ : Lb (cv q) 1890 := ((((H4 lW).2.add (lc.mul lW)).cong (show cv q - cv c * cv w + cv c * cv w = cv q by grind)).mono (by grind))
 have fm := (H3 lP).1
 have fg := (H5 lQ).1
 generalize zs p b = m at *
 generalize zs a q = g at *
 have H6 := fun (l : Lb (cv m) 1900) (k : Lb (cv g) 1900) (o : 1 ≤ 312 * 312 * Cx.N (cv g)) => fdiv (c := 312) fm fg l k (by grind) (by grind) (by grind) (by grind) (by grind) o
 obtain ⟨_, _, _, lM, lG, low, fin⟩ := back_lb (R := cv (El.zdiv m g)) la lb lc ld lz hU hT nT nd h1 (fun l => (H2 l).2) (fun l => (H3 l).2) (fun l => (H4 l).2) (fun l => (H5 l).2) (fun l k o => (H6 l k o).2)
 exact ⟨fw, lW, fq, fg, low, fp, fm, (H6 lM lG low).1, fin⟩
end Go.Proofs.YtfgfofedacehiaaGreat.Sv

/-
 OWN TEXT: Joukowski's map there and back: one of both places is within 2^-16 (no world).
-/
set_option linter.unusedVariables false
set_option exponentiation.threshold 3000
namespace Go.Proofs.YtfgfofedacehiaaGreat.Sv
open Lb (Lb)
theorem lb_root {x : Cx Rat} {m p : Rat} (h : Lb (x * x) m) (hp : 0 ≤ p) (hm : m ≤ p * p) : Lb x p := by
 refine ⟨hp, ?_⟩
 have k := h.2
 rw [Cx.N_mul] at k
 have := Lb.sq_le h.1 k
 grind
theorem four_mk : (4 : Cx Rat) = Cx.mk 4 0 := by apply Cx.ext' <;> rfl
theorem two_mk : (2 : Cx Rat) = Cx.mk 2 0 := by apply Cx.ext' <;> rfl
theorem two_lb : Lb (2 : Cx Rat) 2 := by
 rw [two_mk]
 refine ⟨by grind, ?_⟩
 show (2 : Rat) * 2 + 0 * 0 ≤ 2 * 2
 grind
theorem four_lb : Lb (4 : Cx Rat) 4 := by
 rw [four_mk]
 refine ⟨by grind, ?_⟩
 show (4 : Rat) * 4 + 0 * 0 ≤ 4 * 4
 grind
theorem lb_four {x : Cx Rat} {b : Rat} (h : Lb (4 * x) b) : Lb x (1 / 4 * b) := by
 rw [four_mk] at h
 refine Lb.Lb.quot (c := 1 / 4) (by grind) ?_ h
 show (1 : Rat) ≤ 1 / 4 * (1 / 4) * (4 * 4 + 0 * 0)
 grind
theorem half_mk (y : Cx Rat) : 2 * (Cx.mk (1 / 2) 0 * y) = y := by
 rw [two_mk]
 apply Cx.ext' <;> simp only [Cx.mul_re, Cx.mul_im] <;> grind
theorem half_lb {y : Cx Rat} {b : Rat} (h : Lb y b) : Lb (Cx.mk (1 / 2) 0 * y) b := by
 have k : Lb (Cx.mk (1 / 2 : Rat) 0) 1 := by
  refine ⟨by grind, ?_⟩
  show (1 / 2 : Rat) * (1 / 2) + 0 * 0 ≤ 1 * 1
  grind
 exact (k.mul h).mono (by grind)
/-- what is asked of the words on the way out, and what comes of it -/
theorem near_lb {A z K V f x y P R S Y b : Cx Rat} {s : Cx Rat} (la : Lb A 12) (lz : Lb z 12) (lk : Lb K 13) (h1 : Lb (z * K - A * A) (1 / 4398046511104 * 144)) (h2 : Lb (V - (z + K)) (1 / 1125899906842624 * 25)) (hf : Lb (f - 2 * A) (1 / 1125899906842624 * 24))
  (hx : Lb V 26 → Lb f 25 → Lb (x - (V - f)) (1 / 1125899906842624 * 51)) (hy : Lb V 26 → Lb f 25 → Lb (y - (V + f)) (1 / 1125899906842624 * 51)) (hP : Lb x 52 → Lb (P * P - x) (1 / 281474976710656 * 52)) (hR : Lb y 52 → Lb (R * R - y) (1 / 281474976710656 * 52))
  (hS : Lb P 8 → Lb R 8 → Lb (S - P * R) (1 / 281474976710656 * 64)) (hs : s = S ∨ s = -S) (hY : Lb V 26 → Lb s 65 → Lb (Y - (V + s)) (1 / 1125899906842624 * 91)) (hb : Lb Y 92 → Lb (b - Cx.mk (1 / 2) 0 * Y) (1 / 1125899906842624 * 184)) :
  Lb V 26 ∧ Lb f 25 ∧ Lb x 52 ∧ Lb y 52 ∧ Lb P 8 ∧ Lb R 8 ∧ Lb S 65 ∧ Lb Y 92 ∧ Lb b 93 ∧ Lb ((b - z) * (b - K)) (36366867497 / 590295810358705651712) := by
 have lV : Lb V 26 := ((h2.add (lz.add lk)).cong (show V - (z + K) + (z + K) = V by grind)).mono (by grind)
 have lf : Lb f 25 := ((hf.add (two_lb.mul la)).cong (show f - 2 * A + 2 * A = f by grind)).mono (by grind)
 have hx := hx lV lf
 have hy := hy lV lf
 have lx : Lb x 52 := ((hx.add (lV.sub lf)).cong (show x - (V - f) + (V - f) = x by grind)).mono (by grind)
 have ly : Lb y 52 := ((hy.add (lV.add lf)).cong (show y - (V + f) + (V + f) = y by grind)).mono (by grind)
 have hP := hP lx
 have hR := hR ly
 have lP : Lb P 8 := lb_root ((hP.add lx).cong (show P * P - x + x = P * P by grind)) (by grind) (by grind)
 have lR : Lb R 8 := lb_root ((hR.add ly).cong (show R * R - y + y = R * R by grind)) (by grind) (by grind)
 have hS := hS lP lR
 have lS : Lb S 65 := ((hS.add (lP.mul lR)).cong (show S - P * R + P * R = S by grind)).mono (by grind)
 have ls : Lb s 65 := by rcases hs with rfl | rfl; exact lS; exact lS.neg
 have ss : s * s = S * S := by rcases hs with rfl | rfl; rfl; grind
 have hY := hY lV ls
 have lY : Lb Y 92 := ((hY.add (lV.add ls)).cong (show Y - (V + s) + (V + s) = Y by grind)).mono (by grind)
 have hb := hb lY
 have lb : Lb b 93 := ((hb.add (half_lb lY)).cong (show b - Cx.mk (1 / 2) 0 * Y + Cx.mk (1 / 2) 0 * Y = b by grind)).mono (by grind)
 refine ⟨lV, lf, lx, ly, lP, lR, lS, lY, lb, ?_⟩
 -- S S, x y, V V - f f, V V - 4 A A
 have X1a : Lb (S * S - P * R * (P * R)) (34359738369 / 1180591620717411303424) := (((((lP.mul lR).mul hS).add ((lP.mul lR).mul hS)).add (hS.mul hS)).cong (show P * R * (S - P * R) + P * R * (S - P * R) + (S - P * R) * (S - P * R) = S * S - P * R * (P * R) by grind)).mono (by grind)
 have X1b : Lb (P * R * (P * R) - x * y) (22682796033 / 1180591620717411303424) := ((((lx.mul hR).add (hP.mul ly)).add (hP.mul hR)).cong (show x * (R * R - y) + (P * P - x) * y + (P * P - x) * (R * R - y) = P * R * (P * R) - x * y by grind)).mono (by grind)
 have X2 : Lb (x * y - (V * V - f * f)) (5454692353 / 1180591620717411303424) := (((((lV.sub lf).mul hy).add (hx.mul (lV.add lf))).add (hx.mul hy)).cong (show (V - f) * (y - (V + f)) + (x - (V - f)) * (V + f) + (x - (V - f)) * (y - (V + f)) = x * y - (V * V - f * f) by grind)).mono (by grind)
 have X3 : Lb (f * f - 4 * (A * A)) (1207959553 / 1180591620717411303424) := ((((two_lb.mul ((two_lb.mul la).mul hf)).add (hf.mul hf))).cong (show 2 * (2 * A * (f - 2 * A)) + (f - 2 * A) * (f - 2 * A) = f * f - 4 * (A * A) by grind)).mono (by grind)
 have hg : Lb (2 * b - V - s) (459 / 1125899906842624) := (((two_lb.mul hb).add hY).cong (show 2 * (b - Cx.mk (1 / 2) 0 * Y) + (Y - (V + s)) = 2 * b - V - s by have := half_mk Y; grind)).mono (by grind)
 have X4 : Lb ((2 * b - V) * (2 * b - V) - S * S) (62568529921 / 1180591620717411303424) := (((two_lb.mul (ls.mul hg)).add (hg.mul hg)).cong (show 2 * (s * (2 * b - V - s)) + (2 * b - V - s) * (2 * b - V - s) = (2 * b - V) * (2 * b - V) - S * S by rw [← ss]; grind)).mono (by grind)
 have F3 : Lb ((2 * b - V) * (2 * b - V) - (V * V - 4 * (A * A))) (126399989941 / 1180591620717411303424) := ((((X4.add X1a).add X1b).add X2).sub X3).cong (by grind) |>.mono (by grind)
 have T : Lb (4 * ((b - z) * (b - K))) (4 * (36366867497 / 590295810358705651712)) := (((F3.add (four_lb.mul (h2.mul lb))).add (four_lb.mul h1)).cong (show (2 * b - V) * (2 * b - V) - (V * V - 4 * (A * A)) + 4 * ((V - (z + K)) * b) + 4 * (z * K - A * A) = 4 * ((b - z) * (b - K)) by grind)).mono (by grind)
 exact (lb_four T).mono (by grind)
/-- what is asked of the words on the way out, and what comes of it -/
theorem far_lb {A z K V f x y P R S Y b : Cx Rat} {s : Cx Rat} (la : Lb A 12) (lz : Lb z 12) (lk : Lb K 145) (h1 : Lb (z * K - A * A) (1 / 4398046511104 * 144)) (h2 : Lb (V - (z + K)) (1 / 1125899906842624 * 157)) (hf : Lb (f - 2 * A) (1 / 1125899906842624 * 24))
  (hx : Lb V 158 → Lb f 25 → Lb (x - (V - f)) (1 / 1125899906842624 * 183)) (hy : Lb V 158 → Lb f 25 → Lb (y - (V + f)) (1 / 1125899906842624 * 183)) (hP : Lb x 184 → Lb (P * P - x) (1 / 281474976710656 * 184)) (hR : Lb y 184 → Lb (R * R - y) (1 / 281474976710656 * 184))
  (hS : Lb P 14 → Lb R 14 → Lb (S - P * R) (1 / 281474976710656 * 196)) (hs : s = S ∨ s = -S) (hY : Lb V 158 → Lb s 197 → Lb (Y - (V + s)) (1 / 1125899906842624 * 355)) (hb : Lb Y 356 → Lb (b - Cx.mk (1 / 2) 0 * Y) (1 / 1125899906842624 * 712)) :
  Lb V 158 ∧ Lb f 25 ∧ Lb x 184 ∧ Lb y 184 ∧ Lb P 14 ∧ Lb R 14 ∧ Lb S 197 ∧ Lb Y 356 ∧ Lb b 357 ∧ Lb ((b - z) * (b - K)) (56380715303 / 147573952589676412928) := by
 have lV : Lb V 158 := ((h2.add (lz.add lk)).cong (show V - (z + K) + (z + K) = V by grind)).mono (by grind)
 have lf : Lb f 25 := ((hf.add (two_lb.mul la)).cong (show f - 2 * A + 2 * A = f by grind)).mono (by grind)
 have hx := hx lV lf
 have hy := hy lV lf
 have lx : Lb x 184 := ((hx.add (lV.sub lf)).cong (show x - (V - f) + (V - f) = x by grind)).mono (by grind)
 have ly : Lb y 184 := ((hy.add (lV.add lf)).cong (show y - (V + f) + (V + f) = y by grind)).mono (by grind)
 have hP := hP lx
 have hR := hR ly
 have lP : Lb P 14 := lb_root ((hP.add lx).cong (show P * P - x + x = P * P by grind)) (by grind) (by grind)
 have lR : Lb R 14 := lb_root ((hR.add ly).cong (show R * R - y + y = R * R by grind)) (by grind) (by grind)
 have hS := hS lP lR
 have lS : Lb S 197 := ((hS.add (lP.mul lR)).cong (show S - P * R + P * R = S by grind)).mono (by grind)
 have ls : Lb s 197 := by rcases hs with rfl | rfl; exact lS; exact lS.neg
 have ss : s * s = S * S := by rcases hs with rfl | rfl; rfl; grind
 have hY := hY lV ls
 have lY : Lb Y 356 := ((hY.add (lV.add ls)).cong (show Y - (V + s) + (V + s) = Y by grind)).mono (by grind)
 have hb := hb lY
 have lb : Lb b 357 := ((hb.add (half_lb lY)).cong (show b - Cx.mk (1 / 2) 0 * Y + Cx.mk (1 / 2) 0 * Y = b by grind)).mono (by grind)
 refine ⟨lV, lf, lx, ly, lP, lR, lS, lY, lb, ?_⟩
 -- S S, x y, V V - f f, V V - 4 A A
 have X1a : Lb (S * S - P * R * (P * R)) (322256764929 / 1180591620717411303424) := (((((lP.mul lR).mul hS).add ((lP.mul lR).mul hS)).add (hS.mul hS)).cong (show P * R * (S - P * R) + P * R * (S - P * R) + (S - P * R) * (S - P * R) = S * S - P * R * (P * R) by grind)).mono (by grind)
 have X1b : Lb (P * R * (P * R) - x * y) (284004712449 / 1180591620717411303424) := ((((lx.mul hR).add (hP.mul ly)).add (hP.mul hR)).cong (show x * (R * R - y) + (P * P - x) * y + (P * P - x) * (R * R - y) = P * R * (P * R) - x * y by grind)).mono (by grind)
 have X2 : Lb (x * y - (V * V - f * f)) (70231523329 / 1180591620717411303424) := (((((lV.sub lf).mul hy).add (hx.mul (lV.add lf))).add (hx.mul hy)).cong (show (V - f) * (y - (V + f)) + (x - (V - f)) * (V + f) + (x - (V - f)) * (y - (V + f)) = x * y - (V * V - f * f) by grind)).mono (by grind)
 have X3 : Lb (f * f - 4 * (A * A)) (1207959553 / 1180591620717411303424) := ((((two_lb.mul ((two_lb.mul la).mul hf)).add (hf.mul hf))).cong (show 2 * (2 * A * (f - 2 * A)) + (f - 2 * A) * (f - 2 * A) = f * f - 4 * (A * A) by grind)).mono (by grind)
 have hg : Lb (2 * b - V - s) (1779 / 1125899906842624) := (((two_lb.mul hb).add hY).cong (show 2 * (b - Cx.mk (1 / 2) 0 * Y) + (Y - (V + s)) = 2 * b - V - s by have := half_mk Y; grind)).mono (by grind)
 have X4 : Lb ((2 * b - V) * (2 * b - V) - S * S) (734974181377 / 1180591620717411303424) := (((two_lb.mul (ls.mul hg)).add (hg.mul hg)).cong (show 2 * (s * (2 * b - V - s)) + (2 * b - V - s) * (2 * b - V - s) = (2 * b - V) * (2 * b - V) - S * S by rw [← ss]; grind)).mono (by grind)
 have F3 : Lb ((2 * b - V) * (2 * b - V) - (V * V - 4 * (A * A))) (707043908387 / 590295810358705651712) := ((((X4.add X1a).add X1b).add X2).sub X3).cong (by grind) |>.mono (by grind)
 have T : Lb (4 * ((b - z) * (b - K))) (4 * (56380715303 / 147573952589676412928)) := (((F3.add (four_lb.mul (h2.mul lb))).add (four_lb.mul h1)).cong (show (2 * b - V) * (2 * b - V) - (V * V - 4 * (A * A)) + 4 * ((V - (z + K)) * b) + 4 * (z * K - A * A) = 4 * ((b - z) * (b - K)) by grind)).mono (by grind)
 exact (lb_four T).mono (by grind)
theorem near_end {z K b : Cx Rat} (hk : Lb (K - z) (1 / 4398046511104 * 144)) (h : Lb ((b - z) * (b - K)) (1 / 8589934592)) : Lb (b - z) (1 / 65536) := by
 rcases Classical.em (Cx.N (b - z) ≤ 1 / 65536 * (1 / 65536)) with c | c
 · exact ⟨by grind, c⟩
 ·
  exfalso
  have c := Rat.not_le.1 c
  have k := h.2
  rw [Cx.N_mul] at k
  rcases Classical.em (Cx.N (b - K) ≤ 1 / 131072 * (1 / 131072)) with d | d
  ·
   have l : Lb (b - K) (1 / 131072) := ⟨by grind, d⟩
   have m := ((l.add hk).cong (show b - K + (K - z) = b - z by grind)).mono (show _ ≤ (1 / 65536 : Rat) by grind)
   have := m.2
   grind
  ·
   have d := Rat.not_le.1 d
   generalize Cx.N (b - z) = p at *
   generalize Cx.N (b - K) = q at *
   have m1 := Rat.mul_lt_mul_of_pos_right c (show 0 < q by grind)
   have m2 := Rat.mul_lt_mul_of_pos_left d (show (0 : Rat) < 1 / 65536 * (1 / 65536) by grind)
   grind
theorem far_split {z K b : Cx Rat} (hz : 1 ≤ 24 * 24 * Cx.N (z - K)) (h : Lb ((b - z) * (b - K)) (56380715303 / 147573952589676412928)) : Lb (b - z) (1 / 16777216) ∨ Lb (b - K) (50 * (56380715303 / 147573952589676412928)) := by
 rcases Classical.em (1 ≤ 50 * 50 * Cx.N (b - K)) with c | c
 ·
  left
  exact (Lb.Lb.quot (c := 50) (d := b - K) (by grind) c (h.cong (by grind))).mono (by grind)
 ·
  rcases Classical.em (1 ≤ 50 * 50 * Cx.N (b - z)) with d | d
  ·
   right
   exact Lb.Lb.quot (c := 50) (d := b - z) (by grind) d h
  ·
   exfalso
   have c := Rat.not_le.1 c
   have d := Rat.not_le.1 d
   have l1 : Lb (b - K) (1 / 50) := ⟨by grind, by grind⟩
   have l2 : Lb (b - z) (1 / 50) := ⟨by grind, by grind⟩
   have m := ((l1.sub l2).cong (show b - K - (b - z) = z - K by grind)).2
   grind
/-- what lies next to a number is not shorter by much -/
theorem low_near {K b : Cx Rat} {c d e : Rat} (hK : 1 ≤ c * c * Cx.N K) (h : Lb (b - K) e) (hd : 0 < d) (hc : 0 < c) (hs : c * (1 + d * e) < d) : 1 ≤ d * d * Cx.N b := by
 rcases Classical.em (1 ≤ d * d * Cx.N b) with q | q
 · exact q
 ·
  exfalso
  have q := Rat.not_le.1 q
  have i : 0 < d⁻¹ := Rat.inv_pos.2 hd
  have u : d * d⁻¹ = 1 := Rat.mul_inv_cancel d (by grind)
  have l1 : Lb b d⁻¹ := by
   refine ⟨Rat.le_of_lt i, ?_⟩
   have m := Rat.mul_le_mul_of_nonneg_left (Rat.le_of_lt q) (Rat.le_of_lt (Rat.mul_pos i i))
   have e1 : d⁻¹ * d⁻¹ * (d * d * Cx.N b) = (d * d⁻¹) * (d * d⁻¹) * Cx.N b := by grind
   rw [e1, u] at m
   grind
  have l2 := ((l1.sub h).cong (show b - (b - K) = K by grind))
  have m := l2.2
  have e2 := l2.1
  have m2 := Rat.mul_le_mul_of_nonneg_left m (Rat.le_of_lt (Rat.mul_pos hc hc))
  have s1 : c * (d⁻¹ + e) < 1 := by
   have m3 := Rat.mul_lt_mul_of_pos_right hs i
   have e3 : c * (1 + d * e) * d⁻¹ = c * (d⁻¹ + d * d⁻¹ * e) := by grind
   rw [e3, u] at m3
   grind
  have s2 := Lb.sq_mono (Rat.mul_nonneg (Rat.le_of_lt hc) e2) (Rat.le_of_lt s1)
  have s3 : c * (d⁻¹ + e) * (c * (d⁻¹ + e)) < 1 := by
   have m4 := Rat.mul_le_mul_of_nonneg_left (Rat.le_of_lt s1) (Rat.mul_nonneg (Rat.le_of_lt hc) e2)
   grind
  grind
theorem other_end {z K b c A : Cx Rat} (lz : Lb z 12) (hb : 1 ≤ 30 * 30 * Cx.N b) (h1 : Lb (z * K - A * A) (1 / 4398046511104 * 144)) (h5 : Lb (b * c - A * A) (1 / 4398046511104 * 144)) (hk : Lb (b - K) (50 * (56380715303 / 147573952589676412928))) : Lb (c - z) (1 / 65536) := by
 have k := ((h5.sub h1).sub (hk.mul lz)).cong (show b * c - A * A - (z * K - A * A) - (b - K) * z = b * (c - z) by grind)
 exact (Lb.Lb.quot (c := 30) (by grind) hb k).mono (by grind)
end Go.Proofs.YtfgfofedacehiaaGreat.Sv

/-
 OWN TEXT: Joukowski's map there and back, over words (no world).
-/
set_option linter.unusedVariables false
set_option exponentiation.threshold 3000
namespace Go.Proofs.YtfgfofedacehiaaGreat.Sv
open Lb (Lb)
theorem rr_half : Rt.rr 4602678819172646912 = 1 / 2 := by
 have a := Rt.rr_two
 have e : 4 * Fl.vl 4602678819172646912 = Fl.vl 4611686018427387904 := by decide +kernel
 unfold Rt.rr at a ⊢
 rw [← e, Rat.natCast_mul] at a
 have c : ((4 : Nat) : Rat) = 4 := rfl
 rw [c] at a
 grind
theorem rv_pos {x : Nat} (h : Fl.sg x = false) (k : Fl.rg x = x) : rv x = Rt.rr x := by rw [Rt.rv_rr, h, k]; rfl
theorem two_fi : Fi 4611686018427387904 ∧ rv 4611686018427387904 = 2 := ⟨⟨by decide, by decide⟩, by rw [rv_pos (by decide) (by decide)]; exact Rt.rr_two⟩
theorem half_fi : Fi 4602678819172646912 ∧ rv 4602678819172646912 = 1 / 2 := ⟨⟨by decide, by decide⟩, by rw [rv_pos (by decide) (by decide)]; exact rr_half⟩
theorem jou_all {a z q : El.Z} (fa : FZ a) (fz : FZ z) (fq : FZ q) (la : Lb (cv a) 12) (lz : Lb (cv z) 12) (hq : cv q = cv a * cv a) (na : 1 ≤ Cx.N (cv a)) (nz : 1 ≤ Cx.N (cv z)) (hza : cv z * cv z = cv a * cv a ∨ 1 ≤ Cx.N (cv z * cv z - cv a * cv a)) :
  FZ (El.zdiv q z) ∧ FZ (za z (El.zdiv q z)) ∧ Lb (cv (za z (El.zdiv q z))) 158 ∧ FZ (El.zscale a 4611686018427387904) ∧ ∀ v f, v = za z (El.zdiv q z) → f = El.zscale a 4611686018427387904 → FZ (zs v f) ∧ FZ (za v f) ∧ ∀ P R : El.Z, rooR (zs v f).1 (zs v f).2 P.1 P.2 → rooR (za v f).1 (za v f).2 R.1 R.2 →
   FZ P ∧ FZ R ∧ FZ (El.zmul P R) ∧ Lb (cv (El.zmul P R)) 197 ∧ ∀ s, (s = El.zmul P R ∨ s = zn (El.zmul P R)) → FZ s ∧ FZ (za v s) ∧ ∀ b, b = El.zscale (za v s) 4602678819172646912 → FZ b ∧ Lb (cv b) 357 ∧ FZ (El.zdiv q b) ∧ Lb (cv (El.zdiv q b)) 4350 ∧ (Lb (cv b - cv z) (1 / 65536) ∨ Lb (cv (El.zdiv q b) - cv z) (1 / 65536)) := by
 have lq : Lb (cv q) 144 := by rw [hq]; exact (la.mul la).mono (by grind)
 obtain ⟨fk, h1⟩ := fdiv (c := 1) fq fz lq lz (by grind) (by grind) (by grind) (by grind) (by grind) (by grind)
 rw [hq] at h1
 have lk : Lb (cv (El.zdiv q z)) 145 := (Lb.Lb.quot (c := 1) (by grind) (by grind) (((h1.add (la.mul la)).cong (show cv z * cv (El.zdiv q z) - cv a * cv a + cv a * cv a = cv z * cv (El.zdiv q z) by grind)).mono (show _ ≤ (145 : Rat) by grind))).mono (by grind)
 generalize El.zdiv q z = k at *
 obtain ⟨fv, h2⟩ := fadd (M := 157) fz fk lz lk (by grind) (by grind) (by grind)
 have lV : Lb (cv (za z k)) 158 := ((h2.add (lz.add lk)).cong (show cv (za z k) - (cv z + cv k) + (cv z + cv k) = cv (za z k) by grind)).mono (by grind)
 obtain ⟨ff, hf0⟩ := fscale (M := 24) fa two_fi.1 two_fi.2 (by unfold Ab; grind) la (by grind) (by grind) (by grind)
 refine ⟨fk, fv, lV, ff, ?_⟩
 rintro v f ev ef
 rw [← ev] at fv h2 lV
 rw [← ef] at ff hf0
 have hf : Lb (cv f - 2 * cv a) (1 / 1125899906842624 * 24) := by rw [two_mk]; exact hf0
 have lF : Lb (cv f) 25 := ((hf.add (two_lb.mul la)).cong (show cv f - 2 * cv a + 2 * cv a = cv f by grind)).mono (by grind)
 obtain ⟨fx, hx⟩ := fsub (M := 183) fv ff lV lF (by grind) (by grind) (by grind)
 obtain ⟨fy, hy⟩ := fadd (M := 183) fv ff lV lF (by grind) (by grind) (by grind)
 have lX : Lb (cv (zs v f)) 184 := ((hx.add (lV.sub lF)).cong (show cv (zs v f) - (cv v - cv f) + (cv v - cv f) = cv (zs v f) by grind)).mono (by grind)
 have lY0 : Lb (cv (za v f)) 184 := ((hy.add (lV.add lF)).cong (show cv (za v f) - (cv v + cv f) + (cv v + cv f) = cv (za v f) by grind)).mono (by grind)
 refine ⟨fx, fy, fun P R rx ry => ?_⟩
 obtain ⟨fP, hP⟩ := froot fx.1 fx.2 lX rx
 obtain ⟨fR, hR⟩ := froot fy.1 fy.2 lY0 ry
 have lP : Lb (cv P) 14 := lb_root ((hP.add lX).cong (show cv P * cv P - cv (zs v f) + cv (zs v f) = cv P * cv P by grind)) (by grind) (by grind)
 have lR : Lb (cv R) 14 := lb_root ((hR.add lY0).cong (show cv R * cv R - cv (za v f) + cv (za v f) = cv R * cv R by grind)) (by grind) (by grind)
 obtain ⟨fS, hS⟩ := fmul (M := 196) fP fR lP lR (by grind) (by grind) (by grind)
 have lS : Lb (cv (El.zmul P R)) 197 := ((hS.add (lP.mul lR)).cong (show cv (El.zmul P R) - cv P * cv R + cv P * cv R = cv (El.zmul P R) by grind)).mono (by grind)
 refine ⟨fP, fR, fS, lS, fun s hs => ?_⟩
 obtain ⟨fn, en⟩ := fneg fS
 have fs : FZ s := by rcases hs with rfl | rfl; exact fS; exact fn
 have hs' : cv s = cv (El.zmul P R) ∨ cv s = -cv (El.zmul P R) := by
  rcases hs with e | e
  · left; rw [e]
  · right; rw [e, en]
 have ls : Lb (cv s) 197 := by rcases hs' with e | e <;> rw [e]; exact lS; exact lS.neg
 obtain ⟨fY, hY⟩ := fadd (M := 355) fv fs lV ls (by grind) (by grind) (by grind)
 have lY : Lb (cv (za v s)) 356 := ((hY.add (lV.add ls)).cong (show cv (za v s) - (cv v + cv s) + (cv v + cv s) = cv (za v s) by grind)).mono (by grind)
 obtain ⟨fb, hb⟩ := fscale (M := 712) fY half_fi.1 half_fi.2 (by unfold Ab; grind) lY (by grind) (by grind) (by grind)
 refine ⟨fs, fY, ?_⟩
 rintro b eb
 have nA : 1 ≤ Cx.N (cv a * cv a) := by
  rw [Cx.N_mul]
  have := Lb.sq_mono (show (0 : Rat) ≤ 1 by grind) na
  grind
 have FAR := far_lb la lz lk h1 (ev ▸ h2) hf (fun l m => (fsub (M := 183) fv ff l m (by grind) (by grind) (by grind)).2) (fun l m => (fadd (M := 183) fv ff l m (by grind) (by grind) (by grind)).2) (fun l => (froot fx.1 fx.2 l rx).2) (fun l => (froot fy.1 fy.2 l ry).2) (fun l m => (fmul (M := 196) fP fR l m (by grind) (by grind) (by grind)).2) hs' (fun l m => (fadd (M := 355) fv fs l m (by grind) (by grind) (by grind)).2) (fun l => (fscale (M := 712) fY half_fi.1 half_fi.2 (by unfold Ab; grind) l (by grind) (by grind) (by grind)).2)
 have zk := Lb.low_add nA h1 (by grind)
 rw [show cv a * cv a + (cv z * cv k - cv a * cv a) = cv z * cv k by grind] at zk
 have nk := Lb.low_mul lz zk
 have BOTH : (Lb (cv (El.zscale (za v s) 4602678819172646912) - cv z) (1 / 65536)) ∨ Lb (cv (El.zscale (za v s) 4602678819172646912) - cv k) (50 * (56380715303 / 147573952589676412928)) := by
  rcases hza with e | e
  ·
   left
   have hk0 : Lb (cv k - cv z) (1 / 4398046511104 * 144) := (Lb.Lb.quot (c := 1) (d := cv z) (by grind) (by grind) (h1.cong (show cv z * cv k - cv a * cv a = cv z * (cv k - cv z) by rw [← e]; grind))).mono (by grind)
   have lk : Lb (cv k) 13 := ((hk0.add lz).cong (show cv k - cv z + cv z = cv k by grind)).mono (by grind)
   have NEAR := near_lb la lz lk h1 (by rw [ev]; exact ((fadd (M := 25) fz fk lz lk (by grind) (by grind) (by grind)).2)) hf (fun l m => (fsub (M := 51) fv ff l m (by grind) (by grind) (by grind)).2) (fun l m => (fadd (M := 51) fv ff l m (by grind) (by grind) (by grind)).2) (fun l => (froot fx.1 fx.2 l rx).2) (fun l => (froot fy.1 fy.2 l ry).2) (fun l m => (fmul (M := 64) fP fR l m (by grind) (by grind) (by grind)).2) hs' (fun l m => (fadd (M := 91) fv fs l m (by grind) (by grind) (by grind)).2) (fun l => (fscale (M := 184) fY half_fi.1 half_fi.2 (by unfold Ab; grind) l (by grind) (by grind) (by grind)).2)
   exact near_end hk0 (NEAR.2.2.2.2.2.2.2.2.2.mono (by grind))
  ·
   have d := Lb.low_add e h1.neg (by grind)
   rw [show cv z * cv z - cv a * cv a + -(cv z * cv k - cv a * cv a) = cv z * (cv z - cv k) by grind] at d
   have d2 := Lb.low_mul lz d
   rcases far_split (by grind) FAR.2.2.2.2.2.2.2.2.2 with l | l
   · left; exact l.mono (by grind)
   · right; exact l
 rw [← eb] at BOTH fb
 have lb : Lb (cv b) 357 := by rw [eb]; exact FAR.2.2.2.2.2.2.2.2.1
 have low : 1 ≤ 30 * 30 * Cx.N (cv b) := by
  rcases BOTH with l | l
  · exact low_near (c := 1) (K := cv z) (by grind) l (by grind) (by grind) (by grind)
  · exact low_near (c := 24) (K := cv k) (by grind) l (by grind) (by grind) (by grind)
 obtain ⟨fc, h5⟩ := fdiv (c := 30) fq fb lq lb (by grind) (by grind) (by grind) (by grind) (by grind) low
 rw [hq] at h5
 have lc : Lb (cv (El.zdiv q b)) 4350 := (Lb.Lb.quot (c := 30) (d := cv b) (by grind) low (((h5.add (la.mul la)).cong (show cv b * cv (El.zdiv q b) - cv a * cv a + cv a * cv a = cv b * cv (El.zdiv q b) by grind)).mono (show _ ≤ (145 : Rat) by grind))).mono (by grind)
 refine ⟨fb, lb, fc, lc, ?_⟩
 rcases BOTH with l | l
 · exact Or.inl l
 · exact Or.inr (other_end lz low h1 h5 l)
end Go.Proofs.YtfgfofedacehiaaGreat.Sv

/-
 OWN TEXT: what package parts and package roots answer where all is finite: the words.
-/
namespace Go.Proofs.YtfgfofedacehiaaGreat
open Go.ChangeShapes Go.WideShapes Go.ChangeAt Go.RowKit
set_option linter.unusedVariables false
set_option linter.unusedSimpArgs false
attribute [local go_sem] frombits_call tobits_call run_neg
namespace Sv
theorem Fi.nan0 {x : Nat} (h : Fi x) : Fl.nan x = false := by unfold Fl.nan; exact decide_eq_false (by have := h.2; omega)
theorem FZ.c2 {a : El.Z} (h : FZ a) : El.c2 a.1 a.2 = a := El.c2_num h.1.nan0 h.2.nan0
theorem opR_fin {o : BinOp} (ho : isOp o) {a b x : Nat} (fa : Fl.nan a = false) (fb : Fl.nan b = false) (h : opR o a b x) (f : Fi (op o a b)) : x = op o a b := by
 have e := op_of ho h
 rw [c_num fa, c_num fb] at e
 have n : Fl.nan x = false := by rw [← nan_c, e]; exact f.nan0
 rw [c_num n] at e
 exact e
/-- words of one row that are numbers -/
theorem c2_fin {x y : Nat} {z : El.Z} (f : FZ z) (e : El.c2 x y = z) : x = z.1 ∧ y = z.2 := by
 have e1 : Fl.bitsF x = z.1 := congrArg Prod.fst e
 have e2 : Fl.bitsF y = z.2 := congrArg Prod.snd e
 have n1 : Fl.nan x = false := by rw [← nan_c, e1]; exact f.1.nan0
 have n2 : Fl.nan y = false := by rw [← nan_c, e2]; exact f.2.nan0
 rw [c_num n1] at e1
 rw [c_num n2] at e2
 exact ⟨e1, e2⟩
theorem rg_ab {x : Nat} (h : Fi x) : Fi (Fl.rg x) ∧ rv (Fl.rg x) = ab (rv x) := by
 have e : Fl.rg (Fl.rg x) = Fl.rg x := Fl.rg_rg x
 refine ⟨⟨by have := h.2; omega, by rw [e]; exact h.2⟩, ?_⟩
 have k := rv_abs (Fl.rg x)
 rw [e, ← rv_abs x] at k
 have s : Fl.sg (Fl.rg x) = false := by unfold Fl.sg; exact decide_eq_false (by have := h.2; omega)
 have p : 0 ≤ rv (Fl.rg x) := by
  unfold rv
  have : Fl.val (Fl.rg x) = (Fl.vl (Fl.rg (Fl.rg x)) : Int) := by unfold Fl.val; rw [s]; rfl
  rw [this, Rat.intCast_natCast]
  exact Rat.mul_nonneg Rat.natCast_nonneg (Rat.le_of_lt en_pos)
 unfold ab at k ⊢
 rw [if_pos p] at k
 exact k
theorem rg_small {t m : Nat} (hm : Fl.sg m = false) (hr : Fl.rg m = m) (h : ab (rv t) < rv m) : Fl.rg t < m := by
 rcases Nat.lt_or_ge (Fl.rg t) m with c | c
 · exact c
 ·
  exfalso
  have k : Fl.vl m ≤ Fl.vl (Fl.rg t) := by
   rcases Nat.lt_or_eq_of_le c with d | d
   · exact Nat.le_of_lt (Fl.vl_mono d)
   · rw [d]; exact Nat.le_refl _
  rw [rv_abs] at h
  have e : rv m = ((Fl.vl m : Nat) : Rat) * en := by
   unfold rv
   have : Fl.val m = (Fl.vl (Fl.rg m) : Int) := by unfold Fl.val; rw [hm]; rfl
   rw [this, hr, Rat.intCast_natCast]
  rw [e] at h
  have := Rat.mul_le_mul_of_nonneg_right (Rat.natCast_le_natCast.2 k) (Rat.le_of_lt en_pos)
  grind
theorem near_gen {a b : El.Z} {m : Nat} {d : Rat} {r : Bool} (fa : FZ a) (fb : FZ b) (h : Lb.Lb (cv a - cv b) d) (d0 : 1 ≤ 1099511627776 * d) (d1 : d ≤ 1) (hm : Fl.sg m = false) (hr : Fl.rg m = m) (hn : m < 9218868437227405312) (hd : 4 * d ≤ rv m) (k : neaR a.1 a.2 b.1 b.2 m r) : r = true := by
 obtain ⟨x, y, l, hx, hy, hl, rfl⟩ := k
 have es := en_small
 have ep := en_pos
 have s1 : Ab (rv a.1 - rv b.1) d := h.re
 have s2 : Ab (rv a.2 - rv b.2) d := h.im
 have f1 := sub_fi fa.1 fb.1 s1 (by grind)
 have f2 := sub_fi fa.2 fb.2 s2 (by grind)
 have e1 := sub_err fa.1 fb.1 f1 s1
 have e2 := sub_err fa.2 fb.2 f2 s2
 have ex := opR_fin isSub fa.1.nan0 fb.1.nan0 hx f1
 have ey := opR_fin isSub fa.2.nan0 fb.2.nan0 hy f2
 rw [← ex] at f1 e1
 rw [← ey] at f2 e2
 have p1 : Ab (rv x) (5 / 4 * d) := ((e1.add s1).cong (by grind)).mono (by grind)
 have p2 : Ab (rv y) (5 / 4 * d) := ((e2.add s2).cong (by grind)).mono (by grind)
 obtain ⟨g1, v1⟩ := rg_ab f1
 obtain ⟨g2, v2⟩ := rg_ab f2
 have q1 := ab_le p1
 have q2 := ab_le p2
 have n1 := ab_nn (rv x)
 have n2 := ab_nn (rv y)
 have s3 : Ab (rv (Fl.rg x) + rv (Fl.rg y)) (5 / 2 * d) := by rw [v1, v2]; unfold Ab; constructor <;> grind
 have f3 := add_fi g1 g2 s3 (by grind)
 have e3 := add_err g1 g2 f3 s3
 have p3 : Ab (rv (op .add (Fl.rg x) (Fl.rg y))) (7 / 2 * d) := ((e3.add s3).cong (by grind)).mono (by grind)
 obtain ⟨z1, z2, z3, z4⟩ := len_bounds hl f1.nan0 f2.nan0
 have e := Fl.add_fin (x := Fl.rg x) (y := Fl.rg y) (by rw [Fl.rg_rg]; exact f1.2) (by rw [Fl.rg_rg]; exact f2.2)
 obtain ⟨o, _⟩ := run_some (op := .add) e
 have eo := opR_fin isAdd g1.nan0 g2.nan0 o f3
 rw [eo] at o
 obtain ⟨t1, t2, t3⟩ := z4 _ o
 have hlt := rg_small (t := op .add (Fl.rg x) (Fl.rg y)) hm hr (by have := ab_le p3; grind)
 have nl : Fl.nan l = false := by unfold Fl.nan; exact decide_eq_false (by omega)
 rw [Fl.leF_of nl (by unfold Fl.nan; exact decide_eq_false (by omega))]
 unfold Fl.key
 rw [z1, hm, hr]
 simp only [Bool.false_eq_true, if_false]
 exact decide_eq_true (by omega)
theorem place_fin {x : Nat} (f : Fi x) (h : Ab (rv x) 1048576) : Fl.withinB x 4787326403894837248 = true := by
 have k := rg_small (t := x) (m := 4787326403894837248) (by decide) (by decide) (by
  have e : rv 4787326403894837248 = 1099511627776 := by
   have a := Rt.rr_two
   have e : 549755813888 * Fl.vl 4611686018427387904 = Fl.vl 4787326403894837248 := by decide +kernel
   rw [rv_pos (by decide) (by decide)]
   unfold Rt.rr at a ⊢
   rw [← e, Rat.natCast_mul]
   have c : ((549755813888 : Nat) : Rat) = 549755813888 := rfl
   rw [c]
   grind
  rw [e]
  have := ab_le h
  grind)
 unfold Fl.withinB
 rw [f.nan0, show Fl.nan 4787326403894837248 = false by decide, show Fl.key 4787326403894837248 = 4787326403894837248 by decide]
 simp only [Bool.not_false, Bool.true_and]
 exact decide_eq_true (by omega)
theorem nought_fin {a : El.Z} {c : Rat} (f : FZ a) (h : 1 ≤ c * c * Cx.N (cv a)) : (Fl.eqF a.1 0 && Fl.eqF a.2 0) = false := by
 have z : ∀ {x : Nat}, Fi x → Fl.eqF x 0 = true → rv x = 0 := by
  intro x hx hq
  unfold Fl.eqF at hq
  simp only [Bool.and_eq_true, decide_eq_true_eq] at hq
  have k := hq.2
  have k0 : Fl.key 0 = 0 := by decide
  rw [k0] at k
  have r0 : Fl.rg x = 0 := by
   unfold Fl.key at k
   split at k <;> omega
  have := rv_abs x
  rw [r0, show Fl.vl 0 = 0 by decide] at this
  have c0 : ((0 : Nat) : Rat) = 0 := rfl
  have a1 := ab_ab (rv x)
  rw [this, c0] at a1
  unfold Ab at a1
  grind
 cases h1 : Fl.eqF a.1 0 with
 | false => rfl
 | true =>
  cases h2 : Fl.eqF a.2 0 with
  | false => rfl
  | true =>
   exfalso
   have v1 := z f.1 h1
   have v2 := z f.2 h2
   have e : Cx.N (cv a) = rv a.1 * rv a.1 + rv a.2 * rv a.2 := rfl
   rw [e, v1, v2] at h
   grind
end Sv
open Sv (FZ cv Fi)
theorem padd_any (a b c d : Nat) (w : World) : Calls Tryz.prog 58 #[.complex .f64 a b, .complex .f64 c d] w fun e w' => ∃ x y, e = .returned (.complex .f64 x y) ∧ opR .add a c x ∧ opR .add b d y ∧ Bw w w' := by
 obtain ⟨x, w1, hx, e1, b1⟩ := op_run .add isAdd a c w
 obtain ⟨y, w2, hy, e2, b2⟩ := op_run .add isAdd b d w1
 have B := bw_trans b1 b2
 have HX : Hid (opR .add a c x) := hx
 have HY : Hid (opR .add b d y) := hy
 have k := csum_run (Or.inl rfl) e1 e2
 clear hx hy b1 b2 e1 e2
 go_enter Tryz.func58, Tryz.ntmps58
 go_wp2
 go_ret
 exact ⟨x, y, rfl, HX.out, HY.out, B⟩
theorem paddF {a b : El.Z} (fa : FZ a) (fb : FZ b) (f : FZ (Sv.za a b)) (w : World) : Calls Tryz.prog 58 #[.complex .f64 a.1 a.2, .complex .f64 b.1 b.2] w fun e w' => e = .returned (.complex .f64 (Sv.za a b).1 (Sv.za a b).2) ∧ Bw w w' :=
 (padd_any _ _ _ _ w).mono (by
  rintro e w' ⟨x, y, rfl, h1, h2, bb⟩
  rw [Sv.opR_fin isAdd fa.1.nan0 fb.1.nan0 h1 f.1, Sv.opR_fin isAdd fa.2.nan0 fb.2.nan0 h2 f.2]
  exact ⟨rfl, bb⟩)
theorem psubF {a b : El.Z} (fa : FZ a) (fb : FZ b) (f : FZ (Sv.zs a b)) (w : World) : Calls Tryz.prog 18 #[.complex .f64 a.1 a.2, .complex .f64 b.1 b.2] w fun e w' => e = .returned (.complex .f64 (Sv.zs a b).1 (Sv.zs a b).2) ∧ Bw w w' :=
 (psub_any _ _ _ _ w).mono (by
  rintro e w' ⟨x, y, rfl, h1, h2, bb⟩
  rw [Sv.opR_fin isSub fa.1.nan0 fb.1.nan0 h1 f.1, Sv.opR_fin isSub fa.2.nan0 fb.2.nan0 h2 f.2]
  exact ⟨rfl, bb⟩)
theorem pmulF {a b : El.Z} (fa : FZ a) (fb : FZ b) (f : FZ (El.zmul a b)) (w : World) : Calls Tryz.prog 19 #[.complex .f64 a.1 a.2, .complex .f64 b.1 b.2] w fun e w' => e = .returned (.complex .f64 (El.zmul a b).1 (El.zmul a b).2) ∧ Bw w w' :=
 (zmul_any _ _ _ _ w).mono (by
  rintro e w' ⟨x, y, rfl, h, _, _, bb⟩
  rw [fa.c2, fb.c2] at h
  obtain ⟨rfl, rfl⟩ := Sv.c2_fin f h
  exact ⟨rfl, bb⟩)
theorem pdivF {a b : El.Z} (fa : FZ a) (fb : FZ b) (f : FZ (El.zdiv a b)) (w : World) : Calls Tryz.prog 41 #[.complex .f64 a.1 a.2, .complex .f64 b.1 b.2] w fun e w' => e = .returned (.complex .f64 (El.zdiv a b).1 (El.zdiv a b).2) ∧ Bw w w' :=
 (zdiv_any _ _ _ _ w fb.1.1 fb.2.1).mono (by
  rintro e w' ⟨x, y, rfl, h, _, _, bb⟩
  rw [fa.c2, fb.c2] at h
  obtain ⟨rfl, rfl⟩ := Sv.c2_fin f h
  exact ⟨rfl, bb⟩)
theorem pscaleF {a : El.Z} {s : Nat} (fa : FZ a) (fs : Fi s) (f : FZ (El.zscale a s)) (w : World) : Calls Tryz.prog 92 #[.complex .f64 a.1 a.2, .float .f64 s] w fun e w' => e = .returned (.complex .f64 (El.zscale a s).1 (El.zscale a s).2) ∧ Bw w w' :=
 (zscale_any _ _ _ w).mono (by
  rintro e w' ⟨x, y, rfl, h, _, _, bb⟩
  rw [fa.c2, Sv.c_num fs.nan0] at h
  obtain ⟨rfl, rfl⟩ := Sv.c2_fin f h
  exact ⟨rfl, bb⟩)
theorem pnegF {a : El.Z} (fa : FZ a) (w : World) : Calls Tryz.prog 33 #[.complex .f64 a.1 a.2] w fun e w' => e = .returned (.complex .f64 (Sv.zn a).1 (Sv.zn a).2) ∧ Bw w w' :=
 (neg2_any _ _ w fa.1.1 fa.2.1).mono (by
  rintro e w' ⟨rfl, rfl⟩
  exact ⟨rfl, Bw.refl _⟩)
theorem isplaceF {a : El.Z} {b : Rat} (fa : FZ a) (h : Lb.Lb (cv a) b) (hb : b ≤ 1048576) (w : World) : Calls Tryz.prog 27 #[.complex .f64 a.1 a.2] w fun e w' => e = .returned (.bool true) ∧ w' = w := by
 have A1 : Hid (∀ wz, Calls Tryz.prog 78 #[.float .f64 a.1, .float .f64 4787326403894837248] wz fun e w' => e = .returned (.bool true) ∧ w' = wz) := fun wz => by have q := within_any a.1 4787326403894837248 wz fa.1.1; rw [Sv.place_fin fa.1 (h.re.mono hb)] at q; exact q
 have A2 : Hid (∀ wz, Calls Tryz.prog 78 #[.float .f64 a.2, .float .f64 4787326403894837248] wz fun e w' => e = .returned (.bool true) ∧ w' = wz) := fun wz => by have q := within_any a.2 4787326403894837248 wz fa.2.1; rw [Sv.place_fin fa.2 (h.im.mono hb)] at q; exact q
 obtain ⟨x, y⟩ := a
 clear h fa
 have P : Hid (∀ wz, Calls Tryz.prog 44 #[.complex .f64 x y, .float .f64 4787326403894837248] wz fun e w' => e = .returned (.bool true) ∧ w' = wz) := by
  intro wz
  go_enter Tryz.func44, Tryz.ntmps44
  go_wp2_with fail
  refine (A1.out _).mono ?_
  rintro e' w ⟨rfl, rfl⟩
  go_wp2_with fail
  refine (A2.out _).mono ?_
  rintro e' w ⟨rfl, rfl⟩
  go_wp2
  go_ret
  exact ⟨rfl, rfl⟩
 clear A1 A2
 go_enter Tryz.func27, Tryz.ntmps27
 go_wp2_with fail
 refine (P.out _).mono ?_
 rintro e' w ⟨rfl, rfl⟩
 go_wp2
 go_ret
 exact ⟨rfl, rfl⟩
theorem isnoughtF {a : El.Z} {c : Rat} (fa : FZ a) (h : 1 ≤ c * c * Cx.N (cv a)) (w : World) : Calls Tryz.prog 40 #[.complex .f64 a.1 a.2] w fun e w' => e = .returned (.bool false) ∧ w' = w := by
 have q := nought18 a.1 a.2 w
 rw [Sv.nought_fin fa h] at q
 exact q
theorem finiteF {a : El.Z} (fa : FZ a) (w : World) : Calls Tryz.prog 26 #[.complex .f64 a.1 a.2] w fun e w' => e = .returned (.bool true) ∧ w' = w := by
 have k := pfinite_any a.1 a.2 w fa.1.1 fa.2.1
 have e1 : Fl.finB a.1 = true := by unfold Fl.finB; exact decide_eq_true fa.1.2
 have e2 : Fl.finB a.2 = true := by unfold Fl.finB; exact decide_eq_true fa.2.2
 rw [e1, e2] at k
 exact k
theorem nearF {a b : El.Z} {m : Nat} {d : Rat} (fa : FZ a) (fb : FZ b) (h : Lb.Lb (cv a - cv b) d) (d0 : 1 ≤ 1099511627776 * d) (d1 : d ≤ 1) (hm : Fl.sg m = false) (hr : Fl.rg m = m) (hn : m < 9218868437227405312) (hd : 4 * d ≤ Sv.rv m) (w : World) : Calls Tryz.prog 13 #[.complex .f64 a.1 a.2, .complex .f64 b.1 b.2, .float .f64 m] w fun e w' => e = .returned (.bool true) ∧ Bw w w' :=
 (near_any6 _ _ _ _ m w fa.1.1 fa.2.1 fb.1.1 fb.2.1).mono (by
  rintro e w' ⟨r, rfl, hn2, bb⟩
  have q := Sv.near_gen fa fb h d0 d1 hm hr hn hd hn2
  subst q
  exact ⟨rfl, bb⟩)
end Go.Proofs.YtfgfofedacehiaaGreat

