/-
 OWN TEXT: lengths of complex numbers over Lean's Rat; a quotient by parts of any floats (no world).
-/
import Derived.Test.YtfgfofedacehiaaGreatJElBToFfV
import Derived.Test.YtfgfofedacehiaaGreatJPyAToChA
set_option linter.unusedVariables false
set_option exponentiation.threshold 3000
namespace Go.Proofs.YtfgfofedacehiaaGreat.Lb
open Sv (Ab ab ab_ab ab_nn ab_sq sq_nn)
theorem sq_le {a b : Rat} (hb : 0 ≤ b) (h : a * a ≤ b * b) : a ≤ b := by
 rcases Classical.em (a ≤ b) with c | c
 · exact c
 ·
  exfalso
  have c := Rat.not_le.1 c
  have ha : 0 < a := by grind
  have k1 := Rat.mul_lt_mul_of_pos_right c ha
  have k2 := Rat.mul_le_mul_of_nonneg_left (Rat.le_of_lt c) hb
  have : b * a = a * b := by grind
  grind
theorem sq_mono {a b : Rat} (ha : 0 ≤ a) (h : a ≤ b) : a * a ≤ b * b := by
 have k1 := Rat.mul_le_mul_of_nonneg_left h ha
 have k2 := Rat.mul_le_mul_of_nonneg_right h (show 0 ≤ b by grind)
 grind
/-- the length is at most b -/
def Lb (x : Cx Rat) (b : Rat) : Prop := 0 ≤ b ∧ Cx.N x ≤ b * b
theorem N_nn (x : Cx Rat) : 0 ≤ Cx.N x := by
 unfold Cx.N
 have := sq_nn x.re
 have := sq_nn x.im
 grind
theorem Lb.mono {x : Cx Rat} {a b : Rat} (h : Lb x a) (k : a ≤ b) : Lb x b := ⟨by have := h.1; grind, by have := h.2; have := sq_mono h.1 k; grind⟩
theorem Lb.cong {x y : Cx Rat} {a : Rat} (h : Lb x a) (k : x = y) : Lb y a := k ▸ h
theorem Lb.re {x : Cx Rat} {b : Rat} (h : Lb x b) : Ab x.re b := by
 have k := h.2
 unfold Cx.N at k
 have h1 := sq_nn x.im
 have s := ab_sq x.re
 have := ab_nn x.re
 have z := sq_le h.1 (show ab x.re * ab x.re ≤ b * b by grind)
 have := ab_ab x.re
 unfold Ab at *
 constructor <;> grind
theorem Lb.im {x : Cx Rat} {b : Rat} (h : Lb x b) : Ab x.im b := by
 have k := h.2
 unfold Cx.N at k
 have h1 := sq_nn x.re
 have s := ab_sq x.im
 have := ab_nn x.im
 have z := sq_le h.1 (show ab x.im * ab x.im ≤ b * b by grind)
 have := ab_ab x.im
 unfold Ab at *
 constructor <;> grind
theorem sq_ab {x b : Rat} (h : Ab x b) : x * x ≤ b * b := by
 have h1 := Sv.ab_le h
 have := sq_mono (ab_nn x) h1
 rw [ab_sq] at this
 exact this
theorem Lb.of {x : Cx Rat} {b : Rat} (h : Ab x.re b) (k : Ab x.im b) : Lb x (3 / 2 * b) := by
 have hb := h.nn
 have s1 := sq_ab h
 have s2 := sq_ab k
 have := Rat.mul_nonneg hb hb
 refine ⟨by grind, ?_⟩
 unfold Cx.N
 grind
theorem Lb.neg {x : Cx Rat} {b : Rat} (h : Lb x b) : Lb (-x) b := by
 refine ⟨h.1, ?_⟩
 have k := h.2
 unfold Cx.N at *
 simp only [Cx.neg_re, Cx.neg_im]
 grind
theorem Lb.mul {x y : Cx Rat} {a b : Rat} (h : Lb x a) (k : Lb y b) : Lb (x * y) (a * b) := by
 refine ⟨Rat.mul_nonneg h.1 k.1, ?_⟩
 rw [Cx.N_mul]
 have k1 := Rat.mul_le_mul_of_nonneg_right h.2 (N_nn y)
 have k2 := Rat.mul_le_mul_of_nonneg_left k.2 (Rat.mul_nonneg h.1 h.1)
 grind
theorem Lb.add {x y : Cx Rat} {a b : Rat} (h : Lb x a) (k : Lb y b) : Lb (x + y) (a + b) := by
 have ha := h.1
 have hb := k.1
 have hab := Rat.mul_nonneg ha hb
 refine ⟨by grind, ?_⟩
 have hx := h.2
 have hy := k.2
 have nx := N_nn x
 have ny := N_nn y
 have m1 := Rat.mul_le_mul_of_nonneg_right hx ny
 have m2 := Rat.mul_le_mul_of_nonneg_left hy (Rat.mul_nonneg ha ha)
 have c := sq_nn (x.re * y.im - x.im * y.re)
 have d : (x.re * y.re + x.im * y.im) * (x.re * y.re + x.im * y.im) ≤ a * b * (a * b) := by
  unfold Cx.N at *
  generalize x.re = p at *
  generalize x.im = q at *
  generalize y.re = r at *
  generalize y.im = s at *
  grind
 have dd := sq_le hab d
 unfold Cx.N at *
 simp only [Cx.add_re, Cx.add_im]
 generalize x.re = p at *
 generalize x.im = q at *
 generalize y.re = r at *
 generalize y.im = s at *
 clear m1 m2 c d nx ny
 grind
theorem sub_eq (x y : Cx Rat) : x - y = x + -y := by
 apply Cx.ext' <;> simp only [Cx.sub_re, Cx.add_re, Cx.neg_re, Cx.sub_im, Cx.add_im, Cx.neg_im] <;> grind
theorem Lb.sub {x y : Cx Rat} {a b : Rat} (h : Lb x a) (k : Lb y b) : Lb (x - y) (a + b) := by
 rw [sub_eq]
 exact h.add k.neg
/-- what comes of dividing by d, where its length is at least 1 / c -/
theorem Lb.quot {d x : Cx Rat} {c r : Rat} (hc : 0 ≤ c) (hd : 1 ≤ c * c * Cx.N d) (h : Lb (d * x) r) : Lb x (c * r) := by
 refine ⟨Rat.mul_nonneg hc h.1, ?_⟩
 have k := h.2
 rw [Cx.N_mul] at k
 have m1 := Rat.mul_le_mul_of_nonneg_right hd (N_nn x)
 have m2 := Rat.mul_le_mul_of_nonneg_left k (Rat.mul_nonneg hc hc)
 grind
/-- a factor is not shorter than the product over the other -/
theorem low_mul {t d : Cx Rat} {b k : Rat} (ht : Lb t b) (h : 1 ≤ k * k * Cx.N (t * d)) : 1 ≤ k * b * (k * b) * Cx.N d := by
 rw [Cx.N_mul] at h
 have m1 := Rat.mul_le_mul_of_nonneg_right ht.2 (N_nn d)
 have m2 := Rat.mul_le_mul_of_nonneg_left m1 (sq_nn k)
 grind
/-- a little off a number that is at least 1 long -/
theorem low_add {x e : Cx Rat} {b : Rat} (hx : 1 ≤ Cx.N x) (he : Lb e b) (hb : b ≤ 1 / 4) : 1 ≤ 2 * 2 * Cx.N (x + e) := by
 rcases Classical.em (1 ≤ 2 * 2 * Cx.N (x + e)) with c | c
 · exact c
 ·
  exfalso
  have c := Rat.not_le.1 c
  have h1 : Lb (x + e) (1 / 2) := ⟨by grind, by grind⟩
  have h2 := (h1.sub (he.mono hb)).cong (show x + e - e = x by apply Cx.ext' <;> simp only [Cx.sub_re, Cx.add_re, Cx.sub_im, Cx.add_im] <;> grind)
  have h3 := h2.2
  grind
end Go.Proofs.YtfgfofedacehiaaGreat.Lb
namespace Go.Proofs.YtfgfofedacehiaaGreat.Sv
theorem sn_k {c d : Nat} (hc : Fi c) (hd : Fi d) (h0 : ¬ Fl.rg d = 0) (hcd : Fl.rg c ≤ Fl.rg d) {D : Rat} (hdD : Ab (rv d) D) (hcD : Ab (rv c) D) (hD : 1 ≤ 1048576 * D) (hD2 : D ≤ 9007199254740992) :
  Fi (op .quo c d) ∧ Ab (rv (op .quo c d)) 1 ∧ Ab (rv (op .quo c d) * rv d - rv c) (uu * D) ∧ Fi (op .mul c (op .quo c d)) ∧ Ab (rv (op .mul c (op .quo c d)) - rv c * rv (op .quo c d)) (1 / 2251799813685248 * D) := by
 obtain ⟨k1, k2⟩ := quo_one hc hd h0 hcd
 have e1 := quo_err hc hd h0 k1 hcD hdD
 have es := en_small
 have ep := en_pos
 have m0 : Ab (rv c * rv (op .quo c d)) (D * 1) := hcD.mul k2
 have m1 := mul_fi hc k1 m0 (by grind)
 have m2 := mul_err hc k1 m1 m0
 have hen : 2 * en * D ≤ 1 / 2251799813685248 * D := Rat.mul_le_mul_of_nonneg_right (by grind) (by grind)
 refine ⟨k1, k2, e1.mono (by unfold uu; grind), m1, m2.mono (by grind)⟩
theorem sn_t {d m : Nat} (hd : Fi d) (hm : Fi m) {D x : Rat} (hdD : Ab (rv d) D) (hx : Ab x D) (hD : 1 ≤ 1048576 * D) (hD2 : D ≤ 9007199254740992) (hmx : Ab (rv m - x) (1 / 2251799813685248 * D)) :
  (Fi (op .add d m) ∧ Ab (rv (op .add d m) - (rv d + x)) (uu * D)) ∧ (Fi (op .add m d) ∧ Ab (rv (op .add m d) - (rv d + x)) (uu * D)) := by
 have es := en_small
 have ep := en_pos
 have hmm : Ab (rv m) (2 * D) := ((hmx.add hx).cong (by grind)).mono (by grind)
 have s0 : Ab (rv d + rv m) (3 * D) := (hdD.add hmm).mono (by grind)
 have s0' : Ab (rv m + rv d) (3 * D) := s0.cong (by grind)
 have f1 := add_fi hd hm s0 (by grind)
 have f2 := add_fi hm hd s0' (by grind)
 have g1 := add_err hd hm f1 s0
 have g2 := add_err hm hd f2 s0'
 unfold uu
 exact ⟨⟨f1, ((g1.add hmx).cong (by grind)).mono (by grind)⟩, ⟨f2, ((g2.add hmx).cong (by grind)).mono (by grind)⟩⟩
theorem smith2 {d c k t n r p q D H u : Rat} (hd : D * D = d * d) (hdD : Ab d D) (hD0 : 0 ≤ D) (hc : Ab c D) (hp : Ab p H) (hq : Ab q H) (hH : 0 ≤ H) (hu : 0 ≤ u) (hu1 : u ≤ 1 / 1024)
  (hk : Ab (k * d - c) (u * D)) (hk1 : Ab k 1) (ht : Ab (t - (d + c * k)) (u * D)) (hn : Ab (n - (p + q * k)) (u * H)) (hr : Ab (r * t - n) (2 * u * H)) :
  Ab (r * (d * d + c * c) - (p * d + q * c)) (24 * u * (H * D)) := by
 have hT : Ab (t * d - (d * d + c * c)) (2 * u * (D * D)) := by
  have h1 := (ht.mul hdD).add (hc.mul hk)
  refine (h1.cong (by grind)).mono (by grind)
 have hN : Ab (n * d - (p * d + q * c)) (2 * u * (H * D)) := by
  have h1 := (hn.mul hdD).add (hq.mul hk)
  refine (h1.cong (by grind)).mono (by grind)
 have hnH : Ab n (3 * H) := by
  have h1 := (hn.add (hp.add (hq.mul hk1)))
  have h2 : u * H ≤ 1 * H := Rat.mul_le_mul_of_nonneg_right (by grind) hH
  refine (h1.cong (by grind)).mono (by grind)
 have hrt : Ab (r * t) (4 * H) := by
  have h1 := hr.add hnH
  have h2 : u * H ≤ 1 / 1024 * H := Rat.mul_le_mul_of_nonneg_right hu1 hH
  refine (h1.cong (by grind)).mono (by grind)
 have hDD : 0 ≤ D * D := Rat.mul_nonneg hD0 hD0
 have huD : u * (D * D) ≤ 1 / 1024 * (D * D) := Rat.mul_le_mul_of_nonneg_right hu1 hDD
 have hcc := sq_nn c
 have htd : D * D ≤ 2 * (t * d) := by unfold Ab at hT; grind
 have hrtd : Ab (r * t * d) (4 * H * D) := hrt.mul hdD
 have hr1 : Ab (r * (D * D)) (8 * (H * D)) := by
  by_cases z : 0 ≤ r
  ·
   have h1 : r * (D * D) ≤ r * (2 * (t * d)) := Rat.mul_le_mul_of_nonneg_left htd z
   have h2 : 0 ≤ r * (D * D) := Rat.mul_nonneg z hDD
   unfold Ab at hrtd ⊢
   constructor <;> grind
  ·
   have h1 : (-r) * (D * D) ≤ (-r) * (2 * (t * d)) := Rat.mul_le_mul_of_nonneg_left htd (by grind)
   have h2 : 0 ≤ (-r) * (D * D) := Rat.mul_nonneg (by grind) hDD
   unfold Ab at hrtd ⊢
   constructor <;> grind
 have hrT : Ab (r * (t * d - (d * d + c * c))) (2 * u * (8 * (H * D))) := by
  have hr2 : Ab r (ab r) := ab_ab r
  have h1 := hr2.mul hT
  have h3 : ab r * (D * D) ≤ 8 * (H * D) := by
   have e : ab r = r ∨ ab r = -r := by unfold ab; split <;> grind
   unfold Ab at hr1
   rcases e with e | e <;> rw [e] <;> grind
  have h4 := Rat.mul_le_mul_of_nonneg_left h3 (show 0 ≤ 2 * u by grind)
  exact h1.mono (by grind)
 have hR : Ab ((r * t - n) * d) (2 * u * H * D) := hr.mul hdD
 have h1 := (hR.add hN).sub hrT
 have h5 : 0 ≤ u * (H * D) := Rat.mul_nonneg hu (Rat.mul_nonneg hH hD0)
 refine (h1.cong (by grind)).mono (by grind)
theorem sn_r {n t : Nat} (hn : Fi n) (ht : Fi t) {d c k p q D H : Rat} (hd : D * D = d * d) (hdD : Ab d D) (hD : 1 ≤ 1048576 * D) (hD2 : D ≤ 9007199254740992) (hc : Ab c D) (hp : Ab p H) (hq : Ab q H) (hH : 1 ≤ H) (hH2 : H ≤ 68719476736)
  (hk : Ab (k * d - c) (uu * D)) (hk1 : Ab k 1) (hT : Ab (rv t - (d + c * k)) (uu * D)) (hN : Ab (rv n - (p + q * k)) (uu * H)) :
  Fi (op .quo n t) ∧ Ab (rv (op .quo n t) * (d * d + c * c) - (p * d + q * c)) (24 * uu * (H * D)) := by
 have es := en_small
 have ep := en_pos
 have hD0 : 0 ≤ D := by grind
 have hDD : 0 ≤ D * D := Rat.mul_nonneg hD0 hD0
 have hcc := sq_nn c
 have hTd : Ab (rv t * d - (d * d + c * c)) (2 * uu * (D * D)) := by
  have h1 := (hT.mul hdD).add (hc.mul hk)
  refine (h1.cong (by grind)).mono (by grind)
 have htd : D * D ≤ 2 * (rv t * d) := by
  have : uu * (D * D) ≤ 1 / 1024 * (D * D) := Rat.mul_le_mul_of_nonneg_right (by unfold uu; grind) hDD
  unfold Ab at hTd; grind
 have hta := ab_ab (rv t)
 have htn := ab_nn (rv t)
 have htl : D ≤ 2 * ab (rv t) := by
  have h1 := (hta.mul hdD).2
  have h2 : D * D ≤ 2 * ab (rv t) * D := by grind
  by_cases z : D ≤ 2 * ab (rv t)
  · exact z
  ·
   exfalso
   have h3 : 2 * ab (rv t) * D < D * D := Rat.mul_lt_mul_of_pos_right (by grind) (by grind)
   grind
 have hnH : Ab (rv n) (3 * H) := by
  have h1 := (hN.add (hp.add (hq.mul hk1)))
  have h2 : uu * H ≤ 1 * H := Rat.mul_le_mul_of_nonneg_right (by unfold uu; grind) (by grind)
  refine (h1.cong (by grind)).mono (by grind)
 have htD : Ab (rv t) (3 * D) := by
  have h1 := hT.add (hdD.add (hc.mul hk1))
  have h2 : uu * D ≤ 1 * D := Rat.mul_le_mul_of_nonneg_right (by unfold uu; grind) hD0
  refine (h1.cong (by grind)).mono (by grind)
 have h0 : ¬ Fl.rg t = 0 := fun z => by
  have e : ab (rv t) = 0 := by rw [rv_abs, z, show Fl.vl 0 = 0 by decide]; grind
  grind
 have hf := (quo_fi hn ht h0 (vl_far (by have := ab_le hnH; grind))).1
 have hq1 := quo_err hn ht h0 hf hnH htD
 have hr : Ab (rv (op .quo n t) * rv t - rv n) (2 * uu * H) := hq1.mono (by
  have : 2 * en * (3 * D) ≤ 1 / 2251799813685248 * 1 := by
   have h3 : en * D ≤ en * 9007199254740992 := Rat.mul_le_mul_of_nonneg_left hD2 (Rat.le_of_lt ep)
   grind
  unfold uu; grind)
 exact ⟨hf, smith2 hd hdD hD0 hc hp hq (by grind) (by unfold uu; grind) (by unfold uu; grind) hk hk1 hT hN hr⟩
/-- both floats -/
def FZ (a : El.Z) : Prop := Fi a.1 ∧ Fi a.2
/-- what they are worth -/
def cv (a : El.Z) : Cx Rat := ⟨rv a.1, rv a.2⟩
theorem zdiv_gen {a b : El.Z} (ha : FZ a) (hb : FZ b) {H D : Rat} (h1 : ab (rv a.1) + ab (rv a.2) ≤ H) (hH : 1 ≤ H) (hH2 : H ≤ 68719476736) (hD : 1 ≤ 1048576 * D) (hD2 : D ≤ 9007199254740992) (hg : D ≤ ab (rv b.1) ∨ D ≤ ab (rv b.2)) (hb1 : ab (rv b.1) ≤ 9007199254740992) (hb2 : ab (rv b.2) ≤ 9007199254740992) :
  ∃ E : Rat, 0 ≤ E ∧ E * E ≤ rv b.1 * rv b.1 + rv b.2 * rv b.2 ∧ (Fi (El.zdiv a b).1 ∧ Ab (rv (El.zdiv a b).1 * (rv b.1 * rv b.1 + rv b.2 * rv b.2) - (rv a.1 * rv b.1 + rv a.2 * rv b.2)) (24 * uu * (H * E))) ∧
   (Fi (El.zdiv a b).2 ∧ Ab (rv (El.zdiv a b).2 * (rv b.1 * rv b.1 + rv b.2 * rv b.2) - (rv a.2 * rv b.1 - rv a.1 * rv b.2)) (24 * uu * (H * E))) := by
 have fa1 := ha.1
 have fa2 := ha.2
 have fb1 := hb.1
 have fb2 := hb.2
 have an1 := ab_nn (rv a.1)
 have an2 := ab_nn (rv a.2)
 have pa1 : Ab (rv a.1) H := (ab_ab _).mono (by grind)
 have pa2 : Ab (rv a.2) H := (ab_ab _).mono (by grind)
 unfold El.zdiv
 rw [leF_rg fb2 fb1]
 by_cases hle : Fl.rg b.2 ≤ Fl.rg b.1
 ·
  rw [if_pos (decide_eq_true hle)]
  unfold El.dA
  have hm := ab_mono hle
  have hE : 1 ≤ 1048576 * ab (rv b.1) := by rcases hg with g | g <;> grind
  have hdD := ab_ab (rv b.1)
  have hdd := ab_sq (rv b.1)
  have hcD : Ab (rv b.2) (ab (rv b.1)) := (ab_ab _).mono hm
  have h0 : ¬ Fl.rg b.1 = 0 := fun e => by
   have h := rv_abs b.1
   rw [e, show Fl.vl 0 = 0 by decide] at h
   have : ((0 : Nat) : Rat) = 0 := rfl
   grind
  obtain ⟨k1, k2, k3, k4, k5⟩ := sn_k fb2 fb1 h0 hle hdD hcD hE hb1
  have hck : Ab (rv b.2 * rv (op .quo b.2 b.1)) (ab (rv b.1)) := (hcD.mul k2).mono (by grind)
  obtain ⟨⟨t1, t2⟩, _⟩ := sn_t fb1 k4 hdD hck hE hb1 k5
  obtain ⟨_, ⟨p1, p2⟩, _, _, _⟩ := sm_n fa1 fa2 k1 k2 (H := H) h1 hH (by grind)
  obtain ⟨_, _, ⟨p3, p4⟩, _, _⟩ := sm_n fa2 fa1 k1 k2 (H := H) (by grind) hH (by grind)
  obtain ⟨q1, q2⟩ := sn_r p1 t1 hdd hdD hE hb1 hcD pa1 pa2 hH hH2 k3 k2 t2 p2
  obtain ⟨q3, q4⟩ := sn_r p3 t1 hdd hdD hE hb1 hcD pa2 pa1.neg hH hH2 k3 k2 t2 p4
  refine ⟨ab (rv b.1), ab_nn _, by have := sq_nn (rv b.2); grind, ⟨q1, q2⟩, ⟨q3, q4.cong (by grind)⟩⟩
 ·
  rw [if_neg (fun e => hle (of_decide_eq_true e))]
  unfold El.dB
  have hle2 : Fl.rg b.1 ≤ Fl.rg b.2 := by omega
  have hm := ab_mono hle2
  have hE : 1 ≤ 1048576 * ab (rv b.2) := by rcases hg with g | g <;> grind
  have hdD := ab_ab (rv b.2)
  have hdd := ab_sq (rv b.2)
  have hcD : Ab (rv b.1) (ab (rv b.2)) := (ab_ab _).mono hm
  have h0 : ¬ Fl.rg b.2 = 0 := fun e => by
   have h := rv_abs b.2
   rw [e, show Fl.vl 0 = 0 by decide] at h
   have : ((0 : Nat) : Rat) = 0 := rfl
   grind
  obtain ⟨k1, k2, k3, k4, k5⟩ := sn_k fb1 fb2 h0 hle2 hdD hcD hE hb2
  have hck : Ab (rv b.1 * rv (op .quo b.1 b.2)) (ab (rv b.2)) := (hcD.mul k2).mono (by grind)
  obtain ⟨_, ⟨t1, t2⟩⟩ := sn_t fb2 k4 hdD hck hE hb2 k5
  obtain ⟨_, _, _, ⟨p1, p2⟩, _⟩ := sm_n fa2 fa1 k1 k2 (H := H) (by grind) hH (by grind)
  obtain ⟨_, _, _, _, ⟨p3, p4⟩⟩ := sm_n fa1 fa2 k1 k2 (H := H) h1 hH (by grind)
  obtain ⟨q1, q2⟩ := sn_r p1 t1 hdd hdD hE hb2 hcD pa2 pa1 hH hH2 k3 k2 t2 p2
  obtain ⟨q3, q4⟩ := sn_r p3 t1 hdd hdD hE hb2 hcD pa1.neg pa2 hH hH2 k3 k2 t2 p4
  refine ⟨ab (rv b.2), ab_nn _, by have := sq_nn (rv b.1); grind, ⟨q1, q2.cong (by grind)⟩, ⟨q3, q4.cong (by grind)⟩⟩
end Go.Proofs.YtfgfofedacehiaaGreat.Sv

