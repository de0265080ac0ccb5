/-
 OWN TEXT: a quotient of whole complex numbers: how far it is from the true one.
-/
import Derived.Test.YtfgfofedacehiaaGreatJFfTToFfU
import Derived.Test.YtfgfofedacehiaaGreatJElHToElI
set_option linter.unusedVariables false
set_option exponentiation.threshold 3000
namespace Go.Proofs.YtfgfofedacehiaaGreat.Sv
theorem rv_whole {x : Nat} {n : Int} (h : wI 1074 x n) : rv x = (n : Rat) := by
 unfold rv
 rw [h.2.2, Rat.intCast_mul, Rat.intCast_natCast]
 have := en_unit
 generalize ((2 ^ 1074 : Nat) : Rat) = W at *
 rw [Rat.mul_assoc, this, Rat.mul_one]
theorem fi_whole {x : Nat} {n : Int} (h : wI 1074 x n) : Fi x := ⟨h.1, h.2.1⟩
theorem leF_rg {x y : Nat} (hx : Fi x) (hy : Fi y) : Fl.leF (Fl.rg x) (Fl.rg y) = decide (Fl.rg x ≤ Fl.rg y) := by
 have k : ∀ z, Fl.rg z < 9218868437227405312 → Fl.nan (Fl.rg z) = false ∧ Fl.key (Fl.rg z) = (Fl.rg z : Int) := fun z hz => by
  have e : Fl.rg (Fl.rg z) = Fl.rg z := by unfold Fl.rg; omega
  have s : Fl.sg (Fl.rg z) = false := by
   unfold Fl.sg
   refine decide_eq_false ?_
   have : Fl.rg z < 9223372036854775808 := by omega
   omega
  refine ⟨by unfold Fl.nan; rw [e]; exact decide_eq_false (by omega), ?_⟩
  unfold Fl.key
  rw [s, e]
  rfl
 obtain ⟨n1, k1⟩ := k x hx.2
 obtain ⟨n2, k2⟩ := k y hy.2
 unfold Fl.leF
 rw [n1, n2, k1, k2]
 simp only [Bool.not_false, Bool.true_and]
 exact decide_eq_decide.2 (by omega)
theorem ab_mono {x y : Nat} (h : Fl.rg x ≤ Fl.rg y) : ab (rv x) ≤ ab (rv y) := by
 rw [rv_abs, rv_abs]
 exact Rat.mul_le_mul_of_nonneg_right (Rat.natCast_le_natCast.2 (Fl.vl_le h)) (Rat.le_of_lt en_pos)
theorem ab_sq (x : Rat) : ab x * ab x = x * x := by unfold ab; split <;> grind
theorem sq_nn (x : Rat) : 0 ≤ x * x := by rw [← ab_sq]; exact Rat.mul_nonneg (ab_nn x) (ab_nn x)
theorem ab_int (n : Int) (h : n ≠ 0) : 1 ≤ ab (n : Rat) := by
 unfold ab
 split
 ·
  rename_i q
  have : (0 : Int) ≤ n := Rat.intCast_le_intCast.1 (by simpa using q)
  have h2 : ((1 : Int) : Rat) ≤ (n : Rat) := Rat.intCast_le_intCast.2 (by omega)
  simpa using h2
 ·
  rename_i q
  have : ¬ (0 : Int) ≤ n := fun k => q (by have := Rat.intCast_le_intCast.2 k; simpa using this)
  have h2 : ((1 : Int) : Rat) ≤ ((-n : Int) : Rat) := Rat.intCast_le_intCast.2 (by omega)
  rw [Rat.intCast_neg] at h2
  simpa using h2
theorem ab_nat (n : Int) (M : Nat) (h : n.natAbs ≤ M) : ab (n : Rat) ≤ (M : Rat) := by
 have h1 : ((n : Int) : Rat) ≤ ((M : Int) : Rat) := Rat.intCast_le_intCast.2 (by omega)
 have h2 : ((-n : Int) : Rat) ≤ ((M : Int) : Rat) := Rat.intCast_le_intCast.2 (by omega)
 rw [Rat.intCast_neg] at h2
 rw [Rat.intCast_natCast] at h1 h2
 unfold ab
 split
 · exact h1
 · exact h2
theorem ab_neg (x : Rat) : ab (-x) = ab x := by unfold ab; split <;> split <;> grind
/-- how much the greater parts make of it -/
theorem sm_l {d c p q P R D H : Rat} (hD : 1 ≤ D) (hd : D * D = d * d) (hdD : Ab d D) (hc : Ab c D) (hP : P = p * d + q * c) (hR : R = q * d - p * c) (hH : H = ab p + ab q) : H * D ≤ 2 * (ab P + ab R) := by
 have hPP := ab_ab P
 have hRR := ab_ab R
 have e1 : p * (d * d + c * c) = P * d - R * c := by rw [hP, hR]; grind
 have e2 : q * (d * d + c * c) = P * c + R * d := by rw [hP, hR]; grind
 have b1 : Ab (p * (d * d + c * c)) ((ab P + ab R) * D) := by
  rw [e1]
  exact ((hPP.mul hdD).sub (hRR.mul hc)).mono (by grind)
 have b2 : Ab (q * (d * d + c * c)) ((ab P + ab R) * D) := by
  rw [e2]
  exact ((hPP.mul hc).add (hRR.mul hdD)).mono (by grind)
 have hN : D * D ≤ d * d + c * c := by have := sq_nn c; grind
 have hN0 : 0 ≤ d * d + c * c := by have := sq_nn d; have := sq_nn c; grind
 have k : ∀ x : Rat, Ab (x * (d * d + c * c)) ((ab P + ab R) * D) → ab x * (D * D) ≤ (ab P + ab R) * D := fun x hx => by
  have h1 : ab x * (D * D) ≤ ab x * (d * d + c * c) := Rat.mul_le_mul_of_nonneg_left hN (ab_nn x)
  have h2 : ab x * (d * d + c * c) ≤ (ab P + ab R) * D := by
   unfold Ab at hx
   have e : ab x = x ∨ ab x = -x := by unfold ab; split <;> grind
   rcases e with e | e <;> rw [e] <;> grind
  exact Rat.le_trans h1 h2
 have k1 := k p b1
 have k2 := k q b2
 have h3 : H * D * D ≤ 2 * (ab P + ab R) * D := by rw [hH]; grind
 by_cases z : H * D ≤ 2 * (ab P + ab R)
 · exact z
 ·
  exfalso
  have h4 : 2 * (ab P + ab R) * D < H * D * D := Rat.mul_lt_mul_of_pos_right (by grind) (by grind)
  grind
/-- near a fraction: r is P by N -/
def Nr (r : Nat) (N P L : Rat) : Prop := Fi r ∧ Ab (rv r * N - P) (48 * uu * L)
theorem sm_t0 {t : Nat} {d c k D : Rat} (hd : D * D = d * d) (hdD : Ab d D) (hD : 1 ≤ D) (hc : Ab c D) (hk : Ab (k * d - c) (uu * D)) (hT : Ab (rv t - (d + c * k)) (uu * D)) : ¬ Fl.rg t = 0 := by
 have hD0 : 0 ≤ D := by grind
 have hDD : 0 ≤ D * D := Rat.mul_nonneg hD0 hD0
 have hD1 : 1 ≤ D * D := by
  have h : 1 * D ≤ D * D := Rat.mul_le_mul_of_nonneg_right hD hD0
  grind
 have hcc := sq_nn c
 have hTd : Ab (rv t * d - (d * d + c * c)) (2 * uu * (D * D)) := by
  have h1 := (hT.mul hdD).add (hc.mul hk)
  refine (h1.cong (by grind)).mono (by grind)
 intro z
 have e : rv t = 0 := by
  have h := rv_abs t
  rw [z, show Fl.vl 0 = 0 by decide] at h
  have h2 := ab_ab (rv t)
  rw [h] at h2
  unfold Ab at h2
  grind
 rw [e] at hTd
 have : uu * (D * D) ≤ 1 / 1024 * (D * D) := Rat.mul_le_mul_of_nonneg_right (by unfold uu; grind) hDD
 unfold Ab at hTd
 grind
theorem nr_of {n t : Nat} (hn : Fi n) (ht : Fi t) {d c k p q D H P R N L : Rat} (hd : D * D = d * d) (hdD : Ab d D) (hD : 1 ≤ D) (hD2 : D ≤ 9007199254740992) (hc : Ab c D) (hH0 : H = ab p + ab q) (hH : 1 ≤ H) (hH2 : H ≤ 36028797018963968)
  (hk : Ab (k * d - c) (uu * D)) (hk1 : Ab k 1) (hT : Ab (rv t - (d + c * k)) (uu * D)) (hN : Ab (rv n - (p + q * k)) (uu * H)) (hP : P = p * d + q * c) (hR : ab R = ab (q * d - p * c)) (hNN : N = d * d + c * c) (hL : L = ab P + ab R) : Nr (op .quo n t) N P L := by
 have hp : Ab p H := (ab_ab p).mono (by have := ab_nn q; grind)
 have hq : Ab q H := (ab_ab q).mono (by have := ab_nn p; grind)
 obtain ⟨f, h⟩ := sm_r hn ht hd hdD hD hD2 hc hp hq hH hH2 hk hk1 hT hN
 have hl := sm_l hD hd hdD hc hP rfl hH0
 rw [← hR, ← hL] at hl
 rw [hNN, hP]
 exact ⟨f, h.mono (by
  have : 24 * uu * (H * D) ≤ 24 * uu * (2 * L) := Rat.mul_le_mul_of_nonneg_left hl (by unfold uu; grind)
  grind)⟩
theorem nr_nought {n t : Nat} (hn : Fi n) (ht : Fi t) (h0 : ¬ Fl.rg t = 0) (zn : Fl.val n = 0) {N P L : Rat} (hP : P = 0) (hL : L = 0) : Nr (op .quo n t) N P L := by
 obtain ⟨f, h⟩ := quo_fi hn ht h0 (by rw [vl_nought zn]; exact Nat.zero_le _)
 refine ⟨f, ?_⟩
 have e : rv (op .quo n t) = 0 := by unfold rv; rw [h zn]; grind
 rw [e, hP, hL]
 unfold Ab
 constructor <;> grind
theorem zdiv_near {a b : El.Z} {A B : Py.G} (ha : El.zW a A) (hb : El.zW b B) (hB : B ≠ (0, 0)) (hA1 : A.1.natAbs ≤ 9007199254740992) (hA2 : A.2.natAbs ≤ 9007199254740992) (hB1 : B.1.natAbs ≤ 9007199254740992) (hB2 : B.2.natAbs ≤ 9007199254740992) :
  Nr (El.zdiv a b).1 ((B.1 : Rat) * B.1 + (B.2 : Rat) * B.2) ((A.1 : Rat) * B.1 + (A.2 : Rat) * B.2) (ab ((A.1 : Rat) * B.1 + (A.2 : Rat) * B.2) + ab ((A.2 : Rat) * B.1 - (A.1 : Rat) * B.2)) ∧
  Nr (El.zdiv a b).2 ((B.1 : Rat) * B.1 + (B.2 : Rat) * B.2) ((A.2 : Rat) * B.1 - (A.1 : Rat) * B.2) (ab ((A.1 : Rat) * B.1 + (A.2 : Rat) * B.2) + ab ((A.2 : Rat) * B.1 - (A.1 : Rat) * B.2)) := by
 have fa1 := fi_whole ha.1
 have fa2 := fi_whole ha.2
 have fb1 := fi_whole hb.1
 have fb2 := fi_whole hb.2
 have ra1 := rv_whole ha.1
 have ra2 := rv_whole ha.2
 have rb1 := rv_whole hb.1
 have rb2 := rv_whole hb.2
 have na1 := ab_nat A.1 _ hA1
 have na2 := ab_nat A.2 _ hA2
 have nb1 := ab_nat B.1 _ hB1
 have nb2 := ab_nat B.2 _ hB2
 have cM : ((9007199254740992 : Nat) : Rat) = 9007199254740992 := rfl
 rw [cM] at na1 na2 nb1 nb2
 have hZ : A.1 = 0 ∧ A.2 = 0 ∨ 1 ≤ ab (A.1 : Rat) + ab (A.2 : Rat) := by
  by_cases z1 : A.1 = 0
  ·
   by_cases z2 : A.2 = 0
   · exact Or.inl ⟨z1, z2⟩
   · exact Or.inr (by have := ab_int _ z2; have := ab_nn (A.1 : Rat); grind)
  · exact Or.inr (by have := ab_int _ z1; have := ab_nn (A.2 : Rat); grind)
 have v0 : ∀ {x : Nat} {n : Int}, wI 1074 x n → n = 0 → Fl.val x = 0 := fun h e => by rw [h.2.2, e, Int.zero_mul]
 unfold El.zdiv
 rw [leF_rg fb2 fb1]
 by_cases hle : Fl.rg b.2 ≤ Fl.rg b.1
 ·
  rw [if_pos (decide_eq_true hle)]
  unfold El.dA
  have hB1z : B.1 ≠ 0 := fun e => by
   have v1 := vl_nought (v0 hb.1 e)
   have hm := Fl.vl_le hle
   rw [v1] at hm
   apply hB
   have v2 : Fl.val b.2 = 0 := by have := val_abs b.2; omega
   have h3 := hb.2.2.2
   rw [v2] at h3
   have h4 : B.2 = 0 := by
    rcases Int.mul_eq_zero.1 h3.symm with q | q
    · exact q
    ·
     exfalso
     have := Nat.two_pow_pos 1074
     generalize (2 : Nat) ^ 1074 = W at *
     omega
   exact Prod.ext e h4
  have hD := ab_int _ hB1z
  have hdD := ab_ab (B.1 : Rat)
  have hdd := ab_sq (B.1 : Rat)
  have hcD : Ab (B.2 : Rat) (ab (B.1 : Rat)) := (ab_ab _).mono (by have := ab_mono hle; rw [rb1, rb2] at this; exact this)
  have h0 : ¬ Fl.rg b.1 = 0 := fun e => by
   have h := rv_abs b.1
   rw [e, show Fl.vl 0 = 0 by decide, rb1] at h
   have : ((0 : Nat) : Rat) = 0 := rfl
   grind
  obtain ⟨k1, k2, k3, k4, k5⟩ := sm_k fb2 fb1 h0 hle (D := ab (B.1 : Rat)) (by rw [rb1]; exact hdD) (by rw [rb2]; exact hcD) hD nb1
  rw [rb1, rb2] at k3
  rw [rb2] at k5
  have hck : Ab ((B.2 : Rat) * rv (op .quo b.2 b.1)) (ab (B.1 : Rat)) := (hcD.mul k2).mono (by grind)
  obtain ⟨⟨t1, t2⟩, _⟩ := sm_t fb1 k4 (x := (B.2 : Rat) * rv (op .quo b.2 b.1)) (D := ab (B.1 : Rat)) (by rw [rb1]; exact hdD) hck hD nb1 k5
  rw [rb1] at t2
  rcases hZ with ⟨z1, z2⟩ | hH
  ·
   have t0 := sm_t0 hdd hdD hD hcD k3 t2
   have v1 := v0 ha.1 z1
   have v2 := v0 ha.2 z2
   obtain ⟨m1, m2⟩ := mul_nought fa2 k1 v2
   obtain ⟨m3, m4⟩ := mul_nought fa1 k1 v1
   obtain ⟨s1, s2⟩ := add_nought fa1 m1 v1 m2
   obtain ⟨s3, s4⟩ := sub_nought fa2 m3 v2 m4
   have e1 : ((A.1 : Int) : Rat) = 0 := by rw [z1]; rfl
   have e2 : ((A.2 : Int) : Rat) = 0 := by rw [z2]; rfl
   have a0 : ab (0 : Rat) = 0 := by unfold ab; grind
   refine ⟨nr_nought s1 t1 t0 s2 (by rw [e1, e2]; grind) ?_, nr_nought s3 t1 t0 s4 (by rw [e1, e2]; grind) ?_⟩ <;>
   · rw [e1, e2, show (0 : Rat) * B.1 + 0 * B.2 = 0 by grind, show (0 : Rat) * B.1 - 0 * B.2 = 0 by grind, a0]; grind
  ·
   obtain ⟨_, ⟨p1, p2⟩, _, _, _⟩ := sm_n fa1 fa2 k1 k2 (H := ab (A.1 : Rat) + ab (A.2 : Rat)) (by rw [ra1, ra2]; exact Rat.le_refl) hH (by grind)
   obtain ⟨_, _, ⟨p3, p4⟩, _, _⟩ := sm_n fa2 fa1 k1 k2 (H := ab (A.1 : Rat) + ab (A.2 : Rat)) (by rw [ra1, ra2]; grind) hH (by grind)
   rw [ra1, ra2] at p2 p4
   refine ⟨nr_of p1 t1 (R := (A.2 : Rat) * B.1 - (A.1 : Rat) * B.2) hdd hdD hD nb1 hcD rfl hH (by grind) k3 k2 t2 p2 rfl rfl rfl rfl,
    nr_of p3 t1 (p := (A.2 : Rat)) (q := -(A.1 : Rat)) (R := (A.1 : Rat) * B.1 + (A.2 : Rat) * B.2) (H := ab (A.1 : Rat) + ab (A.2 : Rat)) hdd hdD hD nb1 hcD (by rw [ab_neg]; grind) hH (by grind) k3 k2 t2 p4 (by grind) (by rw [← ab_neg]; congr 1; grind) rfl (by grind)⟩
 ·
  rw [if_neg (fun e => hle (of_decide_eq_true e))]
  unfold El.dB
  have hle2 : Fl.rg b.1 ≤ Fl.rg b.2 := by omega
  have hB2z : B.2 ≠ 0 := fun e => by
   have v1 := vl_nought (v0 hb.2 e)
   have hm := Fl.vl_mono (show Fl.rg b.1 < Fl.rg b.2 by omega)
   omega
  have hD := ab_int _ hB2z
  have hdD := ab_ab (B.2 : Rat)
  have hdd := ab_sq (B.2 : Rat)
  have hcD : Ab (B.1 : Rat) (ab (B.2 : Rat)) := (ab_ab _).mono (by have := ab_mono hle2; rw [rb1, rb2] at this; exact this)
  have h0 : ¬ Fl.rg b.2 = 0 := fun e => by
   have h := rv_abs b.2
   rw [e, show Fl.vl 0 = 0 by decide, rb2] at h
   have : ((0 : Nat) : Rat) = 0 := rfl
   grind
  obtain ⟨k1, k2, k3, k4, k5⟩ := sm_k fb1 fb2 h0 hle2 (D := ab (B.2 : Rat)) (by rw [rb2]; exact hdD) (by rw [rb1]; exact hcD) hD nb2
  rw [rb1, rb2] at k3
  rw [rb1] at k5
  have hck : Ab ((B.1 : Rat) * rv (op .quo b.1 b.2)) (ab (B.2 : Rat)) := (hcD.mul k2).mono (by grind)
  obtain ⟨_, ⟨t1, t2⟩⟩ := sm_t fb2 k4 (x := (B.1 : Rat) * rv (op .quo b.1 b.2)) (D := ab (B.2 : Rat)) (by rw [rb2]; exact hdD) hck hD nb2 k5
  rw [rb2] at t2
  rcases hZ with ⟨z1, z2⟩ | hH
  ·
   have t0 := sm_t0 hdd hdD hD hcD k3 t2
   have v1 := v0 ha.1 z1
   have v2 := v0 ha.2 z2
   obtain ⟨m1, m2⟩ := mul_nought fa1 k1 v1
   obtain ⟨m3, m4⟩ := mul_nought fa2 k1 v2
   obtain ⟨s1, s2⟩ := add_nought m1 fa2 m2 v2
   obtain ⟨s3, s4⟩ := sub_nought m3 fa1 m4 v1
   have e1 : ((A.1 : Int) : Rat) = 0 := by rw [z1]; rfl
   have e2 : ((A.2 : Int) : Rat) = 0 := by rw [z2]; rfl
   have a0 : ab (0 : Rat) = 0 := by unfold ab; grind
   refine ⟨nr_nought s1 t1 t0 s2 (by rw [e1, e2]; grind) ?_, nr_nought s3 t1 t0 s4 (by rw [e1, e2]; grind) ?_⟩ <;>
   · rw [e1, e2, show (0 : Rat) * B.1 + 0 * B.2 = 0 by grind, show (0 : Rat) * B.1 - 0 * B.2 = 0 by grind, a0]; grind
  ·
   obtain ⟨_, _, _, ⟨p1, p2⟩, _⟩ := sm_n fa2 fa1 k1 k2 (H := ab (A.1 : Rat) + ab (A.2 : Rat)) (by rw [ra1, ra2]; grind) hH (by grind)
   obtain ⟨_, _, _, _, ⟨p3, p4⟩⟩ := sm_n fa1 fa2 k1 k2 (H := ab (A.1 : Rat) + ab (A.2 : Rat)) (by rw [ra1, ra2]; exact Rat.le_refl) hH (by grind)
   rw [ra1, ra2] at p2 p4
   refine ⟨nr_of p1 t1 (p := (A.2 : Rat)) (q := (A.1 : Rat)) (R := (A.2 : Rat) * B.1 - (A.1 : Rat) * B.2) (H := ab (A.1 : Rat) + ab (A.2 : Rat)) hdd hdD hD nb2 hcD (by grind) hH (by grind) k3 k2 t2 p2 (by grind) (by rw [← ab_neg]; congr 1; grind) (by grind) rfl,
    nr_of p3 t1 (p := -(A.1 : Rat)) (q := (A.2 : Rat)) (R := (A.1 : Rat) * B.1 + (A.2 : Rat) * B.2) (H := ab (A.1 : Rat) + ab (A.2 : Rat)) hdd hdD hD nb2 hcD (by rw [ab_neg]) hH (by grind) k3 k2 t2 p4 (by grind) (by congr 1; grind) (by grind) (by grind)⟩
end Go.Proofs.YtfgfofedacehiaaGreat.Sv

