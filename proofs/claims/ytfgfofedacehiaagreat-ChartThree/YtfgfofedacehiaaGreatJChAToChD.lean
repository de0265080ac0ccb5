/-
 OWN TEXT: complex numbers over a ring; Moebius maps of whole numbers (no world).
-/
import Derived.Test.YtfgfofedacehiaaGreatJPyAToPyC
import Derived.Test.YtfgfofedacehiaaGreatJFfV
import Derived.Test.YtfgfofedacehiaaGreatJZqIToZqK
import Derived.Test.YtfgfofedacehiaaGreatJPyEToPyN
import Derived.Test.YtfgfofedacehiaaGreatJElBToElG
import Derived.Test.YtfgfofedacehiaaGreatJBhL
import Derived.Deep.MidRow
import Derived.Laws.ResultCell
import Derived.Test.YtfgfofedacehiaaGreatJZqCToZqH
namespace Go.Proofs.YtfgfofedacehiaaGreat
set_option linter.unusedVariables false
set_option linter.unusedSectionVars false
structure Cx (R : Type) where
 re : R
 im : R
namespace Cx
variable {R : Type} [Lean.Grind.CommRing R]
attribute [local instance] Lean.Grind.Semiring.natCast Lean.Grind.Ring.intCast
@[ext] theorem ext' {a b : Cx R} (h1 : a.re = b.re) (h2 : a.im = b.im) : a = b := by cases a; cases b; simp_all
instance : Add (Cx R) := ⟨fun a b => ⟨a.re + b.re, a.im + b.im⟩⟩
instance : Sub (Cx R) := ⟨fun a b => ⟨a.re - b.re, a.im - b.im⟩⟩
instance : Mul (Cx R) := ⟨fun a b => ⟨a.re * b.re - a.im * b.im, a.re * b.im + a.im * b.re⟩⟩
instance : Neg (Cx R) := ⟨fun a => ⟨-a.re, -a.im⟩⟩
instance : NatCast (Cx R) := ⟨fun n => ⟨(n : R), 0⟩⟩
instance : IntCast (Cx R) := ⟨fun n => ⟨(n : R), 0⟩⟩
instance (n : Nat) : OfNat (Cx R) n := ⟨⟨(n : R), 0⟩⟩
instance : SMul Nat (Cx R) := ⟨fun n a => ⟨(n : R) * a.re, (n : R) * a.im⟩⟩
instance : SMul Int (Cx R) := ⟨fun n a => ⟨(n : R) * a.re, (n : R) * a.im⟩⟩
def pw (a : Cx R) : Nat → Cx R
 | 0 => ⟨1, 0⟩
 | n + 1 => pw a n * a
instance : HPow (Cx R) Nat (Cx R) := ⟨pw⟩
instance : NatPow (Cx R) := ⟨pw⟩
@[simp] theorem add_re (a b : Cx R) : (a + b).re = a.re + b.re := rfl
@[simp] theorem add_im (a b : Cx R) : (a + b).im = a.im + b.im := rfl
@[simp] theorem sub_re (a b : Cx R) : (a - b).re = a.re - b.re := rfl
@[simp] theorem sub_im (a b : Cx R) : (a - b).im = a.im - b.im := rfl
@[simp] theorem mul_re (a b : Cx R) : (a * b).re = a.re * b.re - a.im * b.im := rfl
@[simp] theorem mul_im (a b : Cx R) : (a * b).im = a.re * b.im + a.im * b.re := rfl
@[simp] theorem neg_re (a : Cx R) : (-a).re = -a.re := rfl
@[simp] theorem neg_im (a : Cx R) : (-a).im = -a.im := rfl
instance : Lean.Grind.CommRing (Cx R) where
 natCast := ⟨fun n => ⟨(n : R), 0⟩⟩
 intCast := ⟨fun n => ⟨(n : R), 0⟩⟩
 add_zero a := by
  ext
  · show a.re + ((0 : Nat) : R) = a.re; grind
  · show a.im + 0 = a.im; grind
 add_comm a b := by ext <;> simp <;> grind
 add_assoc a b c := by ext <;> simp <;> grind
 mul_assoc a b c := by ext <;> simp <;> grind
 mul_comm a b := by ext <;> simp <;> grind
 mul_one a := by
  ext
  · show a.re * ((1 : Nat) : R) - a.im * 0 = a.re; grind
  · show a.re * 0 + a.im * ((1 : Nat) : R) = a.im; grind
 one_mul a := by
  ext
  · show ((1 : Nat) : R) * a.re - 0 * a.im = a.re; grind
  · show ((1 : Nat) : R) * a.im + 0 * a.re = a.im; grind
 left_distrib a b c := by ext <;> simp <;> grind
 right_distrib a b c := by ext <;> simp <;> grind
 zero_mul a := by
  ext
  · show ((0 : Nat) : R) * a.re - 0 * a.im = ((0 : Nat) : R); grind
  · show ((0 : Nat) : R) * a.im + 0 * a.re = 0; grind
 mul_zero a := by
  ext
  · show a.re * ((0 : Nat) : R) - a.im * 0 = ((0 : Nat) : R); grind
  · show a.re * 0 + a.im * ((0 : Nat) : R) = 0; grind
 pow_zero a := by
  ext
  · show (1 : R) = ((1 : Nat) : R); grind
  · rfl
 pow_succ a n := rfl
 ofNat_succ n := by
  ext
  · show ((n + 1 : Nat) : R) = (n : R) + ((1 : Nat) : R); grind
  · show (0 : R) = 0 + 0; grind
 ofNat_eq_natCast n := rfl
 nsmul_eq_natCast_mul n a := by
  ext
  · show (n : R) * a.re = (n : R) * a.re - 0 * a.im; grind
  · show (n : R) * a.im = (n : R) * a.im + 0 * a.re; grind
 neg_add_cancel a := by
  ext
  · show -a.re + a.re = ((0 : Nat) : R); grind
  · show -a.im + a.im = 0; grind
 sub_eq_add_neg a b := by ext <;> simp <;> grind
 neg_zsmul i a := by
  ext
  · show ((-i : Int) : R) * a.re = -((i : R) * a.re); grind
  · show ((-i : Int) : R) * a.im = -((i : R) * a.im); grind
 zsmul_natCast_eq_nsmul n a := by
  ext
  · show (((n : Nat) : Int) : R) * a.re = (n : R) * a.re; rw [Lean.Grind.Ring.intCast_natCast]
  · show (((n : Nat) : Int) : R) * a.im = (n : R) * a.im; rw [Lean.Grind.Ring.intCast_natCast]
 intCast_ofNat n := by
  ext
  · show (((n : Nat) : Int) : R) = ((n : Nat) : R); exact Lean.Grind.Ring.intCast_natCast n
  · rfl
 intCast_neg n := by
  ext
  · show ((-n : Int) : R) = -(n : R); grind
  · show (0 : R) = -0; grind
/-- the square of the length -/
def N (a : Cx R) : R := a.re * a.re + a.im * a.im
end Cx
namespace Ch
open Py
def cz (g : G) : Cx Int := ⟨g.1, g.2⟩
theorem cz_inj {g h : G} (e : cz g = cz h) : g = h := by
 unfold cz at e
 cases g; cases h
 simp only [Cx.mk.injEq] at e
 simp [e.1, e.2]
theorem cz_ga (g h : G) : cz (ga g h) = cz g + cz h := rfl
theorem cz_gs (g h : G) : cz (gs g h) = cz g - cz h := rfl
theorem cz_gm (g h : G) : cz (gm g h) = cz g * cz h := rfl
theorem cz_gn (g : G) : cz (gn g) = -cz g := rfl
/-- a Moebius map's four numbers -/
structure Mq where
 a : G
 b : G
 c : G
 d : G
def dt (m : Mq) : G := gs (gm m.a m.d) (gm m.b m.c)
def thn (m n : Mq) : Mq := ⟨ga (gm n.a m.a) (gm n.b m.c), ga (gm n.a m.b) (gm n.b m.d), ga (gm n.c m.a) (gm n.d m.c), ga (gm n.c m.b) (gm n.d m.d)⟩
def trn (m : Mq) : Mq := ⟨m.d, gn m.b, gn m.c, m.a⟩
theorem dt_thn (m n : Mq) : dt (thn m n) = gm (dt m) (dt n) := by
 apply cz_inj
 simp only [dt, thn, cz_ga, cz_gs, cz_gm]
 grind
theorem dt_trn (m : Mq) : dt (trn m) = dt m := by
 apply cz_inj
 simp only [dt, trn, cz_gs, cz_gm, cz_gn]
 grind
theorem dt_thn_ne {m n : Mq} (h : dt m ≠ (0, 0)) (k : dt n ≠ (0, 0)) : dt (thn m n) ≠ (0, 0) := by
 rw [dt_thn]
 intro e
 rcases gm_zero e with e | e
 · exact h e
 · exact k e
/-- all four are at most M long -/
def Lq (m : Mq) (M : Nat) : Prop := Le m.a M ∧ Le m.b M ∧ Le m.c M ∧ Le m.d M
theorem Lq.thn {m n : Mq} {M K : Nat} (h : Lq m M) (k : Lq n K) : Lq (thn m n) (K * M + K * M) :=
 ⟨(k.1.mul h.1).add (k.2.1.mul h.2.2.1), (k.1.mul h.2.1).add (k.2.1.mul h.2.2.2), (k.2.2.1.mul h.1).add (k.2.2.2.mul h.2.2.1), (k.2.2.1.mul h.2.1).add (k.2.2.2.mul h.2.2.2)⟩
theorem Lq.trn {m : Mq} {M : Nat} (h : Lq m M) : Lq (trn m) M := ⟨h.2.2.2, h.2.1.neg, h.2.2.1.neg, h.1⟩
theorem Lq.mono {m : Mq} {M K : Nat} (h : Lq m M) (k : M ≤ K) : Lq m K := ⟨h.1.mono k, h.2.1.mono k, h.2.2.1.mono k, h.2.2.2.mono k⟩
theorem Lq.dt {m : Mq} {M : Nat} (h : Lq m M) : Le (dt m) (M * M + M * M) := (h.1.mul h.2.2.2).sub (h.2.1.mul h.2.2.1)
/-- the map of three places -/
def ofp (a b c : G) : Mq := ⟨gs b c, gn (gm a (gs b c)), gs b a, gn (gm c (gs b a))⟩
theorem dt_ofp (a b c : G) : dt (ofp a b c) = gm (gm (gs b c) (gs b a)) (gs a c) := by
 apply cz_inj
 simp only [dt, ofp, cz_gs, cz_gm, cz_gn]
 grind
theorem gs_ne {a b : G} (h : a ≠ b) : gs a b ≠ (0, 0) := by
 intro e
 apply h
 unfold gs at e
 simp only [Prod.mk.injEq] at e
 exact Py.gext (by omega) (by omega)
theorem gm_ne {a b : G} (h : a ≠ (0, 0)) (k : b ≠ (0, 0)) : gm a b ≠ (0, 0) := fun e => (gm_zero e).elim h k
theorem ofp_ne {a b c : G} (h1 : a ≠ b) (h2 : b ≠ c) (h3 : a ≠ c) : dt (ofp a b c) ≠ (0, 0) := by
 rw [dt_ofp]
 exact gm_ne (gm_ne (gs_ne h2) (gs_ne (Ne.symm h1))) (gs_ne h3)
def up (m : Mq) (z : G) : G := ga (gm m.a z) m.b
def lo (m : Mq) (z : G) : G := ga (gm m.c z) m.d
theorem three_a (a b c x y z : G) : up (thn (ofp a b c) (trn (ofp x y z))) a = gm x (lo (thn (ofp a b c) (trn (ofp x y z))) a) ∧ lo (thn (ofp a b c) (trn (ofp x y z))) a = gm (gs y z) (gm (gs b a) (gs a c)) := by
 constructor <;> (apply cz_inj; simp only [up, lo, thn, trn, ofp, cz_ga, cz_gs, cz_gm, cz_gn]; grind)
theorem three_b (a b c x y z : G) : up (thn (ofp a b c) (trn (ofp x y z))) b = gm y (lo (thn (ofp a b c) (trn (ofp x y z))) b) ∧ lo (thn (ofp a b c) (trn (ofp x y z))) b = gm (gs x z) (gm (gs b c) (gs b a)) := by
 constructor <;> (apply cz_inj; simp only [up, lo, thn, trn, ofp, cz_ga, cz_gs, cz_gm, cz_gn]; grind)
theorem three_c (a b c x y z : G) : up (thn (ofp a b c) (trn (ofp x y z))) c = gm z (lo (thn (ofp a b c) (trn (ofp x y z))) c) ∧ lo (thn (ofp a b c) (trn (ofp x y z))) c = gm (gs y x) (gm (gs b c) (gs a c)) := by
 constructor <;> (apply cz_inj; simp only [up, lo, thn, trn, ofp, cz_ga, cz_gs, cz_gm, cz_gn]; grind)
end Ch
end Go.Proofs.YtfgfofedacehiaaGreat

/-
 OWN TEXT: a quotient of whole complex numbers that is whole and small: within 2^-33.
-/
set_option linter.unusedVariables false
set_option exponentiation.threshold 3000
namespace Go.Proofs.YtfgfofedacehiaaGreat.Sv
theorem ab_int_nat (d : Int) : ab (d : Rat) = ((d.natAbs : Nat) : Rat) := by
 rcases Int.natAbs_eq d with e | e
 ·
  have h : (d : Rat) = ((d.natAbs : Nat) : Rat) := by
   have : (d : Rat) = (((d.natAbs : Nat) : Int) : Rat) := congrArg _ e
   rw [this, Rat.intCast_natCast]
  have h0 : (0 : Rat) ≤ ((d.natAbs : Nat) : Rat) := Rat.natCast_nonneg
  rw [h]
  unfold ab
  rw [if_pos h0]
 ·
  have h : (d : Rat) = -((d.natAbs : Nat) : Rat) := by
   have : (d : Rat) = ((-((d.natAbs : Nat) : Int) : Int) : Rat) := congrArg _ e
   rw [this, Rat.intCast_neg, Rat.intCast_natCast]
  have h0 : (0 : Rat) ≤ ((d.natAbs : Nat) : Rat) := Rat.natCast_nonneg
  rw [h]
  unfold ab
  split <;> grind
theorem le_div {x b N : Rat} (hN : 0 < N) (h : Ab (x * N) (b * N)) : Ab x b := by
 obtain ⟨h1, h2⟩ := h
 constructor
 ·
  by_cases q : -b ≤ x
  · exact q
  ·
   exfalso
   have := Rat.mul_lt_mul_of_pos_right (show x < -b by grind) hN
   grind
 ·
  by_cases q : x ≤ b
  · exact q
  ·
   exfalso
   have := Rat.mul_lt_mul_of_pos_right (show b < x by grind) hN
   grind
theorem clo_of {x : Nat} {v : Int} (f : Fi x) (h : Ab (rv x - (v : Rat)) (1 / 8589934592)) : clo 1074 x v := by
 refine ⟨f.1, f.2, ?_⟩
 have eu := en_unit
 have ep := en_pos
 have e : rv x - (v : Rat) = ((Fl.val x - v * ((2 ^ 1074 : Nat) : Int) : Int) : Rat) * en := by
  unfold rv
  rw [Rat.intCast_sub, Rat.intCast_mul, Rat.intCast_natCast]
  generalize ((2 ^ 1074 : Nat) : Rat) = W at *
  have : (v : Rat) * W * en = v := by rw [Rat.mul_assoc, eu, Rat.mul_one]
  grind
 generalize (2 ^ 1074 : Nat) = U at *
 generalize Fl.val x - v * (U : Int) = d at *
 have h2 := ab_le h
 have h3 : ab ((d : Rat) * en) = ab (d : Rat) * en := by
  unfold ab
  by_cases q : 0 ≤ (d : Rat)
  ·
   have := Rat.mul_nonneg q (Rat.le_of_lt ep)
   rw [if_pos q, if_pos this]
  ·
   have : 0 < -(d : Rat) * en := Rat.mul_pos (by grind) ep
   rw [if_neg q, if_neg (by grind)]
   grind
 rw [e, h3, ab_int_nat] at h2
 have hU : (0 : Rat) ≤ (U : Rat) := Rat.natCast_nonneg
 have h4 := Rat.mul_le_mul_of_nonneg_right h2 hU
 have h5 : ((d.natAbs : Nat) : Rat) * en * (U : Rat) = ((d.natAbs : Nat) : Rat) := by
  rw [Rat.mul_assoc, Rat.mul_comm en, eu, Rat.mul_one]
 rw [h5] at h4
 have h6 : (((8589934592 * d.natAbs : Nat)) : Rat) ≤ ((U : Nat) : Rat) := by
  rw [Rat.natCast_mul]
  have c : ((8589934592 : Nat) : Rat) = 8589934592 := rfl
  rw [c]
  grind
 exact Rat.natCast_le_natCast.1 h6
theorem quo_part {r : Nat} {N P L v : Rat} (hN : 0 < N) (h : Nr r N P L) (hP : P = v * N) (hL : L ≤ 16 * N) : Fi r ∧ Ab (rv r - v) (1 / 8589934592) := by
 refine ⟨h.1, le_div hN ?_⟩
 refine (h.2.cong ?_).mono ?_
 · rw [hP]; grind
 · unfold uu; grind
theorem quo_clo {a b : El.Z} {v B : Py.G} (ha : El.zW a (Py.gm v B)) (hb : El.zW b B) (hB : B ≠ (0, 0)) (hA1 : (Py.gm v B).1.natAbs ≤ 9007199254740992) (hA2 : (Py.gm v B).2.natAbs ≤ 9007199254740992) (hB1 : B.1.natAbs ≤ 9007199254740992) (hB2 : B.2.natAbs ≤ 9007199254740992)
  (h1 : v.1.natAbs ≤ 8) (h2 : v.2.natAbs ≤ 8) : clC 1074 (El.zdiv a b).1 (El.zdiv a b).2 v := by
 obtain ⟨k1, k2⟩ := zdiv_near ha hb hB hA1 hA2 hB1 hB2
 have a1 := ab_nat v.1 8 h1
 have a2 := ab_nat v.2 8 h2
 have c8 : ((8 : Nat) : Rat) = 8 := rfl
 rw [c8] at a1 a2
 have e1 : (((Py.gm v B).1 : Int) : Rat) = (v.1 : Rat) * B.1 - (v.2 : Rat) * B.2 := by
  show (((v.1 * B.1 - v.2 * B.2 : Int)) : Rat) = _
  rw [Rat.intCast_sub, Rat.intCast_mul, Rat.intCast_mul]
 have e2 : (((Py.gm v B).2 : Int) : Rat) = (v.1 : Rat) * B.2 + (v.2 : Rat) * B.1 := by
  show (((v.1 * B.2 + v.2 * B.1 : Int)) : Rat) = _
  rw [Rat.intCast_add, Rat.intCast_mul, Rat.intCast_mul]
 rw [e1, e2] at k1 k2
 have hN : (0 : Rat) < (B.1 : Rat) * B.1 + (B.2 : Rat) * B.2 := by
  have s1 := sq_nn (B.1 : Rat)
  have s2 := sq_nn (B.2 : Rat)
  have big : ∀ n : Int, n ≠ 0 → (1 : Rat) ≤ (n : Rat) * n := fun n hn => by
   have h := ab_int n hn
   rw [← ab_sq]
   have := Rat.mul_le_mul_of_nonneg_right h (ab_nn (n : Rat))
   grind
  by_cases z1 : B.1 = 0
  ·
   have z2 : B.2 ≠ 0 := fun z2 => hB (Prod.ext z1 z2)
   have := big _ z2
   grind
  ·
   have := big _ z1
   grind
 have P1 : ((v.1 : Rat) * B.1 - (v.2 : Rat) * B.2) * B.1 + ((v.1 : Rat) * B.2 + (v.2 : Rat) * B.1) * B.2 = (v.1 : Rat) * ((B.1 : Rat) * B.1 + (B.2 : Rat) * B.2) := by grind
 have P2 : ((v.1 : Rat) * B.2 + (v.2 : Rat) * B.1) * B.1 - ((v.1 : Rat) * B.1 - (v.2 : Rat) * B.2) * B.2 = (v.2 : Rat) * ((B.1 : Rat) * B.1 + (B.2 : Rat) * B.2) := by grind
 rw [P1, P2] at k1 k2
 generalize (B.1 : Rat) * B.1 + (B.2 : Rat) * B.2 = N at *
 have m : ∀ x : Rat, ab x ≤ 8 → ab (x * N) ≤ 8 * N := fun x hx => by
  have e : ab (x * N) = ab x * N := by
   unfold ab
   by_cases q : 0 ≤ x
   ·
    have := Rat.mul_nonneg q (Rat.le_of_lt hN)
    rw [if_pos q, if_pos this]
   ·
    have : 0 < -x * N := Rat.mul_pos (by grind) hN
    rw [if_neg q, if_neg (by grind)]
    grind
  rw [e]
  exact Rat.mul_le_mul_of_nonneg_right hx (Rat.le_of_lt hN)
 have m1 := m _ a1
 have m2 := m _ a2
 have hL : ab ((v.1 : Rat) * N) + ab ((v.2 : Rat) * N) ≤ 16 * N := by grind
 obtain ⟨f1, n1⟩ := quo_part hN k1 rfl hL
 obtain ⟨f2, n2⟩ := quo_part hN k2 rfl hL
 exact ⟨clo_of f1 n1, clo_of f2 n2⟩
/-- words of one row that come near -/
theorem clC_c2 {x y : Nat} {a : El.Z} {g : Py.G} (h : clC 1074 a.1 a.2 g) (e : El.c2 x y = a) : clC 1074 x y g := by
 have e1 : Fl.bitsF x = a.1 := congrArg Prod.fst e
 have e2 : Fl.bitsF y = a.2 := congrArg Prod.snd e
 have n1 : Fl.nan x = false := by rw [← Sv.nan_c, e1]; exact h.1.nan
 have n2 : Fl.nan y = false := by rw [← Sv.nan_c, e2]; exact h.2.nan
 rw [Sv.c_num n1] at e1
 rw [Sv.c_num n2] at e2
 rw [e1, e2]
 exact h
theorem c2W {x y : Nat} {g : Py.G} (h : wC 1074 x y g) : El.zW (El.c2 x y) g := by
 rw [El.c2_num h.1.nan h.2.nan]
 exact h
theorem quo18 {u u' t t' x y : Nat} {v B : Py.G} (hu : wC 1074 u u' (Py.gm v B)) (ht : wC 1074 t t' B) (hB : B ≠ (0, 0)) {K : Nat} (lA : Py.Le (Py.gm v B) K) (lB : Py.Le B K) (hK : K ≤ 9007199254740992)
  (h1 : v.1.natAbs ≤ 8) (h2 : v.2.natAbs ≤ 8) (e : El.c2 x y = El.zdiv (El.c2 u u') (El.c2 t t')) : clC 1074 x y v :=
 clC_c2 (quo_clo (c2W hu) (c2W ht) hB (Nat.le_trans lA.one.1 hK) (Nat.le_trans lA.one.2 hK) (Nat.le_trans lB.one.1 hK) (Nat.le_trans lB.one.2 hK) h1 h2) e
end Go.Proofs.YtfgfofedacehiaaGreat.Sv

/-
 OWN TEXT: package chart over whole numbers: places, noughts, what a Moebius map divides by, its determinant.
-/
namespace Go.Proofs.YtfgfofedacehiaaGreat
open Go.ChangeShapes Go.WideShapes Go.ChangeAt Go.RowKit
set_option linter.unusedVariables false
set_option linter.unusedSimpArgs false
attribute [local go_sem] frombits_call tobits_call run_neg El.run_store_cx El.run_store_fl
namespace Ch
/-- the cells of a Moebius map -/
def mcs (a a' b b' c c' d d' : Nat) : List Value := [.int .u8 1, .complex .f64 a a', .complex .f64 b b', .complex .f64 c c', .complex .f64 d d', .float .f64 0]
/-- eight words are the map's four whole numbers -/
def W8 (a a' b b' c c' d d' : Nat) (m : Mq) : Prop := wC 1074 a a' m.a ∧ wC 1074 b b' m.b ∧ wC 1074 c c' m.c ∧ wC 1074 d d' m.d
theorem fz_new (w : World) (c : Array Value) (T : TypeId) (i : Nat) : (w.alloc (.cells c T)).frozen? ⟨w.heap.size, i, none⟩ = false := World.frozen?_alloc_at _ _ _ _ rfl
theorem set_any {w : World} {B i : Nat} {v u : Value} (h : w.cell? ⟨B, i, none⟩ = some u) : (w.setCell ⟨B, i, none⟩ v).cell? ⟨B, i, none⟩ = some v := World.cell?_setCell_same' _ _ _ (by rw [h]; rfl)
theorem set_off {w : World} {B i j : Nat} {v : Value} (h : i ≠ j) : (w.setCell ⟨B, i, none⟩ v).cell? ⟨B, j, none⟩ = w.cell? ⟨B, j, none⟩ := by
 rw [World.cell?_setCell_other]
 intro e; cases e; exact h rfl
theorem set_blk {w : World} {B B' i j : Nat} {v : Value} (h : B' ≠ B) : (w.setCell ⟨B', i, none⟩ v).cell? ⟨B, j, none⟩ = w.cell? ⟨B, j, none⟩ := by
 rw [World.cell?_setCell_other]
 intro e; cases e; exact h rfl
/-- a block's cells -/
structure Bl (w : World) (B : Nat) (l : List Value) : Prop where
 lt : B < w.heap.size
 c : ∀ j u, l[j]? = some u → w.cell? ⟨B, j, none⟩ = some u
 fz : ∀ i, w.frozen? ⟨B, i, none⟩ = false
theorem Bl.bw {w w' : World} {B : Nat} {l : List Value} (h : Bl w B l) (g : Bw w w') : Bl w' B l :=
 ⟨Nat.lt_of_lt_of_le h.lt g.size, fun j u hu => (Below.cell g (p := ⟨B, j, none⟩) h.lt).trans (h.c j u hu), fun i => (Below.frozen g (p := ⟨B, i, none⟩) h.lt).trans (h.fz i)⟩
theorem Bl.new (w : World) (c : Array Value) (T : TypeId) : Bl (w.alloc (.cells c T)) w.heap.size c.toList :=
 ⟨by simp, fun j u hu => by rw [World.cell?_alloc_at _ _ _ _ rfl]; simpa using hu, fun i => fz_new _ _ _ _⟩
theorem Bl.off {w : World} {B C i : Nat} {l : List Value} {v : Value} (h : Bl w B l) (hC : C ≠ B) : Bl (w.setCell ⟨C, i, none⟩ v) B l :=
 ⟨by simpa [World.setCell] using h.lt, fun j u hu => by rw [set_blk hC]; exact h.c j u hu, fun i => by rw [World.frozen?_setCell]; exact h.fz i⟩
theorem Bl.set {w : World} {B i : Nat} {l : List Value} (h : Bl w B l) (hi : i < l.length) (v : Value) : Bl (w.setCell ⟨B, i, none⟩ v) B (l.set i v) := by
 refine ⟨by simpa [World.setCell] using h.lt, fun j u hu => ?_, fun i => by rw [World.frozen?_setCell]; exact h.fz i⟩
 by_cases q : i = j
 ·
  subst q
  rw [List.getElem?_set_self hi] at hu
  cases hu
  exact set_any (h.c i l[i] (by simp [hi]))
 ·
  rw [List.getElem?_set_ne q] at hu
  rw [set_off q]
  exact h.c j u hu
/-- a map's block is written whole -/
def s6 (w : World) (B : Nat) (v0 v1 v2 v3 v4 v5 : Value) : World := (((((w.setCell ⟨B, 0, none⟩ v0).setCell ⟨B, 1, none⟩ v1).setCell ⟨B, 2, none⟩ v2).setCell ⟨B, 3, none⟩ v3).setCell ⟨B, 4, none⟩ v4).setCell ⟨B, 5, none⟩ v5
theorem s6_at {w : World} {B : Nat} {x0 x1 x2 x3 x4 x5 : Value} (h : Bl w B [x0, x1, x2, x3, x4, x5]) (v0 v1 v2 v3 v4 v5 : Value) : Bl (s6 w B v0 v1 v2 v3 v4 v5) B [v0, v1, v2, v3, v4, v5] :=
 (((((h.set (i := 0) (by simp) v0).set (i := 1) (by simp) v1).set (i := 2) (by simp) v2).set (i := 3) (by simp) v3).set (i := 4) (by simp) v4).set (i := 5) (by simp) v5
theorem s6_off {w : World} {B C : Nat} {l : List Value} (h : Bl w C l) (hC : B ≠ C) (v0 v1 v2 v3 v4 v5 : Value) : Bl (s6 w B v0 v1 v2 v3 v4 v5) C l :=
 (((((h.off (i := 0) hC).off (i := 1) hC).off (i := 2) hC).off (i := 3) hC).off (i := 4) hC).off (i := 5) hC
theorem s6_bw {u w : World} {B : Nat} (h : Bw u w) (hB : u.heap.size ≤ B) (v0 v1 v2 v3 v4 v5 : Value) : Bw u (s6 w B v0 v1 v2 v3 v4 v5) :=
 Below.setCell (Below.setCell (Below.setCell (Below.setCell (Below.setCell (Below.setCell h hB _) hB _) hB _) hB _) hB _) hB _
theorem map_load {w : World} {B : Nat} {x0 x1 x2 x3 x4 x5 : Value} (h : Bl w B [x0, x1, x2, x3, x4, x5]) : (loadVar 33 ⟨B, 0, none⟩).run Tryz.prog w = .ok (.agg #[x0, x1, x2, x3, x4, x5]) w := by
 refine run_loadVar_mid w B 0 33 [x0, x1, x2, x3, x4, x5] _ (fun j v hv => ?_) Tryz.underlying33 rfl (by kernel_rfl)
 rw [Nat.zero_add]
 exact h.c j v hv
theorem res_map2 {fn : Func} {i j : Tmp} (hr : fn.results = #[.cell i 33, .tmp j]) (tmps : Array Value) (w : World) (B : Nat) {x0 x1 x2 x3 x4 x5 : Value} (hi : tmps.getD i undef = .pointer (some ⟨B, 0, none⟩)) (h : Bl w B [x0, x1, x2, x3, x4, x5]) : (results fn tmps).run Tryz.prog w = .ok (.tuple #[.agg #[x0, x1, x2, x3, x4, x5], tmps.getD j undef]) w := by
 rw [results_cell_tmp hr, hi]
 simp only [asAddr, Sem.run_pure, Result.andThen_ok, map_load h]
theorem res_map {fn : Func} {i : Tmp} (hr : fn.results = #[.cell i 33]) (tmps : Array Value) (w : World) (B : Nat) {x0 x1 x2 x3 x4 x5 : Value} (hi : tmps.getD i undef = .pointer (some ⟨B, 0, none⟩)) (h : Bl w B [x0, x1, x2, x3, x4, x5]) : (results fn tmps).run Tryz.prog w = .ok (.agg #[x0, x1, x2, x3, x4, x5]) w := by
 have hp' : tmps[i]?.getD undef = .pointer (some ⟨B, 0, none⟩) := by simpa using hi
 simp [results, hr, hp', asAddr, map_load h]
/-- the cells of a map that is not made yet -/
abbrev z6 : List Value := [.int .u8 0, .complex .f64 0 0, .complex .f64 0 0, .complex .f64 0 0, .complex .f64 0 0, .float .f64 0]
end Ch
theorem isplace18 {x y : Nat} {g : Py.G} (hg : wC 1074 x y g) (hl : Py.Le g 1099511627776) (w : World) : Calls Tryz.prog 27 #[.complex .f64 x y] w fun e w' => e = .returned (.bool true) ∧ w' = w := by
 have A1 : Hid (∀ wz, Calls Tryz.prog 78 #[.float .f64 x, .float .f64 4787326403894837248] wz fun e w' => e = .returned (.bool true) ∧ w' = wz) := fun wz => by have q := within_any x 4787326403894837248 wz hg.1.1; rw [hg.1.within rfl hl.one.1] at q; exact q
 have A2 : Hid (∀ wz, Calls Tryz.prog 78 #[.float .f64 y, .float .f64 4787326403894837248] wz fun e w' => e = .returned (.bool true) ∧ w' = wz) := fun wz => by have q := within_any y 4787326403894837248 wz hg.2.1; rw [hg.2.within rfl hl.one.2] at q; exact q
 clear hg hl
 have P : Hid (∀ wz, Calls Tryz.prog 44 #[.complex .f64 x y, .float .f64 4787326403894837248] wz fun e w' => e = .returned (.bool true) ∧ w' = wz) := by
  intro wz
  go_enter Tryz.func44, Tryz.ntmps44
  go_wp2_with fail
  refine (A1.out _).mono ?_
  rintro e' w ⟨rfl, rfl⟩
  go_wp2_with fail
  refine (A2.out _).mono ?_
  rintro e' w ⟨rfl, rfl⟩
  go_wp2
  go_ret
  exact ⟨rfl, rfl⟩
 clear A1 A2
 go_enter Tryz.func27, Tryz.ntmps27
 go_wp2_with fail
 refine (P.out _).mono ?_
 rintro e' w ⟨rfl, rfl⟩
 go_wp2
 go_ret
 exact ⟨rfl, rfl⟩
theorem nought18 (x y : Nat) (w : World) : Calls Tryz.prog 40 #[.complex .f64 x y] w fun e w' => e = .returned (.bool (Fl.eqF x 0 && Fl.eqF y 0)) ∧ w' = w := by
 have o1 := Fl.o_eq x 0
 have o2 := Fl.o_eq y 0
 generalize Fl.eqF x 0 = p at *
 generalize Fl.eqF y 0 = q at *
 cases p
 ·
  go_enter Tryz.func40, Tryz.ntmps40
  go_wp2
  go_ret
  exact ⟨rfl, rfl⟩
 ·
  go_enter Tryz.func40, Tryz.ntmps40
  go_wp2
  go_ret
  exact ⟨rfl, rfl⟩
theorem isnought18 {x y : Nat} {g : Py.G} (hg : wC 1074 x y g) (w : World) : Calls Tryz.prog 40 #[.complex .f64 x y] w fun e w' => e = .returned (.bool (decide (g = (0, 0)))) ∧ w' = w := by
 have q := nought18 x y w
 rw [hg.1.eq (w_nought 1074), hg.2.eq (w_nought 1074)] at q
 rw [g_eq]
 exact q
theorem twice18 {a a' b b' c c' d d' M K : Nat} {g h k l : Py.G} (hg : wC 1074 a a' g) (hh : wC 1074 b b' h) (hk : wC 1074 c c' k) (hl : wC 1074 d d' l) (lg : Py.Le g K) (lh : Py.Le h M) (lk : Py.Le k K) (ll : Py.Le l M) (hs : K * M + K * M ≤ 9007199254740992) :
  ∃ r s, wC 1074 r s (Py.ga (Py.gm g h) (Py.gm k l)) ∧ ∀ w, Calls Tryz.prog 32 #[.complex .f64 a a', .complex .f64 b b', .complex .f64 c c', .complex .f64 d d'] w fun e w' => e = .returned (.complex .f64 r s) ∧ w' = w := by
 obtain ⟨p, p', h1, c1⟩ := pmul8 rfl hg hh lg lh (by omega)
 obtain ⟨q, q', h2, c2⟩ := pmul8 rfl hk hl lk ll (by omega)
 obtain ⟨r, s, h3, c3⟩ := padd8 rfl h1 h2 (lg.mul lh) (lk.mul ll) hs
 refine ⟨r, s, h3, fun w => ?_⟩
 have C1 := hide c1
 have C2 := hide c2
 have C3 := hide c3
 clear c1 c2 c3 hg hh hk hl lg lh lk ll hs h1 h2 h3
 go_enter Tryz.func32, Tryz.ntmps32
 go_wp2_with fail
 refine (C1.out _).mono ?_
 rintro e' w ⟨rfl, rfl⟩
 go_wp2_with fail
 refine (C2.out _).mono ?_
 rintro e' w ⟨rfl, rfl⟩
 go_wp2_with fail
 refine (C3.out _).mono ?_
 rintro e' w ⟨rfl, rfl⟩
 go_wp2
 go_ret
 exact ⟨rfl, rfl⟩
theorem moebius18 (a a' b b' c c' d d' : Nat) (w : World) : Calls Tryz.prog 31 #[.complex .f64 a a', .complex .f64 b b', .complex .f64 c c', .complex .f64 d d'] w fun e w' => e = .returned (.agg (Ch.mcs a a' b b' c c' d d').toArray) ∧ Bw w w' := by
 go_enter Tryz.func31, Tryz.ntmps31
 go_wp2
 refine bodyPost_ret (results_cell_row rfl _ _ w.heap.size _ _ _ _ rfl (heap_alloc_new _ _) Tryz.underlying33 rfl (by kernel_rfl)) rfl ?_
 exact ⟨rfl, bw_alloc _ _⟩
end Go.Proofs.YtfgfofedacehiaaGreat

/-
 OWN TEXT: package chart over whole numbers: the determinant, what must be so of a Moebius map, Check.
-/
namespace Go.Proofs.YtfgfofedacehiaaGreat
open Go.ChangeShapes Go.WideShapes Go.ChangeAt Go.RowKit
set_option linter.unusedVariables false
set_option linter.unusedSimpArgs false
attribute [local go_sem] frombits_call tobits_call run_neg El.run_store_cx El.run_store_fl
set_option maxHeartbeats 4000000 in
theorem det18 {a a' b b' c c' d d' M : Nat} {m : Ch.Mq} (hm : Ch.W8 a a' b b' c c' d d' m) (lm : Ch.Lq m M) (hs : M * M + M * M ≤ 9007199254740992) : ∃ r s, wC 1074 r s (Ch.dt m) ∧ ∀ w, Calls Tryz.prog 84 #[.agg #[.int .u8 1, .complex .f64 a a', .complex .f64 b b', .complex .f64 c c', .complex .f64 d d', .float .f64 0]] w fun e w' => e = .returned (.complex .f64 r s) ∧ Bw w w' := by
 obtain ⟨p, p', h1, c1⟩ := pmul8 rfl hm.1 hm.2.2.2 lm.1 lm.2.2.2 (by omega)
 obtain ⟨q, q', h2, c2⟩ := pmul8 rfl hm.2.1 hm.2.2.1 lm.2.1 lm.2.2.1 (by omega)
 obtain ⟨r, s, h3, c3⟩ := psub9 rfl h1 h2 (lm.1.mul lm.2.2.2) (lm.2.1.mul lm.2.2.1) hs
 refine ⟨r, s, h3, fun w => ?_⟩
 have C1 := hide c1
 have C2 := hide c2
 have C3 := hide c3
 clear c1 c2 c3 hm lm hs h1 h2 h3
 have G : Hid (Ch.Bl (w.alloc (.cells #[.int .u8 1, .complex .f64 a a', .complex .f64 b b', .complex .f64 c c', .complex .f64 d d', .float .f64 0] 61)) w.heap.size [.int .u8 1, .complex .f64 a a', .complex .f64 b b', .complex .f64 c c', .complex .f64 d d', .float .f64 0]) := hide (Ch.Bl.new w #[.int .u8 1, .complex .f64 a a', .complex .f64 b b', .complex .f64 c c', .complex .f64 d d', .float .f64 0] 61)
 have GB := hide (bw_alloc w (.cells #[.int .u8 1, .complex .f64 a a', .complex .f64 b b', .complex .f64 c c', .complex .f64 d d', .float .f64 0] 61))
 obtain ⟨W1, hW⟩ : ∃ v, w.alloc (.cells #[.int .u8 1, .complex .f64 a a', .complex .f64 b b', .complex .f64 c c', .complex .f64 d d', .float .f64 0] 61) = v := ⟨_, rfl⟩
 rw [hW] at G GB
 have HW := hide hW
 clear hW
 go_enter Tryz.func84, Tryz.ntmps84
 go_wp2_with fail
 have HW2 := HW.out
 rw [HW2]
 clear HW2 HW
 obtain ⟨A, hA⟩ : ∃ A, w.heap.size = A := ⟨_, rfl⟩
 rw [hA] at G ⊢
 clear hA
 refine wp_region_K (fun w' => Ch.Bl w' A ([.int .u8 1, .complex .f64 a a', .complex .f64 b b', .complex .f64 c c', .complex .f64 d d', .float .f64 0])) 11 12 #[false, false, false, false, false, false, false, false, false, false, false, false] (by kernel_rfl) (by kernel_rfl) (by kernel_rfl) ?_
 have G1 := hide (G.out.bw (Bw.refl W1).drew)
 have GD := hide (GB.out.drew)
 generalize W1.drew = V at *
 have S1 : Ch.Bl V A ([.int .u8 1, .complex .f64 a a', .complex .f64 b b', .complex .f64 c c', .complex .f64 d d', .float .f64 0]) := G1.out
 refine wpAnyK_take 0 3 (v := ?v0) rfl (by kernel_rfl) (by kernel_rfl) (by kernel_rfl) (by kernel_rfl) (by kernel_rfl) (fun _ _ _ h => h) rfl (Or.inl ⟨by rfl, ?h0⟩) (by assumption) ?r0
 case h0 => (intro w hSw; have c0 := hSw.c 0 _ rfl; have c1 := hSw.c 1 _ rfl; have c2 := hSw.c 2 _ rfl; have c3 := hSw.c 3 _ rfl; have c4 := hSw.c 4 _ rfl; have c5 := hSw.c 5 _ rfl; go_simp; with_reducible rfl)
 simp only [Act.put, List.setIfInBounds_toArray, List.set_cons_zero, List.set_cons_succ]
 refine wpAnyK_take 1 4 (v := ?v1) rfl (by kernel_rfl) (by kernel_rfl) (by kernel_rfl) (by kernel_rfl) (by kernel_rfl) (fun _ _ _ h => h) rfl (Or.inl ⟨by rfl, ?h1⟩) (by assumption) ?r1
 case h1 => (intro w hSw; have c0 := hSw.c 0 _ rfl; have c1 := hSw.c 1 _ rfl; have c2 := hSw.c 2 _ rfl; have c3 := hSw.c 3 _ rfl; have c4 := hSw.c 4 _ rfl; have c5 := hSw.c 5 _ rfl; go_simp; with_reducible rfl)
 simp only [Act.put, List.setIfInBounds_toArray, List.set_cons_zero, List.set_cons_succ]
 refine wpAnyK_take 2 5 (v := ?v2) rfl (by kernel_rfl) (by kernel_rfl) (by kernel_rfl) (by kernel_rfl) (by kernel_rfl) (fun _ _ _ h => h) rfl (Or.inl ⟨by rfl, ?h2⟩) (by assumption) ?r2
 case h2 => (intro w hSw; have c0 := hSw.c 0 _ rfl; have c1 := hSw.c 1 _ rfl; have c2 := hSw.c 2 _ rfl; have c3 := hSw.c 3 _ rfl; have c4 := hSw.c 4 _ rfl; have c5 := hSw.c 5 _ rfl; go_simp; with_reducible rfl)
 simp only [Act.put, List.setIfInBounds_toArray, List.set_cons_zero, List.set_cons_succ]
 refine wpAnyK_take 3 6 (v := ?v3) rfl (by kernel_rfl) (by kernel_rfl) (by kernel_rfl) (by kernel_rfl) (by kernel_rfl) (fun _ _ _ h => h) rfl (Or.inl ⟨by rfl, ?h3⟩) (by assumption) ?r3
 case h3 => (intro w hSw; have c0 := hSw.c 0 _ rfl; have c1 := hSw.c 1 _ rfl; have c2 := hSw.c 2 _ rfl; have c3 := hSw.c 3 _ rfl; have c4 := hSw.c 4 _ rfl; have c5 := hSw.c 5 _ rfl; go_simp; with_reducible rfl)
 simp only [Act.put, List.setIfInBounds_toArray, List.set_cons_zero, List.set_cons_succ]
 refine wpAnyK_take 5 8 (v := ?v5) rfl (by kernel_rfl) (by kernel_rfl) (by kernel_rfl) (by kernel_rfl) (by kernel_rfl) (fun _ _ _ h => h) rfl (Or.inl ⟨by rfl, ?h5⟩) (by assumption) ?r5
 case h5 => (intro w hSw; have c0 := hSw.c 0 _ rfl; have c1 := hSw.c 1 _ rfl; have c2 := hSw.c 2 _ rfl; have c3 := hSw.c 3 _ rfl; have c4 := hSw.c 4 _ rfl; have c5 := hSw.c 5 _ rfl; go_simp; with_reducible rfl)
 simp only [Act.put, List.setIfInBounds_toArray, List.set_cons_zero, List.set_cons_succ]
 refine wpAnyK_take 6 9 (v := ?v6) rfl (by kernel_rfl) (by kernel_rfl) (by kernel_rfl) (by kernel_rfl) (by kernel_rfl) (fun _ _ _ h => h) rfl (Or.inl ⟨by rfl, ?h6⟩) (by assumption) ?r6
 case h6 => (intro w hSw; have c0 := hSw.c 0 _ rfl; have c1 := hSw.c 1 _ rfl; have c2 := hSw.c 2 _ rfl; have c3 := hSw.c 3 _ rfl; have c4 := hSw.c 4 _ rfl; have c5 := hSw.c 5 _ rfl; go_simp; with_reducible rfl)
 simp only [Act.put, List.setIfInBounds_toArray, List.set_cons_zero, List.set_cons_succ]
 refine wpAnyK_take 7 10 (v := ?v7) rfl (by kernel_rfl) (by kernel_rfl) (by kernel_rfl) (by kernel_rfl) (by kernel_rfl) (fun _ _ _ h => h) rfl (Or.inl ⟨by rfl, ?h7⟩) (by assumption) ?r7
 case h7 => (intro w hSw; have c0 := hSw.c 0 _ rfl; have c1 := hSw.c 1 _ rfl; have c2 := hSw.c 2 _ rfl; have c3 := hSw.c 3 _ rfl; have c4 := hSw.c 4 _ rfl; have c5 := hSw.c 5 _ rfl; go_simp; with_reducible rfl)
 simp only [Act.put, List.setIfInBounds_toArray, List.set_cons_zero, List.set_cons_succ]
 refine wpAnyK_take 8 11 (v := ?v8) rfl (by kernel_rfl) (by kernel_rfl) (by kernel_rfl) (by kernel_rfl) (by kernel_rfl) (fun _ _ _ h => h) rfl (Or.inl ⟨by rfl, ?h8⟩) (by assumption) ?r8
 case h8 => (intro w hSw; have c0 := hSw.c 0 _ rfl; have c1 := hSw.c 1 _ rfl; have c2 := hSw.c 2 _ rfl; have c3 := hSw.c 3 _ rfl; have c4 := hSw.c 4 _ rfl; have c5 := hSw.c 5 _ rfl; go_simp; with_reducible rfl)
 simp only [Act.put, List.setIfInBounds_toArray, List.set_cons_zero, List.set_cons_succ]
 refine wpAnyK_one 4 (by kernel_rfl) rfl (fun K hK => ?_)
 go_simp
 refine (C1.out _).mono ?_
 rintro e' w' ⟨rfl, rfl⟩
 refine hK.out _ _ (fun _ _ => S1) ?_
 clear hK K
 simp only [List.setIfInBounds_toArray, List.set_cons_zero, List.set_cons_succ]
 refine wpAnyK_one 9 (by kernel_rfl) rfl (fun K hK => ?_)
 go_simp
 refine (C2.out _).mono ?_
 rintro e' w' ⟨rfl, rfl⟩
 refine hK.out _ _ (fun _ _ => S1) ?_
 clear hK K
 simp only [List.setIfInBounds_toArray, List.set_cons_zero, List.set_cons_succ]
 refine wpAnyK_one 10 (by kernel_rfl) rfl (fun K hK => ?_)
 go_simp
 refine (C3.out _).mono ?_
 rintro e' w' ⟨rfl, rfl⟩
 refine hK.out _ _ (fun _ _ => S1) ?_
 clear hK K
 simp only [List.setIfInBounds_toArray, List.set_cons_zero, List.set_cons_succ]
 refine wpAnyK_one 11 (by kernel_rfl) rfl (fun K hK => ?_)
 go_simp
 refine hK.out _ _ (fun h => absurd rfl h) ?_
 clear hK K
 simp only [List.setIfInBounds_toArray, List.set_cons_zero, List.set_cons_succ]
 refine wpAnyK_done (by kernel_rfl) ?_ _
 go_wp2
 go_ret
 exact ⟨rfl, GD.out⟩
theorem may18 {a a' b b' c c' d d' M : Nat} {m : Ch.Mq} (hm : Ch.W8 a a' b b' c c' d d' m) (lm : Ch.Lq m M) (hs : M * M + M * M ≤ 9007199254740992) (w : World) : Calls Tryz.prog 54 #[.agg #[.int .u8 1, .complex .f64 a a', .complex .f64 b b', .complex .f64 c c', .complex .f64 d d', .float .f64 0]] w fun e w' => e = .returned (.bool (decide (Ch.dt m ≠ (0, 0)))) ∧ Bw w w' := by
 obtain ⟨r, s, h, c⟩ := det18 hm lm hs
 have N : Hid (∀ wz, Calls Tryz.prog 40 #[.complex .f64 r s] wz fun e w' => e = .returned (.bool (decide (Ch.dt m = (0, 0)))) ∧ w' = wz) := fun wz => isnought18 h wz
 have C := hide c
 have E : decide (Ch.dt m ≠ (0, 0)) = !decide (Ch.dt m = (0, 0)) := by by_cases z : Ch.dt m = (0, 0) <;> simp [z]
 rw [E]
 generalize decide (Ch.dt m = (0, 0)) = z at *
 clear c h hm lm hs E
 have G : Hid (Ch.Bl (w.alloc (.cells #[.int .u8 1, .complex .f64 a a', .complex .f64 b b', .complex .f64 c c', .complex .f64 d d', .float .f64 0] 61)) w.heap.size [.int .u8 1, .complex .f64 a a', .complex .f64 b b', .complex .f64 c c', .complex .f64 d d', .float .f64 0]) := hide (Ch.Bl.new w #[.int .u8 1, .complex .f64 a a', .complex .f64 b b', .complex .f64 c c', .complex .f64 d d', .float .f64 0] 61)
 have GB := hide (bw_alloc w (.cells #[.int .u8 1, .complex .f64 a a', .complex .f64 b b', .complex .f64 c c', .complex .f64 d d', .float .f64 0] 61))
 obtain ⟨W1, hW⟩ : ∃ v, w.alloc (.cells #[.int .u8 1, .complex .f64 a a', .complex .f64 b b', .complex .f64 c c', .complex .f64 d d', .float .f64 0] 61) = v := ⟨_, rfl⟩
 rw [hW] at G GB
 have HW := hide hW
 clear hW
 go_enter Tryz.func54, Tryz.ntmps54
 have o := Fl.o_eq 0 0
 have oe : Fl.eqF 0 0 = true := by decide
 rw [oe] at o
 clear oe
 go_wp2_with fail
 refine (C.out _).mono ?_
 rintro e' w2 ⟨rfl, b2⟩
 have GC := hide (bw_trans (bw_alloc w (.cells #[.int .u8 1, .complex .f64 a a', .complex .f64 b b', .complex .f64 c c', .complex .f64 d d', .float .f64 0] 61)) b2)
 have c5 := ((Ch.Bl.new w #[.int .u8 1, .complex .f64 a a', .complex .f64 b b', .complex .f64 c c', .complex .f64 d d', .float .f64 0] 61).bw b2).c 5 _ rfl
 clear b2 G GB HW
 go_wp2_with fail
 refine (N.out _).mono ?_
 rintro e' w3 ⟨rfl, rfl⟩
 cases z
 ·
  go_wp2
  go_ret
  exact ⟨rfl, GC.out⟩
 ·
  go_wp2
  go_ret
  exact ⟨rfl, GC.out⟩
end Go.Proofs.YtfgfofedacehiaaGreat

/-
 OWN TEXT: package chart over whole numbers: Check, checked.
-/
namespace Go.Proofs.YtfgfofedacehiaaGreat
open Go.ChangeShapes Go.WideShapes Go.ChangeAt Go.RowKit
set_option linter.unusedVariables false
set_option linter.unusedSimpArgs false
theorem Ch.run_store_fn {P : Program} {w : World} {a : Addr} {m : Mode} (f : Fn) (x y : Array Value) : (store a (.func f x y) m).run P w = stored P w a (.func f x y) m := run_store P w a _ m rfl
theorem Ch.run_store_nf {P : Program} {w : World} {a : Addr} {m : Mode} : (store a .nilFunc m).run P w = stored P w a .nilFunc m := run_store P w a _ m rfl
attribute [local go_sem] Ch.run_store_fn Ch.run_store_nf frombits_call tobits_call run_neg El.run_store_cx El.run_store_fl
theorem musts18 (w : World) : Calls Tryz.prog 29 #[] w fun e w' => e = .returned (.agg #[.nilFunc, .func (.func 54) #[] #[], .func (.func 55) #[] #[], .func (.func 56) #[] #[], .func (.func 57) #[] #[]]) ∧ Bw w w' := by
 go_enter Tryz.func29, Tryz.ntmps29
 go_wp2
 refine bodyPost_ret (results_cell_row rfl _ _ w.heap.size _ _ _ _ rfl (heap_alloc_new _ _) Tryz.underlying59 rfl (by kernel_rfl)) rfl ?_
 exact ⟨rfl, bw_alloc _ _⟩
theorem idx18 (w : World) : (Instr.index 59 (.agg #[.nilFunc, .func (.func 54) #[] #[], .func (.func 55) #[] #[], .func (.func 56) #[] #[], .func (.func 57) #[] #[]]) (.int .u8 1)).run Tryz.prog w = .ok (.func (.func 54) #[] #[]) w := by kernel_rfl
attribute [local go_sem] idx18
set_option maxHeartbeats 4000000 in
theorem check18 {a a' b b' c c' d d' M : Nat} {m : Ch.Mq} (hm : Ch.W8 a a' b b' c c' d d' m) (lm : Ch.Lq m M) (hM : M ≤ 1099511627776) (hs : M * M + M * M ≤ 9007199254740992) (w : World) : Calls Tryz.prog 14 #[.agg #[.int .u8 1, .complex .f64 a a', .complex .f64 b b', .complex .f64 c c', .complex .f64 d d', .float .f64 0]] w fun e w' => e = .returned (.int .i64 (if Ch.dt m = (0, 0) then 180 else 0)) ∧ Bw w w' := by
 have P1 : Hid (∀ wz, Calls Tryz.prog 27 #[.complex .f64 a a'] wz fun e w' => e = .returned (.bool true) ∧ w' = wz) := fun wz => isplace18 hm.1 (lm.1.mono hM) wz
 have P2 : Hid (∀ wz, Calls Tryz.prog 27 #[.complex .f64 b b'] wz fun e w' => e = .returned (.bool true) ∧ w' = wz) := fun wz => isplace18 hm.2.1 (lm.2.1.mono hM) wz
 have P3 : Hid (∀ wz, Calls Tryz.prog 27 #[.complex .f64 c c'] wz fun e w' => e = .returned (.bool true) ∧ w' = wz) := fun wz => isplace18 hm.2.2.1 (lm.2.2.1.mono hM) wz
 have P4 : Hid (∀ wz, Calls Tryz.prog 27 #[.complex .f64 d d'] wz fun e w' => e = .returned (.bool true) ∧ w' = wz) := fun wz => isplace18 hm.2.2.2 (lm.2.2.2.mono hM) wz
 have P5 : Hid (∀ wz, Calls Tryz.prog 27 #[.complex .f64 0 0] wz fun e w' => e = .returned (.bool true) ∧ w' = wz) := fun wz => isplace18 (g := (0, 0)) ⟨w_nought 1074, w_nought 1074⟩ (by unfold Py.Le; decide) wz
 have MU : Hid (∀ wz, Calls Tryz.prog 29 #[] wz fun e w' => e = .returned (.agg #[.nilFunc, .func (.func 54) #[] #[], .func (.func 55) #[] #[], .func (.func 56) #[] #[], .func (.func 57) #[] #[]]) ∧ Bw wz w') := fun wz => musts18 wz
 have MM := hide (may18 hm lm hs)
 have E : (if Ch.dt m = (0, 0) then (180 : Int) else 0) = if decide (Ch.dt m ≠ (0, 0)) = true then 0 else 180 := by by_cases z : Ch.dt m = (0, 0) <;> simp [z]
 rw [E]
 generalize decide (Ch.dt m ≠ (0, 0)) = z at *
 clear hm lm hM hs E
 have G : Hid (Ch.Bl (w.alloc (.cells #[.int .u8 1, .complex .f64 a a', .complex .f64 b b', .complex .f64 c c', .complex .f64 d d', .float .f64 0] 33)) w.heap.size [.int .u8 1, .complex .f64 a a', .complex .f64 b b', .complex .f64 c c', .complex .f64 d d', .float .f64 0]) := hide (Ch.Bl.new w #[.int .u8 1, .complex .f64 a a', .complex .f64 b b', .complex .f64 c c', .complex .f64 d d', .float .f64 0] 33)
 have GB := hide (bw_alloc w (.cells #[.int .u8 1, .complex .f64 a a', .complex .f64 b b', .complex .f64 c c', .complex .f64 d d', .float .f64 0] 33))
 obtain ⟨W1, hW⟩ : ∃ v, w.alloc (.cells #[.int .u8 1, .complex .f64 a a', .complex .f64 b b', .complex .f64 c c', .complex .f64 d d', .float .f64 0] 33) = v := ⟨_, rfl⟩
 rw [hW] at G GB
 have HW := hide hW
 clear hW
 go_enter Tryz.func14, Tryz.ntmps14
 go_wp2_with fail
 refine (P1.out _).mono ?_
 rintro e' w ⟨rfl, rfl⟩
 go_wp2_with fail
 refine (P2.out _).mono ?_
 rintro e' w ⟨rfl, rfl⟩
 go_wp2_with fail
 refine (P3.out _).mono ?_
 rintro e' w ⟨rfl, rfl⟩
 go_wp2_with fail
 refine (P4.out _).mono ?_
 rintro e' w ⟨rfl, rfl⟩
 go_wp2_with fail
 refine (P5.out _).mono ?_
 rintro e' w ⟨rfl, rfl⟩
 go_wp2_with fail
 have HW2 := HW.out
 rw [HW2]
 clear HW2 HW P1 P2 P3 P4 P5
 obtain ⟨A, hA⟩ : ∃ A, w.heap.size = A := ⟨_, rfl⟩
 rw [hA] at G ⊢
 clear hA
 refine wp_region_K (fun w' => Ch.Bl w' A [.int .u8 1, .complex .f64 a a', .complex .f64 b b', .complex .f64 c c', .complex .f64 d d', .float .f64 0]) 6 7 #[false, false, false, false, false, false, false] (by kernel_rfl) (by kernel_rfl) (by kernel_rfl) ?_
 have G1 := hide (G.out.bw (Bw.refl W1).drew)
 have GD := hide (GB.out.drew)
 generalize W1.drew = V at *
 have S1 : Ch.Bl V A [.int .u8 1, .complex .f64 a a', .complex .f64 b b', .complex .f64 c c', .complex .f64 d d', .float .f64 0] := G1.out
 refine wpAnyK_take 1 42 (v := ?v1) rfl (by kernel_rfl) (by kernel_rfl) (by kernel_rfl) (by kernel_rfl) (by kernel_rfl) (fun _ _ _ h => h) rfl (Or.inl ⟨by rfl, ?h1⟩) (by assumption) ?r1
 case h1 => (intro w hSw; have c0 := hSw.c 0 _ rfl; have c1 := hSw.c 1 _ rfl; have c2 := hSw.c 2 _ rfl; have c3 := hSw.c 3 _ rfl; have c4 := hSw.c 4 _ rfl; have c5 := hSw.c 5 _ rfl; go_simp; with_reducible rfl)
 simp only [Act.put, List.setIfInBounds_toArray, List.set_cons_zero, List.set_cons_succ]
 refine wpAnyK_take 2 43 (v := ?v2) rfl (by kernel_rfl) (by kernel_rfl) (by kernel_rfl) (by kernel_rfl) (by kernel_rfl) (fun _ _ _ h => h) rfl (Or.inl ⟨by rfl, ?h2⟩) (by assumption) ?r2
 case h2 => (intro w hSw; have c0 := hSw.c 0 _ rfl; have c1 := hSw.c 1 _ rfl; have c2 := hSw.c 2 _ rfl; have c3 := hSw.c 3 _ rfl; have c4 := hSw.c 4 _ rfl; have c5 := hSw.c 5 _ rfl; go_simp; with_reducible rfl)
 simp only [Act.put, List.setIfInBounds_toArray, List.set_cons_zero, List.set_cons_succ]
 refine wpAnyK_take 4 45 (v := ?v4) rfl (by kernel_rfl) (by kernel_rfl) (by kernel_rfl) (by kernel_rfl) (by kernel_rfl) (fun _ _ _ h => h) rfl (Or.inl ⟨by rfl, ?h4⟩) (by assumption) ?r4
 case h4 => (intro w hSw; have c0 := hSw.c 0 _ rfl; have c1 := hSw.c 1 _ rfl; have c2 := hSw.c 2 _ rfl; have c3 := hSw.c 3 _ rfl; have c4 := hSw.c 4 _ rfl; have c5 := hSw.c 5 _ rfl; go_simp; with_reducible rfl)
 simp only [Act.put, List.setIfInBounds_toArray, List.set_cons_zero, List.set_cons_succ]
 refine wpAnyK_one 0 (by kernel_rfl) rfl (fun K hK => ?_)
 go_simp
 refine (MU.out _).mono ?_
 rintro e' w2 ⟨rfl, b2⟩
 have S2 := S1.bw b2
 refine hK.out _ _ (fun _ _ => S2) ?_
 clear hK K
 simp only [List.setIfInBounds_toArray, List.set_cons_zero, List.set_cons_succ]
 refine wpAnyK_take 3 44 (v := ?v3) rfl (by kernel_rfl) (by kernel_rfl) (by kernel_rfl) (by kernel_rfl) (by kernel_rfl) (fun _ _ _ h => h) rfl (Or.inl ⟨by rfl, ?h3⟩) (by assumption) ?r3
 case h3 => (intro w hSw; have c0 := hSw.c 0 _ rfl; have c1 := hSw.c 1 _ rfl; have c2 := hSw.c 2 _ rfl; have c3 := hSw.c 3 _ rfl; have c4 := hSw.c 4 _ rfl; have c5 := hSw.c 5 _ rfl; go_simp; with_reducible rfl)
 simp only [Act.put, List.setIfInBounds_toArray, List.set_cons_zero, List.set_cons_succ]
 refine wpAnyK_one 5 (by kernel_rfl) rfl (fun K hK => ?_)
 go_simp
 refine (MM.out _).mono ?_
 rintro e' w3 ⟨rfl, b3⟩
 have S3 := S2.bw b3
 refine hK.out _ _ (fun _ _ => S3) ?_
 clear hK K
 simp only [List.setIfInBounds_toArray, List.set_cons_zero, List.set_cons_succ]
 refine wpAnyK_one 6 (by kernel_rfl) rfl (fun K hK => ?_)
 go_simp
 refine hK.out _ _ (fun h => absurd rfl h) ?_
 clear hK K
 simp only [List.setIfInBounds_toArray, List.set_cons_zero, List.set_cons_succ]
 refine wpAnyK_done (by kernel_rfl) ?_ _
 cases z
 ·
  go_wp2
  go_ret
  exact ⟨rfl, bw_trans (bw_trans GD.out b2) b3⟩
 ·
  go_wp2
  go_ret
  exact ⟨rfl, bw_trans (bw_trans GD.out b2) b3⟩
set_option maxHeartbeats 4000000 in
theorem checked18 {a a' b b' c c' d d' M : Nat} {m : Ch.Mq} (hm : Ch.W8 a a' b b' c c' d d' m) (lm : Ch.Lq m M) (hM : M ≤ 1099511627776) (hs : M * M + M * M ≤ 9007199254740992) (hd : Ch.dt m ≠ (0, 0)) (w : World) : Calls Tryz.prog 30 #[.agg #[.int .u8 1, .complex .f64 a a', .complex .f64 b b', .complex .f64 c c', .complex .f64 d d', .float .f64 0]] w fun e w' => e = .returned (.tuple #[.agg #[.int .u8 1, .complex .f64 a a', .complex .f64 b b', .complex .f64 c c', .complex .f64 d d', .float .f64 0], .int .i64 0]) ∧ Bw w w' := by
 have CK : Hid (∀ wz, Calls Tryz.prog 14 #[.agg #[.int .u8 1, .complex .f64 a a', .complex .f64 b b', .complex .f64 c c', .complex .f64 d d', .float .f64 0]] wz fun e w' => e = .returned (.int .i64 0) ∧ Bw wz w') := fun wz => by have q := check18 hm lm hM hs wz; rw [if_neg hd] at q; exact q
 clear hm lm hM hs hd
 have g1 := Ch.Bl.new w #[.int .u8 1, .complex .f64 a a', .complex .f64 b b', .complex .f64 c c', .complex .f64 d d', .float .f64 0] 33
 have z1 : (w.alloc (.cells #[.int .u8 1, .complex .f64 a a', .complex .f64 b b', .complex .f64 c c', .complex .f64 d d', .float .f64 0] 33)).heap.size = w.heap.size + 1 := by simp
 have b1 := bw_alloc w (.cells #[.int .u8 1, .complex .f64 a a', .complex .f64 b b', .complex .f64 c c', .complex .f64 d d', .float .f64 0] 33)
 obtain ⟨W1, hW1⟩ : ∃ v, w.alloc (.cells #[.int .u8 1, .complex .f64 a a', .complex .f64 b b', .complex .f64 c c', .complex .f64 d d', .float .f64 0] 33) = v := ⟨_, rfl⟩
 rw [hW1] at g1 z1 b1
 have g2 := Ch.Bl.new W1 #[.int .u8 0, .complex .f64 0 0, .complex .f64 0 0, .complex .f64 0 0, .complex .f64 0 0, .float .f64 0] 33
 have z2 : (W1.alloc (.cells #[.int .u8 0, .complex .f64 0 0, .complex .f64 0 0, .complex .f64 0 0, .complex .f64 0 0, .float .f64 0] 33)).heap.size = w.heap.size + 1 + 1 := by simp [z1]
 have b2 := bw_alloc W1 (.cells #[.int .u8 0, .complex .f64 0 0, .complex .f64 0 0, .complex .f64 0 0, .complex .f64 0 0, .float .f64 0] 33)
 obtain ⟨W2, hW2⟩ : ∃ v, W1.alloc (.cells #[.int .u8 0, .complex .f64 0 0, .complex .f64 0 0, .complex .f64 0 0, .complex .f64 0 0, .float .f64 0] 33) = v := ⟨_, rfl⟩
 rw [hW2] at g2 z2 b2
 have GG : Hid (Ch.Bl W2 (w.heap.size) [.int .u8 1, .complex .f64 a a', .complex .f64 b b', .complex .f64 c c', .complex .f64 d d', .float .f64 0] ∧ Ch.Bl W2 (w.heap.size + 1) [.int .u8 0, .complex .f64 0 0, .complex .f64 0 0, .complex .f64 0 0, .complex .f64 0 0, .float .f64 0] ∧ Bw w W2) := ⟨(show Ch.Bl _ (w.heap.size) _ from g1).bw b2, (show Ch.Bl _ (w.heap.size + 1) _ from z1 ▸ g2), (bw_trans b1 b2)⟩
 have HW := hide (And.intro hW1 (hW2))
 clear g1 b1 z1 hW1 g2 b2 z2 hW2
 go_enter Tryz.func30, Tryz.ntmps30
 go_wp2_with fail
 rw [HW.out.1, HW.out.2]
 obtain ⟨A, hA⟩ : ∃ A, w.heap.size = A := ⟨_, rfl⟩
 rw [hA] at GG ⊢
 have HA := hide hA
 have GGS := True.intro
 refine (CK.out _).mono ?_
 rintro e' w3 ⟨rfl, bb⟩
 have G3 : Hid (Ch.Bl w3 (A) [.int .u8 1, .complex .f64 a a', .complex .f64 b b', .complex .f64 c c', .complex .f64 d d', .float .f64 0] ∧ Ch.Bl w3 (A + 1) [.int .u8 0, .complex .f64 0 0, .complex .f64 0 0, .complex .f64 0 0, .complex .f64 0 0, .float .f64 0] ∧ Bw w w3) := ⟨GG.out.1.bw bb, GG.out.2.1.bw bb, bw_trans GG.out.2.2 bb⟩
 clear bb GGS
 have G3S : Ch.Bl w3 (A) [.int .u8 1, .complex .f64 a a', .complex .f64 b b', .complex .f64 c c', .complex .f64 d d', .float .f64 0] ∧ Ch.Bl w3 (A + 1) [.int .u8 0, .complex .f64 0 0, .complex .f64 0 0, .complex .f64 0 0, .complex .f64 0 0, .float .f64 0] := ⟨G3.out.1, G3.out.2.1⟩
 have c00 := (G3.out.1).c 0 _ rfl
 have c01 := (G3.out.1).c 1 _ rfl
 have c02 := (G3.out.1).c 2 _ rfl
 have c03 := (G3.out.1).c 3 _ rfl
 have c04 := (G3.out.1).c 4 _ rfl
 have c05 := (G3.out.1).c 5 _ rfl
 have GZ : Hid (∀ V, V = Ch.s6 w3 (A + 1) (.int .u8 1) (.complex .f64 a a') (.complex .f64 b b') (.complex .f64 c c') (.complex .f64 d d') (.float .f64 0) → Ch.Bl V (A) [.int .u8 1, .complex .f64 a a', .complex .f64 b b', .complex .f64 c c', .complex .f64 d d', .float .f64 0] ∧ Ch.Bl V (A + 1) [.int .u8 1, .complex .f64 a a', .complex .f64 b b', .complex .f64 c c', .complex .f64 d d', .float .f64 0] ∧ Bw w V) := by
  rintro V rfl
  exact ⟨Ch.s6_off G3.out.1 (by omega) _ _ _ _ _ _, Ch.s6_at G3.out.2.1 _ _ _ _ _ _, Ch.s6_bw G3.out.2.2 (by have := HA.out; omega) _ _ _ _ _ _⟩
 have q0 := (G3.out.2.1).c 0 _ rfl
 have r0 := (G3.out.2.1).fz 0
 have q1 := (G3.out.2.1).c 1 _ rfl
 have r1 := (G3.out.2.1).fz 1
 have q2 := (G3.out.2.1).c 2 _ rfl
 have r2 := (G3.out.2.1).fz 2
 have q3 := (G3.out.2.1).c 3 _ rfl
 have r3 := (G3.out.2.1).fz 3
 have q4 := (G3.out.2.1).c 4 _ rfl
 have r4 := (G3.out.2.1).fz 4
 have q5 := (G3.out.2.1).c 5 _ rfl
 have r5 := (G3.out.2.1).fz 5
 go_wp2
 obtain ⟨W4, hV⟩ : ∃ V, V = Ch.s6 w3 (A + 1) (.int .u8 1) (.complex .f64 a a') (.complex .f64 b b') (.complex .f64 c c') (.complex .f64 d d') (.float .f64 0) := ⟨_, rfl⟩
 have G4 := hide (GZ.out _ hV)
 unfold Ch.s6 at hV
 rw [← hV]
 clear hV GZ q0 r0 q1 r1 q2 r2 q3 r3 q4 r4 q5 r5
 refine bodyPost_ret (Ch.res_map2 rfl _ _ (A + 1) rfl G4.out.2.1) rfl ?_
 exact ⟨rfl, G4.out.2.2⟩
end Go.Proofs.YtfgfofedacehiaaGreat

