/-
 OWN TEXT: complex numbers over a ring; Moebius maps of whole numbers (no world).
-/
import Derived.Test.YtfgfofedacehiaaGreatJPyAToPyB
namespace Go.Proofs.YtfgfofedacehiaaGreat
set_option linter.unusedVariables false
set_option linter.unusedSectionVars false
structure Cx (R : Type) where
 re : R
 im : R
namespace Cx
variable {R : Type} [Lean.Grind.CommRing R]
attribute [local instance] Lean.Grind.Semiring.natCast Lean.Grind.Ring.intCast
@[ext] theorem ext' {a b : Cx R} (h1 : a.re = b.re) (h2 : a.im = b.im) : a = b := by cases a; cases b; simp_all
instance : Add (Cx R) := ⟨fun a b => ⟨a.re + b.re, a.im + b.im⟩⟩
instance : Sub (Cx R) := ⟨fun a b => ⟨a.re - b.re, a.im - b.im⟩⟩
instance : Mul (Cx R) := ⟨fun a b => ⟨a.re * b.re - a.im * b.im, a.re * b.im + a.im * b.re⟩⟩
instance : Neg (Cx R) := ⟨fun a => ⟨-a.re, -a.im⟩⟩
instance : NatCast (Cx R) := ⟨fun n => ⟨(n : R), 0⟩⟩
instance : IntCast (Cx R) := ⟨fun n => ⟨(n : R), 0⟩⟩
instance (n : Nat) : OfNat (Cx R) n := ⟨⟨(n : R), 0⟩⟩
instance : SMul Nat (Cx R) := ⟨fun n a => ⟨(n : R) * a.re, (n : R) * a.im⟩⟩
instance : SMul Int (Cx R) := ⟨fun n a => ⟨(n : R) * a.re, (n : R) * a.im⟩⟩
def pw (a : Cx R) : Nat → Cx R
 | 0 => ⟨1, 0⟩
 | n + 1 => pw a n * a
instance : HPow (Cx R) Nat (Cx R) := ⟨pw⟩
instance : NatPow (Cx R) := ⟨pw⟩
@[simp] theorem add_re (a b : Cx R) : (a + b).re = a.re + b.re := rfl
@[simp] theorem add_im (a b : Cx R) : (a + b).im = a.im + b.im := rfl
@[simp] theorem sub_re (a b : Cx R) : (a - b).re = a.re - b.re := rfl
@[simp] theorem sub_im (a b : Cx R) : (a - b).im = a.im - b.im := rfl
@[simp] theorem mul_re (a b : Cx R) : (a * b).re = a.re * b.re - a.im * b.im := rfl
@[simp] theorem mul_im (a b : Cx R) : (a * b).im = a.re * b.im + a.im * b.re := rfl
@[simp] theorem neg_re (a : Cx R) : (-a).re = -a.re := rfl
@[simp] theorem neg_im (a : Cx R) : (-a).im = -a.im := rfl
instance : Lean.Grind.CommRing (Cx R) where
 natCast := ⟨fun n => ⟨(n : R), 0⟩⟩
 intCast := ⟨fun n => ⟨(n : R), 0⟩⟩
 add_zero a := by
  ext
  · show a.re + ((0 : Nat) : R) = a.re; grind
  · show a.im + 0 = a.im; grind
 add_comm a b := by ext <;> simp <;> grind
 add_assoc a b c := by ext <;> simp <;> grind
 mul_assoc a b c := by ext <;> simp <;> grind
 mul_comm a b := by ext <;> simp <;> grind
 mul_one a := by
  ext
  · show a.re * ((1 : Nat) : R) - a.im * 0 = a.re; grind
  · show a.re * 0 + a.im * ((1 : Nat) : R) = a.im; grind
 one_mul a := by
  ext
  · show ((1 : Nat) : R) * a.re - 0 * a.im = a.re; grind
  · show ((1 : Nat) : R) * a.im + 0 * a.re = a.im; grind
 left_distrib a b c := by ext <;> simp <;> grind
 right_distrib a b c := by ext <;> simp <;> grind
 zero_mul a := by
  ext
  · show ((0 : Nat) : R) * a.re - 0 * a.im = ((0 : Nat) : R); grind
  · show ((0 : Nat) : R) * a.im + 0 * a.re = 0; grind
 mul_zero a := by
  ext
  · show a.re * ((0 : Nat) : R) - a.im * 0 = ((0 : Nat) : R); grind
  · show a.re * 0 + a.im * ((0 : Nat) : R) = 0; grind
 pow_zero a := by
  ext
  · show (1 : R) = ((1 : Nat) : R); grind
  · rfl
 pow_succ a n := rfl
 ofNat_succ n := by
  ext
  · show ((n + 1 : Nat) : R) = (n : R) + ((1 : Nat) : R); grind
  · show (0 : R) = 0 + 0; grind
 ofNat_eq_natCast n := rfl
 nsmul_eq_natCast_mul n a := by
  ext
  · show (n : R) * a.re = (n : R) * a.re - 0 * a.im; grind
  · show (n : R) * a.im = (n : R) * a.im + 0 * a.re; grind
 neg_add_cancel a := by
  ext
  · show -a.re + a.re = ((0 : Nat) : R); grind
  · show -a.im + a.im = 0; grind
 sub_eq_add_neg a b := by ext <;> simp <;> grind
 neg_zsmul i a := by
  ext
  · show ((-i : Int) : R) * a.re = -((i : R) * a.re); grind
  · show ((-i : Int) : R) * a.im = -((i : R) * a.im); grind
 zsmul_natCast_eq_nsmul n a := by
  ext
  · show (((n : Nat) : Int) : R) * a.re = (n : R) * a.re; rw [Lean.Grind.Ring.intCast_natCast]
  · show (((n : Nat) : Int) : R) * a.im = (n : R) * a.im; rw [Lean.Grind.Ring.intCast_natCast]
 intCast_ofNat n := by
  ext
  · show (((n : Nat) : Int) : R) = ((n : Nat) : R); exact Lean.Grind.Ring.intCast_natCast n
  · rfl
 intCast_neg n := by
  ext
  · show ((-n : Int) : R) = -(n : R); grind
  · show (0 : R) = -0; grind
/-- the square of the length -/
def N (a : Cx R) : R := a.re * a.re + a.im * a.im
end Cx
namespace Ch
open Py
def cz (g : G) : Cx Int := ⟨g.1, g.2⟩
theorem cz_inj {g h : G} (e : cz g = cz h) : g = h := by
 unfold cz at e
 cases g; cases h
 simp only [Cx.mk.injEq] at e
 simp [e.1, e.2]
theorem cz_ga (g h : G) : cz (ga g h) = cz g + cz h := rfl
theorem cz_gs (g h : G) : cz (gs g h) = cz g - cz h := rfl
theorem cz_gm (g h : G) : cz (gm g h) = cz g * cz h := rfl
theorem cz_gn (g : G) : cz (gn g) = -cz g := rfl
theorem cz_zero : cz (0, 0) = 0 := rfl
/-- a Moebius map's four numbers -/
structure Mq where
 a : G
 b : G
 c : G
 d : G
def dt (m : Mq) : G := gs (gm m.a m.d) (gm m.b m.c)
def thn (m n : Mq) : Mq := ⟨ga (gm n.a m.a) (gm n.b m.c), ga (gm n.a m.b) (gm n.b m.d), ga (gm n.c m.a) (gm n.d m.c), ga (gm n.c m.b) (gm n.d m.d)⟩
def trn (m : Mq) : Mq := ⟨m.d, gn m.b, gn m.c, m.a⟩
theorem dt_thn (m n : Mq) : dt (thn m n) = gm (dt m) (dt n) := by
 apply cz_inj
 simp only [dt, thn, cz_ga, cz_gs, cz_gm]
 grind
theorem dt_trn (m : Mq) : dt (trn m) = dt m := by
 apply cz_inj
 simp only [dt, trn, cz_gs, cz_gm, cz_gn]
 grind
theorem thn_assoc (l m n : Mq) : thn (thn l m) n = thn l (thn m n) := by
 simp only [thn, Mq.mk.injEq]
 refine ⟨?_, ?_, ?_, ?_⟩ <;> (apply cz_inj; simp only [cz_ga, cz_gm]; grind)
theorem thn_trn (l : Mq) : thn l (trn l) = ⟨dt l, (0, 0), (0, 0), dt l⟩ := by
 simp only [thn, trn, dt, Mq.mk.injEq]
 refine ⟨?_, ?_, ?_, ?_⟩ <;> (apply cz_inj; simp only [cz_ga, cz_gs, cz_gm, cz_gn, cz_zero]; grind)
theorem dt_thn_ne {m n : Mq} (h : dt m ≠ (0, 0)) (k : dt n ≠ (0, 0)) : dt (thn m n) ≠ (0, 0) := by
 rw [dt_thn]
 intro e
 rcases gm_zero e with e | e
 · exact h e
 · exact k e
/-- all four are at most M long -/
def Lq (m : Mq) (M : Nat) : Prop := Le m.a M ∧ Le m.b M ∧ Le m.c M ∧ Le m.d M
theorem Lq.thn {m n : Mq} {M K : Nat} (h : Lq m M) (k : Lq n K) : Lq (thn m n) (K * M + K * M) :=
 ⟨(k.1.mul h.1).add (k.2.1.mul h.2.2.1), (k.1.mul h.2.1).add (k.2.1.mul h.2.2.2), (k.2.2.1.mul h.1).add (k.2.2.2.mul h.2.2.1), (k.2.2.1.mul h.2.1).add (k.2.2.2.mul h.2.2.2)⟩
theorem Lq.trn {m : Mq} {M : Nat} (h : Lq m M) : Lq (trn m) M := ⟨h.2.2.2, h.2.1.neg, h.2.2.1.neg, h.1⟩
theorem Lq.mono {m : Mq} {M K : Nat} (h : Lq m M) (k : M ≤ K) : Lq m K := ⟨h.1.mono k, h.2.1.mono k, h.2.2.1.mono k, h.2.2.2.mono k⟩
theorem Lq.dt {m : Mq} {M : Nat} (h : Lq m M) : Le (dt m) (M * M + M * M) := (h.1.mul h.2.2.2).sub (h.2.1.mul h.2.2.1)
def lo (m : Mq) (z : G) : G := ga (gm m.c z) m.d
end Ch
end Go.Proofs.YtfgfofedacehiaaGreat

