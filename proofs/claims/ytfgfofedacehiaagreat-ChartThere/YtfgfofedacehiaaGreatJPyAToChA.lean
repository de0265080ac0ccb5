/-
 OWN TEXT: whole complex numbers, their lengths, and polynomials of them as lists, the lowest coefficient first.
-/
set_option linter.unusedVariables false
namespace Go.Proofs.YtfgfofedacehiaaGreat.Py

abbrev G := Int × Int
def ga (a b : G) : G := (a.1 + b.1, a.2 + b.2)
def gs (a b : G) : G := (a.1 - b.1, a.2 - b.2)
def gm (a b : G) : G := (a.1 * b.1 - a.2 * b.2, a.1 * b.2 + a.2 * b.1)
def gn (a : G) : G := (-a.1, -a.2)
theorem gext {a b : G} (h1 : a.1 = b.1) (h2 : a.2 = b.2) : a = b := by cases a; cases b; simp_all
/-- the length is at most M -/
def Le (g : G) (M : Nat) : Prop := g.1 * g.1 + g.2 * g.2 ≤ (M : Int) * M
theorem sq_nonneg (x : Int) : 0 ≤ x * x := by
 rcases Int.le_total 0 x with h | h
 · exact Int.mul_nonneg h h
 · exact Int.mul_nonneg_of_nonpos_of_nonpos h h
theorem sq_le {x y : Int} (hy : 0 ≤ y) (h : x * x ≤ y * y) : x ≤ y := by
 rcases Int.lt_or_le y x with c | c
 ·
  have h1 : y * y ≤ y * x := Int.mul_le_mul_of_nonneg_left (Int.le_of_lt c) hy
  have h2 : y * x < x * x := Int.mul_lt_mul_of_pos_right c (by omega)
  omega
 · exact c
theorem Le.one {g : G} {M : Nat} (h : Le g M) : g.1.natAbs ≤ M ∧ g.2.natAbs ≤ M := by
 unfold Le at h
 have h1 := sq_nonneg g.1
 have h2 := sq_nonneg g.2
 have a1 : ∀ x : Int, x * x ≤ (M : Int) * M → x.natAbs ≤ M := by
  intro x hx
  have p := sq_le (x := x) (y := M) (by omega) hx
  have q := sq_le (x := -x) (y := M) (by omega) (by rw [Int.neg_mul_neg]; exact hx)
  omega
 exact ⟨a1 _ (by omega), a1 _ (by omega)⟩
theorem Le.mono {g : G} {M K : Nat} (h : Le g M) (k : M ≤ K) : Le g K := by
 unfold Le at *
 have : (M : Int) * M ≤ (K : Int) * K := Int.mul_le_mul (by omega) (by omega) (by omega) (by omega)
 omega
theorem Le.mul {g h : G} {M K : Nat} (a : Le g M) (b : Le h K) : Le (gm g h) (M * K) := by
 unfold Le gm at *
 have e : (g.1 * h.1 - g.2 * h.2) * (g.1 * h.1 - g.2 * h.2) + (g.1 * h.2 + g.2 * h.1) * (g.1 * h.2 + g.2 * h.1) = (g.1 * g.1 + g.2 * g.2) * (h.1 * h.1 + h.2 * h.2) := by grind
 have n1 := sq_nonneg g.1
 have n2 := sq_nonneg g.2
 have n3 := sq_nonneg h.1
 have n4 := sq_nonneg h.2
 have m := Int.mul_le_mul a b (by omega) (by have := sq_nonneg (M : Int); omega)
 show (g.1 * h.1 - g.2 * h.2) * (g.1 * h.1 - g.2 * h.2) + (g.1 * h.2 + g.2 * h.1) * (g.1 * h.2 + g.2 * h.1) ≤ _
 rw [e]
 refine Int.le_trans m (Int.le_of_eq ?_)
 rw [Int.natCast_mul]
 grind
theorem Le.add {g h : G} {M K : Nat} (a : Le g M) (b : Le h K) : Le (ga g h) (M + K) := by
 have dot : g.1 * h.1 + g.2 * h.2 ≤ (M : Int) * K := by
  refine sq_le (by exact Int.mul_nonneg (by omega) (by omega)) ?_
  unfold Le at *
  have e : (g.1 * h.1 + g.2 * h.2) * (g.1 * h.1 + g.2 * h.2) + (g.1 * h.2 - g.2 * h.1) * (g.1 * h.2 - g.2 * h.1) = (g.1 * g.1 + g.2 * g.2) * (h.1 * h.1 + h.2 * h.2) := by grind
  have n1 := sq_nonneg g.1
  have n2 := sq_nonneg g.2
  have n3 := sq_nonneg h.1
  have n4 := sq_nonneg h.2
  have n5 := sq_nonneg (g.1 * h.2 - g.2 * h.1)
  have m := Int.mul_le_mul a b (by omega) (by have := sq_nonneg (M : Int); omega)
  have f : (M : Int) * M * (K * K) = M * K * (M * K) := by grind
  omega
 unfold Le ga at *
 show (g.1 + h.1) * (g.1 + h.1) + (g.2 + h.2) * (g.2 + h.2) ≤ _
 rw [Int.natCast_add]
 grind
theorem Le.neg {g : G} {M : Nat} (a : Le g M) : Le (gn g) M := by
 unfold Le gn at *
 simp only [Int.neg_mul_neg]; exact a
theorem gs_eq (a b : G) : gs a b = ga a (gn b) := by unfold gs ga gn; exact gext (by simp only; omega) (by simp only; omega)
theorem Le.sub {g h : G} {M K : Nat} (a : Le g M) (b : Le h K) : Le (gs g h) (M + K) := by rw [gs_eq]; exact a.add b.neg
theorem Le.nought (M : Nat) : Le (0, 0) M := by unfold Le; simp only [Int.mul_zero, Int.add_zero]; exact sq_nonneg _
/-- the products of parts are at most M * K -/
theorem Le.prods {g h : G} {M K : Nat} (a : Le g M) (b : Le h K) : (g.1 * h.1).natAbs ≤ M * K ∧ (g.2 * h.2).natAbs ≤ M * K ∧ (g.1 * h.2).natAbs ≤ M * K ∧ (g.2 * h.1).natAbs ≤ M * K := by
 obtain ⟨p, q⟩ := a.one
 obtain ⟨r, s⟩ := b.one
 simp only [Int.natAbs_mul]
 exact ⟨Nat.mul_le_mul p r, Nat.mul_le_mul q s, Nat.mul_le_mul p s, Nat.mul_le_mul q r⟩
/-! ring -/
/-- the coefficient i -/
def co (l : List G) (i : Nat) : G := l.getD i (0, 0)
theorem co_out {l : List G} {i : Nat} (h : l.length ≤ i) : co l i = (0, 0) := by simp [co, List.getD, List.getElem?_eq_none h]
theorem co_set (l : List G) (i j : Nat) (x : G) (h : i < l.length) : co (l.set i x) j = if j = i then x else co l j := by
 simp only [co, List.getD, List.getElem?_set]
 by_cases c : i = j
 · subst c; simp [h]
 · rw [if_neg c, if_neg (fun e => c e.symm)]
theorem co_take (l : List G) (n i : Nat) : co (l.take n) i = if i < n then co l i else (0, 0) := by
 simp only [co, List.getD, List.getElem?_take]
 split <;> simp
/-- the value at z -/
def ev : List G → G → G
 | [], _ => (0, 0)
 | c :: r, z => ga (gm (ev r z) z) c
/-- the sum of a's i times b's j - i, over the i below k (and at most j) -/
def ts (a b : List G) (j : Nat) : Nat → G
 | 0 => (0, 0)
 | k + 1 => ga (ts a b j k) (if k ≤ j then gm (co a k) (co b (j - k)) else (0, 0))
end Go.Proofs.YtfgfofedacehiaaGreat.Py

/-
 OWN TEXT: polynomials of whole complex numbers: shifted, of given zeros, without their last noughts, divided.
-/
set_option linter.unusedVariables false
namespace Go.Proofs.YtfgfofedacehiaaGreat.Py

/-! a pass of the shift -/
def sp (by_ : G) : List G → List G
 | [] => []
 | c :: r => ga c (gm (co (sp by_ r) 0) by_) :: sp by_ r
def pass (by_ : G) (l : List G) (j : Nat) : List G := l.take j ++ sp by_ (l.drop j)
/-- the first j at z, the rest at x -/
def mx (z x : G) : Nat → List G → G
 | 0, l => ev l x
 | _ + 1, [] => (0, 0)
 | j + 1, c :: r => ga (gm (mx z x j r) z) c
/-! one zero more -/
def wz (p : List G) (z : G) : List G := (List.range (p.length + 1)).map (fun i => gs (co ((0, 0) :: p) i) (gm z (co p i)))
/-! without the last noughts -/
def tl (l : List G) : Nat → Nat
 | 0 => 0
 | 1 => 1
 | n + 2 => if co l (n + 1) = (0, 0) then tl l (n + 1) else n + 2
def tr (l : List G) : List G := l.take (tl l l.length)
theorem tl_le (l : List G) (n : Nat) : tl l n ≤ n := by
 match n with
 | 0 => exact Nat.le_refl _
 | 1 => exact Nat.le_refl _
 | n + 2 =>
  rw [tl]
  split
  · have := tl_le l (n + 1); omega
  · omega
theorem tl_pos (l : List G) (n : Nat) (h : 0 < n) : 0 < tl l n := by
 match n, h with
 | 1, _ => exact Nat.one_pos
 | n + 2, _ =>
  rw [tl]
  split
  · exact tl_pos l (n + 1) (by omega)
  · omega
theorem tl_nought (l : List G) (n i : Nat) (h : tl l n ≤ i) (hi : i < n) : co l i = (0, 0) := by
 match n, hi with
 | 1, hi => rw [tl] at h; omega
 | n + 2, hi =>
  rw [tl] at h
  by_cases c : co l (n + 1) = (0, 0)
  ·
   rw [if_pos c] at h
   by_cases d : i = n + 1
   · rw [d]; exact c
   · exact tl_nought l (n + 1) i h (by omega)
  · rw [if_neg c] at h; omega
theorem tl_last (l : List G) (n : Nat) : tl l n = 0 ∨ tl l n = 1 ∨ co l (tl l n - 1) ≠ (0, 0) := by
 match n with
 | 0 => exact Or.inl rfl
 | 1 => exact Or.inr (Or.inl rfl)
 | n + 2 =>
  rw [tl]
  by_cases c : co l (n + 1) = (0, 0)
  · rw [if_pos c]; exact tl_last l (n + 1)
  · rw [if_neg c]; exact Or.inr (Or.inr c)
theorem tr_len (l : List G) : (tr l).length = tl l l.length := by
 unfold tr; rw [List.length_take]; have := tl_le l l.length; omega
theorem co_tr (l : List G) (i : Nat) : co (tr l) i = co l i := by
 unfold tr
 rw [co_take]
 by_cases c : i < tl l l.length
 · rw [if_pos c]
 ·
  rw [if_neg c]
  by_cases d : i < l.length
  · rw [tl_nought l l.length i (by omega) d]
  · rw [co_out (by omega)]
/-! a product, divided -/
end Go.Proofs.YtfgfofedacehiaaGreat.Py

/-
 OWN TEXT: complex numbers over a ring; Moebius maps of whole numbers (no world).
-/
namespace Go.Proofs.YtfgfofedacehiaaGreat
set_option linter.unusedVariables false
set_option linter.unusedSectionVars false
structure Cx (R : Type) where
 re : R
 im : R
namespace Cx
variable {R : Type} [Lean.Grind.CommRing R]
attribute [local instance] Lean.Grind.Semiring.natCast Lean.Grind.Ring.intCast
@[ext] theorem ext' {a b : Cx R} (h1 : a.re = b.re) (h2 : a.im = b.im) : a = b := by cases a; cases b; simp_all
instance : Add (Cx R) := ⟨fun a b => ⟨a.re + b.re, a.im + b.im⟩⟩
instance : Sub (Cx R) := ⟨fun a b => ⟨a.re - b.re, a.im - b.im⟩⟩
instance : Mul (Cx R) := ⟨fun a b => ⟨a.re * b.re - a.im * b.im, a.re * b.im + a.im * b.re⟩⟩
instance : Neg (Cx R) := ⟨fun a => ⟨-a.re, -a.im⟩⟩
instance : NatCast (Cx R) := ⟨fun n => ⟨(n : R), 0⟩⟩
instance : IntCast (Cx R) := ⟨fun n => ⟨(n : R), 0⟩⟩
instance (n : Nat) : OfNat (Cx R) n := ⟨⟨(n : R), 0⟩⟩
instance : SMul Nat (Cx R) := ⟨fun n a => ⟨(n : R) * a.re, (n : R) * a.im⟩⟩
instance : SMul Int (Cx R) := ⟨fun n a => ⟨(n : R) * a.re, (n : R) * a.im⟩⟩
def pw (a : Cx R) : Nat → Cx R
 | 0 => ⟨1, 0⟩
 | n + 1 => pw a n * a
instance : HPow (Cx R) Nat (Cx R) := ⟨pw⟩
instance : NatPow (Cx R) := ⟨pw⟩
@[simp] theorem add_re (a b : Cx R) : (a + b).re = a.re + b.re := rfl
@[simp] theorem add_im (a b : Cx R) : (a + b).im = a.im + b.im := rfl
@[simp] theorem sub_re (a b : Cx R) : (a - b).re = a.re - b.re := rfl
@[simp] theorem sub_im (a b : Cx R) : (a - b).im = a.im - b.im := rfl
@[simp] theorem mul_re (a b : Cx R) : (a * b).re = a.re * b.re - a.im * b.im := rfl
@[simp] theorem mul_im (a b : Cx R) : (a * b).im = a.re * b.im + a.im * b.re := rfl
@[simp] theorem neg_re (a : Cx R) : (-a).re = -a.re := rfl
@[simp] theorem neg_im (a : Cx R) : (-a).im = -a.im := rfl
instance : Lean.Grind.CommRing (Cx R) where
 natCast := ⟨fun n => ⟨(n : R), 0⟩⟩
 intCast := ⟨fun n => ⟨(n : R), 0⟩⟩
 add_zero a := by
  ext
  · show a.re + ((0 : Nat) : R) = a.re; grind
  · show a.im + 0 = a.im; grind
 add_comm a b := by ext <;> simp <;> grind
 add_assoc a b c := by ext <;> simp <;> grind
 mul_assoc a b c := by ext <;> simp <;> grind
 mul_comm a b := by ext <;> simp <;> grind
 mul_one a := by
  ext
  · show a.re * ((1 : Nat) : R) - a.im * 0 = a.re; grind
  · show a.re * 0 + a.im * ((1 : Nat) : R) = a.im; grind
 one_mul a := by
  ext
  · show ((1 : Nat) : R) * a.re - 0 * a.im = a.re; grind
  · show ((1 : Nat) : R) * a.im + 0 * a.re = a.im; grind
 left_distrib a b c := by ext <;> simp <;> grind
 right_distrib a b c := by ext <;> simp <;> grind
 zero_mul a := by
  ext
  · show ((0 : Nat) : R) * a.re - 0 * a.im = ((0 : Nat) : R); grind
  · show ((0 : Nat) : R) * a.im + 0 * a.re = 0; grind
 mul_zero a := by
  ext
  · show a.re * ((0 : Nat) : R) - a.im * 0 = ((0 : Nat) : R); grind
  · show a.re * 0 + a.im * ((0 : Nat) : R) = 0; grind
 pow_zero a := by
  ext
  · show (1 : R) = ((1 : Nat) : R); grind
  · rfl
 pow_succ a n := rfl
 ofNat_succ n := by
  ext
  · show ((n + 1 : Nat) : R) = (n : R) + ((1 : Nat) : R); grind
  · show (0 : R) = 0 + 0; grind
 ofNat_eq_natCast n := rfl
 nsmul_eq_natCast_mul n a := by
  ext
  · show (n : R) * a.re = (n : R) * a.re - 0 * a.im; grind
  · show (n : R) * a.im = (n : R) * a.im + 0 * a.re; grind
 neg_add_cancel a := by
  ext
  · show -a.re + a.re = ((0 : Nat) : R); grind
  · show -a.im + a.im = 0; grind
 sub_eq_add_neg a b := by ext <;> simp <;> grind
 neg_zsmul i a := by
  ext
  · show ((-i : Int) : R) * a.re = -((i : R) * a.re); grind
  · show ((-i : Int) : R) * a.im = -((i : R) * a.im); grind
 zsmul_natCast_eq_nsmul n a := by
  ext
  · show (((n : Nat) : Int) : R) * a.re = (n : R) * a.re; rw [Lean.Grind.Ring.intCast_natCast]
  · show (((n : Nat) : Int) : R) * a.im = (n : R) * a.im; rw [Lean.Grind.Ring.intCast_natCast]
 intCast_ofNat n := by
  ext
  · show (((n : Nat) : Int) : R) = ((n : Nat) : R); exact Lean.Grind.Ring.intCast_natCast n
  · rfl
 intCast_neg n := by
  ext
  · show ((-n : Int) : R) = -(n : R); grind
  · show (0 : R) = -0; grind
/-- the square of the length -/
def N (a : Cx R) : R := a.re * a.re + a.im * a.im
theorem N_mul (a b : Cx R) : N (a * b) = N a * N b := by unfold N; simp; grind
end Cx
namespace Ch
open Py
/-- a Moebius map's four numbers -/
structure Mq where
 a : G
 b : G
 c : G
 d : G
def dt (m : Mq) : G := gs (gm m.a m.d) (gm m.b m.c)
/-- all four are at most M long -/
def Lq (m : Mq) (M : Nat) : Prop := Le m.a M ∧ Le m.b M ∧ Le m.c M ∧ Le m.d M
theorem Lq.mono {m : Mq} {M K : Nat} (h : Lq m M) (k : M ≤ K) : Lq m K := ⟨h.1.mono k, h.2.1.mono k, h.2.2.1.mono k, h.2.2.2.mono k⟩
theorem Lq.dt {m : Mq} {M : Nat} (h : Lq m M) : Le (dt m) (M * M + M * M) := (h.1.mul h.2.2.2).sub (h.2.1.mul h.2.2.1)
theorem gs_ne {a b : G} (h : a ≠ b) : gs a b ≠ (0, 0) := by
 intro e
 apply h
 unfold gs at e
 simp only [Prod.mk.injEq] at e
 exact Py.gext (by omega) (by omega)
def lo (m : Mq) (z : G) : G := ga (gm m.c z) m.d
end Ch
end Go.Proofs.YtfgfofedacehiaaGreat

