/-
 OWN TEXT: whole complex numbers, their lengths, and polynomials of them as lists, the lowest coefficient first.
-/
set_option linter.unusedVariables false
namespace Go.Proofs.YtfgfofedacehiaaGreat.Py

abbrev G := Int × Int
def ga (a b : G) : G := (a.1 + b.1, a.2 + b.2)
def gs (a b : G) : G := (a.1 - b.1, a.2 - b.2)
def gm (a b : G) : G := (a.1 * b.1 - a.2 * b.2, a.1 * b.2 + a.2 * b.1)
def gn (a : G) : G := (-a.1, -a.2)
theorem gext {a b : G} (h1 : a.1 = b.1) (h2 : a.2 = b.2) : a = b := by cases a; cases b; simp_all
/-- the length is at most M -/
def Le (g : G) (M : Nat) : Prop := g.1 * g.1 + g.2 * g.2 ≤ (M : Int) * M
theorem sq_nonneg (x : Int) : 0 ≤ x * x := by
 rcases Int.le_total 0 x with h | h
 · exact Int.mul_nonneg h h
 · exact Int.mul_nonneg_of_nonpos_of_nonpos h h
theorem sq_le {x y : Int} (hy : 0 ≤ y) (h : x * x ≤ y * y) : x ≤ y := by
 rcases Int.lt_or_le y x with c | c
 ·
  have h1 : y * y ≤ y * x := Int.mul_le_mul_of_nonneg_left (Int.le_of_lt c) hy
  have h2 : y * x < x * x := Int.mul_lt_mul_of_pos_right c (by omega)
  omega
 · exact c
theorem Le.one {g : G} {M : Nat} (h : Le g M) : g.1.natAbs ≤ M ∧ g.2.natAbs ≤ M := by
 unfold Le at h
 have h1 := sq_nonneg g.1
 have h2 := sq_nonneg g.2
 have a1 : ∀ x : Int, x * x ≤ (M : Int) * M → x.natAbs ≤ M := by
  intro x hx
  have p := sq_le (x := x) (y := M) (by omega) hx
  have q := sq_le (x := -x) (y := M) (by omega) (by rw [Int.neg_mul_neg]; exact hx)
  omega
 exact ⟨a1 _ (by omega), a1 _ (by omega)⟩
theorem Le.mono {g : G} {M K : Nat} (h : Le g M) (k : M ≤ K) : Le g K := by
 unfold Le at *
 have : (M : Int) * M ≤ (K : Int) * K := Int.mul_le_mul (by omega) (by omega) (by omega) (by omega)
 omega
theorem Le.mul {g h : G} {M K : Nat} (a : Le g M) (b : Le h K) : Le (gm g h) (M * K) := by
 unfold Le gm at *
 have e : (g.1 * h.1 - g.2 * h.2) * (g.1 * h.1 - g.2 * h.2) + (g.1 * h.2 + g.2 * h.1) * (g.1 * h.2 + g.2 * h.1) = (g.1 * g.1 + g.2 * g.2) * (h.1 * h.1 + h.2 * h.2) := by grind
 have n1 := sq_nonneg g.1
 have n2 := sq_nonneg g.2
 have n3 := sq_nonneg h.1
 have n4 := sq_nonneg h.2
 have m := Int.mul_le_mul a b (by omega) (by have := sq_nonneg (M : Int); omega)
 show (g.1 * h.1 - g.2 * h.2) * (g.1 * h.1 - g.2 * h.2) + (g.1 * h.2 + g.2 * h.1) * (g.1 * h.2 + g.2 * h.1) ≤ _
 rw [e]
 refine Int.le_trans m (Int.le_of_eq ?_)
 rw [Int.natCast_mul]
 grind
theorem Le.add {g h : G} {M K : Nat} (a : Le g M) (b : Le h K) : Le (ga g h) (M + K) := by
 have dot : g.1 * h.1 + g.2 * h.2 ≤ (M : Int) * K := by
  refine sq_le (by exact Int.mul_nonneg (by omega) (by omega)) ?_
  unfold Le at *
  have e : (g.1 * h.1 + g.2 * h.2) * (g.1 * h.1 + g.2 * h.2) + (g.1 * h.2 - g.2 * h.1) * (g.1 * h.2 - g.2 * h.1) = (g.1 * g.1 + g.2 * g.2) * (h.1 * h.1 + h.2 * h.2) := by grind
  have n1 := sq_nonneg g.1
  have n2 := sq_nonneg g.2
  have n3 := sq_nonneg h.1
  have n4 := sq_nonneg h.2
  have n5 := sq_nonneg (g.1 * h.2 - g.2 * h.1)
  have m := Int.mul_le_mul a b (by omega) (by have := sq_nonneg (M : Int); omega)
  have f : (M : Int) * M * (K * K) = M * K * (M * K) := by grind
  omega
 unfold Le ga at *
 show (g.1 + h.1) * (g.1 + h.1) + (g.2 + h.2) * (g.2 + h.2) ≤ _
 rw [Int.natCast_add]
 grind
theorem Le.neg {g : G} {M : Nat} (a : Le g M) : Le (gn g) M := by
 unfold Le gn at *
 simp only [Int.neg_mul_neg]; exact a
theorem gs_eq (a b : G) : gs a b = ga a (gn b) := by unfold gs ga gn; exact gext (by simp only; omega) (by simp only; omega)
theorem Le.sub {g h : G} {M K : Nat} (a : Le g M) (b : Le h K) : Le (gs g h) (M + K) := by rw [gs_eq]; exact a.add b.neg
theorem Le.nought (M : Nat) : Le (0, 0) M := by unfold Le; simp only [Int.mul_zero, Int.add_zero]; exact sq_nonneg _
/-- the products of parts are at most M * K -/
theorem Le.prods {g h : G} {M K : Nat} (a : Le g M) (b : Le h K) : (g.1 * h.1).natAbs ≤ M * K ∧ (g.2 * h.2).natAbs ≤ M * K ∧ (g.1 * h.2).natAbs ≤ M * K ∧ (g.2 * h.1).natAbs ≤ M * K := by
 obtain ⟨p, q⟩ := a.one
 obtain ⟨r, s⟩ := b.one
 simp only [Int.natAbs_mul]
 exact ⟨Nat.mul_le_mul p r, Nat.mul_le_mul q s, Nat.mul_le_mul p s, Nat.mul_le_mul q r⟩
/-! ring -/
/-- the coefficient i -/
def co (l : List G) (i : Nat) : G := l.getD i (0, 0)
theorem co_set (l : List G) (i j : Nat) (x : G) (h : i < l.length) : co (l.set i x) j = if j = i then x else co l j := by
 simp only [co, List.getD, List.getElem?_set]
 by_cases c : i = j
 · subst c; simp [h]
 · rw [if_neg c, if_neg (fun e => c e.symm)]
/-- the value at z -/
def ev : List G → G → G
 | [], _ => (0, 0)
 | c :: r, z => ga (gm (ev r z) z) c
/-- the sum of a's i times b's j - i, over the i below k (and at most j) -/
def ts (a b : List G) (j : Nat) : Nat → G
 | 0 => (0, 0)
 | k + 1 => ga (ts a b j k) (if k ≤ j then gm (co a k) (co b (j - k)) else (0, 0))
end Go.Proofs.YtfgfofedacehiaaGreat.Py

/-
 OWN TEXT: polynomials of whole complex numbers: shifted, of given zeros, without their last noughts, divided.
-/
set_option linter.unusedVariables false
namespace Go.Proofs.YtfgfofedacehiaaGreat.Py

/-! a pass of the shift -/
def sp (by_ : G) : List G → List G
 | [] => []
 | c :: r => ga c (gm (co (sp by_ r) 0) by_) :: sp by_ r
def pass (by_ : G) (l : List G) (j : Nat) : List G := l.take j ++ sp by_ (l.drop j)
/-- the first j at z, the rest at x -/
def mx (z x : G) : Nat → List G → G
 | 0, l => ev l x
 | _ + 1, [] => (0, 0)
 | j + 1, c :: r => ga (gm (mx z x j r) z) c
/-! one zero more -/
def wz (p : List G) (z : G) : List G := (List.range (p.length + 1)).map (fun i => gs (co ((0, 0) :: p) i) (gm z (co p i)))
/-! without the last noughts -/
/-! a product, divided -/
theorem gm_zero {a b : G} (h : gm a b = (0, 0)) : a = (0, 0) ∨ b = (0, 0) := by
 have e : (a.1 * b.1 - a.2 * b.2) * (a.1 * b.1 - a.2 * b.2) + (a.1 * b.2 + a.2 * b.1) * (a.1 * b.2 + a.2 * b.1) = (a.1 * a.1 + a.2 * a.2) * (b.1 * b.1 + b.2 * b.2) := by grind
 have h1 : a.1 * b.1 - a.2 * b.2 = 0 := congrArg Prod.fst h
 have h2 : a.1 * b.2 + a.2 * b.1 = 0 := congrArg Prod.snd h
 rw [h1, h2] at e
 have n : ∀ x y : Int, x * x + y * y = 0 → x = 0 ∧ y = 0 := by
  intro x y k
  have p := sq_nonneg x
  have q := sq_nonneg y
  have kx : x * x = 0 := by omega
  have ky : y * y = 0 := by omega
  exact ⟨(Int.mul_eq_zero.1 kx).elim id id, (Int.mul_eq_zero.1 ky).elim id id⟩
 rcases Int.mul_eq_zero.1 (show (a.1 * a.1 + a.2 * a.2) * (b.1 * b.1 + b.2 * b.2) = 0 by omega) with k | k
 · left; exact gext (n _ _ k).1 (n _ _ k).2
 · right; exact gext (n _ _ k).1 (n _ _ k).2
end Go.Proofs.YtfgfofedacehiaaGreat.Py

