/-
 OWN TEXT: whole complex numbers, their lengths, and polynomials of them as lists, the lowest coefficient first.
-/
import Derived.Test.YtfgfofedacehiaaGreatJWhA
import Derived.Test.YtfgfofedacehiaaGreatJFnEqToBhM
set_option linter.unusedVariables false
namespace Go.Proofs.YtfgfofedacehiaaGreat.Py

abbrev G := Int × Int
def ga (a b : G) : G := (a.1 + b.1, a.2 + b.2)
def gs (a b : G) : G := (a.1 - b.1, a.2 - b.2)
def gm (a b : G) : G := (a.1 * b.1 - a.2 * b.2, a.1 * b.2 + a.2 * b.1)
def gn (a : G) : G := (-a.1, -a.2)
theorem gext {a b : G} (h1 : a.1 = b.1) (h2 : a.2 = b.2) : a = b := by cases a; cases b; simp_all
/-- the length is at most M -/
def Le (g : G) (M : Nat) : Prop := g.1 * g.1 + g.2 * g.2 ≤ (M : Int) * M
theorem sq_nonneg (x : Int) : 0 ≤ x * x := by
 rcases Int.le_total 0 x with h | h
 · exact Int.mul_nonneg h h
 · exact Int.mul_nonneg_of_nonpos_of_nonpos h h
theorem sq_le {x y : Int} (hy : 0 ≤ y) (h : x * x ≤ y * y) : x ≤ y := by
 rcases Int.lt_or_le y x with c | c
 ·
  have h1 : y * y ≤ y * x := Int.mul_le_mul_of_nonneg_left (Int.le_of_lt c) hy
  have h2 : y * x < x * x := Int.mul_lt_mul_of_pos_right c (by omega)
  omega
 · exact c
theorem Le.one {g : G} {M : Nat} (h : Le g M) : g.1.natAbs ≤ M ∧ g.2.natAbs ≤ M := by
 unfold Le at h
 have h1 := sq_nonneg g.1
 have h2 := sq_nonneg g.2
 have a1 : ∀ x : Int, x * x ≤ (M : Int) * M → x.natAbs ≤ M := by
  intro x hx
  have p := sq_le (x := x) (y := M) (by omega) hx
  have q := sq_le (x := -x) (y := M) (by omega) (by rw [Int.neg_mul_neg]; exact hx)
  omega
 exact ⟨a1 _ (by omega), a1 _ (by omega)⟩
theorem Le.mono {g : G} {M K : Nat} (h : Le g M) (k : M ≤ K) : Le g K := by
 unfold Le at *
 have : (M : Int) * M ≤ (K : Int) * K := Int.mul_le_mul (by omega) (by omega) (by omega) (by omega)
 omega
theorem Le.mul {g h : G} {M K : Nat} (a : Le g M) (b : Le h K) : Le (gm g h) (M * K) := by
 unfold Le gm at *
 have e : (g.1 * h.1 - g.2 * h.2) * (g.1 * h.1 - g.2 * h.2) + (g.1 * h.2 + g.2 * h.1) * (g.1 * h.2 + g.2 * h.1) = (g.1 * g.1 + g.2 * g.2) * (h.1 * h.1 + h.2 * h.2) := by grind
 have n1 := sq_nonneg g.1
 have n2 := sq_nonneg g.2
 have n3 := sq_nonneg h.1
 have n4 := sq_nonneg h.2
 have m := Int.mul_le_mul a b (by omega) (by have := sq_nonneg (M : Int); omega)
 show (g.1 * h.1 - g.2 * h.2) * (g.1 * h.1 - g.2 * h.2) + (g.1 * h.2 + g.2 * h.1) * (g.1 * h.2 + g.2 * h.1) ≤ _
 rw [e]
 refine Int.le_trans m (Int.le_of_eq ?_)
 rw [Int.natCast_mul]
 grind
theorem Le.add {g h : G} {M K : Nat} (a : Le g M) (b : Le h K) : Le (ga g h) (M + K) := by
 have dot : g.1 * h.1 + g.2 * h.2 ≤ (M : Int) * K := by
  refine sq_le (by exact Int.mul_nonneg (by omega) (by omega)) ?_
  unfold Le at *
  have e : (g.1 * h.1 + g.2 * h.2) * (g.1 * h.1 + g.2 * h.2) + (g.1 * h.2 - g.2 * h.1) * (g.1 * h.2 - g.2 * h.1) = (g.1 * g.1 + g.2 * g.2) * (h.1 * h.1 + h.2 * h.2) := by grind
  have n1 := sq_nonneg g.1
  have n2 := sq_nonneg g.2
  have n3 := sq_nonneg h.1
  have n4 := sq_nonneg h.2
  have n5 := sq_nonneg (g.1 * h.2 - g.2 * h.1)
  have m := Int.mul_le_mul a b (by omega) (by have := sq_nonneg (M : Int); omega)
  have f : (M : Int) * M * (K * K) = M * K * (M * K) := by grind
  omega
 unfold Le ga at *
 show (g.1 + h.1) * (g.1 + h.1) + (g.2 + h.2) * (g.2 + h.2) ≤ _
 rw [Int.natCast_add]
 grind
theorem Le.neg {g : G} {M : Nat} (a : Le g M) : Le (gn g) M := by
 unfold Le gn at *
 simp only [Int.neg_mul_neg]; exact a
theorem gs_eq (a b : G) : gs a b = ga a (gn b) := by unfold gs ga gn; exact gext (by simp only; omega) (by simp only; omega)
theorem Le.sub {g h : G} {M K : Nat} (a : Le g M) (b : Le h K) : Le (gs g h) (M + K) := by rw [gs_eq]; exact a.add b.neg
theorem Le.nought (M : Nat) : Le (0, 0) M := by unfold Le; simp only [Int.mul_zero, Int.add_zero]; exact sq_nonneg _
/-- the products of parts are at most M * K -/
theorem Le.prods {g h : G} {M K : Nat} (a : Le g M) (b : Le h K) : (g.1 * h.1).natAbs ≤ M * K ∧ (g.2 * h.2).natAbs ≤ M * K ∧ (g.1 * h.2).natAbs ≤ M * K ∧ (g.2 * h.1).natAbs ≤ M * K := by
 obtain ⟨p, q⟩ := a.one
 obtain ⟨r, s⟩ := b.one
 simp only [Int.natAbs_mul]
 exact ⟨Nat.mul_le_mul p r, Nat.mul_le_mul q s, Nat.mul_le_mul p s, Nat.mul_le_mul q r⟩
/-! ring -/
/-- the coefficient i -/
def co (l : List G) (i : Nat) : G := l.getD i (0, 0)
theorem co_out {l : List G} {i : Nat} (h : l.length ≤ i) : co l i = (0, 0) := by simp [co, List.getD, List.getElem?_eq_none h]
theorem co_set (l : List G) (i j : Nat) (x : G) (h : i < l.length) : co (l.set i x) j = if j = i then x else co l j := by
 simp only [co, List.getD, List.getElem?_set]
 by_cases c : i = j
 · subst c; simp [h]
 · rw [if_neg c, if_neg (fun e => c e.symm)]
theorem co_take (l : List G) (n i : Nat) : co (l.take n) i = if i < n then co l i else (0, 0) := by
 simp only [co, List.getD, List.getElem?_take]
 split <;> simp
/-- the value at z -/
def ev : List G → G → G
 | [], _ => (0, 0)
 | c :: r, z => ga (gm (ev r z) z) c
/-- the sum of a's i times b's j - i, over the i below k (and at most j) -/
def ts (a b : List G) (j : Nat) : Nat → G
 | 0 => (0, 0)
 | k + 1 => ga (ts a b j k) (if k ≤ j then gm (co a k) (co b (j - k)) else (0, 0))
end Go.Proofs.YtfgfofedacehiaaGreat.Py

/-
 OWN TEXT: polynomials of whole complex numbers: shifted, of given zeros, without their last noughts, divided.
-/
set_option linter.unusedVariables false
namespace Go.Proofs.YtfgfofedacehiaaGreat.Py

/-! a pass of the shift -/
def sp (by_ : G) : List G → List G
 | [] => []
 | c :: r => ga c (gm (co (sp by_ r) 0) by_) :: sp by_ r
def pass (by_ : G) (l : List G) (j : Nat) : List G := l.take j ++ sp by_ (l.drop j)
/-- the first j at z, the rest at x -/
def mx (z x : G) : Nat → List G → G
 | 0, l => ev l x
 | _ + 1, [] => (0, 0)
 | j + 1, c :: r => ga (gm (mx z x j r) z) c
/-! one zero more -/
def wz (p : List G) (z : G) : List G := (List.range (p.length + 1)).map (fun i => gs (co ((0, 0) :: p) i) (gm z (co p i)))
/-! without the last noughts -/
def tl (l : List G) : Nat → Nat
 | 0 => 0
 | 1 => 1
 | n + 2 => if co l (n + 1) = (0, 0) then tl l (n + 1) else n + 2
def tr (l : List G) : List G := l.take (tl l l.length)
theorem tl_le (l : List G) (n : Nat) : tl l n ≤ n := by
 match n with
 | 0 => exact Nat.le_refl _
 | 1 => exact Nat.le_refl _
 | n + 2 =>
  rw [tl]
  split
  · have := tl_le l (n + 1); omega
  · omega
theorem tl_pos (l : List G) (n : Nat) (h : 0 < n) : 0 < tl l n := by
 match n, h with
 | 1, _ => exact Nat.one_pos
 | n + 2, _ =>
  rw [tl]
  split
  · exact tl_pos l (n + 1) (by omega)
  · omega
theorem tl_nought (l : List G) (n i : Nat) (h : tl l n ≤ i) (hi : i < n) : co l i = (0, 0) := by
 match n, hi with
 | 1, hi => rw [tl] at h; omega
 | n + 2, hi =>
  rw [tl] at h
  by_cases c : co l (n + 1) = (0, 0)
  ·
   rw [if_pos c] at h
   by_cases d : i = n + 1
   · rw [d]; exact c
   · exact tl_nought l (n + 1) i h (by omega)
  · rw [if_neg c] at h; omega
theorem tl_last (l : List G) (n : Nat) : tl l n = 0 ∨ tl l n = 1 ∨ co l (tl l n - 1) ≠ (0, 0) := by
 match n with
 | 0 => exact Or.inl rfl
 | 1 => exact Or.inr (Or.inl rfl)
 | n + 2 =>
  rw [tl]
  by_cases c : co l (n + 1) = (0, 0)
  · rw [if_pos c]; exact tl_last l (n + 1)
  · rw [if_neg c]; exact Or.inr (Or.inr c)
theorem tr_len (l : List G) : (tr l).length = tl l l.length := by
 unfold tr; rw [List.length_take]; have := tl_le l l.length; omega
theorem co_tr (l : List G) (i : Nat) : co (tr l) i = co l i := by
 unfold tr
 rw [co_take]
 by_cases c : i < tl l l.length
 · rw [if_pos c]
 ·
  rw [if_neg c]
  by_cases d : i < l.length
  · rw [tl_nought l l.length i (by omega) d]
  · rw [co_out (by omega)]
/-! a product, divided -/
theorem gm_zero {a b : G} (h : gm a b = (0, 0)) : a = (0, 0) ∨ b = (0, 0) := by
 have e : (a.1 * b.1 - a.2 * b.2) * (a.1 * b.1 - a.2 * b.2) + (a.1 * b.2 + a.2 * b.1) * (a.1 * b.2 + a.2 * b.1) = (a.1 * a.1 + a.2 * a.2) * (b.1 * b.1 + b.2 * b.2) := by grind
 have h1 : a.1 * b.1 - a.2 * b.2 = 0 := congrArg Prod.fst h
 have h2 : a.1 * b.2 + a.2 * b.1 = 0 := congrArg Prod.snd h
 rw [h1, h2] at e
 have n : ∀ x y : Int, x * x + y * y = 0 → x = 0 ∧ y = 0 := by
  intro x y k
  have p := sq_nonneg x
  have q := sq_nonneg y
  have kx : x * x = 0 := by omega
  have ky : y * y = 0 := by omega
  exact ⟨(Int.mul_eq_zero.1 kx).elim id id, (Int.mul_eq_zero.1 ky).elim id id⟩
 rcases Int.mul_eq_zero.1 (show (a.1 * a.1 + a.2 * a.2) * (b.1 * b.1 + b.2 * b.2) = 0 by omega) with k | k
 · left; exact gext (n _ _ k).1 (n _ _ k).2
 · right; exact gext (n _ _ k).1 (n _ _ k).2
end Go.Proofs.YtfgfofedacehiaaGreat.Py

/-
 OWN TEXT: whole complex numbers as the program has them: sums, products, quotients by 1, tests.
-/
namespace Go.Proofs.YtfgfofedacehiaaGreat
open Go.ChangeShapes Go.WideShapes Go.ChangeAt Go.RowKit
set_option linter.unusedVariables false
attribute [local go_sem] frombits_call tobits_call run_neg
namespace Fl
end Fl
theorem run_some {op : BinOp} {a b x : Nat} (e : floatBits op .f64 a b = some x) : opR op a b x ∧ ∀ (t : TypeId) (w : World), (binOp op t (.float .f64 a) (.float .f64 b)).run Tryz.prog w = .ok (.float .f64 x) w :=
 ⟨⟨floatBits_lt0 e, Or.inl e⟩, fun t w => run_float_arith (P := Tryz.prog) w op t .f64 _ _ _ e⟩
/-- sums, differences, products of whole numbers -/
theorem w_add {c a b : Nat} {m n : Int} (hc : c = 1074) (ha : wI c a m) (hb : wI c b n) (hs : (m + n).natAbs ≤ 9007199254740992) : ∃ r, wI c r (m + n) ∧ ∀ (t : TypeId) (w : World), (binOp .add t (.float .f64 a) (.float .f64 b)).run Tryz.prog w = .ok (.float .f64 r) w := by
 obtain ⟨h1, h2⟩ := run_some (op := .add) (Fl.add_fin ha.2.1 hb.2.1)
 exact ⟨_, ha.add hc hb hs h1, h2⟩
theorem w_sub {c a b : Nat} {m n : Int} (hc : c = 1074) (ha : wI c a m) (hb : wI c b n) (hs : (m - n).natAbs ≤ 9007199254740992) : ∃ r, wI c r (m - n) ∧ ∀ (t : TypeId) (w : World), (binOp .sub t (.float .f64 a) (.float .f64 b)).run Tryz.prog w = .ok (.float .f64 r) w := by
 obtain ⟨h1, h2⟩ := run_some (op := .sub) (Fl.sub_fin hb.1 ha.2.1 hb.2.1)
 exact ⟨_, ha.sub hc hb hs h1, h2⟩
theorem w_mul {c a b : Nat} {m n : Int} (hc : c = 1074) (ha : wI c a m) (hb : wI c b n) (hs : (m * n).natAbs ≤ 9007199254740992) : ∃ r, wI c r (m * n) ∧ ∀ (t : TypeId) (w : World), (binOp .mul t (.float .f64 a) (.float .f64 b)).run Tryz.prog w = .ok (.float .f64 r) w := by
 obtain ⟨h1, h2⟩ := run_some (op := .mul) (Fl.mul_fin ha.2.1 hb.2.1)
 exact ⟨_, ha.mul hc hb hs h1, h2⟩
theorem one_vl : ∀ c, c = 1074 → Fl.vl 4607182418800017408 = 2 ^ c := by rintro _ rfl; decide +kernel
theorem wI.nan {c x : Nat} {m : Int} (h : wI c x m) : Fl.nan x = false := by unfold Fl.nan; exact decide_eq_false (by have := h.2.1; omega)
theorem wI.fin {c x : Nat} {m : Int} (h : wI c x m) : Fl.finB x = true := by unfold Fl.finB; exact decide_eq_true h.2.1
theorem wI.ng {c x : Nat} {m : Int} (h : wI c x m) : wI c (Fl.ng x) (-m) := by
 refine ⟨Fl.ng_lt h.1, ?_, ?_⟩
 · rw [Fl.rg_ng x]; exact h.2.1
 · rw [Fl.val_ng h.1, h.2.2, Int.neg_mul]
theorem w_nought (c : Nat) : wI c 0 0 := by
 refine ⟨by decide, by decide, ?_⟩
 rw [Int.zero_mul]; decide
theorem w_unit {c : Nat} (hc : c = 1074) : wI c 4607182418800017408 1 := by
 refine ⟨by decide, by decide, ?_⟩
 have h := one_vl c hc
 have e : Fl.val 4607182418800017408 = (Fl.vl 4607182418800017408 : Nat) := by
  unfold Fl.val
  rw [show Fl.sg 4607182418800017408 = false by decide, if_neg (by decide), show Fl.rg 4607182418800017408 = 4607182418800017408 by decide]
 rw [e, h, Int.one_mul]
/-- whole numbers up to 2^40 are within it -/
theorem real_vl : ∀ c, c = 1074 → Fl.vl 4787326403894837248 = 1099511627776 * 2 ^ c := by rintro _ rfl; decide +kernel
theorem wI.within {c x : Nat} {m : Int} (hc : c = 1074) (h : wI c x m) (hm : m.natAbs ≤ 1099511627776) : Fl.withinB x 4787326403894837248 = true := by
 unfold Fl.withinB
 rw [h.nan, show Fl.nan 4787326403894837248 = false by decide, show Fl.key 4787326403894837248 = 4787326403894837248 by decide]
 simp only [Bool.not_false, Bool.true_and]
 refine decide_eq_true ?_
 have : Fl.rg x ≤ 4787326403894837248 := by
  rcases Nat.lt_or_ge 4787326403894837248 (Fl.rg x) with k | k
  ·
   have := Fl.vl_mono k
   rw [h.vl, real_vl c hc] at this
   have := Nat.lt_of_mul_lt_mul_right this
   omega
  · exact k
 omega
/-- a complex number is the whole number g -/
def wC (c x y : Nat) (g : Py.G) : Prop := wI c x g.1 ∧ wI c y g.2
theorem wC.nought (c : Nat) : wC c 0 0 (0, 0) := ⟨w_nought c, w_nought c⟩
theorem wC.one {c : Nat} (hc : c = 1074) : wC c 4607182418800017408 0 (1, 0) := ⟨w_unit hc, w_nought c⟩
theorem csum_run8 {op : BinOp} (hop : op = .add ∨ op = .sub) {a b c d x y : Nat} {P : Program} {w w1 w2 : World} (e1 : ∀ t, (binOp op t (.float .f64 a) (.float .f64 c)).run P w = .ok (.float .f64 x) w1) (e2 : ∀ t, (binOp op t (.float .f64 b) (.float .f64 d)).run P w1 = .ok (.float .f64 y) w2) (t : TypeId) : (binOp op t (.complex .f64 a b) (.complex .f64 c d)).run P w = .ok (.complex .f64 x y) w2 := by
 rcases hop with rfl | rfl
 ·
  have k1 : (Op.floatArith .add .f64 a c).run P w = .ok (.float .f64 x) w1 := e1 0
  have k2 : (Op.floatArith .add .f64 b d).run P w1 = .ok (.float .f64 y) w2 := e2 0
  simp [binOp, Op.complexOp, Op.Complex.arith, k1, k2]
 ·
  have k1 : (Op.floatArith .sub .f64 a c).run P w = .ok (.float .f64 x) w1 := e1 0
  have k2 : (Op.floatArith .sub .f64 b d).run P w1 = .ok (.float .f64 y) w2 := e2 0
  simp [binOp, Op.complexOp, Op.Complex.arith, k1, k2]
theorem c_add {c x y u v M K : Nat} {g h : Py.G} (hc : c = 1074) (hg : wC c x y g) (hh : wC c u v h) (lg : Py.Le g M) (lh : Py.Le h K) (hs : M + K ≤ 9007199254740992) : ∃ r s, wC c r s (Py.ga g h) ∧ ∀ (t : TypeId) (w : World), (binOp .add t (.complex .f64 x y) (.complex .f64 u v)).run Tryz.prog w = .ok (.complex .f64 r s) w := by
 obtain ⟨b1, b2⟩ := (lg.add lh).one
 obtain ⟨r, hr, e1⟩ := w_add hc hg.1 hh.1 (Nat.le_trans b1 hs)
 obtain ⟨s, hs', e2⟩ := w_add hc hg.2 hh.2 (Nat.le_trans b2 hs)
 exact ⟨r, s, ⟨hr, hs'⟩, fun t w => csum_run8 (Or.inl rfl) (fun t => e1 t w) (fun t => e2 t w) t⟩
theorem c_sub {c x y u v M K : Nat} {g h : Py.G} (hc : c = 1074) (hg : wC c x y g) (hh : wC c u v h) (lg : Py.Le g M) (lh : Py.Le h K) (hs : M + K ≤ 9007199254740992) : ∃ r s, wC c r s (Py.gs g h) ∧ ∀ (t : TypeId) (w : World), (binOp .sub t (.complex .f64 x y) (.complex .f64 u v)).run Tryz.prog w = .ok (.complex .f64 r s) w := by
 obtain ⟨b1, b2⟩ := (lg.sub lh).one
 obtain ⟨r, hr, e1⟩ := w_sub hc hg.1 hh.1 (Nat.le_trans b1 hs)
 obtain ⟨s, hs', e2⟩ := w_sub hc hg.2 hh.2 (Nat.le_trans b2 hs)
 exact ⟨r, s, ⟨hr, hs'⟩, fun t w => csum_run8 (Or.inr rfl) (fun t => e1 t w) (fun t => e2 t w) t⟩
theorem padd8 {c x y u v M K : Nat} {g h : Py.G} (hc : c = 1074) (hg : wC c x y g) (hh : wC c u v h) (lg : Py.Le g M) (lh : Py.Le h K) (hs : M + K ≤ 9007199254740992) : ∃ r s, wC c r s (Py.ga g h) ∧ ∀ w, Calls Tryz.prog 58 #[.complex .f64 x y, .complex .f64 u v] w fun e w' => e = .returned (.complex .f64 r s) ∧ w' = w := by
 obtain ⟨r, s, hrs, e⟩ := c_add hc hg hh lg lh hs
 refine ⟨r, s, hrs, fun w => ?_⟩
 clear hrs hg hh lg lh hs
 go_enter Tryz.func58, Tryz.ntmps58
 go_wp2
 go_ret
 exact ⟨rfl, rfl⟩
theorem pmul8 {c x y u v M K : Nat} {g h : Py.G} (hc : c = 1074) (hg : wC c x y g) (hh : wC c u v h) (lg : Py.Le g M) (lh : Py.Le h K) (hs : M * K ≤ 9007199254740992) : ∃ r s, wC c r s (Py.gm g h) ∧ ∀ w, Calls Tryz.prog 19 #[.complex .f64 x y, .complex .f64 u v] w fun e w' => e = .returned (.complex .f64 r s) ∧ w' = w := by
 obtain ⟨b1, b2, b3, b4⟩ := lg.prods lh
 obtain ⟨k1, k2⟩ := (lg.mul lh).one
 obtain ⟨p1, h1, e1⟩ := w_mul hc hg.1 hh.1 (Nat.le_trans b1 hs)
 obtain ⟨p2, h2, e2⟩ := w_mul hc hg.2 hh.2 (Nat.le_trans b2 hs)
 obtain ⟨p3, h3, e3⟩ := w_mul hc hg.1 hh.2 (Nat.le_trans b3 hs)
 obtain ⟨p4, h4, e4⟩ := w_mul hc hg.2 hh.1 (Nat.le_trans b4 hs)
 obtain ⟨r, h5, e5⟩ := w_sub hc h1 h2 (Nat.le_trans k1 hs)
 obtain ⟨s, h6, e6⟩ := w_add hc h3 h4 (Nat.le_trans k2 hs)
 refine ⟨r, s, ⟨h5, h6⟩, fun w => ?_⟩
 clear h1 h2 h3 h4 h5 h6 hg hh lg lh hs b1 b2 b3 b4 k1 k2
 go_enter Tryz.func19, Tryz.ntmps19
 go_wp2
 go_ret
 exact ⟨rfl, rfl⟩
end Go.Proofs.YtfgfofedacehiaaGreat

