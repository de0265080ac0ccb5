/-
 OWN TEXT: package parts: signs turned (parts.turned, Conj, Neg, Mirror, Times), for every number.
-/
import Derived.Test.YtfgfofedacehiaaGreatJEoAToFnSame
import Derived.Test.YtfgfofedacehiaaGreatJFlCToFlG
import Derived.Test.YtfgfofedacehiaaGreatJPyC
import Derived.Test.YtfgfofedacehiaaGreatJFnToFnStairs
namespace Go.Proofs.YtfgfofedacehiaaGreat
open Go.ChangeShapes Go.WideShapes Go.ChangeAt Go.RowKit
set_option linter.unusedVariables false
attribute [local go_sem] frombits_call tobits_call run_neg
theorem xor_sign {x : Nat} (h : x < 18446744073709551616) : bits .xor .u64 (x : Int) 9223372036854775808 = ((Fl.ng x : Nat) : Int) := by
 have e := u64_xor_nat x 9223372036854775808 h (by omega)
 rw [show ((9223372036854775808 : Nat) : Int) = 9223372036854775808 from rfl] at e
 rw [e, ← Fl.neg_eq h]
 rfl
theorem turned_any (x : Nat) (w : World) (hx : x < 18446744073709551616) : Calls Tryz.prog 59 #[.float .f64 x] w fun e w' => e = .returned (.float .f64 (Fl.ng x)) ∧ w' = w := by
 have k := xor_sign hx
 go_enter Tryz.func59, Tryz.ntmps59
 go_wp2
 go_ret
 exact ⟨rfl, rfl⟩
theorem neg2_any (x y : Nat) (w : World) (hx : x < 18446744073709551616) (hy : y < 18446744073709551616) : Calls Tryz.prog 33 #[.complex .f64 x y] w fun e w' => e = .returned (.complex .f64 (Fl.ng x) (Fl.ng y)) ∧ w' = w := by
 have T : Hid (∀ wz, Calls Tryz.prog 59 #[.float .f64 x] wz fun e w' => e = .returned (.float .f64 (Fl.ng x)) ∧ w' = wz) := fun wz => turned_any x wz hx
 have U : Hid (∀ wz, Calls Tryz.prog 59 #[.float .f64 y] wz fun e w' => e = .returned (.float .f64 (Fl.ng y)) ∧ w' = wz) := fun wz => turned_any y wz hy
 generalize Fl.ng x = z at *
 generalize Fl.ng y = v at *
 go_enter Tryz.func33, Tryz.ntmps33
 go_wp2_with fail
 refine (T.out _).mono ?_
 rintro e' w ⟨rfl, rfl⟩
 go_wp2_with fail
 refine (U.out _).mono ?_
 rintro e' w ⟨rfl, rfl⟩
 go_wp2
 go_ret
 exact ⟨rfl, rfl⟩
end Go.Proofs.YtfgfofedacehiaaGreat

/-
 OWN TEXT: whole complex numbers as the program has them: signs, quotients by 1, tests; package poly's tests of one number.
-/
namespace Go.Proofs.YtfgfofedacehiaaGreat
open Go.ChangeShapes Go.WideShapes Go.ChangeAt Go.RowKit
set_option linter.unusedVariables false
attribute [local go_sem] frombits_call tobits_call run_neg
theorem g_eq (g h : Py.G) : decide (g = h) = (decide (g.1 = h.1) && decide (g.2 = h.2)) := by
 by_cases k : g = h
 · subst k; simp
 ·
  rw [decide_eq_false k]
  by_cases k1 : g.1 = h.1
  ·
   by_cases k2 : g.2 = h.2
   · exact absurd (Py.gext k1 k2) k
   · simp [k2]
  · simp [k1]
end Go.Proofs.YtfgfofedacehiaaGreat

/-
 OWN TEXT: lists of whole complex numbers in memory; package poly's tests of lists.
-/
namespace Go.Proofs.YtfgfofedacehiaaGreat
open Go.ChangeShapes Go.WideShapes Go.ChangeAt Go.RowKit
set_option linter.unusedVariables false
attribute [local go_sem] frombits_call tobits_call run_neg
/-- the list l lies at block b, from o on -/
def Gl (c : Nat) (w : World) (b o : Nat) (l : List Py.G) : Prop := b < w.heap.size ∧ ∀ i, i < l.length → ∃ x y, w.cell? ⟨b, o + i, none⟩ = some (.complex .f64 x y) ∧ wC c x y (Py.co l i)
theorem Gl.bw {c : Nat} {w w' : World} {b o : Nat} {l : List Py.G} (h : Gl c w b o l) (k : Bw w w') : Gl c w' b o l := by
 obtain ⟨h1, h2⟩ := h
 have hs : w.heap.size ≤ w'.heap.size := Below.size k
 refine ⟨by omega, fun i hi => ?_⟩
 obtain ⟨x, y, e, q⟩ := h2 i hi
 exact ⟨x, y, (Below.cell k (p := ⟨b, o + i, none⟩) h1).trans e, q⟩
/-- the same, and it may be written -/
def Gw (c : Nat) (w : World) (B : Nat) (l : List Py.G) : Prop := Gl c w B 0 l ∧ ∀ i, w.frozen? ⟨B, i, none⟩ = false
theorem Gw.set {c : Nat} {w : World} {B : Nat} {l : List Py.G} (h : Gw c w B l) (i x y : Nat) (g : Py.G) (hi : i < l.length) (hg : wC c x y g) : Gw c (w.setCell ⟨B, i, none⟩ (.complex .f64 x y)) B (l.set i g) := by
 obtain ⟨⟨h1, h2⟩, h3⟩ := h
 refine ⟨⟨by simpa [World.setCell] using h1, fun j hj => ?_⟩, fun j => (World.frozen?_setCell _ _ _ _).trans (h3 j)⟩
 rw [List.length_set] at hj
 rw [Py.co_set _ _ _ _ hi]
 obtain ⟨x', y', e, q⟩ := h2 j hj
 by_cases k : j = i
 ·
  subst k
  rw [if_pos rfl]
  exact ⟨x, y, by rw [Nat.zero_add] at e ⊢; exact World.cell?_setCell_same _ _ _ e, hg⟩
 ·
  rw [if_neg k]
  refine ⟨x', y', ?_, q⟩
  rw [World.cell?_setCell_other]
  · exact e
  · intro e'; cases e'; omega
end Go.Proofs.YtfgfofedacehiaaGreat

/-
 OWN TEXT: package poly: Check, copies, answers, of lists of whole complex numbers.
-/
namespace Go.Proofs.YtfgfofedacehiaaGreat
open Go.ChangeShapes Go.WideShapes Go.ChangeAt Go.RowKit
set_option linter.unusedVariables false
attribute [local go_sem] frombits_call tobits_call run_neg
theorem hide {p : Prop} (h : p) : Hid p := h
/-- a polynomial that may be, of the degree n -/
def May (n : Nat) (l : List Py.G) : Prop := l.length = n + 1 ∧ n ≤ 64 ∧ (n = 0 ∨ Py.co l n ≠ (0, 0)) ∧ ∀ i, i < n + 1 → Py.Le (Py.co l i) 1099511627776
theorem bw_alloc (w : World) (x : Obj) : Bw w (w.alloc x) := Below.alloc (Bw.refl w) (Nat.le_refl _) _
end Go.Proofs.YtfgfofedacehiaaGreat

/-
 OWN TEXT: linear systems of floats as functions of the floats alone: the steps, the way back, how far off; one row of bits stands for all that is no number.
-/
namespace Go.Proofs.YtfgfofedacehiaaGreat
open Go.ChangeShapes Go.WideShapes Go.ChangeAt Go.RowKit
set_option linter.unusedVariables false
namespace Sv
/-- what an operation comes to -/
def op (o : BinOp) (a b : Nat) : Nat := match floatBits o .f64 a b with
 | some z => Fl.bitsF z
 | none => 9221120237041090560
theorem nan_c (x : Nat) : Fl.nan (Fl.bitsF x) = Fl.nan x := by
 unfold Fl.bitsF
 split
 · rename_i h; rw [h]; decide
 · rfl
theorem c_num {x : Nat} (h : Fl.nan x = false) : Fl.bitsF x = x := by unfold Fl.bitsF; rw [h]; rfl
theorem c_nan {x : Nat} (h : Fl.nan x = true) : Fl.bitsF x = 9221120237041090560 := by unfold Fl.bitsF; rw [h]; rfl
/-- the answer hangs on the operands' one rows alone -/
theorem op_of {o : BinOp} (ho : isOp o) {a b x : Nat} (h : opR o a b x) : Fl.bitsF x = op o (Fl.bitsF a) (Fl.bitsF b) := by
 by_cases na : Fl.nan a = true
 ·
  rw [c_nan (h.nan (nan_left o ho na))]
  unfold op
  rw [nan_left o ho (by rw [nan_c]; exact na)]
 by_cases nb : Fl.nan b = true
 ·
  rw [c_nan (h.nan (nan_right o ho nb))]
  unfold op
  rw [nan_right o ho (by rw [nan_c]; exact nb)]
 rw [c_num (Bool.eq_false_iff.2 na), c_num (Bool.eq_false_iff.2 nb)]
 unfold op
 rcases h.2 with e | e
 · rw [e]
 · rw [e.1, c_nan e.2]
/-- an operation runs -/
theorem run {o : BinOp} (ho : isOp o) (a b : Nat) (w : World) : ∃ x w1, x < 18446744073709551616 ∧ Fl.bitsF x = op o (Fl.bitsF a) (Fl.bitsF b) ∧ (∀ t, (binOp o t (.float .f64 a) (.float .f64 b)).run Tryz.prog w = .ok (.float .f64 x) w1) ∧ Bw w w1 := by
 obtain ⟨x, w1, h, e, b1⟩ := op_run o ho a b w
 exact ⟨x, w1, h.1, op_of ho h, e, b1⟩
/-- is x, without its sign, above y? -/
def gt (x y : Nat) : Bool := !Fl.nan x && !Fl.nan y && decide (Fl.rg y < Fl.rg x)
/-- is it nought? -/
def nought (x : Nat) : Bool := decide (Fl.rg x = 0)
/-- can it be no pivot? -/
def bad (x : Nat) : Bool := nought x || !Fl.finB x
abbrev M := Nat → Nat → Nat
/-- the row whose element k is greatest, of t rows from k on -/
def best (A : M) (k : Nat) : Nat → Nat
 | 0 => k
 | t + 1 => if gt (A (k + t) k) (A (best A k t) k) then k + t else best A k t
/-- two rows change places -/
def swap (A : M) (k i : Nat) : M := fun r => if r = k then A i else if r = i then A k else A r
/-- f times the pivot's row is taken from row i -/
def less (A : M) (k i j : Nat) : Nat := op .sub (A i j) (op .mul (op .quo (A i k) (A k k)) (A k j))
def elim (A : M) (k : Nat) : M := fun i j => if k < i ∧ k < j then less A k i j else A i j
/-- the pivot's row at the step k, of n rows -/
def pv (n : Nat) (A : M) (k : Nat) : Nat := best A k (n - k)
/-- the rows behind k steps -/
def st (n : Nat) (A : M) : Nat → M
 | 0 => A
 | k + 1 => elim (swap (st n A k) k (pv n (st n A k) k)) k
/-- the step k's row, and its pivot -/
def tk (n : Nat) (A : M) (k : Nat) : Nat := pv n (st n A k) k
def piv (n : Nat) (A : M) (k : Nat) : Nat := st n A k (tk n A k) k
/-- no step below k is singular -/
def good (n : Nat) (A : M) (k : Nat) : Prop := ∀ j, j < k → bad (piv n A j) = false
instance (n : Nat) (A : M) (k : Nat) : Decidable (good n A k) := Nat.decidableBallLT k fun j _ => bad (piv n A j) = false
end Sv
end Go.Proofs.YtfgfofedacehiaaGreat

/-
 OWN TEXT: what Whole of package float returns, for every float.
-/
namespace Go.Proofs.YtfgfofedacehiaaGreat
open Go.ChangeShapes Go.WideShapes Go.ChangeAt Go.RowKit
end Go.Proofs.YtfgfofedacehiaaGreat

/-
 OWN TEXT: rounding keeps the order; a float made whole, as an integer.
-/
namespace Go.Proofs.YtfgfofedacehiaaGreat.Fl
set_option linter.unusedVariables false
theorem whF_num {x : Nat} (c : Nat) (hc : c = 1074) (hf : rg x < 9218868437227405312) : whF x = wd (sg x) (rq (rne (vl (rg x)) c * 2 ^ c) 0) := by
 obtain ⟨m, k, hm, em⟩ := read_fin hf
 unfold whF
 rw [hm]
 unfold Ieee.Datum.integral
 simp only []
 rw [cut_even]
 have e : rne (m <<< (-1074 + (k : Int)).toNat) (-(-1074 + (k : Int))).toNat = rne (vl (rg x)) c := by
  rw [← em, Nat.shiftLeft_eq]
  by_cases h : 1074 ≤ k
  ·
   obtain ⟨j, rfl⟩ : ∃ j, k = j + c := ⟨k - c, by omega⟩
   rw [show (-1074 + ((j + c : Nat) : Int)).toNat = j by omega, show (-(-1074 + ((j + c : Nat) : Int))).toNat = 0 by omega, rne_zero, Nat.pow_add, ← Nat.mul_assoc, rne_exact]
  ·
   rw [show (-1074 + (k : Int)).toNat = 0 by omega, Nat.pow_zero, Nat.mul_one]
   have := rne_mul m (c - k) k
   rw [show c - k + k = c by omega] at this
   rw [this]
   congr 1
   omega
 rw [e]
 have h := nearest_eq (sg x) (rne (vl (rg x)) c) c 0
 rw [show -1074 + (c : Int) - ((0 : Nat) : Int) = 0 by omega] at h
 exact h
theorem cut_nought (neg : Bool) (n s : Nat) : Ieee.Toward.zero.cut neg n s = n / 2 ^ s := by
 unfold Ieee.Toward.cut
 simp only [Bool.toNat_false, Nat.add_zero, Nat.shiftLeft_eq, Nat.one_mul]
 by_cases h : s ≤ n.log2 + 2
 · rw [Nat.min_eq_left h]
 ·
  rw [Nat.min_eq_right (by omega)]
  have h1 : n < 2 ^ (n.log2 + 2) := by
   by_cases z : n = 0
   · rw [z]; exact Nat.two_pow_pos _
   · exact Nat.lt_trans (log2_lt n z) (Nat.pow_lt_pow_right (by omega) (by omega))
  rw [Nat.div_eq_of_lt h1, Nat.div_eq_of_lt (Nat.lt_trans h1 (Nat.pow_lt_pow_right (by omega) (by omega)))]
theorem rne_mono (n n' s : Nat) (h : n ≤ n') : rne n s ≤ rne n' s := by
 have hp := Nat.two_pow_pos s
 have d1 := Nat.div_add_mod n (2 ^ s)
 have d2 := Nat.div_add_mod n' (2 ^ s)
 have m1 := Nat.mod_lt n hp
 have m2 := Nat.mod_lt n' hp
 have hq : n / 2 ^ s ≤ n' / 2 ^ s := Nat.div_le_div_right h
 unfold rne
 rcases Nat.lt_or_ge (n / 2 ^ s) (n' / 2 ^ s) with c | c
 · split <;> split <;> omega
 ·
  have e : n / 2 ^ s = n' / 2 ^ s := by omega
  rw [e] at d1 ⊢
  have hm : n % 2 ^ s ≤ n' % 2 ^ s := by omega
  split <;> split <;> omega
theorem log2_mono {n n' : Nat} (h0 : n ≠ 0) (h : n ≤ n') : n.log2 ≤ n'.log2 := (Nat.le_log2 (by omega)).2 (Nat.le_trans (log2_le n h0) h)
theorem rq_mono (n n' d : Nat) (h : n ≤ n') : rq n d ≤ rq n' d := by
 by_cases h0 : n = 0
 · unfold rq; rw [if_pos h0]; exact Nat.zero_le _
 ·
  have h0' : n' ≠ 0 := by omega
  have hl := log2_mono h0 h
  unfold rq
  rw [if_neg h0, if_neg h0']
  by_cases c : n.log2 - (52 + d) = n'.log2 - (52 + d)
  ·
   rw [c]
   have := rne_mono n n' (n'.log2 - (52 + d) + d) h
   omega
  ·
   have a1 : rne n (n.log2 - (52 + d) + d) ≤ 9007199254740992 := by
    refine rne_le _ _ _ ?_
    have := log2_lt n h0
    rw [show (9007199254740992 : Nat) = 2 ^ 53 by decide, ← Nat.pow_add]
    exact Nat.le_of_lt (Nat.lt_of_lt_of_le this (Nat.pow_le_pow_right (by decide) (by omega)))
   have a2 : 4503599627370496 ≤ rne n' (n'.log2 - (52 + d) + d) := by
    refine le_rne _ _ _ ?_
    have := log2_le n' h0'
    rw [show (4503599627370496 : Nat) = 2 ^ 52 by decide, ← Nat.pow_add]
    exact Nat.le_trans (Nat.pow_le_pow_right (by decide) (by omega)) this
   omega
theorem toInt_any {x : Nat} (c : Nat) (hc : c = 1074) (hf : rg x < 9218868437227405312) : (Ieee.double.read x).toInt .zero = some (if sg x then -((vl (rg x) / 2 ^ c : Nat) : Int) else ((vl (rg x) / 2 ^ c : Nat) : Int)) := by
 obtain ⟨m, k, hm, em⟩ := read_fin hf
 unfold Ieee.Datum.toInt
 rw [hm]
 unfold Ieee.Datum.integral
 simp only []
 rw [cut_nought]
 have e : m <<< (-1074 + (k : Int)).toNat / 2 ^ (-(-1074 + (k : Int))).toNat = vl (rg x) / 2 ^ c := by
  rw [← em, Nat.shiftLeft_eq]
  by_cases h : 1074 ≤ k
  ·
   obtain ⟨j, rfl⟩ : ∃ j, k = j + c := ⟨k - c, by omega⟩
   rw [show (-1074 + ((j + c : Nat) : Int)).toNat = j by omega, show (-(-1074 + ((j + c : Nat) : Int))).toNat = 0 by omega, Nat.pow_add, ← Nat.mul_assoc, Nat.mul_div_cancel _ (Nat.two_pow_pos c), Nat.pow_zero, Nat.div_one]
  ·
   rw [show (-1074 + (k : Int)).toNat = 0 by omega, Nat.pow_zero, Nat.mul_one, show (-(-1074 + (k : Int))).toNat = c - k by omega]
   have e2 : 2 ^ c = 2 ^ (c - k) * 2 ^ k := by rw [← Nat.pow_add, show c - k + k = c by omega]
   rw [e2, Nat.mul_div_mul_right _ _ (Nat.two_pow_pos k)]
 rw [e]
 unfold Ieee.signed
 cases sg x
 · rw [if_neg (by decide), Nat.shiftLeft_zero, if_neg (by decide)]
 · rw [if_pos rfl, Nat.shiftLeft_zero, if_pos rfl]
/-- a float of few bits, made whole, is an integer of few bits -/
theorem whole_int {p : Nat} (c : Nat) (hc : c = 1074) (hf : rg p < 9218868437227405312) (hv : vl (rg p) ≤ 4194304 * 2 ^ c) :
  ∃ k : Nat, k ≤ 4194304 ∧ whF p = wd (sg p) (rq (k * 2 ^ c) 0) ∧ vl (rq (k * 2 ^ c) 0) = k * 2 ^ c ∧ floatToIntVal .f64 (whF p) .i64 = some (if sg p then -(k : Int) else k) := by
 have hk : rne (vl (rg p)) c ≤ 4194304 := rne_le _ _ _ hv
 have hw := whF_num c hc hf
 generalize rne (vl (rg p)) c = k at *
 have hl : (k * 2 ^ c).log2 < 2098 := by
  by_cases z : k = 0
  · rw [z, Nat.zero_mul]; exact (by decide : Nat.log2 0 < 2098)
  ·
   rw [log2_mul _ _ z]
   have : k.log2 < 23 := (Nat.log2_lt z).2 (Nat.lt_of_le_of_lt hk (by decide))
   omega
 obtain ⟨v1, v2⟩ := rq_rep (k * 2 ^ c) ⟨k, c, rfl, by omega⟩ hl
 refine ⟨k, hk, hw, v1, ?_⟩
 rw [hw]
 generalize hR : rq (k * 2 ^ c) 0 = R at *
 have hg := rg_wd (sg p) R (by omega)
 have hs := sg_wd (sg p) R (by omega)
 have ht := toInt_any (x := wd (sg p) R) c hc (by rw [hg]; exact v2)
 rw [hg, hs, v1, Nat.mul_div_cancel _ (Nat.two_pow_pos c)] at ht
 unfold floatToIntVal
 show (match (Ieee.double.read (wd (sg p) R)).toInt .zero with | some n => if IntKind.i64.min ≤ n ∧ n ≤ IntKind.i64.max then some n else none | none => none) = _
 rw [ht]
 have h1 : IntKind.i64.min = -9223372036854775808 := rfl
 have h2 : IntKind.i64.max = 9223372036854775807 := rfl
 simp only []
 rw [h1, h2, if_pos (by split <;> omega)]
end Go.Proofs.YtfgfofedacehiaaGreat.Fl
namespace Go.Proofs.YtfgfofedacehiaaGreat
open Go.ChangeShapes Go.WideShapes Go.ChangeAt Go.RowKit
set_option linter.unusedVariables false
/-- n is p made whole -/
def whR (p n : Nat) : Prop := n < 18446744073709551616 ∧ (if Fl.nan p = true then Fl.nan n = true else n = Fl.whF p)
theorem whR.sim {p p' n n' : Nat} (h : whR p n) (k : whR p' n') (e : simR p p') : simR n n' := by
 obtain ⟨_, h⟩ := h
 obtain ⟨_, k⟩ := k
 rcases e with rfl | ⟨e1, e2⟩
 ·
  by_cases c : Fl.nan p = true
  · rw [if_pos c] at h k; exact Or.inr ⟨h, k⟩
  · rw [if_neg c] at h k; exact Or.inl (h.trans k.symm)
 ·
  rw [if_pos e1] at h
  rw [if_pos e2] at k
  exact Or.inr ⟨h, k⟩
/-- n is how often the logarithm of 2 goes into x -/
def foldR (x n : Nat) : Prop := ∃ p, opR .mul x 4609176140021203710 p ∧ whR p n
theorem foldR.sim {x x' n n' : Nat} (h : foldR x n) (k : foldR x' n') (e : simR x x') : simR n n' := by
 obtain ⟨p, h1, h2⟩ := h
 obtain ⟨p', k1, k2⟩ := k
 exact h2.sim k2 (h1.sim (Or.inr (Or.inr (Or.inl rfl))) k1 e (simR.refl _))
/-- in the middle it is an integer of few bits -/
theorem fold_int {x n : Nat} (hr : Fl.rg x ≤ 4652218415073722368) (h : foldR x n) : Fl.nan n = false ∧ ∃ q : Int, -4194304 ≤ q ∧ q ≤ 4194304 ∧ floatToIntVal .f64 n .i64 = some q := by
 obtain ⟨p, h1, h2⟩ := h
 have hm := Fl.mul_fin (x := x) (y := 4609176140021203710) (by omega) (by decide)
 have e1 : p = Fl.wd (Fl.sg x ^^ Fl.sg 4609176140021203710) (Fl.rq (Fl.vl (Fl.rg x) * Fl.vl (Fl.rg 4609176140021203710)) 1074) := by
  rcases h1.2 with k | k
  · exact (Option.some.inj (hm.symm.trans k)).symm
  · exact absurd (hm.symm.trans k.1) (by intro c; cases c)
 have hle : Fl.rq (Fl.vl (Fl.rg x) * Fl.vl (Fl.rg 4609176140021203710)) 1074 ≤ 4661225614328463360 := by
  have a := Fl.rq_mono (Fl.vl (Fl.rg x) * Fl.vl (Fl.rg 4609176140021203710)) (Fl.vl 4652218415073722368 * Fl.vl 4609176140021203710) 1074
   (Nat.mul_le_mul (by rcases Nat.lt_or_ge (Fl.rg x) 4652218415073722368 with c | c; exact Nat.le_of_lt (Fl.vl_mono c); rw [show Fl.rg x = 4652218415073722368 by omega]; exact Nat.le_refl _) (Nat.le_refl _))
  exact Nat.le_trans a (by decide +kernel)
 have hg : Fl.rg p = Fl.rq (Fl.vl (Fl.rg x) * Fl.vl (Fl.rg 4609176140021203710)) 1074 := by rw [e1]; exact Fl.rg_wd _ _ (by omega)
 have np : Fl.nan p = false := by unfold Fl.nan; exact decide_eq_false (by omega)
 obtain ⟨n1, n2⟩ := h2
 rw [if_neg (by rw [np]; decide)] at n2
 obtain ⟨c, hc⟩ : ∃ c, c = 1074 := ⟨_, rfl⟩
 have hv : Fl.vl (Fl.rg p) ≤ 4194304 * 2 ^ c := by
  have a : Fl.vl (Fl.rg p) ≤ Fl.vl 4661225614328463360 := by
   rcases Nat.lt_or_ge (Fl.rg p) 4661225614328463360 with c | c
   · exact Nat.le_of_lt (Fl.vl_mono c)
   · rw [show Fl.rg p = 4661225614328463360 by omega]; exact Nat.le_refl _
  refine Nat.le_trans a ?_
  rw [hc]
  decide +kernel
 obtain ⟨k, hk, hw, _, ht⟩ := Fl.whole_int c hc (by omega) hv
 subst n2
 refine ⟨?_, _, ?_, ?_, ht⟩
 · rw [hw]; exact Fl.nan_wd _ _ (Fl.rq_le _ _)
 · split <;> omega
 · split <;> omega
end Go.Proofs.YtfgfofedacehiaaGreat

