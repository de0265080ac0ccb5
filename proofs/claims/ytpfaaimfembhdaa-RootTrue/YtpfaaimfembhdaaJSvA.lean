/-
  OWN TEXT: linear systems of floats as functions of the floats alone: the steps, the way back, how far off; one row of bits stands for all that is no number.
-/
import Derived.Test.YtpfaaimfembhdaaJEoA
namespace Go.Proofs.Ytpfaaimfembhdaa
open Go.ChangeShapes Go.WideShapes Go.ChangeAt Go.RowKit
set_option linter.unusedVariables false
namespace Sv
/-- what an operation comes to -/
def op (o : BinOp) (a b : Nat) : Nat := match floatBits o .f64 a b with
  | some z => Fl.bitsF z
  | none => 9221120237041090560
theorem nan_c (x : Nat) : Fl.nan (Fl.bitsF x) = Fl.nan x := by
  unfold Fl.bitsF
  split
  · rename_i h; rw [h]; decide
  · rfl
theorem c_num {x : Nat} (h : Fl.nan x = false) : Fl.bitsF x = x := by unfold Fl.bitsF; rw [h]; rfl
theorem c_nan {x : Nat} (h : Fl.nan x = true) : Fl.bitsF x = 9221120237041090560 := by unfold Fl.bitsF; rw [h]; rfl
theorem c_c (x : Nat) : Fl.bitsF (Fl.bitsF x) = Fl.bitsF x := by
  by_cases h : Fl.nan x = true
  · rw [c_nan h]; decide
  · rw [c_num (Bool.eq_false_iff.2 h), c_num (Bool.eq_false_iff.2 h)]
theorem op_c (o : BinOp) (a b : Nat) : Fl.bitsF (op o a b) = op o a b := by
  unfold op
  split
  · exact c_c _
  · decide
theorem op_lt (o : BinOp) (a b : Nat) : op o a b < 18446744073709551616 := by
  unfold op
  split
  · rename_i z h; exact Fl.bitsF_lt (floatBits_lt0 h)
  · decide
/-- the answer hangs on the operands' one rows alone -/
theorem op_of {o : BinOp} (ho : isOp o) {a b x : Nat} (h : opR o a b x) : Fl.bitsF x = op o (Fl.bitsF a) (Fl.bitsF b) := by
  by_cases na : Fl.nan a = true
  · rw [c_nan (h.nan (nan_left o ho na))]
    unfold op
    rw [nan_left o ho (by rw [nan_c]; exact na)]
  by_cases nb : Fl.nan b = true
  · rw [c_nan (h.nan (nan_right o ho nb))]
    unfold op
    rw [nan_right o ho (by rw [nan_c]; exact nb)]
  rw [c_num (Bool.eq_false_iff.2 na), c_num (Bool.eq_false_iff.2 nb)]
  unfold op
  rcases h.2 with e | e
  · rw [e]
  · rw [e.1, c_nan e.2]
/-- an operation runs -/
theorem run {o : BinOp} (ho : isOp o) (a b : Nat) (w : World) : ∃ x w1, x < 18446744073709551616 ∧ Fl.bitsF x = op o (Fl.bitsF a) (Fl.bitsF b) ∧ (∀ t, (binOp o t (.float .f64 a) (.float .f64 b)).run Try.prog w = .ok (.float .f64 x) w1) ∧ Bw w w1 := by
  obtain ⟨x, w1, h, e, b1⟩ := op_run o ho a b w
  exact ⟨x, w1, h.1, op_of ho h, e, b1⟩
theorem iAdd : isOp .add := Or.inl rfl
theorem iSub : isOp .sub := Or.inr (Or.inl rfl)
theorem iMul : isOp .mul := Or.inr (Or.inr (Or.inl rfl))
theorem iQuo : isOp .quo := Or.inr (Or.inr (Or.inr rfl))
/-- is x, without its sign, above y? -/
def gt (x y : Nat) : Bool := !Fl.nan x && !Fl.nan y && decide (Fl.rg y < Fl.rg x)
theorem gt_c (x y : Nat) : gt (Fl.bitsF x) (Fl.bitsF y) = gt x y := by
  unfold gt
  rw [nan_c, nan_c]
  by_cases a : Fl.nan x = true
  · rw [a]; rfl
  by_cases b : Fl.nan y = true
  · rw [b]; simp
  rw [c_num (Bool.eq_false_iff.2 a), c_num (Bool.eq_false_iff.2 b)]
theorem gt_ltF (x y : Nat) : Fl.ltF (Fl.rg y) (Fl.rg x) = gt x y := by
  unfold gt Fl.ltF
  rw [Fl.nan_rg, Fl.nan_rg, Fl.key_rg, Fl.key_rg]
  cases Fl.nan x <;> cases Fl.nan y <;> simp
theorem fin_c (x : Nat) : Fl.finB (Fl.bitsF x) = Fl.finB x := by
  by_cases a : Fl.nan x = true
  · rw [c_nan a]
    have := Fl.nan_lt a
    unfold Fl.finB
    rw [decide_eq_false (p := Fl.rg x < _) (by omega)]
    decide
  · rw [c_num (Bool.eq_false_iff.2 a)]
/-- is it nought? -/
def nought (x : Nat) : Bool := decide (Fl.rg x = 0)
theorem nought_c (x : Nat) : nought (Fl.bitsF x) = nought x := by
  by_cases a : Fl.nan x = true
  · rw [c_nan a]
    have := Fl.nan_lt a
    unfold nought
    rw [decide_eq_false (p := Fl.rg x = _) (by omega)]
    decide
  · rw [c_num (Bool.eq_false_iff.2 a)]
theorem nought_eqF (x : Nat) : Fl.eqF x 0 = nought x := by
  unfold Fl.eqF nought
  have h0 : Fl.nan 0 = false := by decide
  have k0 : Fl.key 0 = 0 := by decide
  rw [h0, k0]
  cases hn : Fl.nan x
  · rcases Fl.key_cases x with ⟨_, e⟩ | ⟨_, e⟩ <;> rw [e] <;> simp
  · have := Fl.nan_lt hn
    rw [decide_eq_false (p := Fl.rg x = 0) (by omega)]
    simp
/-- can it be no pivot? -/
def bad (x : Nat) : Bool := nought x || !Fl.finB x
theorem bad_c (x : Nat) : bad (Fl.bitsF x) = bad x := by unfold bad; rw [nought_c, fin_c]
abbrev M := Nat → Nat → Nat
/-- the row whose element k is greatest, of t rows from k on -/
def best (A : M) (k : Nat) : Nat → Nat
  | 0 => k
  | t + 1 => if gt (A (k + t) k) (A (best A k t) k) then k + t else best A k t
theorem best_ge (A : M) (k t : Nat) : k ≤ best A k t := by
  induction t with
  | zero => exact Nat.le_refl _
  | succ t ih => unfold best; split <;> omega
theorem best_lt (A : M) (k t : Nat) : best A k t < k + t ∨ best A k t = k := by
  induction t with
  | zero => exact Or.inr rfl
  | succ t ih => unfold best; split <;> omega
/-- two rows change places -/
def swap (A : M) (k i : Nat) : M := fun r => if r = k then A i else if r = i then A k else A r
/-- f times the pivot's row is taken from row i -/
def less (A : M) (k i j : Nat) : Nat := op .sub (A i j) (op .mul (op .quo (A i k) (A k k)) (A k j))
/-- t rows behind k are done -/
def elimT (A : M) (k t : Nat) : M := fun i j => if k < i ∧ i ≤ k + t ∧ k < j then less A k i j else A i j
def elim (A : M) (k : Nat) : M := fun i j => if k < i ∧ k < j then less A k i j else A i j
/-- the pivot's row at the step k, of n rows -/
def pv (n : Nat) (A : M) (k : Nat) : Nat := best A k (n - k)
/-- the rows behind k steps -/
def st (n : Nat) (A : M) : Nat → M
  | 0 => A
  | k + 1 => elim (swap (st n A k) k (pv n (st n A k) k)) k
/-- the step k's row, and its pivot -/
def tk (n : Nat) (A : M) (k : Nat) : Nat := pv n (st n A k) k
def piv (n : Nat) (A : M) (k : Nat) : Nat := st n A k (tk n A k) k
theorem tk_lt {n k : Nat} (A : M) (h : k < n) : tk n A k < n := by
  unfold tk pv
  have := best_lt (st n A k) k (n - k)
  omega
theorem tk_ge (n k : Nat) (A : M) : k ≤ tk n A k := best_ge _ _ _
theorem swap_piv (n : Nat) (A : M) (k : Nat) : swap (st n A k) k (tk n A k) k k = piv n A k := by
  unfold swap piv; rw [if_pos rfl]
/-- no step below k is singular -/
def good (n : Nat) (A : M) (k : Nat) : Prop := ∀ j, j < k → bad (piv n A j) = false
instance (n : Nat) (A : M) (k : Nat) : Decidable (good n A k) := Nat.decidableBallLT k fun j _ => bad (piv n A j) = false
/-- the sum of the way back: u of the elements behind i are done -/
def bsum (A : M) (n i : Nat) (x : Nat → Nat) : Nat → Nat
  | 0 => A i n
  | u + 1 => op .sub (bsum A n i x u) (op .mul (A i (i + 1 + u)) (x (i + 1 + u)))
/-- the unknowns, the last c of them -/
def bx (A : M) (n : Nat) : Nat → Nat → Nat
  | 0 => fun _ => 0
  | c + 1 => fun i => if i = n - 1 - c then op .quo (bsum A n i (bx A n c) (n - 1 - i)) (A i i) else bx A n c i
theorem bsum_ext (A : M) (n i : Nat) (x y : Nat → Nat) : ∀ u, (∀ t, t < u → x (i + 1 + t) = y (i + 1 + t)) → bsum A n i x u = bsum A n i y u
  | 0, _ => rfl
  | u + 1, h => by
    show op .sub (bsum A n i x u) _ = op .sub (bsum A n i y u) _
    rw [bsum_ext A n i x y u (fun t ht => h t (by omega)), h u (by omega)]
/-- the sum of a row, u of its elements done -/
def osum (a x : Nat → Nat) : Nat → Nat
  | 0 => 0
  | u + 1 => op .add (osum a x u) (op .mul (a u) (x u))
end Sv
end Go.Proofs.Ytpfaaimfembhdaa
