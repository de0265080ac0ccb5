/-
 OWN TEXT: linear systems of floats as functions of the floats alone: the steps, the way back, how far off; one row of bits stands for all that is no number.
-/
import Derived.Test.YtfgfofedacehiaaGreatJEoA
namespace Go.Proofs.YtfgfofedacehiaaGreat
open Go.ChangeShapes Go.WideShapes Go.ChangeAt Go.RowKit
set_option linter.unusedVariables false
namespace Sv
/-- what an operation comes to -/
def op (o : BinOp) (a b : Nat) : Nat := match floatBits o .f64 a b with
 | some z => Fl.bitsF z
 | none => 9221120237041090560
theorem nan_c (x : Nat) : Fl.nan (Fl.bitsF x) = Fl.nan x := by
 unfold Fl.bitsF
 split
 · rename_i h; rw [h]; decide
 · rfl
theorem c_num {x : Nat} (h : Fl.nan x = false) : Fl.bitsF x = x := by unfold Fl.bitsF; rw [h]; rfl
theorem c_nan {x : Nat} (h : Fl.nan x = true) : Fl.bitsF x = 9221120237041090560 := by unfold Fl.bitsF; rw [h]; rfl
/-- the answer hangs on the operands' one rows alone -/
theorem op_of {o : BinOp} (ho : isOp o) {a b x : Nat} (h : opR o a b x) : Fl.bitsF x = op o (Fl.bitsF a) (Fl.bitsF b) := by
 by_cases na : Fl.nan a = true
 ·
  rw [c_nan (h.nan (nan_left o ho na))]
  unfold op
  rw [nan_left o ho (by rw [nan_c]; exact na)]
 by_cases nb : Fl.nan b = true
 ·
  rw [c_nan (h.nan (nan_right o ho nb))]
  unfold op
  rw [nan_right o ho (by rw [nan_c]; exact nb)]
 rw [c_num (Bool.eq_false_iff.2 na), c_num (Bool.eq_false_iff.2 nb)]
 unfold op
 rcases h.2 with e | e
 · rw [e]
 · rw [e.1, c_nan e.2]
/-- an operation runs -/
theorem run {o : BinOp} (ho : isOp o) (a b : Nat) (w : World) : ∃ x w1, x < 18446744073709551616 ∧ Fl.bitsF x = op o (Fl.bitsF a) (Fl.bitsF b) ∧ (∀ t, (binOp o t (.float .f64 a) (.float .f64 b)).run Tryz.prog w = .ok (.float .f64 x) w1) ∧ Bw w w1 := by
 obtain ⟨x, w1, h, e, b1⟩ := op_run o ho a b w
 exact ⟨x, w1, h.1, op_of ho h, e, b1⟩
/-- is x, without its sign, above y? -/
def gt (x y : Nat) : Bool := !Fl.nan x && !Fl.nan y && decide (Fl.rg y < Fl.rg x)
/-- is it nought? -/
def nought (x : Nat) : Bool := decide (Fl.rg x = 0)
/-- can it be no pivot? -/
def bad (x : Nat) : Bool := nought x || !Fl.finB x
abbrev M := Nat → Nat → Nat
/-- the row whose element k is greatest, of t rows from k on -/
def best (A : M) (k : Nat) : Nat → Nat
 | 0 => k
 | t + 1 => if gt (A (k + t) k) (A (best A k t) k) then k + t else best A k t
/-- two rows change places -/
def swap (A : M) (k i : Nat) : M := fun r => if r = k then A i else if r = i then A k else A r
/-- f times the pivot's row is taken from row i -/
def less (A : M) (k i j : Nat) : Nat := op .sub (A i j) (op .mul (op .quo (A i k) (A k k)) (A k j))
def elim (A : M) (k : Nat) : M := fun i j => if k < i ∧ k < j then less A k i j else A i j
/-- the pivot's row at the step k, of n rows -/
def pv (n : Nat) (A : M) (k : Nat) : Nat := best A k (n - k)
/-- the rows behind k steps -/
def st (n : Nat) (A : M) : Nat → M
 | 0 => A
 | k + 1 => elim (swap (st n A k) k (pv n (st n A k) k)) k
/-- the step k's row, and its pivot -/
def tk (n : Nat) (A : M) (k : Nat) : Nat := pv n (st n A k) k
def piv (n : Nat) (A : M) (k : Nat) : Nat := st n A k (tk n A k) k
/-- no step below k is singular -/
def good (n : Nat) (A : M) (k : Nat) : Prop := ∀ j, j < k → bad (piv n A j) = false
instance (n : Nat) (A : M) (k : Nat) : Decidable (good n A k) := Nat.decidableBallLT k fun j _ => bad (piv n A j) = false
end Sv
end Go.Proofs.YtfgfofedacehiaaGreat

