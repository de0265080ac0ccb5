/-
 OWN TEXT: package poly: copies and answers, of lists of whole complex numbers.
-/
import Derived.Test.YtfgfofedacehiaaGreatJRpAToEqA
import Derived.Laws.IdiomCopy
import Derived.Test.YtfgfofedacehiaaGreatJEpBToBhL
import Derived.Test.YtfgfofedacehiaaGreatJZqCToZqH
namespace Go.Proofs.YtfgfofedacehiaaGreat
open Go.ChangeShapes Go.WideShapes Go.ChangeAt Go.RowKit
set_option linter.unusedVariables false
attribute [local go_sem] frombits_call tobits_call run_neg
theorem run_store_cx {P : Program} {w : World} {a : Addr} {m : Mode} (k : FloatKind) (x y : Nat) : (store a (.complex k x y) m).run P w = stored P w a (.complex k x y) m := run_store P w a _ m rfl
theorem Gl.take {c : Nat} {w : World} {b o : Nat} {l : List Py.G} (h : Gl c w b o l) (n : Nat) : Gl c w b o (l.take n) := by
 refine ⟨h.1, fun i hi => ?_⟩
 rw [List.length_take] at hi
 rw [Py.co_take, if_pos (by omega)]
 exact h.2 i (by omega)
end Go.Proofs.YtfgfofedacehiaaGreat

/-
 OWN TEXT: package poly: values at a place (steps, At), of lists of whole complex numbers.
-/
namespace Go.Proofs.YtfgfofedacehiaaGreat
open Go.ChangeShapes Go.WideShapes Go.ChangeAt Go.RowKit
set_option linter.unusedVariables false
attribute [local go_sem] frombits_call tobits_call run_neg
end Go.Proofs.YtfgfofedacehiaaGreat

/-
 OWN TEXT: package poly: At, Add, of lists of whole complex numbers.
-/
namespace Go.Proofs.YtfgfofedacehiaaGreat
open Go.ChangeShapes Go.WideShapes Go.ChangeAt Go.RowKit
set_option linter.unusedVariables false
attribute [local go_sem] frombits_call tobits_call run_neg run_store_cx
/-- an answered polynomial: its coefficients are those of F -/
def Ans (c : Nat) (w w' : World) (e : Ending) (N : Nat) (F : Nat → Py.G) : Prop := ∃ B m l, e = .returned (.tuple #[.slice (some ⟨B, 0, none⟩) (m + 1) (m + 1), .int .i64 0]) ∧ May m l ∧ m + 1 ≤ N ∧ Gl c w' B 0 l ∧ w.heap.size ≤ B ∧ Bw w w' ∧ ∀ i, Py.co l i = F i
theorem Ans.of {c : Nat} {w w' : World} {B n : Nat} {l : List Py.G} (hn : l.length = n) (h0 : 0 < n) (hm : n ≤ 65) (h : Gl c w' B 0 l) (hB : w.heap.size ≤ B) (hb : Bw w w') (hl : ∀ i, Py.Le (Py.co l i) 1099511627776) : Ans c w w' (.returned (.tuple #[.slice (some ⟨B, 0, none⟩) (Py.tl l n) (Py.tl l n), .int .i64 0])) n (Py.co l) := by
 have hp := Py.tl_pos l n h0
 have hle := Py.tl_le l n
 have hlast := Py.tl_last l n
 have hlen := Py.tr_len l
 rw [hn] at hlen
 obtain ⟨m, hm'⟩ : ∃ m, Py.tl l n = m + 1 := ⟨Py.tl l n - 1, by omega⟩
 refine ⟨B, m, Py.tr l, by rw [hm'], ⟨by omega, by omega, ?_, fun i _ => by rw [Py.co_tr]; exact hl i⟩, by omega, ?_, hB, hb, Py.co_tr l⟩
 ·
  rw [hm'] at hlast
  rw [Py.co_tr]
  rcases hlast with k | k | k
  · omega
  · left; omega
  · right; rw [Nat.add_sub_cancel] at k; exact k
 · unfold Py.tr; rw [hn]; exact h.take _
end Go.Proofs.YtfgfofedacehiaaGreat

/-
 OWN TEXT: package poly: Mul, of lists of whole complex numbers.
-/
namespace Go.Proofs.YtfgfofedacehiaaGreat
open Go.ChangeShapes Go.WideShapes Go.ChangeAt Go.RowKit
set_option linter.unusedVariables false
attribute [local go_sem] frombits_call tobits_call run_neg run_store_cx
end Go.Proofs.YtfgfofedacehiaaGreat

/-
 OWN TEXT: package poly: Mul, of lists of whole complex numbers.
-/
namespace Go.Proofs.YtfgfofedacehiaaGreat
open Go.ChangeShapes Go.WideShapes Go.ChangeAt Go.RowKit
set_option linter.unusedVariables false
attribute [local go_sem] frombits_call tobits_call run_neg run_store_cx
end Go.Proofs.YtfgfofedacehiaaGreat

/-
 OWN TEXT: package poly: Shift, of lists of whole complex numbers.
-/
namespace Go.Proofs.YtfgfofedacehiaaGreat
open Go.ChangeShapes Go.WideShapes Go.ChangeAt Go.RowKit
set_option linter.unusedVariables false
attribute [local go_sem] frombits_call tobits_call run_neg run_store_cx
end Go.Proofs.YtfgfofedacehiaaGreat

/-
 OWN TEXT: package poly: Of, of lists of whole complex numbers.
-/
namespace Go.Proofs.YtfgfofedacehiaaGreat
open Go.ChangeShapes Go.WideShapes Go.ChangeAt Go.RowKit
set_option linter.unusedVariables false
attribute [local go_sem] frombits_call tobits_call run_neg run_store_cx
end Go.Proofs.YtfgfofedacehiaaGreat

/-
 OWN TEXT: package poly: Of, of lists of whole complex numbers.
-/
namespace Go.Proofs.YtfgfofedacehiaaGreat
open Go.ChangeShapes Go.WideShapes Go.ChangeAt Go.RowKit
set_option linter.unusedVariables false
attribute [local go_sem] frombits_call tobits_call run_neg run_store_cx
end Go.Proofs.YtfgfofedacehiaaGreat

/-
 OWN TEXT: zeros.halfSum of whole zeros: the call.
-/
namespace Go.Proofs.YtfgfofedacehiaaGreat
open Go.ChangeShapes Go.WideShapes Go.ChangeAt Go.RowKit
set_option linter.unusedVariables false
end Go.Proofs.YtfgfofedacehiaaGreat

/-
 OWN TEXT: parts.Order tells something; zeros.isNought.
-/
namespace Go.Proofs.YtfgfofedacehiaaGreat
open Go.ChangeShapes Go.WideShapes Go.ChangeAt Go.RowKit
set_option linter.unusedVariables false
attribute [local go_sem] frombits_call tobits_call run_neg
end Go.Proofs.YtfgfofedacehiaaGreat

/-
 OWN TEXT: what is near a whole number but for 2^-33 is near it but for 2^-30 by roots.Near.
-/
namespace Go.Proofs.YtfgfofedacehiaaGreat
set_option linter.unusedVariables false
def clC (c x y : Nat) (g : Py.G) : Prop := clo c x g.1 ∧ clo c y g.2
theorem wI.clo {c x : Nat} {n : Int} (h : wI c x n) : clo c x n := by
 refine ⟨h.1, h.2.1, ?_⟩
 rw [h.2.2, Int.sub_self]
 exact Nat.zero_le _
theorem wC.clo {c x y : Nat} {g : Py.G} (h : wC c x y g) : clC c x y g := ⟨h.1.clo, h.2.clo⟩
theorem clo.nan {c x : Nat} {n : Int} (h : clo c x n) : Fl.nan x = false := by unfold Fl.nan; exact decide_eq_false (by have := h.2.1; omega)
end Go.Proofs.YtfgfofedacehiaaGreat

/-
 OWN TEXT: zeros.Square of whole zeros.
-/
namespace Go.Proofs.YtfgfofedacehiaaGreat
open Go.ChangeShapes Go.WideShapes Go.ChangeAt Go.RowKit
set_option linter.unusedVariables false
end Go.Proofs.YtfgfofedacehiaaGreat

