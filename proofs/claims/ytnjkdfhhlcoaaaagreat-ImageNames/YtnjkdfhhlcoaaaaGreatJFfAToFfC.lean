/-
 OWN TEXT: package flow over whole complex numbers: powers, folds, a place in a list.
-/
import Derived.Test.YtnjkdfhhlcoaaaaGreatJPyDToPyG
import Derived.Test.YtnjkdfhhlcoaaaaGreatJElBToElE
import Derived.Test.YtnjkdfhhlcoaaaaGreatJSvB
import Derived.Deep.Slices
import Derived.Laws.AppendOwnNone
import Derived.Maps.AppendAt
namespace Go.Proofs.YtnjkdfhhlcoaaaaGreat
open Go.ChangeShapes Go.WideShapes Go.ChangeAt Go.RowKit
set_option linter.unusedVariables false
attribute [local go_sem] frombits_call tobits_call run_neg
namespace Ff
/-- the powers 1, 2, 3 as floats -/
def pw : Nat → Nat
 | 1 => 4607182418800017408
 | 2 => 4611686018427387904
 | 3 => 4613937818241073152
 | _ => 0
end Ff
end Go.Proofs.YtnjkdfhhlcoaaaaGreat

/-
 OWN TEXT: package flow over whole complex numbers: a place in a list, a place so many times.
-/
namespace Go.Proofs.YtnjkdfhhlcoaaaaGreat
open Go.ChangeShapes Go.WideShapes Go.ChangeAt Go.RowKit
set_option linter.unusedVariables false
attribute [local go_sem] frombits_call tobits_call run_neg run_store_cx
namespace Ff
/-- a slice of places -/
def Pl (c : Nat) (w : World) (a : Option Addr) (gs : List Py.G) : Prop := gs.length = 0 ∨ ∃ b o, a = some ⟨b, o, none⟩ ∧ Gl c w b o gs
theorem Pl.bw {c : Nat} {w w' : World} {a : Option Addr} {gs : List Py.G} (h : Pl c w a gs) (k : Bw w w') : Pl c w' a gs := by
 rcases h with h | ⟨b, o, e, h⟩
 · exact Or.inl h
 · exact Or.inr ⟨b, o, e, h.bw k⟩
end Ff
namespace Ff
end Ff
end Go.Proofs.YtnjkdfhhlcoaaaaGreat

/-
 OWN TEXT: package flow over whole complex numbers: lists that grow; the roots of a common bottom.
-/
namespace Go.Proofs.YtnjkdfhhlcoaaaaGreat
open Go.ChangeShapes Go.WideShapes Go.ChangeAt Go.RowKit
set_option linter.unusedVariables false
attribute [local go_sem] frombits_call tobits_call run_neg run_store_cx
theorem ff_append {P : Program} {ops : Array Oper} {rest : List Oper} {o : Oper} {a : Act} {w : World} {Q : Exit → Act → World → Prop} (hgd : o.guard = none) (s x : Operand) (t : TypeId)
  (ho : o.op = Op.call { callee := Callee.builtin Builtin.append, args := #[s, x], argTypes := #[t, t] }) (v1 v2 v' : Value) (hs : a.eval s = v1) (hx : a.eval x = v2) (w' : World)
  (hrun : (Builtin.append_ #[t, t] o.type #[v1, v2]).run P w = .ok v' w') (h : wpList P ops Q rest (a.put o.dst v') w') : wpList P ops Q (o :: rest) a w := by
 refine wpList_plain hgd fun K hK => ?_
 unfold Oper.wp
 simp [execOp, ho, resolve, invoke, builtin, hs, hx, hrun, Result.andThen]
 exact hK _ _ h
namespace Ff
def Vl (c : Nat) (vals : List Value) (L : List Py.G) : Prop := vals.length = L.length ∧ ∀ j, j < L.length → ∃ x y, vals[j]? = some (.complex .f64 x y) ∧ wC c x y (Py.co L j)
theorem Vl.app {c : Nat} {vals vals' : List Value} {L l : List Py.G} (h : Vl c vals L) (h' : Vl c vals' l) : Vl c (vals ++ vals') (L ++ l) := by
 obtain ⟨h1, h2⟩ := h
 obtain ⟨k1, k2⟩ := h'
 refine ⟨by simp [h1, k1], fun j hj => ?_⟩
 rw [List.length_append] at hj
 rw [Py.co_append]
 by_cases q : j < L.length
 ·
  rw [if_pos q, List.getElem?_append_left (by omega)]
  exact h2 j q
 ·
  rw [if_neg q, List.getElem?_append_right (by omega), h1]
  exact k2 _ (by omega)
/-- a slice of ints -/
def Ni (w : World) (a : Option Addr) (fs : List Nat) : Prop := fs.length = 0 ∨ ∃ b o, a = some ⟨b, o, none⟩ ∧ b < w.heap.size ∧ ∀ i, i < fs.length → w.cell? ⟨b, o + i, none⟩ = some (.int .i64 ((fs.getD i 0 : Nat) : Int))
theorem Ni.bw {w w' : World} {a : Option Addr} {fs : List Nat} (h : Ni w a fs) (k : Bw w w') : Ni w' a fs := by
 rcases h with h | ⟨b, o, e, hb, h⟩
 · exact Or.inl h
 · exact Or.inr ⟨b, o, e, Nat.lt_of_lt_of_le hb k.size, fun i hi => (Below.cell k (p := ⟨b, o + i, none⟩) hb).trans (h i hi)⟩
/-- each place as often as it is told -/
def rl (cs : List (Py.G × Nat)) : List Py.G := cs.flatMap fun p => List.replicate p.2 p.1
end Ff
end Go.Proofs.YtnjkdfhhlcoaaaaGreat

