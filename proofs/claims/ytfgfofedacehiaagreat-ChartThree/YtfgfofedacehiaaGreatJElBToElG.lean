/-
 OWN TEXT: powers by squares, of small whole exponents: as functions of one row of bits a part.
-/
import Derived.Test.YtfgfofedacehiaaGreatJElA
import Derived.Test.YtfgfofedacehiaaGreatJXxAToXxH
import Derived.Test.YtfgfofedacehiaaGreatJRoAToEqC
import Derived.Test.YtfgfofedacehiaaGreatJFnWholeToAnA
import Derived.Test.YtfgfofedacehiaaGreatJBhL
import Derived.Laws.FloatArith
namespace Go.Proofs.YtfgfofedacehiaaGreat
open Go.ChangeShapes Go.WideShapes Go.ChangeAt Go.RowKit
set_option linter.unusedVariables false
attribute [local go_sem] frombits_call tobits_call run_neg
namespace El
end El
set_option maxRecDepth 1000000
end Go.Proofs.YtfgfofedacehiaaGreat

/-
 OWN TEXT: package element's small functions: places, noughts, whole powers, what is told; the kinds.
-/
namespace Go.Proofs.YtfgfofedacehiaaGreat
open Go.ChangeShapes Go.WideShapes Go.ChangeAt Go.RowKit
set_option linter.unusedVariables false
attribute [local go_sem] frombits_call tobits_call run_neg
namespace El
/-- an element -/
def E (k : Int) (a b s t p : Nat) : Value := .agg #[.int .u8 k, .complex .f64 a b, .complex .f64 s t, .float .f64 p]
theorem run_store_cx {P : Program} {w : World} {a : Addr} {m : Mode} (x y : Nat) : (store a (.complex .f64 x y) m).run P w = stored P w a (.complex .f64 x y) m := run_store P w a _ m rfl
theorem run_store_fl {P : Program} {w : World} {a : Addr} {m : Mode} (x : Nat) : (store a (.float .f64 x) m).run P w = stored P w a (.float .f64 x) m := run_store P w a _ m rfl
end El
attribute [local go_sem] El.run_store_cx El.run_store_fl
end Go.Proofs.YtfgfofedacehiaaGreat

/-
 OWN TEXT: package element: which elements may be; what the methods of the four kinds return, as functions of one row of bits a part.
-/
namespace Go.Proofs.YtfgfofedacehiaaGreat
open Go.ChangeShapes Go.WideShapes Go.ChangeAt Go.RowKit
set_option linter.unusedVariables false
attribute [local go_sem] frombits_call tobits_call run_neg El.run_store_cx El.run_store_fl
namespace El
/-- an element lies at a block -/
structure St (w : World) (B : Nat) (k : Int) (a b s t p : Nat) : Prop where
 lt : B < w.heap.size
 c0 : w.cell? ⟨B, 0, none⟩ = some (.int .u8 k)
 c1 : w.cell? ⟨B, 1, none⟩ = some (.complex .f64 a b)
 c2 : w.cell? ⟨B, 2, none⟩ = some (.complex .f64 s t)
 c3 : w.cell? ⟨B, 3, none⟩ = some (.float .f64 p)
theorem St.bw {w w' : World} {B : Nat} {k : Int} {a b s t p : Nat} (h : St w B k a b s t p) (g : Bw w w') : St w' B k a b s t p :=
 ⟨Nat.lt_of_lt_of_le h.lt g.size, (Below.cell g (p := ⟨B, 0, none⟩) h.lt).trans h.c0, (Below.cell g (p := ⟨B, 1, none⟩) h.lt).trans h.c1, (Below.cell g (p := ⟨B, 2, none⟩) h.lt).trans h.c2, (Below.cell g (p := ⟨B, 3, none⟩) h.lt).trans h.c3⟩
theorem St.new (w : World) (k : Int) (a b s t p : Nat) (T : TypeId) : St (w.alloc (.cells #[.int .u8 k, .complex .f64 a b, .complex .f64 s t, .float .f64 p] T)) w.heap.size k a b s t p :=
 ⟨by simp, by simp, by simp, by simp, by simp⟩
/-- 1 / (2 * H) -/
def H1 : Nat := 4594902181429758083
end El
end Go.Proofs.YtfgfofedacehiaaGreat

/-
 OWN TEXT: package element: what the methods of doublets and corners return, as functions of one row of bits a part.
-/
namespace Go.Proofs.YtfgfofedacehiaaGreat
open Go.ChangeShapes Go.WideShapes Go.ChangeAt Go.RowKit
set_option linter.unusedVariables false
attribute [local go_sem] frombits_call tobits_call run_neg El.run_store_cx El.run_store_fl
theorem El.ar {op : BinOp} {a b x : Nat} (e : floatBits op .f64 a b = some x) (t : TypeId) (w : World) : (binOp op t (.float .f64 a) (.float .f64 b)).run Tryz.prog w = .ok (.float .f64 x) w := run_float_arith (P := Tryz.prog) w op t .f64 _ _ _ e
end Go.Proofs.YtfgfofedacehiaaGreat

/-
 OWN TEXT: package element: what may be, by its kind.
-/
namespace Go.Proofs.YtfgfofedacehiaaGreat
open Go.ChangeShapes Go.WideShapes Go.ChangeAt Go.RowKit
set_option linter.unusedVariables false
attribute [local go_sem] frombits_call tobits_call run_neg El.run_store_cx El.run_store_fl
end Go.Proofs.YtfgfofedacehiaaGreat

/-
 OWN TEXT: package element: potentials, speeds, slopes of elements that may be; one that lies elsewhere.
-/
namespace Go.Proofs.YtfgfofedacehiaaGreat
open Go.ChangeShapes Go.WideShapes Go.ChangeAt Go.RowKit
set_option linter.unusedVariables false
attribute [local go_sem] frombits_call tobits_call run_neg El.run_store_cx El.run_store_fl
namespace El
/-- an element of the call's own lies at a block -/
structure Sw (w : World) (B : Nat) (k : Int) (a b s t p : Nat) : Prop where
 st : St w B k a b s t p
 fz : ∀ i, w.frozen? ⟨B, i, none⟩ = false
theorem Sw.bw {w w' : World} {B : Nat} {k : Int} {a b s t p : Nat} (h : Sw w B k a b s t p) (g : Bw w w') : Sw w' B k a b s t p :=
 ⟨h.st.bw g, fun i => (Below.frozen g (p := ⟨B, i, none⟩) h.st.lt).trans (h.fz i)⟩
theorem Sw.new (w : World) (k : Int) (a b s t p : Nat) (T : TypeId) : Sw (w.alloc (.cells #[.int .u8 k, .complex .f64 a b, .complex .f64 s t, .float .f64 p] T)) w.heap.size k a b s t p :=
 ⟨St.new w k a b s t p T, fun i => World.frozen?_alloc_at _ _ _ _ rfl⟩
theorem set_cell {w : World} {B i : Nat} {v : Value} (h : ∃ u, w.cell? ⟨B, i, none⟩ = some u) : (w.setCell ⟨B, i, none⟩ v).cell? ⟨B, i, none⟩ = some v := by
 obtain ⟨u, h⟩ := h
 exact World.cell?_setCell_same' _ _ _ (by rw [h]; rfl)
theorem set_off {w : World} {B i j : Nat} {v : Value} (h : i ≠ j) : (w.setCell ⟨B, i, none⟩ v).cell? ⟨B, j, none⟩ = w.cell? ⟨B, j, none⟩ := by
 simp only [World.cell?, World.setCell, Array.getElem?_modify]
 cases hh : w.heap[B]? with
 | none => simp
 | some o => cases o <;> simp [Array.getElem?_setIfInBounds_ne h]
theorem Sw.set {w : World} {B : Nat} {k : Int} {a b s t p : Nat} (h : Sw w B k a b s t p) (k' : Int) (a' b' s' t' p' : Nat) :
  Sw ((((w.setCell ⟨B, 0, none⟩ (.int .u8 k')).setCell ⟨B, 1, none⟩ (.complex .f64 a' b')).setCell ⟨B, 2, none⟩ (.complex .f64 s' t')).setCell ⟨B, 3, none⟩ (.float .f64 p')) B k' a' b' s' t' p' := by
 obtain ⟨⟨h0, h1, h2, h3, h4⟩, h5⟩ := h
 refine ⟨⟨by simpa [World.setCell] using h0, ?_, ?_, ?_, ?_⟩, fun i => by simp only [World.frozen?_setCell]; exact h5 i⟩
 · rw [set_off (by decide), set_off (by decide), set_off (by decide)]; exact set_cell ⟨_, h1⟩
 · rw [set_off (by decide), set_off (by decide)]; exact set_cell ⟨_, by rw [set_off (by decide)]; exact h2⟩
 · rw [set_off (by decide)]; exact set_cell ⟨_, by rw [set_off (by decide), set_off (by decide)]; exact h3⟩
 · exact set_cell ⟨_, by rw [set_off (by decide), set_off (by decide), set_off (by decide)]; exact h4⟩
end El
theorem El.set_blk {w : World} {B B' i : Nat} {v : Value} (h : B' ≠ B) (j : Nat) : (w.setCell ⟨B', i, none⟩ v).cell? ⟨B, j, none⟩ = w.cell? ⟨B, j, none⟩ := by
 simp only [World.cell?, World.setCell, Array.getElem?_modify, if_neg h]
theorem El.Sw.off {w : World} {B B' i : Nat} {v : Value} {k : Int} {a b s t p : Nat} (h : El.Sw w B k a b s t p) (hb : B' ≠ B) : El.Sw (w.setCell ⟨B', i, none⟩ v) B k a b s t p := by
 obtain ⟨⟨h0, h1, h2, h3, h4⟩, h5⟩ := h
 exact ⟨⟨by simpa [World.setCell] using h0, (El.set_blk hb _).trans h1, (El.set_blk hb _).trans h2, (El.set_blk hb _).trans h3, (El.set_blk hb _).trans h4⟩, fun i => by rw [World.frozen?_setCell]; exact h5 i⟩
end Go.Proofs.YtfgfofedacehiaaGreat

