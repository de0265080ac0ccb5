/-
 OWN TEXT: package flow over whole complex numbers: polynomials by their value at a place; a product of so many times the polynomial of some zeros.
-/
import Derived.Test.YtnjkdfhhlcoaaaaGreatJFfAToFfC
import Derived.Test.YtnjkdfhhlcoaaaaGreatJRaAToRaB
import Derived.Test.YtnjkdfhhlcoaaaaGreatJPyHToPyP
namespace Go.Proofs.YtnjkdfhhlcoaaaaGreat
open Go.ChangeShapes Go.WideShapes Go.ChangeAt Go.RowKit
set_option linter.unusedVariables false
attribute [local go_sem] frombits_call tobits_call run_neg run_store_cx
namespace Ff
/-- a polynomial of degree at most N, coefficients at most A, worth g at z -/
def Pv (c : Nat) (w : World) (z : Py.G) (v : Value) (N A : Nat) (g : Py.G) : Prop := ∃ B o m cap l, v = .slice (some ⟨B, o, none⟩) (m + 1) cap ∧ May m l ∧ m ≤ N ∧ Gl c w B o l ∧ (∀ i, Py.Le (Py.co l i) A) ∧ Py.ev l z = g
theorem Pv.bw {c : Nat} {w w' : World} {z : Py.G} {v : Value} {N A : Nat} {g : Py.G} (h : Pv c w z v N A g) (k : Bw w w') : Pv c w' z v N A g := by
 obtain ⟨B, o, m, cap, l, e, h1, h2, h3, h4⟩ := h
 exact ⟨B, o, m, cap, l, e, h1, h2, h3.bw k, h4⟩
theorem Pv.mono {c : Nat} {w : World} {z : Py.G} {v : Value} {N A N' A' : Nat} {g : Py.G} (h : Pv c w z v N A g) (hN : N ≤ N') (hA : A ≤ A') : Pv c w z v N' A' g := by
 obtain ⟨B, o, m, cap, l, e, h1, h2, h3, h4, h5⟩ := h
 exact ⟨B, o, m, cap, l, e, h1, by omega, h3, fun i => (h4 i).mono hA, h5⟩
theorem Pv.form {c : Nat} {w : World} {z : Py.G} {v : Value} {N A : Nat} {g : Py.G} (h : Pv c w z v N A g) : ∃ a n cap, v = .slice a n cap := by
 obtain ⟨B, o, m, cap, l, e, _⟩ := h
 exact ⟨_, _, _, e⟩
theorem ev_c (s z : Py.G) : Py.ev [s] z = s := by
 show Py.ga (Py.gm (0, 0) z) s = s
 rw [Py.nought_gm, Py.nought_ga]
end Ff
end Go.Proofs.YtnjkdfhhlcoaaaaGreat

/-
 OWN TEXT: package flow over whole complex numbers: a common bottom takes one more place.
-/
namespace Go.Proofs.YtnjkdfhhlcoaaaaGreat
open Go.ChangeShapes Go.WideShapes Go.ChangeAt Go.RowKit
set_option linter.unusedVariables false
attribute [local go_sem] frombits_call tobits_call run_neg run_store_cx
section
variable {P : Program} {ops : Array Oper} {Q : Exit → Act → World → Prop} {md : Region.Mode} {S : World → Prop} {k : Nat}
end
namespace Ff
theorem own_form {w : World} {base n : Nat} {e : TypeId} {v : Value} {xs : List Value} (h : w.ownsRow base e 1 v n xs) : ∃ p n k, v = .slice p n k := by
 rcases h.2 with ⟨e, _⟩ | ⟨g, cap, _, e, _⟩
 · exact ⟨_, _, _, e⟩
 · exact ⟨_, _, _, e⟩
theorem own_set {w : World} {base n g i : Nat} {e : TypeId} {v : Value} {xs : List Value} (h : w.ownsRow base e 1 v n xs) (hg : v.ownBlock = some g) (u : Value) : (w.setCell ⟨g, i, none⟩ u).ownsRow base e 1 v n (xs.set i u) := by
 refine ⟨by rw [List.length_set]; exact h.1, ?_⟩
 rcases h.2 with ⟨rfl, _⟩ | ⟨g', cap, cur, rfl, hb, hc, h1, h2, h3, h4⟩
 · cases hg
 ·
  simp only [Value.ownBlock, Option.some.injEq] at hg
  subst hg
  refine Or.inr ⟨g', cap, cur.setIfInBounds i u, rfl, hb, ?_, h1, h2, by simpa using h3, ?_⟩
  ·
   simp only [World.setCell, Array.getElem?_modify, if_true, hc]
   simp
  · rw [Array.toList_setIfInBounds, List.take_set, h4]
/-- one more place: of one that is there the greater fold -/
def tk : List (Py.G × Nat) → Py.G → Nat → List (Py.G × Nat)
 | [], z, n => [(z, n)]
 | (g, f) :: r, z, n => if g = z then (g, max f n) :: r else (g, f) :: tk r z n
/-- own blocks apart -/
def Dj (v v' : Value) : Prop := ∀ g, v.ownBlock = some g → v'.ownBlock ≠ some g
/-- a common bottom that grows lies at block B -/
structure Cm (c : Nat) (w : World) (base B : Nat) (cs : List (Py.G × Nat)) (vP vF : Value) (vals : List Value) : Prop where
 lo : base ≤ B
 hi : B < w.heap.size
 c0 : w.cell? ⟨B, 0, none⟩ = some vP
 c1 : w.cell? ⟨B, 1, none⟩ = some vF
 c2 : w.cell? ⟨B, 2, none⟩ = some (.slice none 0 0)
 fz : ∀ i, w.frozen? ⟨B, i, none⟩ = false
 oP : w.ownsRow base 24 1 vP cs.length vals
 vl : Vl c vals (cs.map Prod.fst)
 oF : w.ownsRow base 3 1 vF cs.length (cs.map fun p => .int .i64 ((p.2 : Nat) : Int))
 dj : Dj vP vF
 nP : vP.ownBlock ≠ some B
 nF : vF.ownBlock ≠ some B
theorem set_any {w : World} {B i : Nat} {v u : Value} (h : w.cell? ⟨B, i, none⟩ = some u) : (w.setCell ⟨B, i, none⟩ v).cell? ⟨B, i, none⟩ = some v := World.cell?_setCell_same' _ _ _ (by rw [h]; rfl)
theorem set_off {w : World} {B i j : Nat} {v : Value} (h : i ≠ j) : (w.setCell ⟨B, i, none⟩ v).cell? ⟨B, j, none⟩ = w.cell? ⟨B, j, none⟩ := by
 rw [World.cell?_setCell_other]
 intro e; cases e; exact h rfl
theorem set_blk {w : World} {B B' i j : Nat} {v : Value} (h : B' ≠ B) : (w.setCell ⟨B', i, none⟩ v).cell? ⟨B, j, none⟩ = w.cell? ⟨B, j, none⟩ := by
 rw [World.cell?_setCell_other]
 intro e; cases e; exact h rfl
/-- both lists have grown, and are put in their place -/
theorem Cm.put {c : Nat} {w w2 : World} {base B n : Nat} {cs : List (Py.G × Nat)} {vP vF vP' vF' : Value} {vals vals' : List Value} {z : Py.G} (h : Cm c w base B cs vP vF vals)
  (hc0 : w2.cell? ⟨B, 0, none⟩ = some vP) (hc1 : w2.cell? ⟨B, 1, none⟩ = some vF) (hc2 : w2.cell? ⟨B, 2, none⟩ = some (.slice none 0 0)) (hfz : ∀ i, w2.frozen? ⟨B, i, none⟩ = false) (hs : w.heap.size ≤ w2.heap.size)
  (oP : w2.ownsRow base 24 1 vP' (cs.length + 1) vals') (vl : Vl c vals' (cs.map Prod.fst ++ [z])) (oF : w2.ownsRow base 3 1 vF' (cs.length + 1) ((cs.map fun p => .int .i64 ((p.2 : Nat) : Int)) ++ [.int .i64 (n : Int)])) (dj : Dj vP' vF') (nP : vP'.ownBlock ≠ some B) (nF : vF'.ownBlock ≠ some B) :
  Cm c ((w2.setCell ⟨B, 0, none⟩ vP').setCell ⟨B, 1, none⟩ vF') base B (cs ++ [(z, n)]) vP' vF' vals' := by
 refine ⟨h.lo, ?_, ?_, ?_, ?_, fun i => ?_, ?_, ?_, ?_, dj, nP, nF⟩
 ·
  have := h.hi
  simp [World.setCell]; omega
 · rw [set_off (by decide)]; exact set_any hc0
 · exact set_any (by rw [set_off (by decide)]; exact hc1)
 · rw [set_off (by decide), set_off (by decide)]; exact hc2
 · simp only [World.frozen?_setCell]; exact hfz i
 ·
  rw [List.length_append]
  exact ownsRow_setCell_other (ownsRow_setCell_other oP nP _) nP _
 · rw [List.map_append]; exact vl
 ·
  rw [List.length_append, List.map_append]
  exact ownsRow_setCell_other (ownsRow_setCell_other oF nF _) nF _
theorem Cm.drew {c : Nat} {w : World} {base B : Nat} {cs : List (Py.G × Nat)} {vP vF : Value} {vals : List Value} (h : Cm c w base B cs vP vF vals) : Cm c w.drew base B cs vP vF vals :=
 ⟨h.lo, h.hi, h.c0, h.c1, h.c2, h.fz, h.oP, h.vl, h.oF, h.dj, h.nP, h.nF⟩
/-- a fold is put in the place of another -/
theorem Cm.set {c : Nat} {w : World} {base B k m g : Nat} {cs : List (Py.G × Nat)} {vP vF : Value} {vals : List Value} {z : Py.G} (h : Cm c w base B cs vP vF vals) (hk : k < cs.length) (hz : Py.co (cs.map Prod.fst) k = z) (hg : vF.ownBlock = some g) :
  Cm c (w.setCell ⟨g, k, none⟩ (.int .i64 (m : Int))) base B (cs.set k (z, m)) vP vF vals := by
 have hgB : g ≠ B := fun e => h.nF (by rw [hg, e])
 have hgP : vP.ownBlock ≠ some g := fun e => h.dj g e hg
 have e1 : (cs.set k (z, m)).map Prod.fst = cs.map Prod.fst := by
  refine Py.list_ext (by simp) (fun i hi => ?_)
  rw [List.map_set, Py.co_set _ _ _ _ (by simpa using hk)]
  by_cases e : i = k
  · rw [if_pos e, e, hz]
  · rw [if_neg e]
 refine ⟨h.lo, ?_, ?_, ?_, ?_, fun i => ?_, ?_, ?_, ?_, h.dj, h.nP, h.nF⟩
 ·
  have := h.hi
  simp [World.setCell]; omega
 · rw [set_blk hgB]; exact h.c0
 · rw [set_blk hgB]; exact h.c1
 · rw [set_blk hgB]; exact h.c2
 · rw [World.frozen?_setCell]; exact h.fz i
 · rw [List.length_set]; exact ownsRow_setCell_other h.oP hgP _
 · rw [e1]; exact h.vl
 · rw [List.length_set, List.map_set]; exact own_set h.oF hg _
/-- what lies at block B is as it was -/
structure Bk (W U : World) (base B : Nat) (vP vF : Value) : Prop where
 c0 : U.cell? ⟨B, 0, none⟩ = some vP
 c1 : U.cell? ⟨B, 1, none⟩ = some vF
 c2 : U.cell? ⟨B, 2, none⟩ = some (.slice none 0 0)
 fz : ∀ i, U.frozen? ⟨B, i, none⟩ = false
 sz : W.heap.size ≤ U.heap.size
 bs : base ≤ U.heap.size
 hB : B < U.heap.size
 bl : Below base W U
theorem Cm.bk {c : Nat} {w : World} {base B : Nat} {cs : List (Py.G × Nat)} {vP vF : Value} {vals : List Value} (h : Cm c w base B cs vP vF vals) : Bk w w base B vP vF :=
 ⟨h.c0, h.c1, h.c2, h.fz, Nat.le_refl _, by have := h.lo; have := h.hi; omega, h.hi, Below.refl _ _⟩
theorem Bk.alloc {W U : World} {base B : Nat} {vP vF : Value} (h : Bk W U base B vP vF) (o : Obj) : Bk W (U.alloc o) base B vP vF := by
 have b := bw_alloc U o
 refine ⟨(Below.cell b (p := ⟨B, 0, none⟩) h.hB).trans h.c0, (Below.cell b (p := ⟨B, 1, none⟩) h.hB).trans h.c1, (Below.cell b (p := ⟨B, 2, none⟩) h.hB).trans h.c2, fun i => (Below.frozen b (p := ⟨B, i, none⟩) h.hB).trans (h.fz i), ?_, ?_, ?_, Below.trans h.bl (Below.mono b h.bs)⟩
 · have := h.sz; simp; omega
 · have := h.bs; simp; omega
 · have := h.hB; simp; omega
theorem Bk.grow {W U U' : World} {base B : Nat} {vP vF : Value} {r : Option Nat} (h : Bk W U base B vP vF) (g : U.grownBy U' r) (hr : r ≠ some B) (hb : ∀ x, r = some x → base ≤ x) : Bk W U' base B vP vF := by
 have hne : some B ≠ r := fun e => hr e.symm
 refine ⟨g.cell h.c0 hne, g.cell h.c1 hne, g.cell h.c2 hne, fun i => ?_, Nat.le_trans h.sz g.size, Nat.le_trans h.bs g.size, Nat.lt_of_lt_of_le h.hB g.size, Below.grown h.bl g h.bs hb⟩
 have := h.fz i
 unfold World.frozen? at this ⊢
 rw [g.block B h.hB hne]
 exact this
/-- both lists have grown -/
theorem Cm.fin {c : Nat} {W U V : World} {base B n : Nat} {cs : List (Py.G × Nat)} {vP vF vP' vF' : Value} {vals vals' : List Value} {z : Py.G} (h : Cm c W base B cs vP vF vals) (kU : Bk W U base B vP vF) (g : U.grownBy V vF.ownBlock)
  (oP : U.ownsRow base 24 1 vP' (cs.length + 1) vals') (vl : Vl c vals' (cs.map Prod.fst ++ [z])) (oF : V.ownsRow base 3 1 vF' (cs.length + 1) ((cs.map fun p => .int .i64 ((p.2 : Nat) : Int)) ++ [.int .i64 (n : Int)]))
  (hP : vP'.ownBlock = vP.ownBlock ∨ ∃ s, vP'.ownBlock = some s ∧ W.heap.size ≤ s) (hF : vF'.ownBlock = vF.ownBlock ∨ vF'.ownBlock = some U.heap.size) :
  Cm c ((V.setCell ⟨B, 0, none⟩ vP').setCell ⟨B, 1, none⟩ vF') base B (cs ++ [(z, n)]) vP' vF' vals' ∧ Below base W ((V.setCell ⟨B, 0, none⟩ vP').setCell ⟨B, 1, none⟩ vF') := by
 have nP' : vP'.ownBlock ≠ some B := fun e => by
  rcases hP with q | ⟨s, q, hs⟩
  · exact h.nP (by rw [← q, e])
  · rw [q] at e; cases e; have := h.hi; omega
 have dPF : ∀ x, vP'.ownBlock = some x → vF.ownBlock ≠ some x := fun x e e2 => by
  rcases hP with q | ⟨s, q, hs⟩
  · exact h.dj x (by rw [← q, e]) e2
  · rw [q] at e; cases e; have := (h.oF.lt _ e2).2; omega
 have nF' : vF'.ownBlock ≠ some B := fun e => by
  rcases hF with q | q
  · exact h.nF (by rw [← q, e])
  · rw [q] at e; cases e; exact absurd kU.hB (by omega)
 have kV := kU.grow g h.nF (fun x e => (h.oF.lt x e).1)
 refine ⟨h.put kV.c0 kV.c1 kV.c2 kV.fz kV.sz (oP.kept g ?_) vl oF (fun x e e2 => ?_) nP' nF', ?_⟩
 ·
  cases q : vP'.ownBlock with
  | none => exact Or.inl rfl
  | some x => exact Or.inr (fun e => dPF x q e.symm)
 ·
  rcases hF with q | q
  · exact dPF x e (by rw [← q, e2])
  · rw [q] at e2; cases e2; have := (oP.lt _ e).2; omega
 · exact Below.setCell (Below.setCell kV.bl h.lo _) h.lo _
end Ff
end Go.Proofs.YtnjkdfhhlcoaaaaGreat

/-
 OWN TEXT: package flow over whole complex numbers: a common bottom takes one more place (the walk).
-/
namespace Go.Proofs.YtnjkdfhhlcoaaaaGreat
open Go.ChangeShapes Go.WideShapes Go.ChangeAt Go.RowKit
set_option linter.unusedVariables false
set_option linter.unusedSimpArgs false
attribute [local go_sem] frombits_call tobits_call run_neg run_store_cx
end Go.Proofs.YtnjkdfhhlcoaaaaGreat

