/-
 OWN TEXT: powers by squares, of small whole exponents: as functions of one row of bits a part.
-/
import Derived.Test.YtfgfofedacehiaaGreatJPoTToElC
import Derived.Test.YtfgfofedacehiaaGreatJXxAToXxH
import Derived.Laws.FloatArith
import Derived.Test.YtfgfofedacehiaaGreatJElH
import Derived.Test.YtfgfofedacehiaaGreatJRpAToEqA
import Derived.Test.YtfgfofedacehiaaGreatJFfTToFfU
namespace Go.Proofs.YtfgfofedacehiaaGreat
open Go.ChangeShapes Go.WideShapes Go.ChangeAt Go.RowKit
set_option linter.unusedVariables false
attribute [local go_sem] frombits_call tobits_call run_neg
namespace El
end El
set_option maxRecDepth 1000000
end Go.Proofs.YtfgfofedacehiaaGreat

/-
 OWN TEXT: package element: which elements may be; what the methods of the four kinds return, as functions of one row of bits a part.
-/
namespace Go.Proofs.YtfgfofedacehiaaGreat
open Go.ChangeShapes Go.WideShapes Go.ChangeAt Go.RowKit
set_option linter.unusedVariables false
attribute [local go_sem] frombits_call tobits_call run_neg El.run_store_cx El.run_store_fl
namespace El
/-- an element lies at a block -/
structure St (w : World) (B : Nat) (k : Int) (a b s t p : Nat) : Prop where
 lt : B < w.heap.size
 c0 : w.cell? ⟨B, 0, none⟩ = some (.int .u8 k)
 c1 : w.cell? ⟨B, 1, none⟩ = some (.complex .f64 a b)
 c2 : w.cell? ⟨B, 2, none⟩ = some (.complex .f64 s t)
 c3 : w.cell? ⟨B, 3, none⟩ = some (.float .f64 p)
theorem St.bw {w w' : World} {B : Nat} {k : Int} {a b s t p : Nat} (h : St w B k a b s t p) (g : Bw w w') : St w' B k a b s t p :=
 ⟨Nat.lt_of_lt_of_le h.lt g.size, (Below.cell g (p := ⟨B, 0, none⟩) h.lt).trans h.c0, (Below.cell g (p := ⟨B, 1, none⟩) h.lt).trans h.c1, (Below.cell g (p := ⟨B, 2, none⟩) h.lt).trans h.c2, (Below.cell g (p := ⟨B, 3, none⟩) h.lt).trans h.c3⟩
theorem St.new (w : World) (k : Int) (a b s t p : Nat) (T : TypeId) : St (w.alloc (.cells #[.int .u8 k, .complex .f64 a b, .complex .f64 s t, .float .f64 p] T)) w.heap.size k a b s t p :=
 ⟨by simp, by simp, by simp, by simp, by simp⟩
/-- 1 / (2 * H) -/
def H1 : Nat := 4594902181429758083
end El
end Go.Proofs.YtfgfofedacehiaaGreat

/-
 OWN TEXT: package element: what the methods of doublets and corners return, as functions of one row of bits a part.
-/
namespace Go.Proofs.YtfgfofedacehiaaGreat
open Go.ChangeShapes Go.WideShapes Go.ChangeAt Go.RowKit
set_option linter.unusedVariables false
attribute [local go_sem] frombits_call tobits_call run_neg El.run_store_cx El.run_store_fl
end Go.Proofs.YtfgfofedacehiaaGreat

/-
 OWN TEXT: package element: what may be, by its kind.
-/
namespace Go.Proofs.YtfgfofedacehiaaGreat
open Go.ChangeShapes Go.WideShapes Go.ChangeAt Go.RowKit
set_option linter.unusedVariables false
attribute [local go_sem] frombits_call tobits_call run_neg El.run_store_cx El.run_store_fl
end Go.Proofs.YtfgfofedacehiaaGreat

/-
 OWN TEXT: package element: potentials, speeds, slopes of elements that may be; one that lies elsewhere.
-/
namespace Go.Proofs.YtfgfofedacehiaaGreat
open Go.ChangeShapes Go.WideShapes Go.ChangeAt Go.RowKit
set_option linter.unusedVariables false
attribute [local go_sem] frombits_call tobits_call run_neg El.run_store_cx El.run_store_fl
namespace El
/-- an element of the call's own lies at a block -/
structure Sw (w : World) (B : Nat) (k : Int) (a b s t p : Nat) : Prop where
 st : St w B k a b s t p
 fz : ∀ i, w.frozen? ⟨B, i, none⟩ = false
theorem Sw.bw {w w' : World} {B : Nat} {k : Int} {a b s t p : Nat} (h : Sw w B k a b s t p) (g : Bw w w') : Sw w' B k a b s t p :=
 ⟨h.st.bw g, fun i => (Below.frozen g (p := ⟨B, i, none⟩) h.st.lt).trans (h.fz i)⟩
theorem Sw.new (w : World) (k : Int) (a b s t p : Nat) (T : TypeId) : Sw (w.alloc (.cells #[.int .u8 k, .complex .f64 a b, .complex .f64 s t, .float .f64 p] T)) w.heap.size k a b s t p :=
 ⟨St.new w k a b s t p T, fun i => World.frozen?_alloc_at _ _ _ _ rfl⟩
theorem set_cell {w : World} {B i : Nat} {v : Value} (h : ∃ u, w.cell? ⟨B, i, none⟩ = some u) : (w.setCell ⟨B, i, none⟩ v).cell? ⟨B, i, none⟩ = some v := by
 obtain ⟨u, h⟩ := h
 exact World.cell?_setCell_same' _ _ _ (by rw [h]; rfl)
theorem set_off {w : World} {B i j : Nat} {v : Value} (h : i ≠ j) : (w.setCell ⟨B, i, none⟩ v).cell? ⟨B, j, none⟩ = w.cell? ⟨B, j, none⟩ := by
 simp only [World.cell?, World.setCell, Array.getElem?_modify]
 cases hh : w.heap[B]? with
 | none => simp
 | some o => cases o <;> simp [Array.getElem?_setIfInBounds_ne h]
theorem Sw.set {w : World} {B : Nat} {k : Int} {a b s t p : Nat} (h : Sw w B k a b s t p) (k' : Int) (a' b' s' t' p' : Nat) :
  Sw ((((w.setCell ⟨B, 0, none⟩ (.int .u8 k')).setCell ⟨B, 1, none⟩ (.complex .f64 a' b')).setCell ⟨B, 2, none⟩ (.complex .f64 s' t')).setCell ⟨B, 3, none⟩ (.float .f64 p')) B k' a' b' s' t' p' := by
 obtain ⟨⟨h0, h1, h2, h3, h4⟩, h5⟩ := h
 refine ⟨⟨by simpa [World.setCell] using h0, ?_, ?_, ?_, ?_⟩, fun i => by simp only [World.frozen?_setCell]; exact h5 i⟩
 · rw [set_off (by decide), set_off (by decide), set_off (by decide)]; exact set_cell ⟨_, h1⟩
 · rw [set_off (by decide), set_off (by decide)]; exact set_cell ⟨_, by rw [set_off (by decide)]; exact h2⟩
 · rw [set_off (by decide)]; exact set_cell ⟨_, by rw [set_off (by decide), set_off (by decide)]; exact h3⟩
 · exact set_cell ⟨_, by rw [set_off (by decide), set_off (by decide), set_off (by decide)]; exact h4⟩
end El
theorem El.set_blk {w : World} {B B' i : Nat} {v : Value} (h : B' ≠ B) (j : Nat) : (w.setCell ⟨B', i, none⟩ v).cell? ⟨B, j, none⟩ = w.cell? ⟨B, j, none⟩ := by
 simp only [World.cell?, World.setCell, Array.getElem?_modify, if_neg h]
theorem El.Sw.off {w : World} {B B' i : Nat} {v : Value} {k : Int} {a b s t p : Nat} (h : El.Sw w B k a b s t p) (hb : B' ≠ B) : El.Sw (w.setCell ⟨B', i, none⟩ v) B k a b s t p := by
 obtain ⟨⟨h0, h1, h2, h3, h4⟩, h5⟩ := h
 exact ⟨⟨by simpa [World.setCell] using h0, (El.set_blk hb _).trans h1, (El.set_blk hb _).trans h2, (El.set_blk hb _).trans h3, (El.set_blk hb _).trans h4⟩, fun i => by rw [World.frozen?_setCell]; exact h5 i⟩
end Go.Proofs.YtfgfofedacehiaaGreat

/-
 OWN TEXT: whole powers as floats; what one row of bits a part comes to at whole numbers.
-/
namespace Go.Proofs.YtfgfofedacehiaaGreat
open Go.ChangeShapes Go.WideShapes Go.ChangeAt Go.RowKit
set_option linter.unusedVariables false
set_option exponentiation.threshold 3000
namespace El
/-- corners' whole powers -/
def sb (k : Nat) (c : Nat) : Nat := (floatBits .sub .f64 (floatOfInt .f64 (k : Int)) c).getD 0
-- whole numbers
def zW (a : Z) (g : Py.G) : Prop := wC 1074 a.1 a.2 g
theorem op_some {o : BinOp} {a b r : Nat} (e : floatBits o .f64 a b = some r) (nr : Fl.nan r = false) : Sv.op o a b = r := by unfold Sv.op; rw [e]; exact Sv.c_num nr
theorem op_mul {a b : Nat} {m n : Int} (ha : wI 1074 a m) (hb : wI 1074 b n) (hs : (m * n).natAbs ≤ 9007199254740992) : wI 1074 (Sv.op .mul a b) (m * n) := by
 have e : floatBits .mul .f64 a b = some _ := Fl.mul_fin ha.2.1 hb.2.1
 have h := wI.mul rfl ha hb hs (run_some e).1
 rw [op_some e h.nan]
 exact h
theorem op_add {a b : Nat} {m n : Int} (ha : wI 1074 a m) (hb : wI 1074 b n) (hs : (m + n).natAbs ≤ 9007199254740992) : wI 1074 (Sv.op .add a b) (m + n) := by
 have e : floatBits .add .f64 a b = some _ := Fl.add_fin ha.2.1 hb.2.1
 have h := wI.add rfl ha hb hs (run_some e).1
 rw [op_some e h.nan]
 exact h
theorem op_sub {a b : Nat} {m n : Int} (ha : wI 1074 a m) (hb : wI 1074 b n) (hs : (m - n).natAbs ≤ 9007199254740992) : wI 1074 (Sv.op .sub a b) (m - n) := by
 have e : floatBits .sub .f64 a b = some _ := Fl.sub_fin hb.1 ha.2.1 hb.2.1
 have h := wI.sub rfl ha hb hs (run_some e).1
 rw [op_some e h.nan]
 exact h
theorem zW.mul {a b : Z} {g h : Py.G} {M K : Nat} (ha : zW a g) (hb : zW b h) (lg : Py.Le g M) (lh : Py.Le h K) (hs : M * K ≤ 9007199254740992) : zW (zmul a b) (Py.gm g h) := by
 obtain ⟨b1, b2, b3, b4⟩ := lg.prods lh
 obtain ⟨k1, k2⟩ := (lg.mul lh).one
 exact ⟨op_sub (op_mul ha.1 hb.1 (Nat.le_trans b1 hs)) (op_mul ha.2 hb.2 (Nat.le_trans b2 hs)) (Nat.le_trans k1 hs), op_add (op_mul ha.1 hb.2 (Nat.le_trans b3 hs)) (op_mul ha.2 hb.1 (Nat.le_trans b4 hs)) (Nat.le_trans k2 hs)⟩
theorem zW.one {a : Z} {g : Py.G} {M : Nat} (ha : zW a g) (lg : Py.Le g M) (hs : M ≤ 9007199254740992) : zW (zscale a 4607182418800017408) g := by
 obtain ⟨k1, k2⟩ := lg.one
 have h1 := op_mul ha.1 (w_unit rfl) (by rw [Int.mul_one]; exact Nat.le_trans k1 hs)
 have h2 := op_mul ha.2 (w_unit rfl) (by rw [Int.mul_one]; exact Nat.le_trans k2 hs)
 rw [Int.mul_one] at h1 h2
 exact ⟨h1, h2⟩
theorem c2_num {x y : Nat} (nx : Fl.nan x = false) (ny : Fl.nan y = false) : c2 x y = (x, y) := by unfold c2; rw [Sv.c_num nx, Sv.c_num ny]
theorem zW.fin {a : Z} {g : Py.G} (h : zW a g) : El.fin a = true := by
 unfold El.fin
 rw [h.1.fin, h.2.fin]
 rfl
/-- words of one row that are whole numbers -/
theorem zW.of {u v : Nat} {a : Z} {g : Py.G} (h : zW a g) (e : c2 u v = a) : wC 1074 u v g := by
 have e1 : Fl.bitsF u = a.1 := congrArg Prod.fst e
 have e2 : Fl.bitsF v = a.2 := congrArg Prod.snd e
 have n1 : Fl.nan u = false := by rw [← Sv.nan_c, e1]; exact h.1.nan
 have n2 : Fl.nan v = false := by rw [← Sv.nan_c, e2]; exact h.2.nan
 rw [Sv.c_num n1] at e1
 rw [Sv.c_num n2] at e2
 subst e1 e2
 exact h
end El
end Go.Proofs.YtfgfofedacehiaaGreat

/-
 OWN TEXT: a quotient of whole complex numbers: how far it is from the true one.
-/
set_option linter.unusedVariables false
set_option exponentiation.threshold 3000
namespace Go.Proofs.YtfgfofedacehiaaGreat.Sv
theorem rv_whole {x : Nat} {n : Int} (h : wI 1074 x n) : rv x = (n : Rat) := by
 unfold rv
 rw [h.2.2, Rat.intCast_mul, Rat.intCast_natCast]
 have := en_unit
 generalize ((2 ^ 1074 : Nat) : Rat) = W at *
 rw [Rat.mul_assoc, this, Rat.mul_one]
theorem fi_whole {x : Nat} {n : Int} (h : wI 1074 x n) : Fi x := ⟨h.1, h.2.1⟩
theorem leF_rg {x y : Nat} (hx : Fi x) (hy : Fi y) : Fl.leF (Fl.rg x) (Fl.rg y) = decide (Fl.rg x ≤ Fl.rg y) := by
 have k : ∀ z, Fl.rg z < 9218868437227405312 → Fl.nan (Fl.rg z) = false ∧ Fl.key (Fl.rg z) = (Fl.rg z : Int) := fun z hz => by
  have e : Fl.rg (Fl.rg z) = Fl.rg z := by unfold Fl.rg; omega
  have s : Fl.sg (Fl.rg z) = false := by
   unfold Fl.sg
   refine decide_eq_false ?_
   have : Fl.rg z < 9223372036854775808 := by omega
   omega
  refine ⟨by unfold Fl.nan; rw [e]; exact decide_eq_false (by omega), ?_⟩
  unfold Fl.key
  rw [s, e]
  rfl
 obtain ⟨n1, k1⟩ := k x hx.2
 obtain ⟨n2, k2⟩ := k y hy.2
 unfold Fl.leF
 rw [n1, n2, k1, k2]
 simp only [Bool.not_false, Bool.true_and]
 exact decide_eq_decide.2 (by omega)
theorem ab_mono {x y : Nat} (h : Fl.rg x ≤ Fl.rg y) : ab (rv x) ≤ ab (rv y) := by
 rw [rv_abs, rv_abs]
 exact Rat.mul_le_mul_of_nonneg_right (Rat.natCast_le_natCast.2 (Fl.vl_le h)) (Rat.le_of_lt en_pos)
theorem ab_sq (x : Rat) : ab x * ab x = x * x := by unfold ab; split <;> grind
theorem sq_nn (x : Rat) : 0 ≤ x * x := by rw [← ab_sq]; exact Rat.mul_nonneg (ab_nn x) (ab_nn x)
theorem ab_int (n : Int) (h : n ≠ 0) : 1 ≤ ab (n : Rat) := by
 unfold ab
 split
 ·
  rename_i q
  have : (0 : Int) ≤ n := Rat.intCast_le_intCast.1 (by simpa using q)
  have h2 : ((1 : Int) : Rat) ≤ (n : Rat) := Rat.intCast_le_intCast.2 (by omega)
  simpa using h2
 ·
  rename_i q
  have : ¬ (0 : Int) ≤ n := fun k => q (by have := Rat.intCast_le_intCast.2 k; simpa using this)
  have h2 : ((1 : Int) : Rat) ≤ ((-n : Int) : Rat) := Rat.intCast_le_intCast.2 (by omega)
  rw [Rat.intCast_neg] at h2
  simpa using h2
end Go.Proofs.YtfgfofedacehiaaGreat.Sv

