/-
 OWN TEXT: rows that grow, and rows of rows; what is laid beside them.
-/
import Derived.Test.YtjfkdmddfeeheaaJSvBToSvF
import Derived.Deep.Slices
import Derived.Laws.AppendOwnNone
import Derived.Maps.AppendAt
import Derived.Test.YtjfkdmddfeeheaaJSwS
import Derived.Test.YtjfkdmddfeeheaaJSwOToSwI
import Derived.Test.YtjfkdmddfeeheaaJSvKToSvL
namespace Go.Proofs.Ytjfkdmddfeeheaa
open Go.ChangeShapes Go.WideShapes Go.ChangeAt Go.RowKit
set_option linter.unusedVariables false
attribute [local go_sem] frombits_call tobits_call run_neg
theorem wpList_append_eq2 {P : Program} {ops : Array Oper} {rest : List Oper} {o : Oper} {a : Act} {w : World} {Q : Exit → Act → World → Prop} (hgd : o.guard = none) (s x : Operand) (t : TypeId)
  (ho : o.op = Op.call { callee := Callee.builtin Builtin.append, args := #[s, x], argTypes := #[t, t] }) (v1 v2 v' : Value) (hs : a.eval s = v1) (hx : a.eval x = v2) (w' : World)
  (hrun : (Builtin.append_ #[t, t] o.type #[v1, v2]).run P w = .ok v' w') (h : wpList P ops Q rest (a.put o.dst v') w') : wpList P ops Q (o :: rest) a w := by
 refine wpList_plain hgd fun K hK => ?_
 unfold Oper.wp
 simp [execOp, ho, resolve, invoke, builtin, hs, hx, hrun, Result.andThen]
 exact hK _ _ h
namespace Sv
/-- the slice v owns n floats -/
def Rg (w : World) (base : Nat) (v : Value) (n : Nat) (F : Nat → Nat) : Prop := ∃ X : Nat → Nat, w.ownsRow base 25 1 v n (fv X n) ∧ ∀ j, j < n → X j < 18446744073709551616 ∧ Fl.bitsF (X j) = F j
theorem Rg.nil (w : World) (base : Nat) (F : Nat → Nat) : Rg w base (.slice none 0 0) 0 F := ⟨fun _ => 0, World.ownsRow_nil _ _ _ _, fun j hj => absurd hj (by omega)⟩
theorem Rg.gb {w w' : World} {base n : Nat} {v : Value} {F : Nat → Nat} {r : Option Nat} (h : Rg w base v n F) (k : w.grownBy w' r) (hr : v.ownBlock = none ∨ v.ownBlock ≠ r) : Rg w' base v n F := by
 obtain ⟨X, h, q⟩ := h
 exact ⟨X, h.kept k hr, q⟩
theorem Rg.bw {w w' : World} {base n : Nat} {v : Value} {F : Nat → Nat} (h : Rg w base v n F) (k : Bw w w') : Rg w' base v n F := h.gb (gb_bw k none) (by cases v.ownBlock <;> simp)
theorem Rg.lt {w : World} {base n : Nat} {v : Value} {F : Nat → Nat} (h : Rg w base v n F) : ∀ x, v.ownBlock = some x → base ≤ x ∧ x < w.heap.size := by
 obtain ⟨X, ho, _⟩ := h
 exact ho.lt
theorem Rg.form {w : World} {base n : Nat} {v : Value} {F : Nat → Nat} (h : Rg w base v n F) (hn : 0 < n) : ∃ B c, v = .slice (some ⟨B, 0, none⟩) n c ∧ base ≤ B ∧ B < w.heap.size ∧ n ≤ c ∧ Rd w B 0 n F := by
 have hh := h
 obtain ⟨X, ho, hX⟩ := h
 obtain ⟨B, c, e, h1, h2⟩ := ho.form hn
 subst e
 have hc : n ≤ c := by
  rcases ho.2 with ⟨q, _⟩ | ⟨g', cap', cur, q, _, _, l, _⟩
  · simp at q
  ·
   simp only [Value.slice.injEq, true_and] at q
   omega
 exact ⟨B, c, rfl, h1, h2, hc, h2, fun j hj => ⟨X j, by rw [Nat.zero_add]; exact (ho.cellAt j (by omega)).trans (fv_get _ _ _ hj), hX j hj⟩⟩
theorem Rg.ls {w : World} {base n : Nat} {v : Value} {F : Nat → Nat} (h : Rg w base v n F) : Ls w v n F := by
 by_cases hn : 0 < n
 ·
  obtain ⟨B, c, e, _, _, hc, hr⟩ := h.form hn
  exact Or.inr ⟨B, 0, c, e, hc, hr⟩
 ·
  obtain rfl : n = 0 := by omega
  obtain ⟨X, ho, _⟩ := h
  rcases ho.2 with ⟨e, _⟩ | ⟨g, cap, cur, e, hb, hc, hl, _⟩
  · exact Or.inl ⟨by rw [e]; exact emp.nil, rfl⟩
  · exact Or.inl ⟨⟨_, _, e, fun q => by cases q⟩, rfl⟩
theorem Rg.ext {w : World} {base n : Nat} {v : Value} {F G : Nat → Nat} (h : Rg w base v n F) (e : ∀ j, j < n → F j = G j) : Rg w base v n G := by
 obtain ⟨X, h, q⟩ := h
 exact ⟨X, h, fun j hj => ⟨(q j hj).1, (q j hj).2.trans (e j hj)⟩⟩
theorem Lm.ext2 {w : World} {v : Value} {n : Nat} {l l' : Nat → Nat} {A A' : M} (h : Lm w v n l A) (hl : ∀ i, i < n → l i = l' i) (e : ∀ i j, i < n → j < l i → A i j = A' i j) : Lm w v n l' A' := by
 rcases h with h | ⟨b, o, c, e1, hc, hb, h⟩
 · exact Or.inl h
 ·
  refine Or.inr ⟨b, o, c, e1, hc, hb, fun i hi => ?_⟩
  obtain ⟨r, q, z⟩ := h i hi
  rw [← hl i hi]
  exact ⟨r, q, z.ext (fun j hj => e i j hi hj)⟩
theorem alloc_one (w : World) (u : Value) (t : TypeId) : ∀ j v, [u][j]? = some v → (w.alloc (.cells #[u] t)).cell? ((⟨w.heap.size, 0, none⟩ : Addr).add j) = some v := by
 intro j v h
 have hj : j = 0 := by
  rcases Nat.eq_zero_or_pos j with q | q
  · exact q
  · rw [List.getElem?_eq_none (by simp; omega)] at h; cases h
 subst hj
 simp only [List.getElem?_cons_zero, Option.some.injEq] at h
 subst h
 simp [Addr.add]
theorem size_one (w : World) (o : Obj) : (w.alloc o).heap.size = w.heap.size + 1 := by simp
/-- append(d, x) onto a list of the call's own -/
theorem pushF {w : World} {base n : Nat} {vD : Value} {F : Nat → Nat} (ty : TypeId) (hD : Rg w base vD n F) (x : Nat) (hx : x < 18446744073709551616) (hn : n ≤ 1000) (hb : base ≤ w.heap.size) :
  ∃ v' w', (Builtin.append_ #[24, 24] ty #[vD, .slice (some ⟨w.heap.size, 0, none⟩) 1 1]).run Try.prog (w.alloc (.cells #[.float .f64 x] 25)) = .ok v' w' ∧ Rg w' base v' (n + 1) (fun j => if j = n then Fl.bitsF x else F j) ∧
   (w.alloc (.cells #[.float .f64 x] 25)).grownBy w' vD.ownBlock ∧ (v'.ownBlock = vD.ownBlock ∨ v'.ownBlock = some (w.heap.size + 1)) := by
 obtain ⟨i0, hi0, hz⟩ := Option.map_eq_some_iff.1 info_f
 simp only [Prod.mk.injEq] at hz
 have hD1 := hD.bw (bw_new w (.cells #[.float .f64 x] 25))
 obtain ⟨X, ho, hX⟩ := hD1
 obtain ⟨v', w', h1, h2, h3, _, h5⟩ := run_append_own_at (P := Try.prog) (w.alloc (.cells #[.float .f64 x] 25)) base 24 ty 25 i0 (.float .f64 0) 1 8 und_f hi0 hz.1 hz.2.1 hz.2.2 rfl (by decide) vD n (fv X n) ho ⟨w.heap.size, 0, none⟩ 1 1 [.float .f64 x] rfl
  (alloc_one w _ _) (fun u hu => by simp only [List.mem_singleton] at hu; subst hu; rfl) (by unfold maxLen; omega) (by omega) (by rw [size_one]; omega)
 rw [size_one] at h5
 refine ⟨v', w', h1, ⟨fun j => if j = n then x else X j, ?_, fun j hj => ?_⟩, h3, h5⟩
 ·
  rw [fv_succ, fv_ext (fun j => if j = n then x else X j) X n (fun j hj => by rw [if_neg (by omega)])]
  simp only [if_true]
  exact h2
 ·
  by_cases e : j = n
  · simp only [e, if_true]; exact ⟨hx, trivial⟩
  · simp only [if_neg e]; exact hX j (by omega)
/-- append(d, s...) onto none -/
theorem pushAll {w : World} {base m : Nat} {B o c : Nat} {G : Nat → Nat} (ty : TypeId) (hm : 0 < m) (hm2 : m ≤ 1000) (hS : Rd w B o m G) (hb : base ≤ w.heap.size) :
  ∃ v' w', (Builtin.append_ #[24, 24] ty #[.slice none 0 0, .slice (some ⟨B, o, none⟩) m c]).run Try.prog w = .ok v' w' ∧ Rg w' base v' m G ∧ Bw w w' ∧ v'.ownBlock = some w.heap.size := by
 obtain ⟨i0, hi0, hz⟩ := Option.map_eq_some_iff.1 info_f
 simp only [Prod.mk.injEq] at hz
 obtain ⟨Y, hY⟩ := Go.Deep.choose_lt (α := Nat) hS.2
 obtain ⟨v', w', h1, h2, h3, h4, h5⟩ := run_append_own_at (P := Try.prog) w base 24 ty 25 i0 (.float .f64 0) 1 8 und_f hi0 hz.1 hz.2.1 hz.2.2 rfl (by decide) (.slice none 0 0) 0 [] (World.ownsRow_nil _ _ _ _) ⟨B, o, none⟩ m c (fv Y m) (by rw [fv_len, Nat.mul_one])
  (fun j u hu => by
   have hj : j < m := by
    rcases Nat.lt_or_ge j m with q | q
    · exact q
    · rw [List.getElem?_eq_none (by rw [fv_len]; exact q)] at hu; cases hu
   rw [fv_get _ _ _ hj] at hu
   cases hu
   rw [add_plain]
   exact (hY j hj).1) (fv_one Y m) (by unfold maxLen; omega) (by omega) hb
 rw [List.nil_append, Nat.zero_add] at h2
 refine ⟨v', w', h1, ⟨Y, h2, fun j hj => ⟨(hY j hj).2.1, (hY j hj).2.2⟩⟩, ⟨h3.os, h3.tape, h3.output, h3.size, fun k hk => h3.block k hk (by simp [Value.ownBlock])⟩, ?_⟩
 rcases h5 with q | q
 ·
  exfalso
  obtain ⟨B', c', e, _⟩ := h2.form hm
  rw [e] at q
  simp [Value.ownBlock] at q
 · exact q
/-- the slice v owns k rows of m floats each -/
structure Mr (w : World) (base : Nat) (v : Value) (k m : Nat) (f c : Nat → Nat) (A : M) : Prop where
 own : w.ownsRow base 24 1 v k ((List.range k).map fun i => .slice (some ⟨f i, 0, none⟩) m (c i))
 row : ∀ i, i < k → m ≤ c i ∧ Rd w (f i) 0 m (A i)
 far : ∀ i, i < k → some (f i) ≠ v.ownBlock
theorem Mr.nil (w : World) (base m : Nat) (f c : Nat → Nat) (A : M) : Mr w base (.slice none 0 0) 0 m f c A :=
 ⟨World.ownsRow_nil _ _ _ _, fun i hi => absurd hi (by omega), fun i hi => absurd hi (by omega)⟩
theorem Mr.gb {w w' : World} {base k m : Nat} {v : Value} {f c : Nat → Nat} {A : M} {r : Option Nat} (h : Mr w base v k m f c A) (g : w.grownBy w' r) (hv : v.ownBlock = none ∨ v.ownBlock ≠ r) (hf : ∀ i, i < k → some (f i) ≠ r) : Mr w' base v k m f c A :=
 ⟨h.own.kept g hv, fun i hi => ⟨(h.row i hi).1, (h.row i hi).2.gb g (hf i hi)⟩, h.far⟩
theorem Mr.bw {w w' : World} {base k m : Nat} {v : Value} {f c : Nat → Nat} {A : M} (h : Mr w base v k m f c A) (g : Bw w w') : Mr w' base v k m f c A :=
 h.gb (gb_bw g none) (by cases v.ownBlock <;> simp) (fun i _ => by simp)
theorem Mr.lt {w : World} {base k m : Nat} {v : Value} {f c : Nat → Nat} {A : M} (h : Mr w base v k m f c A) : (∀ x, v.ownBlock = some x → base ≤ x ∧ x < w.heap.size) ∧ ∀ i, i < k → f i < w.heap.size := ⟨h.own.lt, fun i hi => (h.row i hi).2.1⟩
/-- one more row -/
theorem pushR {w : World} {base k m : Nat} {vD : Value} {f c : Nat → Nat} {A : M} (ty : TypeId) (hD : Mr w base vD k m f c A) {g cg : Nat} {F : Nat → Nat} (hr : Rd w g 0 m F) (hc : m ≤ cg) (hg : some g ≠ vD.ownBlock) (hk : k ≤ 1000) (hb : base ≤ w.heap.size) :
  ∃ v' w', (Builtin.append_ #[23, 23] ty #[vD, .slice (some ⟨w.heap.size, 0, none⟩) 1 1]).run Try.prog (w.alloc (.cells #[.slice (some ⟨g, 0, none⟩) m cg] 24)) = .ok v' w' ∧
   Mr w' base v' (k + 1) m (fun i => if i = k then g else f i) (fun i => if i = k then cg else c i) (fun i => if i = k then F else A i) ∧
   (w.alloc (.cells #[.slice (some ⟨g, 0, none⟩) m cg] 24)).grownBy w' vD.ownBlock ∧ (v'.ownBlock = vD.ownBlock ∨ v'.ownBlock = some (w.heap.size + 1)) := by
 obtain ⟨i0, hi0, hz⟩ := Option.map_eq_some_iff.1 info_r
 simp only [Prod.mk.injEq] at hz
 have bw1 := bw_new w (.cells #[.slice (some ⟨g, 0, none⟩) m cg] 24)
 have hD1 := hD.bw bw1
 obtain ⟨v', w', h1, h2, h3, _, h5⟩ := run_append_own_at (P := Try.prog) (w.alloc (.cells #[.slice (some ⟨g, 0, none⟩) m cg] 24)) base 23 ty 24 i0 (.slice none 0 0) 1 24 und_r hi0 hz.1 hz.2.1 hz.2.2 rfl (by decide) vD k _ hD1.own ⟨w.heap.size, 0, none⟩ 1 1 [.slice (some ⟨g, 0, none⟩) m cg] rfl
  (alloc_one w _ _) (fun u hu => by simp only [List.mem_singleton] at hu; subst hu; rfl) (by unfold maxLen; omega) (by omega) (by rw [size_one]; omega)
 rw [size_one] at h5
 have key : ∀ x, x < w.heap.size → some x ≠ vD.ownBlock → some x ≠ v'.ownBlock := fun x hx hne e => by
  rcases h5 with q | q
  · rw [q] at e; exact hne e
  · rw [q] at e; cases e; omega
 refine ⟨v', w', h1, ⟨?_, fun i hi => ?_, fun i hi => ?_⟩, h3, h5⟩
 ·
  rw [List.range_succ, List.map_append]
  have e1 : ((List.range k).map fun i => Value.slice (some ⟨if i = k then g else f i, 0, none⟩) m (if i = k then cg else c i)) = (List.range k).map fun i => Value.slice (some ⟨f i, 0, none⟩) m (c i) :=
   List.map_congr_left fun i hi => by rw [if_neg (by have := List.mem_range.1 hi; omega), if_neg (by have := List.mem_range.1 hi; omega)]
  rw [e1]
  simp only [List.map_cons, List.map_nil, if_true]
  exact h2
 ·
  by_cases e : i = k
  · simp only [e, if_true]; exact ⟨hc, (hr.bw bw1).gb h3 hg⟩
  ·
   simp only [if_neg e]
   have := hD1.row i (by omega)
   exact ⟨this.1, this.2.gb h3 (hD.far i (by omega))⟩
 ·
  by_cases e : i = k
  · simp only [e, if_true]; exact key g hr.1 hg
  · simp only [if_neg e]; exact key _ (hD.row i (by omega)).2.1 (hD.far i (by omega))
theorem Mr.lm {w : World} {base k m : Nat} {v : Value} {f c : Nat → Nat} {A : M} (h : Mr w base v k m f c A) (hk : 0 < k) : ∃ b cap, v = .slice (some ⟨b, 0, none⟩) k cap ∧ Lm w (.slice (some ⟨b, 0, none⟩) k cap) k (fun _ => m) A := by
 obtain ⟨b, cap, e, hb, hlt⟩ := h.own.form hk
 subst e
 have hc : k ≤ cap := by
  rcases h.own.2 with ⟨q, _⟩ | ⟨g', cap', cur, q, _, _, l, _⟩
  · simp at q
  ·
   simp only [Value.slice.injEq, true_and] at q
   omega
 refine ⟨b, cap, rfl, Or.inr ⟨b, 0, cap, rfl, hc, hlt, fun i hi => ⟨.slice (some ⟨f i, 0, none⟩) m (c i), ?_, Or.inr ⟨f i, 0, c i, rfl, (h.row i hi).1, (h.row i hi).2⟩⟩⟩⟩
 rw [Nat.zero_add, h.own.cellAt i (by omega)]
 simp [hi]
end Sv
end Go.Proofs.Ytjfkdmddfeeheaa
/-
 OWN TEXT: eddylaw14's small.
-/
namespace Go.Proofs.Ytjfkdmddfeeheaa
open Go.ChangeShapes Go.WideShapes Go.ChangeAt Go.RowKit
set_option linter.unusedVariables false
attribute [local go_sem] frombits_call tobits_call run_neg

namespace Sv
theorem wr {x : Int} (h : x.natAbs ≤ 1000000) : wrap64 x = x := by unfold wrap64; omega
/-- a slice of n ints -/
def Li2 (w : World) (v : Value) (n : Nat) : Prop := ∃ p c, v = .slice p n c ∧ (n = 0 ∨ ∃ b o, p = some ⟨b, o, none⟩ ∧ b < w.heap.size ∧ ∀ j, j < n → ∃ x : Int, w.cell? ⟨b, o + j, none⟩ = some (.int .i64 x))
theorem Li2.bw {w w' : World} {v : Value} {n : Nat} (h : Li2 w v n) (k : Bw w w') : Li2 w' v n := by
 obtain ⟨p, c, e, h⟩ := h
 refine ⟨p, c, e, ?_⟩
 rcases h with h | ⟨b, o, e2, hb, h⟩
 · exact Or.inl h
 ·
  refine Or.inr ⟨b, o, e2, by have := k.size; omega, fun j hj => ?_⟩
  obtain ⟨x, q⟩ := h j hj
  exact ⟨x, (Below.cell k (p := ⟨b, o + j, none⟩) hb).trans q⟩
theorem Li2.at {w : World} {p : Option Addr} {n c : Nat} (h : Li2 w (.slice p n c) n) {j : Nat} (hj : j < n) : ∃ b o x, p = some ⟨b, o, none⟩ ∧ w.cell? ⟨b, o + j, none⟩ = some (.int .i64 x) := by
 obtain ⟨p', c', e, h⟩ := h
 cases e
 rcases h with h | ⟨b, o, e2, hb, h⟩
 · omega
 ·
  obtain ⟨x, q⟩ := h j hj
  exact ⟨b, o, x, e2, q⟩
/-- what small answers: k rows of k numbers, and k numbers beside them -/
def Sl (w : World) (e : Ending) (w' : World) : Prop := ∃ (k : Nat) (Z : Nat → Nat → Int) (ab ca bb cb : Nat), e = .returned (.tuple #[.slice (some ⟨ab, 0, none⟩) k ca, .slice (some ⟨bb, 0, none⟩) k cb]) ∧ 1 ≤ k ∧ k ≤ 3 ∧ (∀ i, i < k → ∀ j, j ≤ k → s8 (Z i j)) ∧
 Lm w' (.slice (some ⟨ab, 0, none⟩) k ca) k (fun _ => k) (fun i j => iw (Z i j)) ∧ Ls w' (.slice (some ⟨bb, 0, none⟩) k cb) k (fun i => iw (Z i k)) ∧ Bw w w'
theorem many (n : Int) : ∃ k : Nat, 1 ≤ k ∧ k ≤ 3 ∧ wrap64 ((wrap64 (n.tmod 3 + 3)).tmod 3 + 1) = (k : Int) := by
 have h1 := Int.tmod_lt_of_pos n (show (0 : Int) < 3 by decide)
 have h2 : -3 < n.tmod 3 := Int.lt_tmod_of_pos n (by decide)
 have h3 := Int.tmod_lt_of_pos (n.tmod 3 + 3) (show (0 : Int) < 3 by decide)
 have h4 := Int.tmod_nonneg 3 (show 0 ≤ n.tmod 3 + 3 by omega)
 rw [wr (x := n.tmod 3 + 3) (by omega), wr (x := (n.tmod 3 + 3).tmod 3 + 1) (by omega)]
 exact ⟨((n.tmod 3 + 3).tmod 3 + 1).toNat, by omega, by omega, by omega⟩
theorem s8_tmod (y : Int) : s8 (y.tmod 9) := by
 have h1 := Int.tmod_lt_of_pos y (show (0 : Int) < 9 by decide)
 have h2 : -9 < y.tmod 9 := Int.lt_tmod_of_pos y (by decide)
 unfold s8; omega
/-- the rows so far -/
def U1 (w : World) (k : Nat) (at' a b i : Value) (wr : World) : Prop := ∃ (ki a1 : Nat) (Z : Nat → Nat → Int) (f c : Nat → Nat), ki ≤ k ∧ i = .int .i64 (ki : Int) ∧ at' = .int .i64 (a1 : Int) ∧ a1 ≤ 4 * ki ∧ (∀ i, i < ki → ∀ j, j ≤ k → s8 (Z i j)) ∧
 Mr wr w.heap.size a ki k f c (fun i j => iw (Z i j)) ∧ Rg wr w.heap.size b ki (fun i => iw (Z i k)) ∧ (a.ownBlock = none ∨ a.ownBlock ≠ b.ownBlock) ∧ (∀ i, i < ki → some (f i) ≠ b.ownBlock) ∧ Bw w wr
/-- the row so far -/
def U2 (w1 : World) (k ki : Nat) (at' row j : Value) (wr : World) : Prop := ∃ (kj a2 : Nat) (z : Nat → Int), kj ≤ k + 1 ∧ j = .int .i64 (kj : Int) ∧ at' = .int .i64 (a2 : Int) ∧ a2 ≤ 4 * ki + kj ∧ (∀ j, j < kj → s8 (z j)) ∧ Rg wr w1.heap.size row kj (fun j => iw (z j)) ∧ Bw w1 wr
end Sv
set_option maxHeartbeats 16000000 in
set_option maxRecDepth 20000 in
theorem small14 {w : World} {lp : Option Addr} {ln lc : Nat} (n : Int) (hl : Sv.Li2 w (.slice lp ln lc) ln) (hln : ln ≤ 140737488355328) :
  Calls Try.prog 25 #[.int .i64 n, .slice lp ln lc] w fun e w' => Sv.Sl w e w' := by
 have HL := Sv.hid hl
 clear hl
 obtain ⟨k, hk1, hk3, hkn⟩ := Sv.many n
 have HKN := Sv.hid hkn
 clear hkn
 go_enter Try.func25, Try.ntmps25
 go_wp2
 rw [HKN.out]
 go_loopw [7, 8, 9, 10] (fun at' a b i wr => Sv.U1 w k at' a b i wr) (fun _ _ _ i _ => k - (intOf i).toNat)
 case atStart => exact ⟨0, 0, fun _ _ => 0, fun _ => 0, fun _ => 0, by omega, rfl, rfl, by omega, fun i hi => absurd hi (by omega), Sv.Mr.nil _ _ _ _ _ _, Sv.Rg.nil _ _ _, Or.inl rfl, fun i hi => absurd hi (by omega), Bw.refl w⟩
 case round =>
  obtain ⟨ki, a1, Z, f, c, hki, rfl, rfl, ha1, hZ, hMr, hRg, hab, hfb, hbw⟩ := hrel
  obtain ⟨w1, hw1⟩ : ∃ v, v = wr := ⟨_, rfl⟩
  subst hw1
  have HI := Sv.hid (And.intro hZ (And.intro hMr (And.intro hRg (And.intro hab (And.intro hfb hbw)))))
  clear hZ hMr hRg hab hfb hbw
  by_cases hk2 : ki < k
  case neg =>
   have hk4 : ki = k := by omega
   have hk5 : ¬ (ki : Int) < k := by omega
   have OUT : Hid (∃ ab ca bb cb, u8 = .slice (some ⟨ab, 0, none⟩) k ca ∧ u9 = .slice (some ⟨bb, 0, none⟩) k cb ∧ (∀ i, i < k → ∀ j, j ≤ k → Sv.s8 (Z i j)) ∧ Sv.Lm w1 (.slice (some ⟨ab, 0, none⟩) k ca) k (fun _ => k) (fun i j => Sv.iw (Z i j)) ∧ Sv.Ls w1 (.slice (some ⟨bb, 0, none⟩) k cb) k (fun i => Sv.iw (Z i k)) ∧ Bw w w1) := by
    obtain ⟨hZ, hMr, hRg, _, _, hbw⟩ := HI.out
    rw [hk4] at hZ hMr hRg
    obtain ⟨ab, ca, e1, h1⟩ := hMr.lm (by omega)
    obtain ⟨bb, cb, e2, _, _, _, h2⟩ := hRg.form (by omega)
    have h3 := hRg.ls
    rw [e2] at h3
    exact ⟨ab, ca, bb, cb, e1, e2, hZ, h1, h3, hbw⟩
   clear HI hk4
   obtain ⟨ab, ca, bb, cb, rfl, rfl, hR⟩ := OUT.out
   have HR := Sv.hid hR
   clear OUT hR
   go_wp2
   go_ret2
   exact ⟨k, Z, ab, ca, bb, cb, rfl, hk1, hk3, HR.out⟩
  case pos =>
   have hk4 : (ki : Int) < k := by omega
   go_wp2
   go_loopw [7, 11, 12] (fun at' row j wr => Sv.U2 w1 k ki at' row j wr) (fun _ _ j _ => k + 1 - (intOf j).toNat)
   case atStart => exact ⟨0, a1, fun _ => 0, by omega, rfl, rfl, by omega, fun j hj => absurd hj (by omega), Sv.Rg.nil _ _ _, Bw.refl w1⟩
   case round =>
    obtain ⟨kj, a2, z, hkj, rfl, rfl, ha2, hzs, hrow, hbw⟩ := hrel
    by_cases hj2 : kj ≤ k
    case pos =>
     have hj3 : (kj : Int) ≤ k := by omega
     by_cases hat : a2 < ln
     case pos =>
      have hat2 : (a2 : Int) < ln := by omega
      obtain ⟨lb, lo, y, rfl, ey⟩ := (HL.out.bw (bw_trans HI.out.2.2.2.2.2 hbw)).at hat
      have hxs := Sv.s8_tmod y
      obtain ⟨xs, hxe⟩ : ∃ xs, y.tmod 9 = xs := ⟨_, rfl⟩
      rw [hxe] at hxs
      obtain ⟨q, hq⟩ : ∃ q, floatOfInt .f64 xs = q := ⟨_, rfl⟩
      have hqi : Sv.iw xs = q := hq
      have hql : q < 18446744073709551616 := by rw [← hqi]; exact (Sv.iw_all hxs).1
      obtain ⟨v', w', hr1, hr2, hr3, hr4⟩ := Sv.pushF 24 hrow q hql (by omega) hbw.size
      have ER := Sv.hid hr1
      have hb1 : Bw w1 (wr.alloc (.cells #[.float .f64 q] 25)) := bw_trans hbw (Sv.bw_new wr (.cells #[.float .f64 q] 25))
      have hb2 : Bw w1 w' := Below.grown hb1 hr3 hb1.size (fun x e => (hrow.lt x e).1)
      have KN : Hid (Sv.U2 w1 k ki (.int .i64 ((a2 + 1 : Nat) : Int)) v' (.int .i64 ((kj + 1 : Nat) : Int)) w') := by
       refine ⟨kj + 1, a2 + 1, fun j => if j = kj then xs else z j, by omega, rfl, rfl, by omega, fun j hj => ?_, hr2.ext (fun j hj => ?_), hb2⟩
       ·
        by_cases e : j = kj
        · simp only [e, if_true]; exact hxs
        · simp only [if_neg e]; exact hzs j (by omega)
       ·
        by_cases e : j = kj
        · simp only [e, if_true]; rw [← hqi]; exact Sv.iw_c hxs
        · simp only [if_neg e]
      clear hr1 hr2 hr3 hr4 hb1 hb2 hrow hzs hqi hql hxs hbw
      go_wp2_with (first
       | (at_builtin; refine wpList_append_eq2 rfl _ _ 24 rfl _ _ _ rfl rfl _ ER.out ?_)
       | go_in)
      clear ER hq
      go_wp2
      go_roundw
      case rel =>
       have h1 : wrap64 ((a2 : Int) + 1) = ((a2 + 1 : Nat) : Int) := by have := Sv.wr (x := (a2 : Int) + 1) (by omega); omega
       have h2 : wrap64 ((kj : Int) + 1) = ((kj + 1 : Nat) : Int) := by have := Sv.wr (x := (kj : Int) + 1) (by omega); omega
       first | exact KN.out | (rw [h1, h2]; exact KN.out) | (simp only [h1, h2]; exact KN.out) | (simp; exact KN.out)
      case measure => simp [intOf]; omega
     case neg =>
      have hat2 : ¬ (a2 : Int) < ln := by omega
      have hxs : Sv.s8 0 := by unfold Sv.s8; omega
      obtain ⟨xs, hxe⟩ : ∃ xs : Int, xs = 0 := ⟨_, rfl⟩
      rw [← hxe] at hxs
      obtain ⟨q, hq⟩ : ∃ q, floatOfInt .f64 0 = q := ⟨_, rfl⟩
      have hqi : Sv.iw xs = q := by rw [hxe]; exact hq
      have hql : q < 18446744073709551616 := by rw [← hqi]; exact (Sv.iw_all hxs).1
      obtain ⟨v', w', hr1, hr2, hr3, hr4⟩ := Sv.pushF 24 hrow q hql (by omega) hbw.size
      have ER := Sv.hid hr1
      have hb1 : Bw w1 (wr.alloc (.cells #[.float .f64 q] 25)) := bw_trans hbw (Sv.bw_new wr (.cells #[.float .f64 q] 25))
      have hb2 : Bw w1 w' := Below.grown hb1 hr3 hb1.size (fun x e => (hrow.lt x e).1)
      have KN : Hid (Sv.U2 w1 k ki (.int .i64 ((a2 + 1 : Nat) : Int)) v' (.int .i64 ((kj + 1 : Nat) : Int)) w') := by
       refine ⟨kj + 1, a2 + 1, fun j => if j = kj then xs else z j, by omega, rfl, rfl, by omega, fun j hj => ?_, hr2.ext (fun j hj => ?_), hb2⟩
       ·
        by_cases e : j = kj
        · simp only [e, if_true]; exact hxs
        · simp only [if_neg e]; exact hzs j (by omega)
       ·
        by_cases e : j = kj
        · simp only [e, if_true]; rw [← hqi]; exact Sv.iw_c hxs
        · simp only [if_neg e]
      clear hr1 hr2 hr3 hr4 hb1 hb2 hrow hzs hqi hql hxs hbw
      go_wp2_with (first
       | (at_builtin; refine wpList_append_eq2 rfl _ _ 24 rfl _ _ _ rfl rfl _ ER.out ?_)
       | go_in)
      clear ER hq
      go_wp2
      go_roundw
      case rel =>
       have h1 : wrap64 ((a2 : Int) + 1) = ((a2 + 1 : Nat) : Int) := by have := Sv.wr (x := (a2 : Int) + 1) (by omega); omega
       have h2 : wrap64 ((kj : Int) + 1) = ((kj + 1 : Nat) : Int) := by have := Sv.wr (x := (kj : Int) + 1) (by omega); omega
       first | exact KN.out | (rw [h1, h2]; exact KN.out) | (simp only [h1, h2]; exact KN.out) | (simp; exact KN.out)
      case measure => simp [intOf]; omega
    case neg =>
     have hj3 : ¬ (kj : Int) ≤ k := by omega
     have hj4 : kj = k + 1 := by omega
     have hj5 : ¬ (k : Int) + 1 ≤ k := by omega
     obtain ⟨g, cg, e, hgb, hgl, hcg, hrd⟩ := hrow.form (by omega)
     subst e
     rw [hj4] at hcg hrd
     obtain ⟨x, ex, hxl, hxq⟩ := hrd.2 k (by omega)
     rw [Nat.zero_add] at ex
     obtain ⟨hZ, hMr, hRg, hab, hfb, hbw0⟩ := HI.out
     have hzk := hzs k (by omega)
     have lt8 := hMr.lt.1
     have lt9 := hRg.lt
     have ltf := hMr.lt.2
     have hsz := hbw.size
     have hsz0 := hbw0.size
     have bl1 := Sv.bw_new wr (.cells #[.float .f64 x] 25)
     obtain ⟨v1, wA, hr1, hr2, hr3, hr4⟩ := Sv.pushF 24 (hRg.bw hbw) x hxl (by omega) (by omega)
     have ER1 := Sv.hid hr1
     have hg9 : some g ≠ u9.ownBlock := fun e => by have := lt9 g e.symm; omega
     have hg8 : some g ≠ u8.ownBlock := fun e => by have := lt8 g e.symm; omega
     have mrA := ((hMr.bw hbw).bw bl1).gb hr3 hab hfb
     have rdA := (hrd.bw bl1).gb hr3 hg9
     have hbA : Bw w wA := Below.grown (bw_trans (bw_trans hbw0 hbw) bl1) hr3 (bw_trans (bw_trans hbw0 hbw) bl1).size (fun y e => (lt9 y e).1)
     have szA : wr.heap.size + 1 ≤ wA.heap.size := by have := hr3.size; rw [Sv.size_one] at this; exact this
     obtain ⟨v2, wB, hs1, hs2, hs3, hs4⟩ := Sv.pushR 23 mrA (rdA.less (m := k) (by omega)) (cg := cg) (by omega) hg8 (by omega) hbA.size
     have ER2 := Sv.hid hs1
     have bl2 := Sv.bw_new wA (.cells #[.slice (some ⟨g, 0, none⟩) k cg] 24)
     obtain ⟨B1, c1, e1, hB1, hB1l, _, _⟩ := hr2.form (by omega)
     have ob1 : v1.ownBlock = some B1 := by rw [e1]; rfl
     rw [ob1] at hr4
     have n8 : some B1 ≠ u8.ownBlock := by
      intro e
      rcases hr4 with q | q
      ·
       rcases hab with r | r
       · rw [r] at e; cases e
       · exact r (e.symm.trans q)
      ·
       have := lt8 B1 e.symm
       cases q
       omega
     have n9g : g ≠ B1 := by
      intro e
      rcases hr4 with q | q
      · exact hg9 (by rw [e]; exact q)
      · cases q; omega
     have nf : ∀ i, i < ki → f i ≠ B1 := by
      intro i hi e
      rcases hr4 with q | q
      · exact hfb i hi (by rw [e]; exact q)
      ·
       have := ltf i hi
       cases q; omega
     have rgB := (hr2.bw bl2).gb hs3 (Or.inr (by rw [ob1]; exact n8))
     have hbB : Bw w wB := Below.grown (bw_trans hbA bl2) hs3 (bw_trans hbA bl2).size (fun y e => (lt8 y e).1)
     have n2 : v2.ownBlock ≠ v1.ownBlock := by
      rw [ob1]
      intro e
      rcases hs4 with q | q
      · exact n8 (e.symm.trans q)
      · rw [q] at e; cases e; omega
     have KN : Hid (Sv.U1 w k (.int .i64 (a2 : Int)) v2 v1 (.int .i64 ((ki + 1 : Nat) : Int)) wB) := by
      refine ⟨ki + 1, a2, fun i j => if i = ki then z j else Z i j, fun i => if i = ki then g else f i, fun i => if i = ki then cg else c i, by omega, rfl, rfl, by omega, fun i hi j hj => ?_, ?_, rgB.ext (fun j hj => ?_), Or.inr n2, fun i hi => ?_, hbB⟩
      ·
       by_cases y : i = ki
       · simp only [y, if_true]; exact hzs j (by omega)
       · simp only [if_neg y]; exact hZ i (by omega) j hj
      ·
       have eA : (fun i => if i = ki then (fun j => Sv.iw (z j)) else (fun j => Sv.iw (Z i j))) = fun i j => Sv.iw (if i = ki then z j else Z i j) := by
        funext i j
        by_cases y : i = ki
        · simp only [y, if_true]
        · simp only [if_neg y]
       rw [eA] at hs2
       exact hs2
      ·
       by_cases y : j = ki
       · simp only [y, if_true]; exact hxq
       · simp only [if_neg y]
      ·
       rw [ob1]
       by_cases y : i = ki
       · simp only [y, if_true]; intro e; cases e; exact n9g rfl
       · simp only [if_neg y]; intro e; cases e; exact nf i (by omega) rfl
     clear hr1 hr2 hr3 hr4 hs1 hs2 hs3 hs4 mrA rdA hbA bl1 bl2 e1 ob1 n8 n9g nf rgB hbB n2 hMr hRg hab hfb hbw0 lt8 lt9 ltf hsz hsz0 hZ hg9 hg8 szA hB1 hB1l hrow hrd hzs hzk hxq hgb hgl
     have hkc : (k : Int) ≤ cg := by omega
     have hkc1 : (k : Int) < (k : Int) + 1 := by omega
     have hkc2 : k < k + 1 := by omega
     go_wp2_with (first
      | (at_builtin; refine wpList_append_eq2 (by rfl) _ _ 23 (by rfl) _ _ _ (by rfl) (by rfl) _ ER2.out ?_)
      | (at_builtin; refine wpList_append_eq2 (by rfl) _ _ 24 (by rfl) _ _ _ (by rfl) (by rfl) _ ER1.out ?_)
      | go_in)
     clear ER1 ER2 ex
     go_wp2
     go_roundw
     case rel =>
      have h2 : wrap64 ((ki : Int) + 1) = ((ki + 1 : Nat) : Int) := by have := Sv.wr (x := (ki : Int) + 1) (by omega); omega
      first | exact KN.out | (rw [h2]; exact KN.out) | (simp only [h2]; exact KN.out) | (simp; exact KN.out)
     case measure => simp [intOf]; omega
end Go.Proofs.Ytjfkdmddfeeheaa
/-
 OWN TEXT: layer 14's SolveWhole: what its determinants are; Det and Solve of whole numbers up to 8.
-/
namespace Go.Proofs.Ytjfkdmddfeeheaa
open Go.ChangeShapes Go.WideShapes Go.ChangeAt Go.RowKit
set_option linter.unusedVariables false
namespace Sv
theorem c_eq3 {x v : Nat} (h : Fl.bitsF x = v) (hv : Fi v) : x = v := by
 by_cases z : Fl.nan x = true
 ·
  rw [c_nan z] at h
  have := hv.2
  rw [← h] at this
  exact absurd this (by decide)
 · rw [c_num (Bool.eq_false_iff.2 z)] at h; exact h
theorem sub_self3 {x : Nat} (h : Fi x) : floatBits .sub .f64 x x = some 0 := by
 have k := Fl.sub_fin h.1 h.2 h.2
 rw [Int.sub_self, if_pos rfl] at k
 have e : (Fl.sg x && !Fl.sg x) = false := by cases Fl.sg x <;> rfl
 rw [e] at k
 exact k
/-- the whole numbers are small -/
def Wz (k : Nat) (Z : Nat → Nat → Int) : Prop := ∀ i, i < k → ∀ j, j ≤ k → s8 (Z i j)
/-- the system with its right side -/
def AA (k : Nat) (Z : Nat → Nat → Int) : M := aug k (fun i j => iw (Z i j)) (fun i => iw (Z i k))
theorem AA_at {k : Nat} {Z : Nat → Nat → Int} {i j : Nat} (hj : j ≤ k) : AA k Z i j = iw (Z i j) := by
 unfold AA aug
 by_cases e : j < k
 · rw [if_pos e]
 · rw [if_neg e, show j = k by omega]
theorem AA_aug (k : Nat) (Z : Nat → Nat → Int) : aug k (AA k Z) (fun i => iw (Z i k)) = AA k Z := by
 funext i j
 show (if j < k then AA k Z i j else iw (Z i k)) = AA k Z i j
 by_cases e : j < k
 · rw [if_pos e]
 ·
  rw [if_neg e]
  unfold AA aug
  rw [if_neg e]
theorem AA_Mb {k : Nat} {Z : Nat → Nat → Int} (h : Wz k Z) : Mb k (AA k Z) (fun _ => 8) 0 := by
 intro i hi j hj
 rw [AA_at hj]
 have hz := h i hi j hj
 refine ⟨iw_fi hz, ?_⟩
 rw [iw_rv hz, gr0]
 obtain ⟨h1, h2⟩ := hz
 have k1 : ((-8 : Int) : Rat) ≤ ((Z i j : Int) : Rat) := Rat.intCast_le_intCast.2 h1
 have k2 : ((Z i j : Int) : Rat) ≤ ((8 : Int) : Rat) := Rat.intCast_le_intCast.2 h2
 have e1 : ((-8 : Int) : Rat) = -8 := rfl
 have e2 : ((8 : Int) : Rat) = 8 := rfl
 rw [e1] at k1
 rw [e2] at k2
 exact ⟨k1, k2⟩
/-- column j replaced by the right side -/
def rZ (k : Nat) (Z : Nat → Nat → Int) (j : Nat) : Nat → Nat → Int := fun i m => if m = j then Z i k else Z i m
theorem rZ_s8 {k : Nat} {Z : Nat → Nat → Int} (h : Wz k Z) (j : Nat) : ∀ i m, i < k → m < k → s8 (rZ k Z j i m) := fun i m hi hm => by
 unfold rZ
 split
 · exact h i hi k (Nat.le_refl _)
 · exact h i hi m (by omega)
theorem DN_cast {k : Nat} (X : Nat → Nat → Rat) (Z : Nat → Nat → Int) (h1 : 1 ≤ k) (h3 : k ≤ 3) (h : ∀ i j, i < k → j < k → X i j = (Z i j : Rat)) : DN k X = (dI k Z : Rat) := by
 rcases (show k = 1 ∨ k = 2 ∨ k = 3 by omega) with rfl | rfl | rfl
 ·
  show X 0 0 = ((Z 0 0 : Int) : Rat)
  exact h 0 0 (by omega) (by omega)
 ·
  show X 0 0 * X 1 1 - X 0 1 * X 1 0 = ((Z 0 0 * Z 1 1 - Z 0 1 * Z 1 0 : Int) : Rat)
  rw [h 0 0 (by omega) (by omega), h 0 1 (by omega) (by omega), h 1 0 (by omega) (by omega), h 1 1 (by omega) (by omega), Rat.intCast_sub, Rat.intCast_mul, Rat.intCast_mul]
 ·
  show X 0 0 * (X 1 1 * X 2 2 - X 1 2 * X 2 1) - X 0 1 * (X 1 0 * X 2 2 - X 1 2 * X 2 0) + X 0 2 * (X 1 0 * X 2 1 - X 1 1 * X 2 0) = ((0 + Z 0 0 * (Z 1 1 * Z 2 2 - Z 1 2 * Z 2 1) + Z 0 1 * (Z 1 2 * Z 2 0 - Z 1 0 * Z 2 2) + Z 0 2 * (Z 1 0 * Z 2 1 - Z 1 1 * Z 2 0) : Int) : Rat)
  have e := fun i j hi hj => h i j hi hj
  rw [e 0 0 (by omega) (by omega), e 0 1 (by omega) (by omega), e 0 2 (by omega) (by omega), e 1 0 (by omega) (by omega), e 1 1 (by omega) (by omega), e 1 2 (by omega) (by omega), e 2 0 (by omega) (by omega), e 2 1 (by omega) (by omega), e 2 2 (by omega) (by omega)]
  simp only [Rat.intCast_add, Rat.intCast_mul, Rat.intCast_sub]
  have z : ((0 : Int) : Rat) = 0 := rfl
  rw [z]
  grind
theorem dI_bd {k : Nat} {Z : Nat → Nat → Int} (h1 : 1 ≤ k) (h3 : k ≤ 3) (hz : ∀ i j, i < k → j < k → s8 (Z i j)) : (dI k Z).natAbs ≤ 3072 := by
 rcases (show k = 1 ∨ k = 2 ∨ k = 3 by omega) with rfl | rfl | rfl
 ·
  have := (hz 0 0 (by omega) (by omega)).nat
  show (Z 0 0).natAbs ≤ 3072
  omega
 ·
  have m := fun i j hi hj => (hz i j hi hj).nat
  have p1 := mul_bd (m 0 0 (by omega) (by omega)) (m 1 1 (by omega) (by omega))
  have p2 := mul_bd (m 0 1 (by omega) (by omega)) (m 1 0 (by omega) (by omega))
  show (Z 0 0 * Z 1 1 - Z 0 1 * Z 1 0).natAbs ≤ 3072
  omega
 · exact dS_bd hz 3 (Nat.le_refl _)
theorem ab_int {z : Int} (h : z ≠ 0) : 1 ≤ ab (z : Rat) := by
 rcases (show 1 ≤ z ∨ z ≤ -1 by omega) with q | q
 ·
  have k : ((1 : Int) : Rat) ≤ (z : Rat) := Rat.intCast_le_intCast.2 q
  have e : ((1 : Int) : Rat) = 1 := rfl
  rw [e] at k
  unfold ab; split <;> grind
 ·
  have k : (z : Rat) ≤ ((-1 : Int) : Rat) := Rat.intCast_le_intCast.2 q
  have e : ((-1 : Int) : Rat) = -1 := rfl
  rw [e] at k
  unfold ab; split <;> grind
theorem int_ab {z : Int} {N : Nat} (h : z.natAbs ≤ N) : Ab (z : Rat) (N : Rat) := by
 have k1 : ((-(N : Int) : Int) : Rat) ≤ (z : Rat) := Rat.intCast_le_intCast.2 (by omega)
 have k2 : (z : Rat) ≤ ((N : Int) : Rat) := Rat.intCast_le_intCast.2 (by omega)
 rw [Rat.intCast_neg, Rat.intCast_natCast] at k1
 rw [Rat.intCast_natCast] at k2
 exact ⟨k1, k2⟩
/-- what Det answers -/
theorem det_whole {k : Nat} {Z : Nat → Nat → Int} (h1 : 1 ≤ k) (h3 : k ≤ 3) (h : Wz k Z) : detE k (fun _ => k) (AA k Z) = 0 ∧ Fi (detX k (fun _ => k) (AA k Z)) ∧ Ab (rv (detX k (fun _ => k) (AA k Z)) - (dI k Z : Rat) / ((1 : Int) : Rat)) (1 / 268435456) := by
 have hc : chk k (fun _ => k) (AA k Z) = 0 := chk_ok (by omega) (fun _ _ => rfl) (fun i hi j hj => by rw [AA_at (by omega)]; exact (iw_fi (h i hi j (by omega))).fin)
 obtain ⟨d1, d2, d3⟩ := det_near h1 h3 (AA_Mb h)
 have e : DN k (rM (AA k Z)) = (dI k Z : Rat) := DN_cast _ Z h1 h3 (fun i j hi hj => by show rv (AA k Z i j) = _; rw [AA_at (by omega)]; exact iw_rv (h i hi j (by omega)))
 unfold detE detX
 rw [hc, if_pos rfl, if_pos rfl]
 refine ⟨d1, d2, ?_⟩
 rw [e] at d3
 have e1 : (dI k Z : Rat) / ((1 : Int) : Rat) = (dI k Z : Rat) := by
  have : ((1 : Int) : Rat) = 1 := rfl
  rw [this, Rat.div_def]
  grind
 rw [e1]
 exact d3
/-- what Solve answers -/
theorem solve_whole {k : Nat} {Z : Nat → Nat → Int} (h1 : 1 ≤ k) (h3 : k ≤ 3) (h : Wz k Z) (hD : dI k Z ≠ 0) : solE k (fun _ => k) (AA k Z) k (fun i => iw (Z i k)) = 0 ∧ ∀ j, j < k → Fi (solX k (AA k Z) (fun i => iw (Z i k)) j) ∧
  Ab (rv (solX k (AA k Z) (fun i => iw (Z i k)) j) - (dI k (rZ k Z j) : Rat) / (dI k Z : Rat)) (1 / 1048576) := by
 have hc : chk k (fun _ => k) (AA k Z) = 0 := chk_ok (by omega) (fun _ _ => rfl) (fun i hi j hj => by rw [AA_at (by omega)]; exact (iw_fi (h i hi j (by omega))).fin)
 have hr : ∀ i j, i < k → j ≤ k → rM (AA k Z) i j = (Z i j : Rat) := fun i j hi hj => by show rv (AA k Z i j) = _; rw [AA_at hj]; exact iw_rv (h i hi j hj)
 have e : DN k (rM (AA k Z)) = (dI k Z : Rat) := DN_cast _ Z h1 h3 (fun i j hi hj => hr i j hi (by omega))
 have eJ : ∀ j, DN k (rJ k (rM (AA k Z)) j) = (dI k (rZ k Z j) : Rat) := fun j => DN_cast _ _ h1 h3 (fun i m hi hm => by
  unfold rJ rZ
  by_cases y : m = j
  · rw [if_pos y, if_pos y]; exact hr i k hi (Nat.le_refl _)
  · rw [if_neg y, if_neg y]; exact hr i m hi (by omega))
 obtain ⟨hg, hx, hn⟩ := whole_near (n := k) (A := AA k Z) h1 h3 (AA_Mb h) (by rw [e]; exact ab_int hD) (fun j hj => by
  rw [eJ]
  have := int_ab (dI_bd h1 h3 (rZ_s8 h j))
  have e3 : ((3072 : Nat) : Rat) = 3072 := rfl
  rw [e3] at this
  exact this)
 have es : solX k (AA k Z) (fun i => iw (Z i k)) = bx (st k (AA k Z) k) k k := by unfold solX; rw [AA_aug]
 rw [es]
 refine ⟨?_, fun j hj => ⟨hx j hj, ?_⟩⟩
 ·
  have hA : chkA k (fun _ => k) (AA k Z) 1 (fun _ => k) (fun _ => fun i => iw (Z i k)) = 0 := by
   rw [chkA_yes hc]
   show (if (0 : Int) = 0 then chkL k k (fun i => iw (Z i k)) else 0) = 0
   rw [if_pos rfl]
   unfold chkL
   rw [if_pos rfl, if_pos (show fin (fun i => iw (Z i k)) k from fun j hj => (iw_fi (h j hj k (Nat.le_refl _))).fin)]
  unfold solE
  rw [hA, if_pos rfl, AA_aug, if_pos hg, es, if_pos (show fin (bx (st k (AA k Z) k) k k) k from fun j hj => (hx j hj).fin)]
 ·
  have := hn j hj
  rw [eJ, e] at this
  exact this
end Sv
theorem deti14 {w : World} {k b o c : Nat} {Z : Nat → Nat → Int} (h1 : 1 ≤ k) (h3 : k ≤ 3) (h : Sv.Lm w (.slice (some ⟨b, o, none⟩) k c) k (fun _ => k) (fun i j => Sv.iw (Z i j))) (hz : ∀ i j, i < k → j < k → Sv.s8 (Z i j)) :
  Calls Try.prog 26 #[.slice (some ⟨b, o, none⟩) k c] w fun e w' => e = .returned (.int .i64 (Sv.dI k Z)) ∧ Bw w w' := by
 rcases (show k = 1 ∨ k = 2 ∨ k = 3 by omega) with rfl | rfl | rfl
 · exact det1c h hz
 · exact det2c h hz
 · exact det3c h hz
end Go.Proofs.Ytjfkdmddfeeheaa
