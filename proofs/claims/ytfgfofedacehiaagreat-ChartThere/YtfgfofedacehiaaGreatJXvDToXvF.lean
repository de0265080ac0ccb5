/-
 OWN TEXT: an evaluator for calls without open arguments. New blocks, and what is written.
-/
import Derived.Test.YtfgfofedacehiaaGreatJXvAToXvC
import Derived.Laws.MakeOwn
namespace Go.Proofs.YtfgfofedacehiaaGreat
open Go.RowKit
set_option linter.unusedVariables false
set_option linter.unusedSimpArgs false
theorem VR1.one {r : Rho} {v v' : Value} (h : VR1 r v v') : v'.oneCell' = true := by
 cases h with
 | nan => rfl
 | cn => rfl
 | fn => rfl
 | flat h => cases v <;> first | rfl | (simp [flat1] at h)
 | ptr => rfl
 | exact => rfl
 | loose => rfl
theorem LR.one {r : Rho} {l l' : List Value} (h : LR (VR1 r) l l') : ∀ v ∈ l', v.oneCell' = true := by
 intro v hv
 obtain ⟨i, hi, rfl⟩ := List.getElem_of_mem hv
 have hi' : i < l.length := by have := h.1; omega
 obtain ⟨v', e, k⟩ := h.2 i l[i] (List.getElem?_eq_getElem hi')
 rw [List.getElem?_eq_getElem hi] at e
 cases e
 exact k.one
theorem VRel.inv_slices0 {r : Rho} {a : Option Addr} {n c : Nat} {v' : Value} (h : VRel r (.slice a n c) v') : (a = none ∧ v' = .slice none n c) ∨ ∃ ad c', v' = .slice (some ad) n c' ∧ a.isSome = true := by
 cases a with
 | none => exact Or.inl ⟨rfl, h.same rfl⟩
 | some a =>
  obtain ⟨b, o, sp⟩ := a
  cases sp with
  | none => obtain ⟨g, s, h1, h2⟩ := h.inv_slice; exact Or.inr ⟨_, _, h2, rfl⟩
  | some k => obtain ⟨g, s, h1, h2⟩ := h.inv_loose; exact Or.inr ⟨_, _, h2, rfl⟩
/-- a value's cells -/
def cellsO : Value → Option (List Value)
 | .agg cs => some cs.toList
 | .tuple _ => none
 | .iface .. => none
 | v => some [v]
theorem LR.single {R : Value → Value → Prop} {v v' : Value} (h : R v v') : LR R [v] [v'] :=
 ⟨rfl, fun i u e => by cases i with
  | zero => simp at e; subst e; exact ⟨v', rfl, h⟩
  | succ i => simp at e⟩
theorem cellsO_rel {r : Rho} {v v' : Value} {l : List Value} (h : cellsO v = some l) (k : VRel r v v') : LR (VR1 r) l v'.cells.toList := by
 cases v
 case agg cs => cases h; obtain ⟨l', rfl, q⟩ := k.inv_agg; exact q
 case tuple => cases h
 case iface => cases h
 all_goals
  cases h
  cases k with
  | one k => cases k with
   | one k => cases k <;> exact LR.single (by constructor <;> assumption)
theorem LR.splice {R : Value → Value → Prop} {l l' m m' : List Value} (h : LR R l l') (k : LR R m m') (o : Nat) (ho : o + m.length ≤ l.length) : LR R (l.take o ++ m ++ l.drop (o + m.length)) (l'.take o ++ m' ++ l'.drop (o + m'.length)) := by
 have e1 := h.1
 have e2 := k.1
 refine ⟨by simp; omega, fun i v e => ?_⟩
 rcases Nat.lt_or_ge i o with c | c
 ·
  rw [List.append_assoc, List.getElem?_append_left (by simp; omega), List.getElem?_take, if_pos c] at e
  obtain ⟨v', a1, a2⟩ := h.2 i v e
  exact ⟨v', by rw [List.append_assoc, List.getElem?_append_left (by simp; omega), List.getElem?_take, if_pos c]; exact a1, a2⟩
 ·
  have l1 : (l.take o).length = o := by simp; omega
  have l2 : (l'.take o).length = o := by simp; omega
  rw [List.append_assoc, List.getElem?_append_right (by omega), l1] at e
  rw [List.append_assoc, List.getElem?_append_right (by omega), l2]
  rcases Nat.lt_or_ge (i - o) m.length with d | d
  ·
   rw [List.getElem?_append_left d] at e
   rw [List.getElem?_append_left (by omega)]
   exact k.2 _ v e
  ·
   rw [List.getElem?_append_right d, List.getElem?_drop] at e
   rw [List.getElem?_append_right (by omega), List.getElem?_drop]
   obtain ⟨v', a1, a2⟩ := h.2 _ v e
   refine ⟨v', ?_, a2⟩
   rw [← a1]
   congr 1
   omega
theorem setIf_list {R : Value → Value → Prop} {c c' : Array Value} (h : LR R c.toList c'.toList) {v v' : Value} (k : R v v') (i : Nat) : LR R (c.setIfInBounds i v).toList (c'.setIfInBounds i v').toList := by
 refine ⟨by simpa using h.1, fun j u e => ?_⟩
 simp only [Array.toList_setIfInBounds, List.getElem?_set] at e ⊢
 by_cases q : i = j
 ·
  subst q
  rw [if_pos rfl] at e ⊢
  have := h.1
  split at e
  · cases e; exact ⟨v', by rw [if_pos (by omega)], k⟩
  · cases e
 ·
  rw [if_neg q] at e ⊢
  exact h.2 j u e
theorem fill_one {R : Value → Value → Prop} (off : Nat) : ∀ (l l' : List Value) (n : Nat) (c c' : Array Value), LR R l l' → LR R c.toList c'.toList →
  LR R ((l.zipIdx n).foldl (fun cs (x : Value × Nat) => cs.setIfInBounds (off + x.2) x.1) c).toList ((l'.zipIdx n).foldl (fun cs (x : Value × Nat) => cs.setIfInBounds (off + x.2) x.1) c').toList
 | [], [], _, _, _, _, h => h
 | [], _ :: _, _, _, _, k, _ => by have := k.1; simp at this
 | _ :: _, [], _, _, _, k, _ => by have := k.1; simp at this
 | v :: l, v' :: l', n, c, c', k, h => by
  obtain ⟨u, e1, e2⟩ := k.2 0 v rfl
  cases e1
  simp only [List.zipIdx_cons, List.foldl_cons]
  refine fill_one off l l' (n + 1) _ _ ⟨by have := k.1; simpa using this, fun i x e => ?_⟩ (setIf_list h e2 _)
  exact k.2 (i + 1) x e
/-- parts, with values alike -/
def PR (r : Rho) (ps ps' : List (Nat × Value)) : Prop := ps.length = ps'.length ∧ ∀ (i : Nat) (n : Nat) (v : Value), ps[i]? = some (n, v) → ∃ v', ps'[i]? = some (n, v') ∧ VRel r v v'
theorem fill_rel {r : Rho} (place : Nat → Option (Nat × Nat)) : ∀ (ps ps' : List (Nat × Value)) (c c' out : Array Value), PR r ps ps' → (∀ p ∈ ps, (cellsO p.2).isSome = true) → LR (VR1 r) c.toList c'.toList → Instr.fill place c ps = some out → ∃ out', Instr.fill place c' ps' = some out' ∧ LR (VR1 r) out.toList out'.toList
 | [], [], c, c', out, _, _, h, e => by simp only [Instr.fill] at e ⊢; cases e; exact ⟨c', rfl, h⟩
 | [], _ :: _, _, _, _, k, _, _, _ => by have := k.1; simp at this
 | _ :: _, [], _, _, _, k, _, _, _ => by have := k.1; simp at this
 | (n, v) :: ps, (n', v') :: ps', c, c', out, k, hc, h, e => by
  obtain ⟨u, e1, e2⟩ := k.2 0 n v rfl
  cases e1
  have hv := hc (n, v) (by simp)
  obtain ⟨l, hl⟩ := Option.isSome_iff_exists.1 hv
  have q := cellsO_rel hl e2
  have hcells : v.cells.toList = l := by
   cases v
   case tuple => cases hl
   case iface => cases hl
   all_goals (cases hl; rfl)
  have hs : v.cells.size = v'.cells.size := by
   have := q.1
   rw [← hcells] at this
   simpa using this
  have hs' : c.size = c'.size := by simpa using h.1
  simp only [Instr.fill] at e ⊢
  cases hp : place n with
  | none => rw [hp] at e; cases e
  | some os =>
   obtain ⟨off, size⟩ := os
   rw [hp] at e
   simp only at e ⊢
   rw [← hs, ← hs']
   split at e
   · cases e
   ·
    rename_i cnd
    rw [if_neg cnd]
    refine fill_rel place ps ps' _ _ out ⟨by have := k.1; simpa using this, fun i m x e => k.2 (i + 1) m x e⟩ (fun p hp => hc p (by simp [hp])) ?_ e
    have := fill_one (R := VR1 r) off l v'.cells.toList 0 c c' q h
    rw [← hcells] at this
    simpa [Array.foldl_toList, ← Array.toList_zipIdx] using this
theorem Rel.kill {P : Program} {w0 : World} {r : Rho} {A : Mem} {w : World} (h : Rel P w0 r A w) (i : Nat) : Rel P w0 r (A.set i none) w := by
 have back : ∀ (j : Nat) (b : Blk), (A.set i none)[j]? = some (some b) → A[j]? = some (some b) := by
  intro j b e
  rw [List.getElem?_set] at e
  split at e
  · split at e <;> cases e
  · exact e
 exact ⟨by simp [h.len], h.below, fun j b g s e => h.there j b g s (back j b e), h.ro, fun j k bj bk g s s' e1 e2 => h.inj j k bj bk g s s' (back _ _ e1) (back _ _ e2), h.ex⟩
theorem below_setRow {B : Nat} {a w : World} (h : Below B a w) {g : Nat} (hp : B ≤ g) (c : Array Value) : Below B a (w.setRow g c) :=
 h.trans ⟨rfl, rfl, rfl, by simp, fun k hk => setRow_other _ _ _ _ (by omega)⟩
theorem Rel.write {P : Program} {w0 : World} {r : Rho} {A : Mem} {w : World} (h : Rel P w0 r A w) {i : Nat} {b : Blk} {g s : Nat} {c : Array Value} (hA : A[i]? = some (some b)) (hr : r[i]? = some (some (g, s))) (hg : w.heap[g]? = some (.cells c b.elem (0, 0))) (hlow : w0.heap.size ≤ g)
  (l : List Value) (c' : Array Value) (hl : l.length + s * szOf P b.elem ≤ c'.size) (hv : ∀ (j : Nat) (v : Value), l[j]? = some v → ∃ v', c'[j]? = some v' ∧ VR1 r v v') : Rel P w0 r (A.set i (some ⟨l, b.elem⟩)) (w.setRow g c') := by
 have hi : i < A.length := by
  rcases Nat.lt_or_ge i A.length with c | c
  · exact c
  · rw [List.getElem?_eq_none c] at hA; cases hA
 have back : ∀ (j : Nat) (b' : Blk), (A.set i (some ⟨l, b.elem⟩))[j]? = some (some b') → (j = i ∧ b' = ⟨l, b.elem⟩) ∨ (j ≠ i ∧ A[j]? = some (some b')) := by
  intro j b' e
  rw [List.getElem?_set] at e
  split at e
  ·
   rename_i q
   cases e
   exact Or.inl ⟨q.symm, rfl⟩
  · rename_i q; exact Or.inr ⟨fun x => q x.symm, e⟩
 have some_of : ∀ (j : Nat) (b' : Blk), (A.set i (some ⟨l, b.elem⟩))[j]? = some (some b') → ∃ b'', A[j]? = some (some b'') := by
  intro j b' e
  rcases back j b' e with ⟨rfl, _⟩ | ⟨_, q⟩
  · exact ⟨b, hA⟩
  · exact ⟨b', q⟩
 refine ⟨by simp [h.len], below_setRow h.below hlow _, ?_, h.ro, ?_, h.ex⟩
 ·
  intro j b' g2 s2 e k1
  rcases back j b' e with ⟨hj, hb⟩ | ⟨q, e'⟩
  ·
   subst hj
   subst hb
   rw [hr] at k1
   simp only [Option.some.injEq, Prod.mk.injEq] at k1
   obtain ⟨rfl, rfl⟩ := k1
   exact ⟨c', hlow, setRow_heap w g c c' b.elem (0, 0) hg, hl, hv⟩
  ·
   obtain ⟨c2, k2, k3, k4, k5⟩ := h.there j b' g2 s2 e' k1
   refine ⟨c2, k2, ?_, k4, k5⟩
   rw [setRow_other]
   · exact k3
   ·
    intro x
    subst x
    exact q (h.inj j i b' b g2 s2 s e' hA k1 hr)
 ·
  intro j k bj bk g2 s2 s3 e1 e2 f1 f2
  obtain ⟨x1, d1⟩ := some_of j bj e1
  obtain ⟨x2, d2⟩ := some_of k bk e2
  exact h.inj j k x1 x2 g2 s2 s3 d1 d2 f1 f2
def partO (e : Operand → Option Value) (p : Nat × Operand) : Bool := match e p.2 with | some v => (cellsO v).isSome | none => false
/-- as many of the same, one behind the other -/
def apR : List Value → List Value → List Value
 | [], t => t
 | x :: l, t => x :: apR l t
def manyL (l : List Value) : Nat → List Value
 | 0 => []
 | n + 1 => apR l (manyL l n)
def madeF (z : Array Value) (m s : Nat) : List Value := bif Nat.beq z.size s then manyL z.toList m else (madeCells z (m * s)).toList
theorem apR_eq (t : List Value) : ∀ l, apR l t = l ++ t
 | [] => rfl
 | x :: l => by simp only [apR, apR_eq t l, List.cons_append]
theorem madeF_eq {z : Array Value} (hz : 0 < z.size) (m s : Nat) : madeF z m s = (madeCells z (m * s)).toList := by
 unfold madeF
 cases q : Nat.beq z.size s with
 | false => rfl
 | true =>
  rw [cond_true]
  rw [Nat.beq_eq] at q
  subst q
  simp only [madeCells, Array.toList_map, Array.toList_range]
  induction m with
  | zero =>
   show ([] : List Value) = _
   simp
  | succ m ih =>
   show apR z.toList (manyL z.toList m) = _
   rw [apR_eq, ih, Nat.succ_mul, Nat.add_comm, List.range_add, List.map_append, List.map_map]
   congr 1
   ·
    refine List.ext_getElem? fun j => ?_
    rcases Nat.lt_or_ge j z.size with hj | hj
    · simp [hj, Nat.mod_eq_of_lt hj]
    · simp [hj]
   ·
    refine List.map_congr_left fun j _ => ?_
    simp [Function.comp]
/-- an operation that lays a new block, with the number id -/
def evN (P : Program) (id : Nat) (e : Operand → Option Value) (o : Oper) : Option (Value × Blk) :=
 match o.op with
 | .alloc el =>
  match P.info? el with
  | some i => match i.zero with
   | some z => if z.cells.toList.all flat1 then some (.pointer (some ⟨id, 0, none⟩), ⟨z.cells.toList, el⟩) else none
   | none => none
  | none => none
 | .box el x =>
  match e x with
  | some v => match cellsO v with
   | some l => some (.pointer (some ⟨id, 0, none⟩), ⟨l, el⟩)
   | none => none
  | none => none
 | .makeSlice t l c =>
  match P.underlying t, e l, e c with
  | some (.slice el), some (.int _ n), some (.int _ m) =>
   match P.info? el with
   | some i => match i.zero with
    | some z =>
     if z.cells.toList.all flat1 && decide (0 ≤ n ∧ n ≤ m ∧ (i.bytes : Int) * m ≤ 281474976710656 ∧ m ≤ 9223372036854775807 ∧ 0 < z.cells.size) then
      some (.slice (some ⟨id, 0, none⟩) n.toNat m.toNat, ⟨madeF z.cells m.toNat i.size, el⟩) else none
    | none => none
   | none => none
  | _, _, _ => none
 | .buildSlice t len parts =>
  match P.underlying t with
  | some (.slice el) =>
   match P.info? el with
   | some i => match i.zero with
    | some z =>
     if z.cells.toList.all flat1 && decide (len * i.size ≤ 16777216 ∧ 0 < z.cells.size) && parts.toList.all (partO e) then
      match Instr.fill (fun j => some (j * i.size, i.size)) (madeCells z.cells (len * i.size)) (parts.toList.map fun p => (p.1, (e p.2).getD undef)) with
      | some cells => some (.slice (some ⟨id, 0, none⟩) len len, ⟨cells.toList, el⟩)
      | none => none
     else none
    | none => none
   | none => none
  | _ => none
 | _ => none
theorem flat_cells {r : Rho} {l : List Value} (h : l.all flat1 = true) : LR (VR1 r) l l := LR.of_all (fun v h => VR1.flat h) h
theorem flat_made {z : Array Value} (h : z.toList.all flat1 = true) (hz : 0 < z.size) (n : Nat) : (madeCells z n).toList.all flat1 = true := by
 rw [List.all_eq_true]
 intro v hv
 simp only [madeCells, Array.toList_map, List.mem_map] at hv
 obtain ⟨j, _, rfl⟩ := hv
 have hl : j % z.size < z.size := Nat.mod_lt _ hz
 rw [getElem!_pos z _ hl]
 exact List.all_eq_true.1 h _ (by simp)
theorem Rel.laid {P : Program} {w0 : World} {r : Rho} {A : Mem} {w : World} (h : Rel P w0 r A w) {l : List Value} {c : Array Value} (k : LR (VR1 r) l c.toList) (el : TypeId) : Rel P w0 (r ++ [some (w.heap.size, 0)]) (A ++ [some ⟨l, el⟩]) (w.alloc (.cells c el)) :=
 h.alloc ⟨l, el⟩ c 0 (by have := k.1; simp at this ⊢; omega) (fun j v e => by obtain ⟨v', a, b⟩ := k.2 j v e; exact ⟨v', by simpa using a, b⟩)
/-- what such an operation does: a row is laid -/
theorem evN_core {P : Program} {w : World} {r : Rho} {id : Nat} {e : Operand → Option Value} {e' : Operand → Value} {o : Oper} {v : Value} {b : Blk} (h : evN P id e o = some (v, b)) (k : OpsRel r e e' o.op) :
  ∃ v' c, (execOp e' o).run P w = .ok (.value v') (w.alloc (.cells c b.elem)) ∧ LR (VR1 r) b.cells c.toList ∧ ∀ r' : Rho, r'[id]? = some (some (w.heap.size, 0)) → VRel r' v v' := by
 obtain ⟨dst, op, type, pos, after, guard⟩ := o
 unfold evN at h
 simp only at h
 cases op
 case alloc el =>
  simp only at h
  split at h
  ·
   rename_i i qi
   split at h
   ·
    rename_i z qz
    split at h
    ·
     rename_i hf
     cases h
     refine ⟨.pointer (some ⟨w.heap.size, 0, none⟩), z.cells, ?_, flat_cells hf, fun r' hl => .of1 (.ptr hl)⟩
     simp [execOp, Instr.alloc, zeroValue, typeInfo, qi, qz, newVar, newRow]
    · cases h
   · cases h
  · cases h
 case box el x =>
  simp only at h
  split at h
  ·
   rename_i u qu
   split at h
   ·
    rename_i l ql
    cases h
    have hx := k x (by simp [Op.operands]) _ qu
    refine ⟨.pointer (some ⟨w.heap.size, 0, none⟩), (e' x).cells, ?_, cellsO_rel ql hx, fun r' hl => .of1 (.ptr hl)⟩
    simp [execOp, Instr.box, newVar, newRow]
   · cases h
  · cases h
 case makeSlice t l c =>
  simp only at h
  split at h
  ·
   rename_i el k1 n k2 m qt q1 q2
   split at h
   ·
    rename_i i qi
    split at h
    ·
     rename_i z qz
     split at h
     ·
      rename_i hf
      rw [Bool.and_eq_true, decide_eq_true_eq] at hf
      obtain ⟨hf, c1, c2, c3, c4, c5⟩ := hf
      rw [madeF_eq c5] at h
      cases h
      have h1 := (k l (by simp [Op.operands]) _ q1).int
      have h2 := (k c (by simp [Op.operands]) _ q2).int
      refine ⟨.slice (some ⟨w.heap.size, 0, none⟩) n.toNat m.toNat, _, ?_, flat_cells (flat_made hf c5 _), fun r' hl => .of1 (.exact hl)⟩
      simp only [execOp, h1, h2]
      rw [Sem.run_bind, run_make w t el i z qt qi qz k1 k2 n m c1 c2 c3 c4]
      rfl
     · cases h
    · cases h
   · cases h
  · cases h
 case buildSlice t len parts =>
  simp only at h
  split at h
  ·
   rename_i el qt
   split at h
   ·
    rename_i i qi
    split at h
    ·
     rename_i z qz
     split at h
     ·
      rename_i hf
      rw [Bool.and_eq_true, Bool.and_eq_true, decide_eq_true_eq] at hf
      obtain ⟨⟨hf, c2, c3⟩, hp⟩ := hf
      split at h
      ·
       rename_i cells qf
       cases h
       have hp' : ∀ p ∈ parts.toList, ∃ u, e p.2 = some u ∧ (cellsO u).isSome = true := by
        intro p hm
        have := List.all_eq_true.1 hp p hm
        unfold partO at this
        cases q : e p.2 with
        | none => rw [q] at this; cases this
        | some u => rw [q] at this; exact ⟨u, rfl, this⟩
       have pr : PR r (parts.toList.map fun p => (p.1, (e p.2).getD undef)) (parts.toList.map fun p => (p.1, e' p.2)) := by
        refine ⟨by simp, fun j n u hj => ?_⟩
        simp only [List.getElem?_map] at hj ⊢
        cases q : parts.toList[j]? with
        | none => rw [q] at hj; cases hj
        | some p =>
         rw [q] at hj
         simp only [Option.map_some, Option.some.injEq, Prod.mk.injEq] at hj ⊢
         obtain ⟨u', hu, _⟩ := hp' p (List.mem_of_getElem? q)
         rw [hu] at hj
         obtain ⟨rfl, rfl⟩ := hj
         refine ⟨e' p.2, ⟨rfl, rfl⟩, k p.2 ?_ _ hu⟩
         simp only [Op.operands]
         simp
         exact ⟨p.1, by simpa using List.mem_of_getElem? q⟩
       obtain ⟨out', f1, f2⟩ := fill_rel (r := r) _ _ _ _ (madeCells z.cells (len * i.size)) cells pr (by
        intro p hm
        simp only [List.mem_map] at hm
        obtain ⟨p0, hm, rfl⟩ := hm
        obtain ⟨u, hu, hc⟩ := hp' p0 hm
        simp only [hu, Option.getD_some]; exact hc) (flat_cells (flat_made hf c3 _)) qf
       refine ⟨.slice (some ⟨w.heap.size, 0, none⟩) len len, out', ?_, f2, fun r' hl => .of1 (.exact hl)⟩
       have hm : ¬ 16777216 < len * i.size := by omega
       have f1' : Instr.fill (fun j => some (j * i.size, i.size)) ((Array.range (len * i.size)).map (z.cells[· % z.cells.size]!)) (parts.map fun p => (p.1, e' p.2)).toList = some out' := by
        rw [Array.toList_map]; exact f1
       by_cases hn : len * i.size = 0
       ·
        have f2' : Instr.fill (fun j => some (j * i.size, i.size)) #[] (parts.map fun p => (p.1, e' p.2)).toList = some out' := by
         rw [hn] at f1'
         have e0 : (Array.range 0).map (fun x => z.cells[x % z.cells.size]!) = #[] := by simp
         rw [e0] at f1'
         exact f1'
        simp only [Array.toList_map] at f2'
        simp [execOp, Instr.buildSlice, run_underlying qt, sizeOf, typeInfo, qi, zeroValue, qz, hn, newRow]
        have e1 : Array.map (fun _ => (default : Value)) (Array.range 0) = #[] := by simp
        rw [e1, f2']
        simp
       ·
        simp [execOp, Instr.buildSlice, run_underlying qt, sizeOf, typeInfo, qi, zeroValue, qz, hn, hm, newRow]
        simp only [Array.toList_map] at f1'
        rw [f1']
        simp
      · cases h
     · cases h
    · cases h
   · cases h
  · cases h
 all_goals cases h
theorem evN_sound {P : Program} {w0 w : World} {r : Rho} {A : Mem} {e : Operand → Option Value} {e' : Operand → Value} {o : Oper} {v : Value} {b : Blk} (h : evN P A.length e o = some (v, b)) (k : OpsRel r e e' o.op) (hr : Rel P w0 r A w) :
  ∃ v' w', (execOp e' o).run P w = .ok (.value v') w' ∧ VRel (r ++ [some (w.heap.size, 0)]) v v' ∧ Rel P w0 (r ++ [some (w.heap.size, 0)]) (A ++ [some b]) w' := by
 obtain ⟨v', c, h1, h2, h3⟩ := evN_core (w := w) h k
 exact ⟨v', _, h1, h3 _ (by rw [← hr.len]; simp), hr.laid h2 b.elem⟩
/-- a block that was told already is laid now -/
theorem Rel.laidAt {P : Program} {w0 : World} {r : Rho} {A : Mem} {w : World} (h : Rel P w0 r A w) {p : Nat} {b : Blk} {c : Array Value} (hp : r[p]? = some none) (hA : A[p]? = some (some b)) (k : LR (VR1 r) b.cells c.toList) : Rel P w0 (r.set p (some (w.heap.size, 0))) A (w.alloc (.cells c b.elem)) := by
 have hlt : p < r.length := by
  rcases Nat.lt_or_ge p r.length with q | q
  · exact q
  · rw [List.getElem?_eq_none q] at hp; cases hp
 have hsz := h.below.size
 have at_p : (r.set p (some (w.heap.size, 0)))[p]? = some (some (w.heap.size, 0)) := by rw [List.getElem?_set_self hlt]
 have off_p : ∀ i, i ≠ p → (r.set p (some (w.heap.size, 0)))[i]? = r[i]? := fun i hi => List.getElem?_set_ne (fun q => hi q.symm)
 have hwk : r.wk (r.set p (some (w.heap.size, 0))) := by
  intro i x e
  by_cases q : i = p
  · subst q; rw [hp] at e; cases e
  · rw [off_p i q]; exact e
 have old : ∀ (i : Nat) (b' : Blk) (g t : Nat), A[i]? = some (some b') → r[i]? = some (some (g, t)) → g < w.heap.size := by
  intro i b' g t e f
  obtain ⟨c, _, k3, _⟩ := h.there i b' g t e f
  exact (Array.getElem?_eq_some_iff.1 k3).1
 refine ⟨by simp [h.len], h.below.alloc hsz _, ?_, ro_wk hwk h.ro, ?_, h.ex⟩
 ·
  intro i b' g t e f
  by_cases q : i = p
  ·
   subst q
   rw [at_p] at f
   rw [hA] at e
   simp only [Option.some.injEq, Prod.mk.injEq] at f e
   obtain ⟨rfl, rfl⟩ := f
   subst e
   exact ⟨c, hsz, heap_alloc_new _ _, by have := k.1; simp at this ⊢; omega, fun j v hj => by obtain ⟨v', a1, a2⟩ := k.2 j v hj; exact ⟨v', by simpa using a1, a2.mono hwk⟩⟩
  ·
   rw [off_p i q] at f
   obtain ⟨c', k2, k3, k4, k5⟩ := h.there i b' g t e f
   refine ⟨c', k2, ?_, k4, fun j v hj => let ⟨v', a1, a2⟩ := k5 j v hj; ⟨v', a1, a2.mono hwk⟩⟩
   rw [Below.heap_alloc _ _ _ (Array.getElem?_eq_some_iff.1 k3).1]; exact k3
 ·
  intro i j bi bj g s1 s2 e1 e2 f1 f2
  by_cases qi : i = p <;> by_cases qj : j = p
  · rw [qi, qj]
  ·
   rw [qi, at_p] at f1
   rw [off_p j qj] at f2
   have := old j bj g s2 e2 f2
   simp at f1
   omega
  ·
   rw [qj, at_p] at f2
   rw [off_p i qi] at f1
   have := old i bi g s1 e1 f1
   simp at f2
   omega
  ·
   rw [off_p i qi] at f1
   rw [off_p j qj] at f2
   exact h.inj i j bi bj g s1 s2 e1 e2 f1 f2
end Go.Proofs.YtfgfofedacehiaaGreat

/-
 OWN TEXT: an evaluator for calls without open arguments. Stores, copies, appends.
-/
namespace Go.Proofs.YtfgfofedacehiaaGreat
open Go.RowKit
set_option linter.unusedVariables false
set_option linter.unusedSimpArgs false
/-- a list, and one that begins like it -/
def PX (R : Value → Value → Prop) (l l' : List Value) : Prop := l.length ≤ l'.length ∧ ∀ (i : Nat) (v : Value), l[i]? = some v → ∃ v', l'[i]? = some v' ∧ R v v'
theorem LR.px {R : Value → Value → Prop} {l l' : List Value} (h : LR R l l') : PX R l l' := ⟨by have := h.1; omega, h.2⟩
theorem PX.splice {R : Value → Value → Prop} {l l' m m' : List Value} (h : PX R l l') (k : LR R m m') (o : Nat) (ho : o + m.length ≤ l.length) : PX R (l.take o ++ m ++ l.drop (o + m.length)) (l'.take o ++ m' ++ l'.drop (o + m'.length)) := by
 have e1 := h.1
 have e2 := k.1
 refine ⟨by simp; omega, fun i v e => ?_⟩
 rcases Nat.lt_or_ge i o with c | c
 ·
  rw [List.append_assoc, List.getElem?_append_left (by simp; omega), List.getElem?_take, if_pos c] at e
  obtain ⟨v', a1, a2⟩ := h.2 i v e
  exact ⟨v', by rw [List.append_assoc, List.getElem?_append_left (by simp; omega), List.getElem?_take, if_pos c]; exact a1, a2⟩
 ·
  have l1 : (l.take o).length = o := by simp; omega
  have l2 : (l'.take o).length = o := by simp; omega
  rw [List.append_assoc, List.getElem?_append_right (by omega), l1] at e
  rw [List.append_assoc, List.getElem?_append_right (by omega), l2]
  rcases Nat.lt_or_ge (i - o) m.length with d | d
  ·
   rw [List.getElem?_append_left d] at e
   rw [List.getElem?_append_left (by omega)]
   exact k.2 _ v e
  ·
   rw [List.getElem?_append_right d, List.getElem?_drop] at e
   rw [List.getElem?_append_right (by omega), List.getElem?_drop]
   obtain ⟨v', a1, a2⟩ := h.2 _ v e
   refine ⟨v', ?_, a2⟩
   rw [← a1]
   congr 1
   omega
theorem PX.window {R : Value → Value → Prop} {l l' : List Value} (h : PX R l l') (a n : Nat) (ha : a + n ≤ l.length) : LR R ((l.drop a).take n) ((l'.drop a).take n) := by
 have := h.1
 refine ⟨by simp; omega, fun i v e => ?_⟩
 simp only [List.getElem?_take, List.getElem?_drop] at e ⊢
 split at e
 ·
  rename_i c
  obtain ⟨v', e', k⟩ := h.2 _ v e
  exact ⟨v', by rw [if_pos c]; exact e', k⟩
 · cases e
theorem Rel.row {P : Program} {w0 : World} {r : Rho} {A : Mem} {w : World} (h : Rel P w0 r A w) {i g s : Nat} {b : Blk} (hA : A[i]? = some (some b)) (hr : r[i]? = some (some (g, s))) :
  ∃ c, w.heap[g]? = some (.cells c b.elem (0, 0)) ∧ w0.heap.size ≤ g ∧ b.cells.length + s * szOf P b.elem ≤ c.size ∧ PX (VR1 r) b.cells c.toList := by
 obtain ⟨c, k2, k3, k4, k5⟩ := h.there i b g s hA hr
 exact ⟨c, k3, k2, k4, by simp; omega, fun j v e => by obtain ⟨v', a1, a2⟩ := k5 j v e; exact ⟨v', by simpa using a1, a2⟩⟩
/-- cells are written over others, in a block that is there -/
theorem Rel.splice {P : Program} {w0 : World} {r : Rho} {A : Mem} {w : World} (h : Rel P w0 r A w) {i g s : Nat} {b : Blk} {c : Array Value} (hA : A[i]? = some (some b)) (hr : r[i]? = some (some (g, s))) (hg : w.heap[g]? = some (.cells c b.elem (0, 0)))
  {l l' : List Value} (hl : LR (VR1 r) l l') (o : Nat) (ho : o + l.length ≤ b.cells.length) :
  (storeCells ⟨g, o, none⟩ l').run P w = .ok () (w.setRow g (c.toList.take o ++ l' ++ c.toList.drop (o + l'.length)).toArray) ∧
  Rel P w0 r (A.set i (some ⟨b.cells.take o ++ l ++ b.cells.drop (o + l.length), b.elem⟩)) (w.setRow g (c.toList.take o ++ l' ++ c.toList.drop (o + l'.length)).toArray) := by
 obtain ⟨c2, hg2, hlow, hs, px⟩ := h.row hA hr
 rw [hg] at hg2
 cases hg2
 have e1 := hl.1
 have hsz : b.cells.length ≤ c.size := by omega
 constructor
 ·
  have := run_storeCells_at P g o b.elem l' 0 c w hg (by omega) hl.one
  simpa using this
 ·
  refine h.write hA hr hg hlow _ _ ?_ ?_
  · simp; omega
  ·
   intro j v e
   obtain ⟨v', a1, a2⟩ := (px.splice hl o ho).2 j v e
   exact ⟨v', by simpa using a1, a2⟩
/-- how memory turns -/
inductive Dl where
 | same
 | push (b : Blk)
 | set (i : Nat) (b : Blk)
 | turn (i : Nat) (b : Blk)
 | whole (A : Mem)
def Dl.app (A : Mem) : Dl → Mem
 | .same => A
 | .push b => A ++ [some b]
 | .set i b => A.set i (some b)
 | .turn i b => A.set i none ++ [some b]
 | .whole B => B
def storeD (P : Program) (A : Mem) (e : Operand → Option Value) (o : Oper) : Option Dl :=
 match o.op with
 | .store t x y =>
  match e x, e y with
  | some (.pointer (some ⟨b, off, none⟩)), some v =>
   match A[b]?, cellsO v, P.info? t with
   | some (some blk), some l, some i =>
    if l.length = i.size ∧ off + l.length ≤ blk.cells.length then some (.set b ⟨blk.cells.take off ++ l ++ blk.cells.drop (off + l.length), blk.elem⟩) else none
   | _, _, _ => none
  | _, _ => none
 | _ => none
def evStore (P : Program) (A : Mem) (e : Operand → Option Value) (o : Oper) : Option Mem := (storeD P A e o).map (Dl.app A)
theorem map_some {α β : Type} {f : α → β} {x : Option α} {y : β} (h : x.map f = some y) : ∃ d, x = some d ∧ y = f d := by
 cases x with
 | none => cases h
 | some d => cases h; exact ⟨d, rfl, rfl⟩
theorem evStore_sound {P : Program} {w0 w : World} {r : Rho} {A A' : Mem} {e : Operand → Option Value} {e' : Operand → Value} {o : Oper} (h : evStore P A e o = some A') (k : OpsRel r e e' o.op) (hr : Rel P w0 r A w) :
  ∃ w', (execOp e' o).run P w = .ok .skip w' ∧ Rel P w0 r A' w' ∧ Keep r A A' := by
 obtain ⟨d, hd, hA'⟩ := map_some h
 clear h
 subst hA'
 have h := hd
 clear hd
 obtain ⟨dst, op, type, pos, after, guard⟩ := o
 unfold storeD at h
 simp only at h
 cases op
 case store t x y =>
  simp only at h
  split at h
  ·
   rename_i b off v q1 q2
   have hx := k x (by simp [Op.operands]) _ q1
   have hy := k y (by simp [Op.operands]) _ q2
   obtain ⟨g, s, h1, h2⟩ := hx.inv_ptr
   split at h
   ·
    rename_i blk l i qb ql qi
    split at h
    ·
     rename_i c
     cases h
     obtain ⟨cc, hg, _, _, _⟩ := hr.row qb h1
     have hl := cellsO_rel ql hy
     obtain ⟨r1, r2⟩ := hr.splice qb h1 hg hl off c.2
     refine ⟨_, ?_, r2, Keep.set h1 _⟩
     have hsz : (e' y).cells.size = i.size := by have := hl.1; simp at this; omega
     simp [execOp, h2, Instr.storeAt, Instr.sureAddr, storeVar, sizeOf, typeInfo, qi, hsz, r1]
    · cases h
   · cases h
  · cases h
 all_goals cases h
/-- a slice's block, offset, length: nothing where it is nil -/
def partsO (A : Mem) (size n : Nat) : Value → Option (List Value)
 | .slice none _ _ => if n = 0 then some [] else none
 | .slice (some ⟨b, off, _⟩) _ _ => match A[b]? with | some (some blk) => if off + n * size ≤ blk.cells.length then some ((blk.cells.drop off).take (n * size)) else none | _ => none
 | _ => none
theorem VRel.inv_slices {r : Rho} {a : Option Addr} {n c : Nat} {v' : Value} (h : VRel r (.slice a n c) v') : (a = none ∧ v' = .slice none n c) ∨ ∃ b o sp g s c', a = some ⟨b, o, sp⟩ ∧ r[b]? = some (some (g, s)) ∧ v' = .slice (some ⟨g, o, none⟩) n c' ∧ c ≤ c' ∧ ((sp = none ∧ c' = c) ∨ (sp.isSome = true ∧ c' = c + s)) := by
 cases a with
 | none => exact Or.inl ⟨rfl, h.same rfl⟩
 | some a =>
  obtain ⟨b, o, sp⟩ := a
  cases sp with
  | none => obtain ⟨g, s, h1, h2⟩ := h.inv_slice; exact Or.inr ⟨b, o, none, g, s, c, rfl, h1, h2, Nat.le_refl _, Or.inl ⟨rfl, rfl⟩⟩
  | some k => obtain ⟨g, s, h1, h2⟩ := h.inv_loose; exact Or.inr ⟨b, o, some k, g, s, c + s, rfl, h1, h2, by omega, Or.inr ⟨rfl, rfl⟩⟩
/-- the first cells of a slice, as the world has them -/
theorem parts_run {P : Program} {w0 w : World} {r : Rho} {A : Mem} {size n : Nat} {v v' : Value} {l : List Value} (h : partsO A size n v = some l) (k : VRel r v v') (hr : Rel P w0 r A w) :
  ∃ l', (Builtin.firstCells size n v').run P w = .ok l'.toArray w ∧ (Builtin.firstCells size n v').run P w.drew = .ok l'.toArray w.drew ∧ LR (VR1 r) l l' ∧ l.length = n * size := by
 cases v with
 | slice a len c =>
  rcases k.inv_slices with ⟨rfl, rfl⟩ | ⟨b, o, sp, g, s, c', rfl, h1, rfl, _, _⟩
  ·
   simp only [partsO] at h
   split at h
   ·
    rename_i hn
    cases h
    subst hn
    exact ⟨[], rfl, rfl, ⟨rfl, fun i v e => by simp at e⟩, by simp⟩
   · cases h
  ·
   simp only [partsO] at h
   split at h
   ·
    rename_i blk qb
    split at h
    ·
     rename_i hle
     cases h
     obtain ⟨cc, hg, _, hs, px⟩ := hr.row qb h1
     have hlr := px.window o (n * size) hle
     have hlen : ((blk.cells.drop o).take (n * size)).length = n * size := by simp; omega
     have hlen' : ((cc.toList.drop o).take (n * size)).length = n * size := by rw [← hlr.1]; exact hlen
     have cell : ∀ (j : Nat) (u : Value), ((cc.toList.drop o).take (n * size))[j]? = some u → w.cell? ((⟨g, o, none⟩ : Addr).add j) = some u := by
      intro j u hu
      simp only [List.getElem?_take, List.getElem?_drop] at hu
      split at hu
      · rw [add_plain]; simp only [World.cell?, hg, Option.isSome_none, Bool.false_eq_true, if_false]; simpa using hu
      · cases hu
     refine ⟨(cc.toList.drop o).take (n * size), ?_, ?_, hlr, hlen⟩
     ·
      have := run_loadCells_list (P := P) w ⟨g, o, none⟩ _ cell
      rw [hlen'] at this
      exact this
     ·
      have := run_loadCells_list (P := P) w.drew ⟨g, o, none⟩ _ cell
      rw [hlen'] at this
      exact this
    · cases h
   · cases h
 | _ => cases h
def copyD (P : Program) (A : Mem) (e : Operand → Option Value) (o : Oper) : Option (Value × Dl) :=
 match o.op with
 | .call c =>
  match c.callee, c.args.toList, c.argTypes.toList with
  | .builtin .copy, [d, s], [dT, sT] =>
   match e d, e s, P.underlying dT with
   | some (.slice (some ⟨b, off, _⟩) dl _), some (.slice a sl sc), some (.slice el) =>
    match A[b]?, partsO A (szOf P el) (Nat.min sl dl) (.slice a sl sc) with
    | some (some blk), some l => if szOf P el ≠ 0 ∧ off + l.length ≤ blk.cells.length then some (.int .i64 (Nat.min sl dl : Nat), .set b ⟨blk.cells.take off ++ l ++ blk.cells.drop (off + l.length), blk.elem⟩) else none
    | _, _ => none
   | _, _, _ => none
  | _, _, _ => none
 | _ => none
def evCopy (P : Program) (A : Mem) (e : Operand → Option Value) (o : Oper) : Option (Value × Mem) := (copyD P A e o).map fun x => (x.1, x.2.app A)
theorem evCopy_sound {P : Program} {w0 w : World} {r : Rho} {A A' : Mem} {e : Operand → Option Value} {e' : Operand → Value} {o : Oper} {v : Value} (h : evCopy P A e o = some (v, A')) (k : OpsRel r e e' o.op) (hr : Rel P w0 r A w) :
  ∃ w', (execOp e' o).run P w = .ok (.value v) w' ∧ VRel r v v ∧ Rel P w0 r A' w' ∧ Keep r A A' := by
 obtain ⟨d0, hd, hA'⟩ := map_some h
 clear h
 obtain ⟨d1, d2⟩ := d0
 cases hA'
 have h := hd
 clear hd
 obtain ⟨dst, op, type, pos, after, guard⟩ := o
 unfold copyD at h
 simp only at h
 cases op
 case call c =>
  obtain ⟨callee, args, argTypes⟩ := c
  simp only at h
  split at h
  ·
   rename_i d s dT sT qa qt
   obtain rfl : args = #[d, s] := by apply Array.ext'; simpa using qa
   obtain rfl : argTypes = #[dT, sT] := by apply Array.ext'; simpa using qt
   split at h
   ·
    rename_i b off sp dl dc a sl sc el q1 q2 qu
    have hd := k d (by simp [Op.operands, Call.operands]) _ q1
    have hs := k s (by simp [Op.operands, Call.operands]) _ q2
    split at h
    ·
     rename_i blk l qb ql
     split at h
     ·
      rename_i c
      cases h
      obtain ⟨l', f1, _, hlr, hlen⟩ := parts_run ql hs hr
      rcases hd.inv_slices with ⟨q, _⟩ | ⟨b', o', sp', g, sk, c', q, h1, h2, _, _⟩
      · cases q
      ·
       simp only [Option.some.injEq, Addr.mk.injEq] at q
       obtain ⟨rfl, rfl, rfl⟩ := q
       obtain ⟨cc, hg, _, _, _⟩ := hr.row qb h1
       obtain ⟨r1, r2⟩ := hr.splice qb h1 hg hlr off c.2
       obtain ⟨i, hi1, hi2⟩ := szOf_info c.1
       refine ⟨_, ?_, VRel.of_flat r rfl, r2, Keep.set h1 _⟩
       have hlenOf : ∀ w, (Builtin.lenOf (e' s)).run P w = .ok sl w := by
        intro w
        rcases hs.inv_slices with ⟨_, q⟩ | ⟨_, _, _, _, _, _, _, _, q, _, _⟩ <;> rw [q] <;> rfl
       simp [execOp, resolve, invoke, builtin, h2, Builtin.copy_, run_underlying qu, hlenOf, sizeOf, typeInfo, hi1, hi2, f1, r1, goInt]
     · cases h
    · cases h
   · cases h
  · cases h
 all_goals cases h
end Go.Proofs.YtfgfofedacehiaaGreat

/-
 OWN TEXT: an evaluator for calls without open arguments. Appends: the room is any number.
-/
namespace Go.Proofs.YtfgfofedacehiaaGreat
open Go.RowKit
set_option linter.unusedVariables false
set_option linter.unusedSimpArgs false
theorem mem_push {A : Mem} {x : Option Blk} {i : Nat} {b : Blk} (e : (A ++ [x])[i]? = some (some b)) : A[i]? = some (some b) ∨ (i = A.length ∧ x = some b) := by
 rcases Nat.lt_or_ge i A.length with hi | hi
 · rw [List.getElem?_append_left hi] at e; exact Or.inl e
 ·
  rw [List.getElem?_append_right hi] at e
  rcases Nat.eq_or_lt_of_le hi with hi' | hi'
  ·
   rw [hi', Nat.sub_self] at e
   simp at e
   exact Or.inr ⟨hi'.symm, e⟩
  · rw [List.getElem?_eq_none (by simp; omega)] at e; cases e
theorem Rel.regrow {P : Program} {w0 : World} {r : Rho} {A : Mem} {w : World} (h : Rel P w0 r A w) {i : Nat} {b : Blk} {g s : Nat} {c : Array Value} (hA : A[i]? = some (some b)) (hr : r[i]? = some (some (g, s))) (hg : w.heap[g]? = some (.cells c b.elem (0, 0))) (hlow : w0.heap.size ≤ g)
  (l : List Value) (c' : Array Value) (s' : Nat) (hl : l.length + s' * szOf P b.elem ≤ c'.size) (hv : ∀ (j : Nat) (v : Value), l[j]? = some v → ∃ v', c'[j]? = some v' ∧ VR1 r v v') : Rel P w0 (r ++ [some (g, s')]) (A.set i none ++ [some ⟨l, b.elem⟩]) (w.setRow g c') := by
 have hle := (Rho.le.push r (some (g, s'))).wk
 have back : ∀ (j : Nat) (b' : Blk), (A.set i none)[j]? = some (some b') → j ≠ i ∧ A[j]? = some (some b') := by
  intro j b' e
  rw [List.getElem?_set] at e
  split at e
  · split at e <;> cases e
  · rename_i q; exact ⟨fun x => q x.symm, e⟩
 have hlast : (r ++ [some (g, s')])[(A.set i none).length]? = some (some (g, s')) := by simp [h.len.symm]
 have oldr : ∀ j, j < A.length → (r ++ [some (g, s')])[j]? = r[j]? := fun j hj => List.getElem?_append_left (by rw [h.len]; exact hj)
 have lt : ∀ (j : Nat) (b' : Blk), (A.set i none)[j]? = some (some b') → j < A.length := by
  intro j b' e
  rcases Nat.lt_or_ge j A.length with c | c
  · exact c
  · rw [List.getElem?_eq_none (by simpa using c)] at e; cases e
 have ne : ∀ (j : Nat) (b' : Blk) (g2 s2 : Nat), (A.set i none)[j]? = some (some b') → r[j]? = some (some (g2, s2)) → g2 ≠ g := by
  intro j b' g2 s2 e k1 x
  obtain ⟨q, e'⟩ := back j b' e
  subst x
  exact q (h.inj j i b' b g2 s2 s e' hA k1 hr)
 refine ⟨by simp [h.len], below_setRow h.below hlow _, ?_, ro_wk hle h.ro, ?_, h.ex⟩
 ·
  intro j b' g2 s2 e f
  rcases mem_push e with d | ⟨hj, d⟩
  ·
   rw [oldr j (lt j b' d)] at f
   obtain ⟨q, e'⟩ := back j b' d
   obtain ⟨c2, k2, k3, k4, k5⟩ := h.there j b' g2 s2 e' f
   refine ⟨c2, k2, ?_, k4, fun j v hj => let ⟨v', a1, a2⟩ := k5 j v hj; ⟨v', a1, a2.mono hle⟩⟩
   rw [setRow_other _ _ _ _ (ne j b' g2 s2 d f)]
   exact k3
  ·
   rw [hj, hlast] at f
   simp only [Option.some.injEq, Prod.mk.injEq] at f
   obtain ⟨rfl, rfl⟩ := f
   cases d
   exact ⟨c', hlow, setRow_heap w g c c' b.elem (0, 0) hg, hl, fun j v hj => let ⟨v', a1, a2⟩ := hv j v hj; ⟨v', a1, a2.mono hle⟩⟩
 ·
  intro j k bj bk g2 s2 s3 e1 e2 f1 f2
  rcases mem_push e1 with d1 | ⟨hj, _⟩ <;> rcases mem_push e2 with d2 | ⟨hk, _⟩
  ·
   rw [oldr j (lt j bj d1)] at f1
   rw [oldr k (lt k bk d2)] at f2
   exact h.inj j k bj bk g2 s2 s3 (back _ _ d1).2 (back _ _ d2).2 f1 f2
  ·
   rw [oldr j (lt j bj d1)] at f1
   rw [hk, hlast] at f2
   simp at f2
   exact absurd f2.1.symm (ne j bj g2 s2 d1 f1)
  ·
   rw [oldr k (lt k bk d2)] at f2
   rw [hj, hlast] at f1
   simp at f1
   exact absurd f1.1.symm (ne k bk g2 s3 d2 f2)
  · rw [hj, hk]
/-- where there is no room -/
def growD (P : Program) (A : Mem) (i : TypeInfo) (z : Value) (el : TypeId) (a : Option Addr) (len cap n : Nat) (news : List Value) : Option (Value × Dl) :=
 if z.cells.size = i.size ∧ (len + n) * i.bytes ≤ 140737488355328 ∧ len + n ≤ 9223372036854775807 ∧ i.size ≠ 0 ∧ cap < len + n ∧ szOf P el = i.size then
  match partsO A i.size len (.slice a len cap) with
  | some olds =>
   match a with
   | none | some ⟨_, _, none⟩ => some (.slice (some ⟨A.length, 0, some 0⟩) (len + n) (len + n), .push ⟨olds ++ news, el⟩)
   | some ⟨b, off, some _⟩ =>
    match A[b]? with
    | some (some blk) => if off = 0 ∧ blk.elem = el ∧ cap * i.size ≤ blk.cells.length ∧ len ≤ cap then some (.slice (some ⟨A.length, 0, some 0⟩) (len + n) (len + n), .turn b ⟨olds ++ news, el⟩) else none
    | _ => none
  | none => none
 else none
/-- noughts behind a row, where there is room -/
def zeroD (P : Program) (A : Mem) (el : TypeId) (b off : Nat) (sp : Option Nat) (len cap n : Nat) : Option (Value × Dl) :=
 match P.info? el with
 | some i => match i.zero with
  | some z => match z.cells.toList with
   | [z0] => match A[b]? with
    | some (some blk) => if i.size = 1 ∧ flat1 z0 = true ∧ n * i.bytes ≤ 140737488355328 ∧ n ≤ 9223372036854775807 ∧ len + n ≤ cap ∧ off + len + n ≤ blk.cells.length then some (.slice (some ⟨b, off, sp⟩) (len + n) cap, .set b ⟨blk.cells.take (off + len) ++ List.replicate n z0 ++ blk.cells.drop (off + len + n), blk.elem⟩) else none
    | _ => none
   | _ => none
  | none => none
 | none => none
def appendD (P : Program) (A : Mem) (e : Operand → Option Value) (o : Oper) : Option (Value × Dl) :=
 match o.op with
 | .call c =>
  match c.callee, c.args.toList, c.argTypes.toList with
  | .builtin .append, [s, x], [t, tx] =>
   match e s, e x, P.underlying t, P.underlying tx with
   | some (.slice a len cap), some (.slice xa n xc), some (.slice el), some (.slice _) =>
    match P.info? el with
    | some i => match i.zero with
     | some z =>
      match partsO A i.size n (.slice xa n xc) with
      | some news =>
       if len + n ≤ cap then
        match a with
        | none => if n = 0 then some (.slice none len cap, .same) else none
        | some ⟨b, off, sp⟩ =>
         match A[b]? with
         | some (some blk) => if off + len * i.size + news.length ≤ blk.cells.length then some (.slice (some ⟨b, off, sp⟩) (len + n) cap, .set b ⟨blk.cells.take (off + len * i.size) ++ news ++ blk.cells.drop (off + len * i.size + news.length), blk.elem⟩) else none
         | _ => none
       else growD P A i z el a len cap n news
      | none => none
     | none => none
    | none => none
   | some (.slice (some ⟨b, off, sp⟩) len cap), some (.int _ (.ofNat n)), some (.slice el), some (.int _) => zeroD P A el b off sp len cap n
   | _, _, _, _ => none
  | _, _, _ => none
 | _ => none
def evAppend (P : Program) (A : Mem) (e : Operand → Option Value) (o : Oper) : Option (Value × Mem) := (appendD P A e o).map fun x => (x.1, x.2.app A)
theorem grown_ge (w : World) (need old : Nat) (e : TypeId) : need ≤ grownCap w need old e := by
 unfold grownCap Question.cut
 exact Nat.le_add_right _ _
theorem LR.append {R : Value → Value → Prop} {l l' m m' : List Value} (h : LR R l l') (k : LR R m m') : LR R (l ++ m) (l' ++ m') := by
 have e1 := h.1
 have e2 := k.1
 refine ⟨by simp [e1, e2], fun i v e => ?_⟩
 rcases Nat.lt_or_ge i l.length with c | c
 ·
  rw [List.getElem?_append_left c] at e
  rw [List.getElem?_append_left (by omega)]
  exact h.2 i v e
 ·
  rw [List.getElem?_append_right c] at e
  rw [List.getElem?_append_right (by omega), ← e1]
  exact k.2 _ v e
theorem src_of {P : Program} {w0 w : World} {r : Rho} {A : Mem} {size n : Nat} {xa : Option Addr} {xc : Nat} {v' : Value} {news : List Value} {tx el' : TypeId} (h : partsO A size n (.slice xa n xc) = some news) (k : VRel r (.slice xa n xc) v') (hr : Rel P w0 r A w) (ht : P.underlying tx = some (.slice el')) :
  ∃ news', Src P size tx v' n news' w ∧ LR (VR1 r) news news' := by
 obtain ⟨l', f1, f2, f3, f4⟩ := parts_run h k hr
 refine ⟨l', ⟨Or.inl ⟨el', ht⟩, ?_, f1, f2, by rw [← f3.1]; exact f4, f3.one⟩, f3⟩
 intro w'
 rcases k.inv_slices with ⟨_, q⟩ | ⟨_, _, _, _, _, _, _, _, q, _, _⟩ <;> rw [q] <;> rfl
theorem zeroCells_size (z : Array Value) (n : Nat) : (Builtin.zeroCells z n).size = n * z.size := by simp [Builtin.zeroCells]
theorem wrap_i64_n (n : Nat) (h : n ≤ 9223372036854775807) : IntKind.i64.wrap (n : Int) = n := by rw [IntKind.wrap_i64]; omega
theorem zeroCells_one (z0 : Value) (n : Nat) : Builtin.zeroCells #[z0] n = (List.replicate n z0).toArray := by
 apply Array.ext
 · simp [Builtin.zeroCells]
 ·
  intro j h1 h2
  simp [Builtin.zeroCells, Nat.mod_one]
theorem LR.rep {r : Rho} {z0 : Value} (h : flat1 z0 = true) (n : Nat) : LR (VR1 r) (List.replicate n z0) (List.replicate n z0) :=
 LR.of_all (f := flat1) (fun v h => VR1.flat h) (by rw [List.all_eq_true]; intro x hx; rw [List.mem_replicate] at hx; rw [hx.2]; exact h)
theorem zeroD_sound {P : Program} {w0 w : World} {r : Rho} {A : Mem} {t tx el type : TypeId} {k : IntKind} {k' : IntKind} {b off : Nat} {sp : Option Nat} {len cap n : Nat} {v : Value} {d : Dl} {s' : Value} (h : zeroD P A el b off sp len cap n = some (v, d)) (hs : VRel r (.slice (some ⟨b, off, sp⟩) len cap) s') (hr : Rel P w0 r A w) (qu : P.underlying t = some (.slice el)) (qx : P.underlying tx = some (.int k)) :
  ∃ r' v' w', r.le r' ∧ (Builtin.append_ #[t, tx] type #[s', .int k' (n : Int)]).run P w = .ok v' w' ∧ VRel r' v v' ∧ Rel P w0 r' (d.app A) w' ∧ Keep r A (d.app A) := by
 unfold zeroD at h
 split at h
 ·
  rename_i i qi
  split at h
  ·
   rename_i z qz
   split at h
   ·
    rename_i z0 qc
    split at h
    ·
     rename_i blk qb
     split at h
     ·
      rename_i cnd
      obtain ⟨c1, c2, c3, c4, c5, c6⟩ := cnd
      cases h
      have hz : z.cells = #[z0] := by apply Array.ext'; simpa using qc
      rcases hs.inv_slices with ⟨q, _⟩ | ⟨b', off', sp', g, sk, c', q, h1, hs', hcap, hsp⟩
      · cases q
      ·
       cases q
       have hlr := LR.rep (r := r) c2 n
       obtain ⟨cc, hg, _, _, _⟩ := hr.row qb h1
       obtain ⟨r1, r2⟩ := hr.splice qb h1 hg hlr (off + len) (by rw [List.length_replicate]; exact c6)
       rw [List.length_replicate] at r1 r2
       refine ⟨r, .slice (some ⟨g, off, none⟩) (len + n) c', _, Rho.le.refl r, ?_, ?_, r2, Keep.set h1 _⟩
       ·
        rw [hs']
        have w1 : IntKind.i64.wrap (n : Int) = n := wrap_i64_n n c4
        have w2 : ¬ ((n : Int) < 0) := by omega
        have w3 : ¬ ((2 : Int) ^ 48 < (n : Int) * (i.bytes : Int)) := by
         have h48 : ((n : Int) * (i.bytes : Int)) ≤ 140737488355328 := by rw [← Int.natCast_mul]; exact Int.ofNat_le.2 c3
         have e48 : (2 : Int) ^ 48 = 281474976710656 := by decide
         rw [e48]
         generalize (n : Int) * (i.bytes : Int) = q at *
         omega
        by_cases n0 : n = 0
        ·
         subst n0
         have w0 : IntKind.i64.wrap 0 = 0 := w1
         have r1' : (storeCells ⟨g, off + len, none⟩ []).run P w = .ok () (w.setRow g (cc.toList.take (off + len) ++ List.replicate 0 z0 ++ cc.toList.drop (off + len + 0)).toArray) := r1
         simp [Builtin.append_, run_underlying qu, run_underlying qx, sizeOf, typeInfo, qi, asInt, asIntOf, w0, c1, show len ≤ c' by omega, add_plain, r1']
        ·
         simp [Builtin.append_, run_underlying qu, run_underlying qx, sizeOf, typeInfo, qi, asInt, asIntOf, w1, w2, w3, c1, n0, show len + n ≤ c' by omega, add_plain, zeroValue, qz, hz, zeroCells_one, r1]
         intro hbad
         have w3' : ¬ ((281474976710656 : Int) < (n : Int) * (i.bytes : Int)) := w3
         exact absurd hbad w3'
       ·
        rcases hsp with ⟨rfl, rfl⟩ | ⟨hsome, rfl⟩
        · exact .of1 (.exact h1)
        ·
         obtain ⟨kk, rfl⟩ := Option.isSome_iff_exists.1 hsome
         exact .of1 (.loose h1)
     · cases h
    · cases h
   · cases h
  · cases h
 · cases h
theorem evAppend_sound {P : Program} {w0 w : World} {r : Rho} {A A' : Mem} {e : Operand → Option Value} {e' : Operand → Value} {o : Oper} {v : Value} (h : evAppend P A e o = some (v, A')) (k : OpsRel r e e' o.op) (hr : Rel P w0 r A w) :
  ∃ r' v' w', r.le r' ∧ (execOp e' o).run P w = .ok (.value v') w' ∧ VRel r' v v' ∧ Rel P w0 r' A' w' ∧ Keep r A A' := by
 obtain ⟨d0, hd, hA'⟩ := map_some h
 clear h
 obtain ⟨d1, d2⟩ := d0
 cases hA'
 have h := hd
 clear hd
 obtain ⟨dst, op, type, pos, after, guard⟩ := o
 unfold appendD at h
 simp only at h
 cases op
 case call c =>
  obtain ⟨callee, args, argTypes⟩ := c
  simp only at h
  split at h
  ·
   rename_i s x t tx qa qt
   obtain rfl : args = #[s, x] := by apply Array.ext'; simpa using qa
   obtain rfl : argTypes = #[t, tx] := by apply Array.ext'; simpa using qt
   split at h
   ·
    rename_i a len cap xa n xc el el' q1 q2 qu qx
    have hs := k s (by simp [Op.operands, Call.operands]) _ q1
    have hx := k x (by simp [Op.operands, Call.operands]) _ q2
    split at h
    ·
     rename_i i qi
     split at h
     ·
      rename_i z qz
      split at h
      ·
       rename_i news qn
       obtain ⟨news', src, hlr⟩ := src_of qn hx hr qx
       have hnl := src.newsLen
       have hll := hlr.1
       have exec : ∀ v' w', (Builtin.append_ #[t, tx] type #[e' s, e' x]).run P w = .ok v' w' → (execOp e' { dst := dst, op := .call { callee := .builtin .append, args := #[s, x], argTypes := #[t, tx] }, type := type, pos := pos, after := after, guard := guard }).run P w = .ok (.value v') w' := by
        intro v' w' hrun
        simp [execOp, resolve, invoke, builtin, hrun]
       split at h
       ·
        rename_i room
        rcases hs.inv_slices with ⟨rfl, hs'⟩ | ⟨b, off, sp, g, sk, c', rfl, h1, hs', hcap, hsp⟩
        ·
         simp only at h
         split at h
         ·
          rename_i n0
          cases h
          subst n0
          refine ⟨r, .slice none len cap, w, Rho.le.refl r, exec _ _ ?_, VRel.of_flat r rfl, hr, Keep.refl r A⟩
          rw [hs']
          rcases src.kind with ⟨e'', hk⟩ | hk
          · simp [Builtin.append_, run_underlying qu, run_underlying hk, sizeOf, typeInfo, qi, src.len, show len ≤ cap by omega, src.cells]
          · rw [qx] at hk; cases hk
         · cases h
        ·
         simp only at h
         split at h
         ·
          rename_i blk qb
          split at h
          ·
           rename_i fit
           cases h
           obtain ⟨cc, hg, _, _, _⟩ := hr.row qb h1
           obtain ⟨r1, r2⟩ := hr.splice qb h1 hg hlr (off + len * i.size) fit
           refine ⟨r, .slice (some ⟨g, off, none⟩) (len + n) c', _, Rho.le.refl r, exec _ _ ?_, ?_, r2, Keep.set h1 _⟩
           ·
            rw [hs']
            rcases src.kind with ⟨e'', hk⟩ | hk
            · simp [Builtin.append_, run_underlying qu, run_underlying hk, sizeOf, typeInfo, qi, src.len, show len + n ≤ c' by omega, src.cells, add_plain, r1]
            · rw [qx] at hk; cases hk
           ·
            rcases hsp with ⟨rfl, rfl⟩ | ⟨hsome, rfl⟩
            · exact .of1 (.exact h1)
            ·
             obtain ⟨kk, rfl⟩ := Option.isSome_iff_exists.1 hsome
             exact .of1 (.loose h1)
          · cases h
         · cases h
       ·
        rename_i noroom
        unfold growD at h
        split at h
        ·
         rename_i cnd
         obtain ⟨z1, z2, z3, z4, z5, z6⟩ := cnd
         split at h
         ·
          rename_i olds qo
          obtain ⟨olds', o1, o2, o3, o4⟩ := parts_run qo hs hr
          -- a new row
          have grow : ∀ (base : Option Addr) (c' : Nat), e' s = .slice base len c' → c' < len + n → ∀ B : Mem, Rel P w0 r B w → ∃ r' v' w', r.le r' ∧ (Builtin.append_ #[t, tx] type #[e' s, e' x]).run P w = .ok v' w' ∧ VRel r' (.slice (some ⟨B.length, 0, some 0⟩) (len + n) (len + n)) v' ∧ Rel P w0 r' (B ++ [some ⟨olds ++ news, el⟩]) w' := by
           intro base c' hb hlt B hB
           have hrun := run_append_grow_src (P := P) w t tx type el i z qu qi qz base len c' olds' (by rw [← hb]; exact o2) (e' x) n news' src hlt (by omega) (growslice_fits hlt z2)
           have gge := grown_ge w (len + n) c' el
           generalize grownCap w (len + n) c' el = G at *
           have ral := hB.drew.alloc ⟨olds ++ news, el⟩ ((olds' ++ news').toArray ++ Builtin.zeroCells z.cells (G - (len + n))) (G - (len + n)) (by
            have e1 := o3.1
            simp only [Array.size_append, zeroCells_size, z1, z6]
            simp
            omega) (by
            intro j u hu
            obtain ⟨u', a1, a2⟩ := (o3.append hlr).2 j u hu
            refine ⟨u', ?_, a2⟩
            have hj : j < (olds' ++ news').length := by
             rcases Nat.lt_or_ge j (olds' ++ news').length with c | c
             · exact c
             · rw [List.getElem?_eq_none c] at a1; cases a1
            rw [Array.getElem?_append_left (by simpa using hj)]
            simpa using a1)
           refine ⟨_, _, _, Rho.le.push r _, by rw [hb]; exact hrun, ?_, ral⟩
           have hlast : (r ++ [some (w.drew.heap.size, G - (len + n))])[B.length]? = some (some (w.drew.heap.size, G - (len + n))) := by rw [← hB.len]; simp
           have vr := VR1.loose (o := 0) (n := len + n) (c := len + n) (k := 0) hlast
           rw [show len + n + (G - (len + n)) = G by omega] at vr
           exact .of1 vr
          rcases hs.inv_slices with ⟨rfl, hs'⟩ | ⟨b, off, sp, g, sk, c', rfl, h1, hs', hcap, hsp⟩
          ·
           simp only at h
           cases h
           obtain ⟨r', v', w', g1, g2, g3, g4⟩ := grow none cap hs' z5 A hr
           exact ⟨r', v', w', g1, exec _ _ g2, g3, g4, (Keep.refl r A).push hr.len _⟩
          ·
           cases sp with
           | none =>
            simp only at h
            cases h
            rcases hsp with ⟨_, rfl⟩ | ⟨hsome, _⟩
            ·
             obtain ⟨r', v', w', g1, g2, g3, g4⟩ := grow (some ⟨g, off, none⟩) c' hs' z5 A hr
             exact ⟨r', v', w', g1, exec _ _ g2, g3, g4, (Keep.refl r A).push hr.len _⟩
            · cases hsome
           | some kk =>
            simp only at h
            split at h
            ·
             rename_i blk qb
             split at h
             ·
              rename_i cd
              obtain ⟨rfl, d2, d3, d4⟩ := cd
              rcases hsp with ⟨q, _⟩ | ⟨_, rfl⟩
              · cases q
              ·
               cases h
               rcases Nat.lt_or_ge (cap + sk) (len + n) with hlt | hge
               ·
                obtain ⟨r', v', w', g1, g2, g3, g4⟩ := grow (some ⟨g, 0, none⟩) (cap + sk) hs' hlt (A.set b none) (hr.kill b)
                rw [List.length_set] at g3
                exact ⟨r', v', w', g1, exec _ _ g2, g3, g4, (Keep.set h1 none).push (by simpa using hr.len) _⟩
               ·
                obtain ⟨cc, hg, hlow, hsz, px⟩ := hr.row qb h1
                rw [d2] at hg hsz
                rw [z6] at hsz
                have hbig : (cap + sk) * i.size ≤ cc.size := by rw [Nat.add_mul]; omega
                have hneed : (len + n) * i.size ≤ (cap + sk) * i.size := Nat.mul_le_mul_right _ hge
                rw [Nat.add_mul] at hneed
                have e1 := o3.1
                have st := run_storeCells_at P g (len * i.size) el news' 0 cc w hg (by omega) src.one
                simp only [Nat.add_zero] at st
                have olds_eq : olds' = cc.toList.take (len * i.size) := by
                 have := o1
                 rw [hs'] at this
                 have cell : ∀ (j : Nat) (u : Value), (cc.toList.take (len * i.size))[j]? = some u → w.cell? ((⟨g, 0, none⟩ : Addr).add j) = some u := by
                  intro j u hu
                  simp only [List.getElem?_take] at hu
                  split at hu
                  · rw [add_plain]; simp only [World.cell?, hg, Option.isSome_none, Bool.false_eq_true, if_false, Nat.zero_add]; simpa using hu
                  · cases hu
                 have hl2 : (cc.toList.take (len * i.size)).length = len * i.size := by simp; omega
                 have ld := run_loadCells_list (P := P) w ⟨g, 0, none⟩ _ cell
                 rw [hl2] at ld
                 have this' : (loadCells ⟨g, 0, none⟩ (len * i.size)).run P w = .ok olds'.toArray w := this
                 rw [ld] at this'
                 simp only [Result.ok.injEq, and_true] at this'
                 have := congrArg Array.toList this'
                 simpa using this.symm
                refine ⟨r ++ [some (g, cap + sk - (len + n))], .slice (some ⟨g, 0, none⟩) (len + n) (cap + sk), w.setRow g (cc.toList.take (len * i.size) ++ news' ++ cc.toList.drop (len * i.size + news'.length)).toArray, Rho.le.push r _, exec _ _ ?_, ?_, ?_, (Keep.set h1 none).push (by simpa using hr.len) _⟩
                ·
                 rw [hs']
                 rcases src.kind with ⟨e'', hk⟩ | hk
                 · simp [Builtin.append_, run_underlying qu, run_underlying hk, sizeOf, typeInfo, qi, src.len, hge, src.cells, add_plain, st]
                 · rw [qx] at hk; cases hk
                ·
                 have hlast : (r ++ [some (g, cap + sk - (len + n))])[A.length]? = some (some (g, cap + sk - (len + n))) := by rw [← hr.len]; simp
                 have vr := VR1.loose (o := 0) (n := len + n) (c := len + n) (k := 0) hlast
                 rw [show len + n + (cap + sk - (len + n)) = cap + sk by omega] at vr
                 exact .of1 vr
                ·
                 have rg := hr.regrow qb h1 (by rw [d2]; exact hg) hlow (olds ++ news) (cc.toList.take (len * i.size) ++ news' ++ cc.toList.drop (len * i.size + news'.length)).toArray (cap + sk - (len + n)) (by
                  rw [d2, z6, Nat.sub_mul, Nat.add_mul]
                  simp only [List.size_toArray, List.length_append, List.length_take, List.length_drop, Array.length_toList]
                  rw [Nat.add_mul] at hbig hneed ⊢
                  omega) (by
                  intro j u hu
                  obtain ⟨u', a1, a2⟩ := (o3.append hlr).2 j u hu
                  refine ⟨u', ?_, a2⟩
                  have hj : j < (olds' ++ news').length := by
                   rcases Nat.lt_or_ge j (olds' ++ news').length with c | c
                   · exact c
                   · rw [List.getElem?_eq_none c] at a1; cases a1
                  rw [← olds_eq]
                  rw [List.getElem?_toArray, List.getElem?_append_left hj]
                  exact a1)
                 rw [d2] at rg
                 exact rg
             · cases h
            · cases h
         · cases h
        · cases h
      · cases h
     · cases h
    · cases h
   ·
    rename_i b off sp len cap kk n el kk2 q1 q2 qu qx
    have hs := k s (by simp [Op.operands, Call.operands]) _ q1
    have hx := (k x (by simp [Op.operands, Call.operands]) _ q2).same rfl
    obtain ⟨r', v', w', g1, g2, g3, g4, g5⟩ := zeroD_sound (type := type) (k' := kk) h hs hr qu qx
    refine ⟨r', v', w', g1, ?_, g3, g4, g5⟩
    have g2' : (Builtin.append_ #[t, tx] type #[e' s, e' x]).run P w = .ok v' w' := by rw [hx]; exact g2
    simp [execOp, resolve, invoke, builtin, g2']
   · cases h
  · cases h
 all_goals cases h
end Go.Proofs.YtfgfofedacehiaaGreat

