/-
  OWN TEXT: an evaluator for calls without open arguments. New blocks, and what is written.
-/
import Derived.Test.YtgaigfmboomnkaaGreatXvC
import Derived.Laws.MakeOwn
namespace Go.Proofs.YtgaigfmboomnkaaGreat
open Go.RowKit
set_option linter.unusedVariables false
set_option linter.unusedSimpArgs false
theorem VR1.one {r : Rho} {v v' : Value} (h : VR1 r v v') : v'.oneCell' = true := by
  cases h with
  | fn => rfl
  | flat h => cases v <;> first | rfl | (simp [flat1] at h)
  | ptr => rfl
  | exact => rfl
  | loose => rfl
theorem LR.one {r : Rho} {l l' : List Value} (h : LR (VR1 r) l l') : ∀ v ∈ l', v.oneCell' = true := by
  intro v hv
  obtain ⟨i, hi, rfl⟩ := List.getElem_of_mem hv
  have hi' : i < l.length := by have := h.1; omega
  obtain ⟨v', e, k⟩ := h.2 i l[i] (List.getElem?_eq_getElem hi')
  rw [List.getElem?_eq_getElem hi] at e
  cases e
  exact k.one
theorem VRel.inv_slices0 {r : Rho} {a : Option Addr} {n c : Nat} {v' : Value} (h : VRel r (.slice a n c) v') : (a = none ∧ v' = .slice none n c) ∨ ∃ ad c', v' = .slice (some ad) n c' ∧ a.isSome = true := by
  cases a with
  | none => exact Or.inl ⟨rfl, h.same rfl⟩
  | some a =>
    obtain ⟨b, o, sp⟩ := a
    cases sp with
    | none => obtain ⟨g, s, h1, h2⟩ := h.inv_slice; exact Or.inr ⟨_, _, h2, rfl⟩
    | some k => obtain ⟨g, s, h1, h2⟩ := h.inv_loose; exact Or.inr ⟨_, _, h2, rfl⟩
/-- a value's cells -/
def cellsO : Value → Option (List Value)
  | .agg cs => some cs.toList
  | .tuple _ => none
  | .iface .. => none
  | v => some [v]
theorem LR.single {R : Value → Value → Prop} {v v' : Value} (h : R v v') : LR R [v] [v'] :=
  ⟨rfl, fun i u e => by cases i with
    | zero => simp at e; subst e; exact ⟨v', rfl, h⟩
    | succ i => simp at e⟩
theorem cellsO_rel {r : Rho} {v v' : Value} {l : List Value} (h : cellsO v = some l) (k : VRel r v v') : LR (VR1 r) l v'.cells.toList := by
  cases v
  case agg cs => cases h; obtain ⟨l', rfl, q⟩ := k.inv_agg; exact q
  case tuple => cases h
  case iface => cases h
  all_goals
    cases h
    cases k with
    | one k => cases k with
      | one k => cases k <;> exact LR.single (by constructor; assumption)
theorem LR.splice {R : Value → Value → Prop} {l l' m m' : List Value} (h : LR R l l') (k : LR R m m') (o : Nat) (ho : o + m.length ≤ l.length) : LR R (l.take o ++ m ++ l.drop (o + m.length)) (l'.take o ++ m' ++ l'.drop (o + m'.length)) := by
  have e1 := h.1
  have e2 := k.1
  refine ⟨by simp; omega, fun i v e => ?_⟩
  rcases Nat.lt_or_ge i o with c | c
  · rw [List.append_assoc, List.getElem?_append_left (by simp; omega), List.getElem?_take, if_pos c] at e
    obtain ⟨v', a1, a2⟩ := h.2 i v e
    exact ⟨v', by rw [List.append_assoc, List.getElem?_append_left (by simp; omega), List.getElem?_take, if_pos c]; exact a1, a2⟩
  · have l1 : (l.take o).length = o := by simp; omega
    have l2 : (l'.take o).length = o := by simp; omega
    rw [List.append_assoc, List.getElem?_append_right (by omega), l1] at e
    rw [List.append_assoc, List.getElem?_append_right (by omega), l2]
    rcases Nat.lt_or_ge (i - o) m.length with d | d
    · rw [List.getElem?_append_left d] at e
      rw [List.getElem?_append_left (by omega)]
      exact k.2 _ v e
    · rw [List.getElem?_append_right d, List.getElem?_drop] at e
      rw [List.getElem?_append_right (by omega), List.getElem?_drop]
      obtain ⟨v', a1, a2⟩ := h.2 _ v e
      refine ⟨v', ?_, a2⟩
      rw [← a1]
      congr 1
      omega
theorem setIf_list {R : Value → Value → Prop} {c c' : Array Value} (h : LR R c.toList c'.toList) {v v' : Value} (k : R v v') (i : Nat) : LR R (c.setIfInBounds i v).toList (c'.setIfInBounds i v').toList := by
  refine ⟨by simpa using h.1, fun j u e => ?_⟩
  simp only [Array.toList_setIfInBounds, List.getElem?_set] at e ⊢
  by_cases q : i = j
  · subst q
    rw [if_pos rfl] at e ⊢
    have := h.1
    split at e
    · cases e; exact ⟨v', by rw [if_pos (by omega)], k⟩
    · cases e
  · rw [if_neg q] at e ⊢
    exact h.2 j u e
theorem fill_one {R : Value → Value → Prop} (off : Nat) : ∀ (l l' : List Value) (n : Nat) (c c' : Array Value), LR R l l' → LR R c.toList c'.toList →
    LR R ((l.zipIdx n).foldl (fun cs (x : Value × Nat) => cs.setIfInBounds (off + x.2) x.1) c).toList ((l'.zipIdx n).foldl (fun cs (x : Value × Nat) => cs.setIfInBounds (off + x.2) x.1) c').toList
  | [], [], _, _, _, _, h => h
  | [], _ :: _, _, _, _, k, _ => by have := k.1; simp at this
  | _ :: _, [], _, _, _, k, _ => by have := k.1; simp at this
  | v :: l, v' :: l', n, c, c', k, h => by
    obtain ⟨u, e1, e2⟩ := k.2 0 v rfl
    cases e1
    simp only [List.zipIdx_cons, List.foldl_cons]
    refine fill_one off l l' (n + 1) _ _ ⟨by have := k.1; simpa using this, fun i x e => ?_⟩ (setIf_list h e2 _)
    exact k.2 (i + 1) x e
/-- parts, with values alike -/
def PR (r : Rho) (ps ps' : List (Nat × Value)) : Prop := ps.length = ps'.length ∧ ∀ (i : Nat) (n : Nat) (v : Value), ps[i]? = some (n, v) → ∃ v', ps'[i]? = some (n, v') ∧ VRel r v v'
theorem fill_rel {r : Rho} (place : Nat → Option (Nat × Nat)) : ∀ (ps ps' : List (Nat × Value)) (c c' out : Array Value), PR r ps ps' → (∀ p ∈ ps, (cellsO p.2).isSome = true) → LR (VR1 r) c.toList c'.toList → Instr.fill place c ps = some out → ∃ out', Instr.fill place c' ps' = some out' ∧ LR (VR1 r) out.toList out'.toList
  | [], [], c, c', out, _, _, h, e => by simp only [Instr.fill] at e ⊢; cases e; exact ⟨c', rfl, h⟩
  | [], _ :: _, _, _, _, k, _, _, _ => by have := k.1; simp at this
  | _ :: _, [], _, _, _, k, _, _, _ => by have := k.1; simp at this
  | (n, v) :: ps, (n', v') :: ps', c, c', out, k, hc, h, e => by
    obtain ⟨u, e1, e2⟩ := k.2 0 n v rfl
    cases e1
    have hv := hc (n, v) (by simp)
    obtain ⟨l, hl⟩ := Option.isSome_iff_exists.1 hv
    have q := cellsO_rel hl e2
    have hcells : v.cells.toList = l := by
      cases v
      case tuple => cases hl
      case iface => cases hl
      all_goals (cases hl; rfl)
    have hs : v.cells.size = v'.cells.size := by
      have := q.1
      rw [← hcells] at this
      simpa using this
    have hs' : c.size = c'.size := by simpa using h.1
    simp only [Instr.fill] at e ⊢
    cases hp : place n with
    | none => rw [hp] at e; cases e
    | some os =>
      obtain ⟨off, size⟩ := os
      rw [hp] at e
      simp only at e ⊢
      rw [← hs, ← hs']
      split at e
      · cases e
      · rename_i cnd
        rw [if_neg cnd]
        refine fill_rel place ps ps' _ _ out ⟨by have := k.1; simpa using this, fun i m x e => k.2 (i + 1) m x e⟩ (fun p hp => hc p (by simp [hp])) ?_ e
        have := fill_one (R := VR1 r) off l v'.cells.toList 0 c c' q h
        rw [← hcells] at this
        simpa [Array.foldl_toList, ← Array.toList_zipIdx] using this
theorem Rel.kill {P : Program} {w0 : World} {r : Rho} {A : Mem} {w : World} (h : Rel P w0 r A w) (i : Nat) : Rel P w0 r (A.set i none) w := by
  have back : ∀ (j : Nat) (b : Blk), (A.set i none)[j]? = some (some b) → A[j]? = some (some b) := by
    intro j b e
    rw [List.getElem?_set] at e
    split at e
    · split at e <;> cases e
    · exact e
  exact ⟨by simp [h.len], h.below, fun j b g s e => h.there j b g s (back j b e), h.ro, fun j k bj bk g s s' e1 e2 => h.inj j k bj bk g s s' (back _ _ e1) (back _ _ e2), h.ex⟩
theorem below_setRow {B : Nat} {a w : World} (h : Below B a w) {g : Nat} (hp : B ≤ g) (c : Array Value) : Below B a (w.setRow g c) :=
  h.trans ⟨rfl, rfl, rfl, by simp, fun k hk => setRow_other _ _ _ _ (by omega)⟩
theorem Rel.write {P : Program} {w0 : World} {r : Rho} {A : Mem} {w : World} (h : Rel P w0 r A w) {i : Nat} {b : Blk} {g s : Nat} {c : Array Value} (hA : A[i]? = some (some b)) (hr : r[i]? = some (some (g, s))) (hg : w.heap[g]? = some (.cells c b.elem (0, 0))) (hlow : w0.heap.size ≤ g)
    (l : List Value) (c' : Array Value) (hl : l.length + s * szOf P b.elem ≤ c'.size) (hv : ∀ (j : Nat) (v : Value), l[j]? = some v → ∃ v', c'[j]? = some v' ∧ VR1 r v v') : Rel P w0 r (A.set i (some ⟨l, b.elem⟩)) (w.setRow g c') := by
  have hi : i < A.length := by
    rcases Nat.lt_or_ge i A.length with c | c
    · exact c
    · rw [List.getElem?_eq_none c] at hA; cases hA
  have back : ∀ (j : Nat) (b' : Blk), (A.set i (some ⟨l, b.elem⟩))[j]? = some (some b') → (j = i ∧ b' = ⟨l, b.elem⟩) ∨ (j ≠ i ∧ A[j]? = some (some b')) := by
    intro j b' e
    rw [List.getElem?_set] at e
    split at e
    · rename_i q
      cases e
      exact Or.inl ⟨q.symm, rfl⟩
    · rename_i q; exact Or.inr ⟨fun x => q x.symm, e⟩
  have some_of : ∀ (j : Nat) (b' : Blk), (A.set i (some ⟨l, b.elem⟩))[j]? = some (some b') → ∃ b'', A[j]? = some (some b'') := by
    intro j b' e
    rcases back j b' e with ⟨rfl, _⟩ | ⟨_, q⟩
    · exact ⟨b, hA⟩
    · exact ⟨b', q⟩
  refine ⟨by simp [h.len], below_setRow h.below hlow _, ?_, h.ro, ?_, h.ex⟩
  · intro j b' g2 s2 e k1
    rcases back j b' e with ⟨hj, hb⟩ | ⟨q, e'⟩
    · subst hj
      subst hb
      rw [hr] at k1
      simp only [Option.some.injEq, Prod.mk.injEq] at k1
      obtain ⟨rfl, rfl⟩ := k1
      exact ⟨c', hlow, setRow_heap w g c c' b.elem (0, 0) hg, hl, hv⟩
    · obtain ⟨c2, k2, k3, k4, k5⟩ := h.there j b' g2 s2 e' k1
      refine ⟨c2, k2, ?_, k4, k5⟩
      rw [setRow_other]
      · exact k3
      · intro x
        subst x
        exact q (h.inj j i b' b g2 s2 s e' hA k1 hr)
  · intro j k bj bk g2 s2 s3 e1 e2 f1 f2
    obtain ⟨x1, d1⟩ := some_of j bj e1
    obtain ⟨x2, d2⟩ := some_of k bk e2
    exact h.inj j k x1 x2 g2 s2 s3 d1 d2 f1 f2
def partO (e : Operand → Option Value) (p : Nat × Operand) : Bool := match e p.2 with | some v => (cellsO v).isSome | none => false
/-- an operation that lays a new block, with the number id -/
def evN (P : Program) (id : Nat) (e : Operand → Option Value) (o : Oper) : Option (Value × Blk) :=
  match o.op with
  | .alloc el =>
    match P.info? el with
    | some i => match i.zero with
      | some z => if z.cells.toList.all flat1 then some (.pointer (some ⟨id, 0, none⟩), ⟨z.cells.toList, el⟩) else none
      | none => none
    | none => none
  | .box el x =>
    match e x with
    | some v => match cellsO v with
      | some l => some (.pointer (some ⟨id, 0, none⟩), ⟨l, el⟩)
      | none => none
    | none => none
  | .makeSlice t l c =>
    match P.underlying t, e l, e c with
    | some (.slice el), some (.int _ n), some (.int _ m) =>
      match P.info? el with
      | some i => match i.zero with
        | some z =>
          if z.cells.toList.all flat1 && decide (0 ≤ n ∧ n ≤ m ∧ (i.bytes : Int) * m ≤ 281474976710656 ∧ m ≤ 9223372036854775807 ∧ 0 < z.cells.size) then
            some (.slice (some ⟨id, 0, none⟩) n.toNat m.toNat, ⟨(madeCells z.cells (m.toNat * i.size)).toList, el⟩) else none
        | none => none
      | none => none
    | _, _, _ => none
  | .buildSlice t len parts =>
    match P.underlying t with
    | some (.slice el) =>
      match P.info? el with
      | some i => match i.zero with
        | some z =>
          if z.cells.toList.all flat1 && decide (len * i.size ≤ 16777216 ∧ 0 < z.cells.size) && parts.toList.all (partO e) then
            match Instr.fill (fun j => some (j * i.size, i.size)) (madeCells z.cells (len * i.size)) (parts.toList.map fun p => (p.1, (e p.2).getD undef)) with
            | some cells => some (.slice (some ⟨id, 0, none⟩) len len, ⟨cells.toList, el⟩)
            | none => none
          else none
        | none => none
      | none => none
    | _ => none
  | _ => none
theorem flat_cells {r : Rho} {l : List Value} (h : l.all flat1 = true) : LR (VR1 r) l l := LR.of_all (fun v h => VR1.flat h) h
theorem flat_made {z : Array Value} (h : z.toList.all flat1 = true) (hz : 0 < z.size) (n : Nat) : (madeCells z n).toList.all flat1 = true := by
  rw [List.all_eq_true]
  intro v hv
  simp only [madeCells, Array.toList_map, List.mem_map] at hv
  obtain ⟨j, _, rfl⟩ := hv
  have hl : j % z.size < z.size := Nat.mod_lt _ hz
  rw [getElem!_pos z _ hl]
  exact List.all_eq_true.1 h _ (by simp)
theorem Rel.laid {P : Program} {w0 : World} {r : Rho} {A : Mem} {w : World} (h : Rel P w0 r A w) {l : List Value} {c : Array Value} (k : LR (VR1 r) l c.toList) (el : TypeId) : Rel P w0 (r ++ [some (w.heap.size, 0)]) (A ++ [some ⟨l, el⟩]) (w.alloc (.cells c el)) :=
  h.alloc ⟨l, el⟩ c 0 (by have := k.1; simp at this ⊢; omega) (fun j v e => by obtain ⟨v', a, b⟩ := k.2 j v e; exact ⟨v', by simpa using a, b⟩)
/-- what such an operation does: a row is laid -/
theorem evN_core {P : Program} {w : World} {r : Rho} {id : Nat} {e : Operand → Option Value} {e' : Operand → Value} {o : Oper} {v : Value} {b : Blk} (h : evN P id e o = some (v, b)) (k : OpsRel r e e' o.op) :
    ∃ v' c, (execOp e' o).run P w = .ok (.value v') (w.alloc (.cells c b.elem)) ∧ LR (VR1 r) b.cells c.toList ∧ ∀ r' : Rho, r'[id]? = some (some (w.heap.size, 0)) → VRel r' v v' := by
  obtain ⟨dst, op, type, pos, after, guard⟩ := o
  unfold evN at h
  simp only at h
  cases op
  case alloc el =>
    simp only at h
    split at h
    · rename_i i qi
      split at h
      · rename_i z qz
        split at h
        · rename_i hf
          cases h
          refine ⟨.pointer (some ⟨w.heap.size, 0, none⟩), z.cells, ?_, flat_cells hf, fun r' hl => .of1 (.ptr hl)⟩
          simp [execOp, Instr.alloc, zeroValue, typeInfo, qi, qz, newVar, newRow]
        · cases h
      · cases h
    · cases h
  case box el x =>
    simp only at h
    split at h
    · rename_i u qu
      split at h
      · rename_i l ql
        cases h
        have hx := k x (by simp [Op.operands]) _ qu
        refine ⟨.pointer (some ⟨w.heap.size, 0, none⟩), (e' x).cells, ?_, cellsO_rel ql hx, fun r' hl => .of1 (.ptr hl)⟩
        simp [execOp, Instr.box, newVar, newRow]
      · cases h
    · cases h
  case makeSlice t l c =>
    simp only at h
    split at h
    · rename_i el k1 n k2 m qt q1 q2
      split at h
      · rename_i i qi
        split at h
        · rename_i z qz
          split at h
          · rename_i hf
            rw [Bool.and_eq_true, decide_eq_true_eq] at hf
            obtain ⟨hf, c1, c2, c3, c4, c5⟩ := hf
            cases h
            have h1 := (k l (by simp [Op.operands]) _ q1).int
            have h2 := (k c (by simp [Op.operands]) _ q2).int
            refine ⟨.slice (some ⟨w.heap.size, 0, none⟩) n.toNat m.toNat, _, ?_, flat_cells (flat_made hf c5 _), fun r' hl => .of1 (.exact hl)⟩
            simp only [execOp, h1, h2]
            rw [Sem.run_bind, run_make w t el i z qt qi qz k1 k2 n m c1 c2 c3 c4]
            rfl
          · cases h
        · cases h
      · cases h
    · cases h
  case buildSlice t len parts =>
    simp only at h
    split at h
    · rename_i el qt
      split at h
      · rename_i i qi
        split at h
        · rename_i z qz
          split at h
          · rename_i hf
            rw [Bool.and_eq_true, Bool.and_eq_true, decide_eq_true_eq] at hf
            obtain ⟨⟨hf, c2, c3⟩, hp⟩ := hf
            split at h
            · rename_i cells qf
              cases h
              have hp' : ∀ p ∈ parts.toList, ∃ u, e p.2 = some u ∧ (cellsO u).isSome = true := by
                intro p hm
                have := List.all_eq_true.1 hp p hm
                unfold partO at this
                cases q : e p.2 with
                | none => rw [q] at this; cases this
                | some u => rw [q] at this; exact ⟨u, rfl, this⟩
              have pr : PR r (parts.toList.map fun p => (p.1, (e p.2).getD undef)) (parts.toList.map fun p => (p.1, e' p.2)) := by
                refine ⟨by simp, fun j n u hj => ?_⟩
                simp only [List.getElem?_map] at hj ⊢
                cases q : parts.toList[j]? with
                | none => rw [q] at hj; cases hj
                | some p =>
                  rw [q] at hj
                  simp only [Option.map_some, Option.some.injEq, Prod.mk.injEq] at hj ⊢
                  obtain ⟨u', hu, _⟩ := hp' p (List.mem_of_getElem? q)
                  rw [hu] at hj
                  obtain ⟨rfl, rfl⟩ := hj
                  refine ⟨e' p.2, ⟨rfl, rfl⟩, k p.2 ?_ _ hu⟩
                  simp only [Op.operands]
                  simp
                  exact ⟨p.1, by simpa using List.mem_of_getElem? q⟩
              obtain ⟨out', f1, f2⟩ := fill_rel (r := r) _ _ _ _ (madeCells z.cells (len * i.size)) cells pr (by
                intro p hm
                simp only [List.mem_map] at hm
                obtain ⟨p0, hm, rfl⟩ := hm
                obtain ⟨u, hu, hc⟩ := hp' p0 hm
                simp only [hu, Option.getD_some]; exact hc) (flat_cells (flat_made hf c3 _)) qf
              refine ⟨.slice (some ⟨w.heap.size, 0, none⟩) len len, out', ?_, f2, fun r' hl => .of1 (.exact hl)⟩
              have hm : ¬ 16777216 < len * i.size := by omega
              have f1' : Instr.fill (fun j => some (j * i.size, i.size)) ((Array.range (len * i.size)).map (z.cells[· % z.cells.size]!)) (parts.map fun p => (p.1, e' p.2)).toList = some out' := by
                rw [Array.toList_map]; exact f1
              by_cases hn : len * i.size = 0
              · have f2' : Instr.fill (fun j => some (j * i.size, i.size)) #[] (parts.map fun p => (p.1, e' p.2)).toList = some out' := by
                  rw [hn] at f1'
                  have e0 : (Array.range 0).map (fun x => z.cells[x % z.cells.size]!) = #[] := by simp
                  rw [e0] at f1'
                  exact f1'
                simp only [Array.toList_map] at f2'
                simp [execOp, Instr.buildSlice, run_underlying qt, sizeOf, typeInfo, qi, zeroValue, qz, hn, newRow]
                have e1 : Array.map (fun _ => (default : Value)) (Array.range 0) = #[] := by simp
                rw [e1, f2']
                simp
              · simp [execOp, Instr.buildSlice, run_underlying qt, sizeOf, typeInfo, qi, zeroValue, qz, hn, hm, newRow]
                simp only [Array.toList_map] at f1'
                rw [f1']
                simp
            · cases h
          · cases h
        · cases h
      · cases h
    · cases h
  all_goals cases h
theorem evN_sound {P : Program} {w0 w : World} {r : Rho} {A : Mem} {e : Operand → Option Value} {e' : Operand → Value} {o : Oper} {v : Value} {b : Blk} (h : evN P A.length e o = some (v, b)) (k : OpsRel r e e' o.op) (hr : Rel P w0 r A w) :
    ∃ v' w', (execOp e' o).run P w = .ok (.value v') w' ∧ VRel (r ++ [some (w.heap.size, 0)]) v v' ∧ Rel P w0 (r ++ [some (w.heap.size, 0)]) (A ++ [some b]) w' := by
  obtain ⟨v', c, h1, h2, h3⟩ := evN_core (w := w) h k
  exact ⟨v', _, h1, h3 _ (by rw [← hr.len]; simp), hr.laid h2 b.elem⟩
/-- a block that was told already is laid now -/
theorem Rel.laidAt {P : Program} {w0 : World} {r : Rho} {A : Mem} {w : World} (h : Rel P w0 r A w) {p : Nat} {b : Blk} {c : Array Value} (hp : r[p]? = some none) (hA : A[p]? = some (some b)) (k : LR (VR1 r) b.cells c.toList) : Rel P w0 (r.set p (some (w.heap.size, 0))) A (w.alloc (.cells c b.elem)) := by
  have hlt : p < r.length := by
    rcases Nat.lt_or_ge p r.length with q | q
    · exact q
    · rw [List.getElem?_eq_none q] at hp; cases hp
  have hsz := h.below.size
  have at_p : (r.set p (some (w.heap.size, 0)))[p]? = some (some (w.heap.size, 0)) := by rw [List.getElem?_set_self hlt]
  have off_p : ∀ i, i ≠ p → (r.set p (some (w.heap.size, 0)))[i]? = r[i]? := fun i hi => List.getElem?_set_ne (fun q => hi q.symm)
  have hwk : r.wk (r.set p (some (w.heap.size, 0))) := by
    intro i x e
    by_cases q : i = p
    · subst q; rw [hp] at e; cases e
    · rw [off_p i q]; exact e
  have old : ∀ (i : Nat) (b' : Blk) (g t : Nat), A[i]? = some (some b') → r[i]? = some (some (g, t)) → g < w.heap.size := by
    intro i b' g t e f
    obtain ⟨c, _, k3, _⟩ := h.there i b' g t e f
    exact (Array.getElem?_eq_some_iff.1 k3).1
  refine ⟨by simp [h.len], h.below.alloc hsz _, ?_, ro_wk hwk h.ro, ?_, h.ex⟩
  · intro i b' g t e f
    by_cases q : i = p
    · subst q
      rw [at_p] at f
      rw [hA] at e
      simp only [Option.some.injEq, Prod.mk.injEq] at f e
      obtain ⟨rfl, rfl⟩ := f
      subst e
      exact ⟨c, hsz, heap_alloc_new _ _, by have := k.1; simp at this ⊢; omega, fun j v hj => by obtain ⟨v', a1, a2⟩ := k.2 j v hj; exact ⟨v', by simpa using a1, a2.mono hwk⟩⟩
    · rw [off_p i q] at f
      obtain ⟨c', k2, k3, k4, k5⟩ := h.there i b' g t e f
      refine ⟨c', k2, ?_, k4, fun j v hj => let ⟨v', a1, a2⟩ := k5 j v hj; ⟨v', a1, a2.mono hwk⟩⟩
      rw [Below.heap_alloc _ _ _ (Array.getElem?_eq_some_iff.1 k3).1]; exact k3
  · intro i j bi bj g s1 s2 e1 e2 f1 f2
    by_cases qi : i = p <;> by_cases qj : j = p
    · rw [qi, qj]
    · rw [qi, at_p] at f1
      rw [off_p j qj] at f2
      have := old j bj g s2 e2 f2
      simp at f1
      omega
    · rw [qj, at_p] at f2
      rw [off_p i qi] at f1
      have := old i bi g s1 e1 f1
      simp at f2
      omega
    · rw [off_p i qi] at f1
      rw [off_p j qj] at f2
      exact h.inj i j bi bj g s1 s2 e1 e2 f1 f2
end Go.Proofs.YtgaigfmboomnkaaGreat
