/-
  OWN TEXT: an evaluator for calls without open arguments. Stores, copies, appends.
-/
import Derived.Test.YtgaigfmboomnkaaGreatXvD
namespace Go.Proofs.YtgaigfmboomnkaaGreat
open Go.RowKit
set_option linter.unusedVariables false
set_option linter.unusedSimpArgs false
/-- a list, and one that begins like it -/
def PX (R : Value → Value → Prop) (l l' : List Value) : Prop := l.length ≤ l'.length ∧ ∀ (i : Nat) (v : Value), l[i]? = some v → ∃ v', l'[i]? = some v' ∧ R v v'
theorem LR.px {R : Value → Value → Prop} {l l' : List Value} (h : LR R l l') : PX R l l' := ⟨by have := h.1; omega, h.2⟩
theorem PX.splice {R : Value → Value → Prop} {l l' m m' : List Value} (h : PX R l l') (k : LR R m m') (o : Nat) (ho : o + m.length ≤ l.length) : PX R (l.take o ++ m ++ l.drop (o + m.length)) (l'.take o ++ m' ++ l'.drop (o + m'.length)) := by
  have e1 := h.1
  have e2 := k.1
  refine ⟨by simp; omega, fun i v e => ?_⟩
  rcases Nat.lt_or_ge i o with c | c
  · rw [List.append_assoc, List.getElem?_append_left (by simp; omega), List.getElem?_take, if_pos c] at e
    obtain ⟨v', a1, a2⟩ := h.2 i v e
    exact ⟨v', by rw [List.append_assoc, List.getElem?_append_left (by simp; omega), List.getElem?_take, if_pos c]; exact a1, a2⟩
  · have l1 : (l.take o).length = o := by simp; omega
    have l2 : (l'.take o).length = o := by simp; omega
    rw [List.append_assoc, List.getElem?_append_right (by omega), l1] at e
    rw [List.append_assoc, List.getElem?_append_right (by omega), l2]
    rcases Nat.lt_or_ge (i - o) m.length with d | d
    · rw [List.getElem?_append_left d] at e
      rw [List.getElem?_append_left (by omega)]
      exact k.2 _ v e
    · rw [List.getElem?_append_right d, List.getElem?_drop] at e
      rw [List.getElem?_append_right (by omega), List.getElem?_drop]
      obtain ⟨v', a1, a2⟩ := h.2 _ v e
      refine ⟨v', ?_, a2⟩
      rw [← a1]
      congr 1
      omega
theorem PX.window {R : Value → Value → Prop} {l l' : List Value} (h : PX R l l') (a n : Nat) (ha : a + n ≤ l.length) : LR R ((l.drop a).take n) ((l'.drop a).take n) := by
  have := h.1
  refine ⟨by simp; omega, fun i v e => ?_⟩
  simp only [List.getElem?_take, List.getElem?_drop] at e ⊢
  split at e
  · rename_i c
    obtain ⟨v', e', k⟩ := h.2 _ v e
    exact ⟨v', by rw [if_pos c]; exact e', k⟩
  · cases e
theorem Rel.row {P : Program} {w0 : World} {r : Rho} {A : Mem} {w : World} (h : Rel P w0 r A w) {i g s : Nat} {b : Blk} (hA : A[i]? = some (some b)) (hr : r[i]? = some (some (g, s))) :
    ∃ c, w.heap[g]? = some (.cells c b.elem (0, 0)) ∧ w0.heap.size ≤ g ∧ b.cells.length + s * szOf P b.elem ≤ c.size ∧ PX (VR1 r) b.cells c.toList := by
  obtain ⟨c, k2, k3, k4, k5⟩ := h.there i b g s hA hr
  exact ⟨c, k3, k2, k4, by simp; omega, fun j v e => by obtain ⟨v', a1, a2⟩ := k5 j v e; exact ⟨v', by simpa using a1, a2⟩⟩
/-- cells are written over others, in a block that is there -/
theorem Rel.splice {P : Program} {w0 : World} {r : Rho} {A : Mem} {w : World} (h : Rel P w0 r A w) {i g s : Nat} {b : Blk} {c : Array Value} (hA : A[i]? = some (some b)) (hr : r[i]? = some (some (g, s))) (hg : w.heap[g]? = some (.cells c b.elem (0, 0)))
    {l l' : List Value} (hl : LR (VR1 r) l l') (o : Nat) (ho : o + l.length ≤ b.cells.length) :
    (storeCells ⟨g, o, none⟩ l').run P w = .ok () (w.setRow g (c.toList.take o ++ l' ++ c.toList.drop (o + l'.length)).toArray) ∧
    Rel P w0 r (A.set i (some ⟨b.cells.take o ++ l ++ b.cells.drop (o + l.length), b.elem⟩)) (w.setRow g (c.toList.take o ++ l' ++ c.toList.drop (o + l'.length)).toArray) := by
  obtain ⟨c2, hg2, hlow, hs, px⟩ := h.row hA hr
  rw [hg] at hg2
  cases hg2
  have e1 := hl.1
  have hsz : b.cells.length ≤ c.size := by omega
  constructor
  · have := run_storeCells_at P g o b.elem l' 0 c w hg (by omega) hl.one
    simpa using this
  · refine h.write hA hr hg hlow _ _ ?_ ?_
    · simp; omega
    · intro j v e
      obtain ⟨v', a1, a2⟩ := (px.splice hl o ho).2 j v e
      exact ⟨v', by simpa using a1, a2⟩
/-- how memory turns -/
inductive Dl where
  | same
  | push (b : Blk)
  | set (i : Nat) (b : Blk)
  | turn (i : Nat) (b : Blk)
  | whole (A : Mem)
def Dl.app (A : Mem) : Dl → Mem
  | .same => A
  | .push b => A ++ [some b]
  | .set i b => A.set i (some b)
  | .turn i b => A.set i none ++ [some b]
  | .whole B => B
def storeD (P : Program) (A : Mem) (e : Operand → Option Value) (o : Oper) : Option Dl :=
  match o.op with
  | .store t x y =>
    match e x, e y with
    | some (.pointer (some ⟨b, off, none⟩)), some v =>
      match A[b]?, cellsO v, P.info? t with
      | some (some blk), some l, some i =>
        if l.length = i.size ∧ off + l.length ≤ blk.cells.length then some (.set b ⟨blk.cells.take off ++ l ++ blk.cells.drop (off + l.length), blk.elem⟩) else none
      | _, _, _ => none
    | _, _ => none
  | _ => none
def evStore (P : Program) (A : Mem) (e : Operand → Option Value) (o : Oper) : Option Mem := (storeD P A e o).map (Dl.app A)
theorem map_some {α β : Type} {f : α → β} {x : Option α} {y : β} (h : x.map f = some y) : ∃ d, x = some d ∧ y = f d := by
  cases x with
  | none => cases h
  | some d => cases h; exact ⟨d, rfl, rfl⟩
theorem evStore_sound {P : Program} {w0 w : World} {r : Rho} {A A' : Mem} {e : Operand → Option Value} {e' : Operand → Value} {o : Oper} (h : evStore P A e o = some A') (k : OpsRel r e e' o.op) (hr : Rel P w0 r A w) :
    ∃ w', (execOp e' o).run P w = .ok .skip w' ∧ Rel P w0 r A' w' ∧ Keep r A A' := by
  obtain ⟨d, hd, hA'⟩ := map_some h
  clear h
  subst hA'
  have h := hd
  clear hd
  obtain ⟨dst, op, type, pos, after, guard⟩ := o
  unfold storeD at h
  simp only at h
  cases op
  case store t x y =>
    simp only at h
    split at h
    · rename_i b off v q1 q2
      have hx := k x (by simp [Op.operands]) _ q1
      have hy := k y (by simp [Op.operands]) _ q2
      obtain ⟨g, s, h1, h2⟩ := hx.inv_ptr
      split at h
      · rename_i blk l i qb ql qi
        split at h
        · rename_i c
          cases h
          obtain ⟨cc, hg, _, _, _⟩ := hr.row qb h1
          have hl := cellsO_rel ql hy
          obtain ⟨r1, r2⟩ := hr.splice qb h1 hg hl off c.2
          refine ⟨_, ?_, r2, Keep.set h1 _⟩
          have hsz : (e' y).cells.size = i.size := by have := hl.1; simp at this; omega
          simp [execOp, h2, Instr.storeAt, Instr.sureAddr, storeVar, sizeOf, typeInfo, qi, hsz, r1]
        · cases h
      · cases h
    · cases h
  all_goals cases h
/-- a slice's block, offset, length: nothing where it is nil -/
def partsO (A : Mem) (size n : Nat) : Value → Option (List Value)
  | .slice none _ _ => if n = 0 then some [] else none
  | .slice (some ⟨b, off, _⟩) _ _ => match A[b]? with | some (some blk) => if off + n * size ≤ blk.cells.length then some ((blk.cells.drop off).take (n * size)) else none | _ => none
  | _ => none
theorem VRel.inv_slices {r : Rho} {a : Option Addr} {n c : Nat} {v' : Value} (h : VRel r (.slice a n c) v') : (a = none ∧ v' = .slice none n c) ∨ ∃ b o sp g s c', a = some ⟨b, o, sp⟩ ∧ r[b]? = some (some (g, s)) ∧ v' = .slice (some ⟨g, o, none⟩) n c' ∧ c ≤ c' ∧ ((sp = none ∧ c' = c) ∨ (sp.isSome = true ∧ c' = c + s)) := by
  cases a with
  | none => exact Or.inl ⟨rfl, h.same rfl⟩
  | some a =>
    obtain ⟨b, o, sp⟩ := a
    cases sp with
    | none => obtain ⟨g, s, h1, h2⟩ := h.inv_slice; exact Or.inr ⟨b, o, none, g, s, c, rfl, h1, h2, Nat.le_refl _, Or.inl ⟨rfl, rfl⟩⟩
    | some k => obtain ⟨g, s, h1, h2⟩ := h.inv_loose; exact Or.inr ⟨b, o, some k, g, s, c + s, rfl, h1, h2, by omega, Or.inr ⟨rfl, rfl⟩⟩
/-- the first cells of a slice, as the world has them -/
theorem parts_run {P : Program} {w0 w : World} {r : Rho} {A : Mem} {size n : Nat} {v v' : Value} {l : List Value} (h : partsO A size n v = some l) (k : VRel r v v') (hr : Rel P w0 r A w) :
    ∃ l', (Builtin.firstCells size n v').run P w = .ok l'.toArray w ∧ (Builtin.firstCells size n v').run P w.drew = .ok l'.toArray w.drew ∧ LR (VR1 r) l l' ∧ l.length = n * size := by
  cases v with
  | slice a len c =>
    rcases k.inv_slices with ⟨rfl, rfl⟩ | ⟨b, o, sp, g, s, c', rfl, h1, rfl, _, _⟩
    · simp only [partsO] at h
      split at h
      · rename_i hn
        cases h
        subst hn
        exact ⟨[], rfl, rfl, ⟨rfl, fun i v e => by simp at e⟩, by simp⟩
      · cases h
    · simp only [partsO] at h
      split at h
      · rename_i blk qb
        split at h
        · rename_i hle
          cases h
          obtain ⟨cc, hg, _, hs, px⟩ := hr.row qb h1
          have hlr := px.window o (n * size) hle
          have hlen : ((blk.cells.drop o).take (n * size)).length = n * size := by simp; omega
          have hlen' : ((cc.toList.drop o).take (n * size)).length = n * size := by rw [← hlr.1]; exact hlen
          have cell : ∀ (j : Nat) (u : Value), ((cc.toList.drop o).take (n * size))[j]? = some u → w.cell? ((⟨g, o, none⟩ : Addr).add j) = some u := by
            intro j u hu
            simp only [List.getElem?_take, List.getElem?_drop] at hu
            split at hu
            · rw [add_plain]; simp only [World.cell?, hg, Option.isSome_none, Bool.false_eq_true, if_false]; simpa using hu
            · cases hu
          refine ⟨(cc.toList.drop o).take (n * size), ?_, ?_, hlr, hlen⟩
          · have := run_loadCells_list (P := P) w ⟨g, o, none⟩ _ cell
            rw [hlen'] at this
            exact this
          · have := run_loadCells_list (P := P) w.drew ⟨g, o, none⟩ _ cell
            rw [hlen'] at this
            exact this
        · cases h
      · cases h
  | _ => cases h
def lenO : Value → Option Nat
  | .slice _ n _ => some n
  | _ => none
def copyD (P : Program) (A : Mem) (e : Operand → Option Value) (o : Oper) : Option (Value × Dl) :=
  match o.op with
  | .call c =>
    match c.callee, c.args.toList, c.argTypes.toList with
    | .builtin .copy, [d, s], [dT, sT] =>
      match e d, e s, P.underlying dT with
      | some (.slice (some ⟨b, off, _⟩) dl _), some (.slice a sl sc), some (.slice el) =>
        match A[b]?, partsO A (szOf P el) (Nat.min sl dl) (.slice a sl sc) with
        | some (some blk), some l => if szOf P el ≠ 0 ∧ off + l.length ≤ blk.cells.length then some (.int .i64 (Nat.min sl dl : Nat), .set b ⟨blk.cells.take off ++ l ++ blk.cells.drop (off + l.length), blk.elem⟩) else none
        | _, _ => none
      | _, _, _ => none
    | _, _, _ => none
  | _ => none
def evCopy (P : Program) (A : Mem) (e : Operand → Option Value) (o : Oper) : Option (Value × Mem) := (copyD P A e o).map fun x => (x.1, x.2.app A)
theorem evCopy_sound {P : Program} {w0 w : World} {r : Rho} {A A' : Mem} {e : Operand → Option Value} {e' : Operand → Value} {o : Oper} {v : Value} (h : evCopy P A e o = some (v, A')) (k : OpsRel r e e' o.op) (hr : Rel P w0 r A w) :
    ∃ w', (execOp e' o).run P w = .ok (.value v) w' ∧ VRel r v v ∧ Rel P w0 r A' w' ∧ Keep r A A' := by
  obtain ⟨d0, hd, hA'⟩ := map_some h
  clear h
  obtain ⟨d1, d2⟩ := d0
  cases hA'
  have h := hd
  clear hd
  obtain ⟨dst, op, type, pos, after, guard⟩ := o
  unfold copyD at h
  simp only at h
  cases op
  case call c =>
    obtain ⟨callee, args, argTypes⟩ := c
    simp only at h
    split at h
    · rename_i d s dT sT qa qt
      obtain rfl : args = #[d, s] := by apply Array.ext'; simpa using qa
      obtain rfl : argTypes = #[dT, sT] := by apply Array.ext'; simpa using qt
      split at h
      · rename_i b off sp dl dc a sl sc el q1 q2 qu
        have hd := k d (by simp [Op.operands, Call.operands]) _ q1
        have hs := k s (by simp [Op.operands, Call.operands]) _ q2
        split at h
        · rename_i blk l qb ql
          split at h
          · rename_i c
            cases h
            obtain ⟨l', f1, _, hlr, hlen⟩ := parts_run ql hs hr
            rcases hd.inv_slices with ⟨q, _⟩ | ⟨b', o', sp', g, sk, c', q, h1, h2, _, _⟩
            · cases q
            · simp only [Option.some.injEq, Addr.mk.injEq] at q
              obtain ⟨rfl, rfl, rfl⟩ := q
              obtain ⟨cc, hg, _, _, _⟩ := hr.row qb h1
              obtain ⟨r1, r2⟩ := hr.splice qb h1 hg hlr off c.2
              obtain ⟨i, hi1, hi2⟩ := szOf_info c.1
              refine ⟨_, ?_, VRel.of_flat r rfl, r2, Keep.set h1 _⟩
              have hlenOf : ∀ w, (Builtin.lenOf (e' s)).run P w = .ok sl w := by
                intro w
                rcases hs.inv_slices with ⟨_, q⟩ | ⟨_, _, _, _, _, _, _, _, q, _, _⟩ <;> rw [q] <;> rfl
              simp [execOp, resolve, invoke, builtin, h2, Builtin.copy_, run_underlying qu, hlenOf, sizeOf, typeInfo, hi1, hi2, f1, r1, goInt]
          · cases h
        · cases h
      · cases h
    · cases h
  all_goals cases h
end Go.Proofs.YtgaigfmboomnkaaGreat
