/-
  OWN TEXT: an evaluator for calls without open arguments. Operations that only reckon or read: they do what the evaluator says.
-/
import Derived.Test.YtgaigfmboomnkaaGreatXvB
namespace Go.Proofs.YtgaigfmboomnkaaGreat
open Go.RowKit
set_option linter.unusedVariables false
set_option linter.unusedSimpArgs false
theorem LR.window {R : Value → Value → Prop} {l l' : List Value} (h : LR R l l') (a n : Nat) : LR R ((l.drop a).take n) ((l'.drop a).take n) := by
  refine ⟨by simp [h.1], fun i v e => ?_⟩
  simp only [List.getElem?_take, List.getElem?_drop] at e ⊢
  split at e
  · rename_i c
    obtain ⟨v', e', k⟩ := h.2 _ v e
    exact ⟨v', by rw [if_pos c]; exact e', k⟩
  · cases e
theorem extract_list (l : List Value) (a n : Nat) : (⟨l⟩ : Array Value).extract a (a + n) = ⟨(l.drop a).take n⟩ := by
  apply Array.ext'
  simp [Array.toList_extract, List.extract]
theorem run_isAgg {P : Program} {t : TypeId} {d : TypeDesc} (h : P.underlying t = some d) (w : World) : (isAgg t).run P w = .ok d.isRow w := by
  unfold isAgg
  rw [Sem.run_bind, run_underlying h w]
  cases d <;> rfl
theorem evS_sound {P : Program} {r : Rho} {e : Operand → Option Value} {e' : Operand → Value} {o : Oper} {v : Value} (h : evS P e o = some v) (k : OpsRel r e e' o.op) :
    ∃ v', (∀ w, (execOp e' o).run P w = .ok (.value v') w) ∧ VRel r v v' := by
  obtain ⟨dst, op, type, pos, after, guard⟩ := o
  unfold evS at h
  simp only at h
  cases op
  case move x => exact ⟨e' x, fun w => rfl, k x (by simp [Op.operands]) v h⟩
  case assign x => exact ⟨e' x, fun w => rfl, k x (by simp [Op.operands]) v h⟩
  case nilCheck x =>
    simp only at h
    split at h
    · rename_i b f q
      cases h
      have hx := k x (by simp [Op.operands]) _ q
      obtain ⟨g, s, h1, h2⟩ := hx.inv_ptr
      exact ⟨_, fun w => by simp only [execOp, h2]; rfl, by rw [← h2]; exact hx⟩
    · cases h
  case extract x i =>
    simp only at h
    split at h
    · rename_i l q
      have hx := k x (by simp [Op.operands]) _ q
      obtain ⟨l', h1, h2⟩ := hx.inv_tuple
      obtain ⟨v', e1, e2⟩ := h2.2 i v h
      refine ⟨v', fun w => ?_, .one e2⟩
      simp [execOp, h1, Instr.extract, e1]
    · cases h
  case fieldAddr s x f =>
    simp only at h
    split at h
    · rename_i b off fields q qu
      have hx := k x (by simp [Op.operands]) _ q
      obtain ⟨g, sl, h1, h2⟩ := hx.inv_ptr
      split at h
      · rename_i fl qf
        split at h
        · rename_i hz
          cases h
          obtain ⟨i, hi1, hi2⟩ := szOf_info hz
          refine ⟨.pointer (some ⟨g, off + fl.offset, none⟩), fun w => ?_, .of1 (.ptr h1)⟩
          simp [execOp, h2, Instr.fieldAt, run_underlying qu, qf, Instr.sureAddr, fieldPlace, sizeOf, typeInfo, hi1, hi2, hz, add_plain]
        · cases h
      · cases h
    · cases h
  case field s x f =>
    simp only at h
    split at h
    · rename_i l fields q qu
      have hx := k x (by simp [Op.operands]) _ q
      obtain ⟨l', h1, h2⟩ := hx.inv_agg
      split at h
      · rename_i fl qf
        have row : ∀ d, P.underlying fl.type = some d → d.isRow = true → (match P.info? fl.type with | some i => if fl.offset + i.size ≤ l.length then some (Value.agg ⟨(l.drop fl.offset).take i.size⟩) else none | none => none) = some v →
            ∃ v', (∀ w, (execOp e' { dst := dst, op := .field s x f, type := type, pos := pos, after := after, guard := guard }).run P w = .ok (.value v') w) ∧ VRel r v v' := by
          intro d hd hrow h
          cases qi : P.info? fl.type with
          | none => rw [qi] at h; cases h
          | some i =>
            rw [qi] at h
            simp only at h
            split at h
            · cases h
              refine ⟨.agg ⟨(l'.drop fl.offset).take i.size⟩, fun w => ?_, .one (.agg (h2.window _ _))⟩
              simp [execOp, h1, Instr.field, run_underlying qu, qf, asAgg, part, run_isAgg hd, hrow, sizeOf, typeInfo, qi]
            · cases h
        split at h
        · rename_i fs qd; exact row _ qd rfl h
        · rename_i n el qd; exact row _ qd rfl h
        · rename_i d n1 n2 qd
          obtain ⟨v', e1, e2⟩ := h2.2 _ v h
          have hr : d.isRow = false := by cases d <;> first | rfl | (exfalso; exact n1 _ rfl) | (exfalso; exact n2 _ _ rfl)
          refine ⟨v', fun w => ?_, .of1 e2⟩
          simp [execOp, h1, Instr.field, run_underlying qu, qf, asAgg, part, run_isAgg qd, hr, e1]
        · cases h
      · cases h
    · cases h
  case indexAddr t x ix =>
    simp only at h
    split at h
    · rename_i k0 i qi
      have hi := (k ix (by simp [Op.operands]) _ qi).int
      split at h
      · rename_i b off sp len cap el q qu
        have hx := k x (by simp [Op.operands]) _ q
        split at h
        · rename_i c
          cases h
          obtain ⟨c1, c2, hz⟩ := c
          obtain ⟨ti, hi1, hi2⟩ := szOf_info hz
          obtain ⟨g, s, h1, c', h2⟩ : ∃ g s, r[b]? = some (some (g, s)) ∧ ∃ c', e' x = .slice (some ⟨g, off, none⟩) len c' := by
            cases sp with
            | none => obtain ⟨g, s, h1, h2⟩ := hx.inv_slice; exact ⟨g, s, h1, _, h2⟩
            | some kk => obtain ⟨g, s, h1, h2⟩ := hx.inv_loose; exact ⟨g, s, h1, _, h2⟩
          refine ⟨.pointer (some ⟨g, off + i.toNat * szOf P el, none⟩), fun w => ?_, .of1 (.ptr h1)⟩
          simp [execOp, h2, hi, Instr.indexAt, asIntOf, run_underlying qu, c1, c2, sizeOf, typeInfo, hi1, hi2, add_plain]
        · cases h
      · rename_i b off len el q qu
        have hx := k x (by simp [Op.operands]) _ q
        split at h
        · rename_i c
          cases h
          obtain ⟨c1, c2, hz⟩ := c
          obtain ⟨ti, hi1, hi2⟩ := szOf_info hz
          obtain ⟨g, s, h1, h2⟩ := hx.inv_ptr
          refine ⟨.pointer (some ⟨g, off + i.toNat * szOf P el, none⟩), fun w => ?_, .of1 (.ptr h1)⟩
          simp [execOp, h2, hi, Instr.indexAt, asIntOf, Instr.sureAddr, run_underlying qu, c1, c2, sizeOf, typeInfo, hi1, hi2, add_plain]
        · cases h
      · cases h
    · cases h
  case slice t x lo hi mx =>
    simp only at h
    split at h
    · rename_i b off sp len cap el q qu
      have hx := k x (by simp [Op.operands]) _ q
      split at h
      · rename_i hz
        obtain ⟨v', h1, h2⟩ := evSlice_sound (P := P) (x := x) qu hx (fun y hy u hu => k y (by simp [Op.operands] at hy ⊢; rcases hy with hy | hy | hy <;> simp [hy]) u hu) hz h
        exact ⟨v', fun w => by simp [execOp, h1 w], h2⟩
      · cases h
    · cases h
  case call c =>
    obtain ⟨callee, args, argTypes⟩ := c
    simp only at h
    split at h
    · rename_i x t qa qt
      obtain rfl : args = #[x] := by apply Array.ext'; simpa using qa
      obtain rfl : argTypes = #[t] := by apply Array.ext'; simpa using qt
      split at h
      · rename_i a len cap el q qu
        have hx := k x (by simp [Op.operands, Call.operands]) _ q
        cases h
        obtain ⟨ad, c', h2⟩ : ∃ ad c', e' x = .slice (some ad) len c' := by
          obtain ⟨b, off, sp⟩ := a
          cases sp with
          | none => obtain ⟨g, s, _, h2⟩ := hx.inv_slice; exact ⟨_, _, h2⟩
          | some kk => obtain ⟨g, s, _, h2⟩ := hx.inv_loose; exact ⟨_, _, h2⟩
        refine ⟨.int .i64 len, fun w => ?_, VRel.of_flat r rfl⟩
        simp [execOp, resolve, invoke, builtin, h2, Builtin.len_, run_underlying qu, goInt]
      · cases h
    · cases h
  all_goals cases h
/-- an operation that reads -/
def evR (P : Program) (A : Mem) (e : Operand → Option Value) (o : Oper) : Option Value :=
  match o.op with
  | .load t x =>
    match e x with
    | some (.pointer (some ⟨b, off, none⟩)) =>
      match A[b]? with
      | some (some blk) =>
        match P.underlying t with
        | some d =>
          if d.isRow then
            match P.info? t with
            | some i => if off + i.size ≤ blk.cells.length then some (.agg ⟨(blk.cells.drop off).take i.size⟩) else none
            | none => none
          else blk.cells[off]?
        | none => none
      | some none =>
        match roTab[b]?, P.underlying t with
        | some x, some d => if d.isRow then none else x.2[off]?
        | _, _ => none
      | none => none
    | _ => none
  | _ => none
theorem evR_sound {P : Program} {w0 w : World} {r : Rho} {A : Mem} {e : Operand → Option Value} {e' : Operand → Value} {o : Oper} {v : Value} (h : evR P A e o = some v) (k : OpsRel r e e' o.op) (hr : Rel P w0 r A w) :
    ∃ v', (execOp e' o).run P w = .ok (.value v') w ∧ VRel r v v' := by
  obtain ⟨dst, op, type, pos, after, guard⟩ := o
  unfold evR at h
  simp only at h
  cases op
  case load t x =>
    simp only at h
    split at h
    · rename_i b off q
      have hx := k x (by simp [Op.operands]) _ q
      obtain ⟨g0, s0, h1, h2⟩ := hx.inv_ptr
      split at h
      · rename_i blk qb
        obtain ⟨c, k2, k3, k4, k5⟩ := hr.there b blk g0 s0 qb h1
        split at h
        · rename_i d qd
          split at h
          · rename_i hrow
            split at h
            · rename_i i qi
              split at h
              · rename_i hle
                cases h
                have hlen : blk.cells.length ≤ c.size := by
                  have := k4
                  omega
                refine ⟨.agg ⟨(c.toList.drop off).take i.size⟩, ?_, ?_⟩
                · have := run_loadAt_mid (P := P) w g0 off t ((c.toList.drop off).take i.size) d (by
                    intro j u hu
                    simp only [List.getElem?_take, List.getElem?_drop] at hu
                    split at hu
                    · simp only [World.cell?, k3, Option.isSome_none, Bool.false_eq_true, if_false]; simpa using hu
                    · cases hu) qd hrow (by simp [qi]; omega)
                  simp only [execOp, h2]
                  rw [Sem.run_bind, this]
                  rfl
                · refine .one (.agg ⟨by simp; omega, fun j u hu => ?_⟩)
                  simp only [List.getElem?_take, List.getElem?_drop] at hu ⊢
                  split at hu
                  · rename_i cj
                    obtain ⟨u', a1, a2⟩ := k5 _ u hu
                    exact ⟨u', by rw [if_pos cj]; simpa using a1, a2⟩
                  · cases hu
              · cases h
            · cases h
          · rename_i hrow
            obtain ⟨v', a1, a2⟩ := k5 _ v h
            refine ⟨v', ?_, .of1 a2⟩
            have hcell : w.cell? ⟨g0, off, none⟩ = some v' := by simp [World.cell?, k3, a1]
            simp only [execOp, h2, Instr.loadAt, Instr.sureAddr, loadVar, Sem.run_bind, Sem.run_pure, Result.andThen_ok, run_isAgg qd, hrow, load, Bool.false_eq_true, if_false]
            simp [Sem.run, hcell]
        · cases h
      · split at h
        · rename_i x d qx qd
          split at h
          · cases h
          · rename_i hrow
            obtain ⟨gx, lx⟩ := x
            obtain ⟨k1, k2, k3⟩ := hr.ro b gx lx qx
            rw [h1] at k1
            simp only [Option.some.injEq, Prod.mk.injEq] at k1
            obtain ⟨rfl, rfl⟩ := k1
            obtain ⟨f1, f2⟩ := k3 off v h
            refine ⟨v, ?_, VRel.of1 (.flat f1)⟩
            have hcell : w.cell? ⟨g0, off, none⟩ = some v := by rw [hr.below.cell (p := ⟨g0, off, none⟩) k2]; exact f2
            simp only [execOp, h2, Instr.loadAt, Instr.sureAddr, loadVar, Sem.run_bind, Sem.run_pure, Result.andThen_ok, run_isAgg qd, hrow, load, Bool.false_eq_true, if_false]
            simp [Sem.run, hcell]
        · cases h
      · cases h
    · cases h
  all_goals cases h
end Go.Proofs.YtgaigfmboomnkaaGreat
