/-
  OWN TEXT: an evaluator for calls without open arguments. Calls: what it tells is so, in every world.
-/
import Derived.Test.YtgaigfmboomnkaaGreatXvJ
namespace Go.Proofs.YtgaigfmboomnkaaGreat
open Go.RowKit
set_option linter.unusedVariables false
set_option linter.unusedSimpArgs false
/-- the value of a variable in memory -/
def loadO (P : Program) (A : Mem) (t : TypeId) (b off : Nat) : Option Value :=
  match A[b]? with
  | some (some blk) =>
    match P.underlying t with
    | some d =>
      if d.isRow then
        match P.info? t with
        | some i => if off + i.size ≤ blk.cells.length then some (.agg ⟨(blk.cells.drop off).take i.size⟩) else none
        | none => none
      else blk.cells[off]?
    | none => none
  | some none =>
    match roTab[b]?, P.underlying t with
    | some x, some d => if d.isRow then none else x.2[off]?
    | _, _ => none
  | none => none
theorem loadO_sound {P : Program} {w0 w : World} {r : Rho} {A : Mem} {t : TypeId} {b off g s : Nat} {v : Value} (h : loadO P A t b off = some v) (h1 : r[b]? = some (some (g, s))) (hr : Rel P w0 r A w) : ∃ v', (loadVar t ⟨g, off, none⟩).run P w = .ok v' w ∧ VR2 r v v' := by
  have q := evR_sound (P := P) (w0 := w0) (w := w) (r := r) (A := A) (e := fun _ => some (.pointer (some ⟨b, off, none⟩))) (e' := fun _ => .pointer (some ⟨g, off, none⟩)) (o := { dst := none, op := .load t (.tmp 0), type := 0, pos := "", after := #[], guard := none }) (v := v) h
    (fun x _ u hu => by cases hu; exact .of1 (.ptr h1)) hr
  obtain ⟨v', r1, r2⟩ := q
  refine ⟨v', ?_, ?_⟩
  · simp only [execOp, Instr.loadAt, Instr.sureAddr, Sem.run_bind, Sem.run_pure, Result.andThen_ok] at r1
    cases z : (loadVar t ⟨g, off, none⟩).run P w with
    | ok x w' => rw [z] at r1; simp at r1; obtain ⟨rfl, rfl⟩ := r1; rfl
    | halt x w' => rw [z] at r1; simp at r1
  · unfold loadO at h
    split at h
    · rename_i blk qb
      split at h
      · split at h
        · split at h
          · split at h
            · cases h
              cases r2 with
              | one r2 => exact r2
            · cases h
          · cases h
        · obtain ⟨c, _, _, _, k5⟩ := hr.there b blk g s qb h1
          obtain ⟨u, _, a2⟩ := k5 off v h
          cases r2 with
          | one r2 => exact r2
          | tuple r2 =>
            exfalso
            cases a2 with
            | flat f => simp [flat1] at f
      · cases h
    · split at h
      · rename_i x d qx qd
        split at h
        · cases h
        · obtain ⟨gx, lx⟩ := x
          obtain ⟨_, _, k3⟩ := hr.ro b gx lx qx
          have := (k3 off v h).1
          have hf : flat v = true := by
            unfold flat flat2
            cases v <;> first | exact this | (simp [flat1] at this)
          rw [r2.same hf]
          exact .one (.flat this)
      · cases h
    · cases h
def resL (P : Program) (s : St) : List ResultVar → Option (List Value)
  | [] => some []
  | .tmp t :: rest => match s.1.tmps[t]?, resL P s rest with | some v, some l => some (v :: l) | _, _ => none
  | .cell a t :: rest =>
    match s.1.tmps[a]?, resL P s rest with
    | some (.pointer (some ⟨b, off, none⟩)), some l => match loadO P s.2 t b off with | some v => some (v :: l) | none => none
    | _, _ => none
def notTuple : Value → Bool
  | .tuple _ => false
  | _ => true
def resO (P : Program) (fn : Func) (s : St) : Option Value :=
  match resL P s fn.results.toList with
  | some [v] => some v
  | some l => if l.all notTuple then some (.tuple ⟨l⟩) else none
  | none => none
def resF (tmps : Array Value) : ResultVar → Sem Value
  | .tmp t => pure (tmps.getD t undef)
  | .cell a t => do loadVar t (← asAddr (tmps.getD a undef))
theorem resL_sound {P : Program} {w0 w : World} {r : Rho} {s : St} {a : Act} (ha : ActRel r s.1 a) (hr : Rel P w0 r s.2 w) : ∀ (l : List ResultVar) (vs : List Value), resL P s l = some vs → ∃ vs', (l.mapM (resF a.tmps)).run P w = .ok vs' w ∧ LR (VRel r) vs vs'
  | [], vs, h => by cases h; exact ⟨[], by simp, rfl, fun i v e => by simp at e⟩
  | .tmp t :: rest, vs, h => by
    simp only [resL] at h
    split at h
    · rename_i v us q1 q2
      cases h
      obtain ⟨us', k1, k2⟩ := resL_sound ha hr rest us q2
      obtain ⟨v', e1, e2⟩ := ha.tmp t v q1
      refine ⟨v' :: us', ?_, by simpa using k2.1, fun i u hu => ?_⟩
      · simp [List.mapM_cons, resF, e1, k1]
      · cases i with
        | zero => simp at hu; subst hu; exact ⟨v', rfl, e2⟩
        | succ i => simpa using k2.2 i u (by simpa using hu)
    · cases h
  | .cell ad t :: rest, vs, h => by
    simp only [resL] at h
    split at h
    · rename_i b off us q1 q2
      split at h
      · rename_i v qv
        cases h
        obtain ⟨us', k1, k2⟩ := resL_sound ha hr rest us q2
        obtain ⟨v', e1, e2⟩ := ha.tmp ad _ q1
        obtain ⟨g, sl, h1, rfl⟩ := e2.inv_ptr
        obtain ⟨u', l1, l2⟩ := loadO_sound qv h1 hr
        refine ⟨u' :: us', ?_, by simpa using k2.1, fun i u hu => ?_⟩
        · simp [List.mapM_cons, resF, e1, asAddr, l1, k1]
        · cases i with
          | zero => simp at hu; subst hu; exact ⟨u', rfl, .one l2⟩
          | succ i => simpa using k2.2 i u (by simpa using hu)
      · cases h
    · cases h
theorem VRel.two {r : Rho} {v v' : Value} (h : VRel r v v') (n : notTuple v = true) : VR2 r v v' := by
  cases h with
  | one h => exact h
  | tuple h => cases n
theorem resO_sound {P : Program} {w0 w : World} {r : Rho} {s : St} {a : Act} (ha : ActRel r s.1 a) (hr : Rel P w0 r s.2 w) {fn : Func} {v : Value} (h : resO P fn s = some v) : ∃ v', (results fn a.tmps).run P w = .ok v' w ∧ VRel r v v' := by
  unfold resO at h
  have run : ∀ vs vs', resL P s fn.results.toList = some vs → (fn.results.toList.mapM (resF a.tmps)).run P w = .ok vs' w → (results fn a.tmps).run P w = .ok (if hh : vs'.toArray.size = 1 then vs'.toArray[0] else .tuple vs'.toArray) w := by
    intro vs vs' _ hm
    have e : results fn a.tmps = (do let vs ← fn.results.mapM (resF a.tmps); pure (if h : vs.size = 1 then vs[0] else .tuple vs)) := by
      unfold results
      congr 1
    rw [e, Array.mapM_eq_mapM_toList]
    simp [hm]
  split at h
  · rename_i u q
    cases h
    obtain ⟨vs', k1, k2⟩ := resL_sound ha hr _ _ q
    obtain ⟨u', e1, e2⟩ := k2.2 0 v rfl
    have hl : vs'.length = 1 := by have := k2.1; simpa using this.symm
    refine ⟨u', ?_, e2⟩
    rw [run _ vs' q k1]
    match vs', hl, e1 with
    | [x], _, e1 => simp at e1; subst e1; rfl
  · rename_i l ne q
    split at h
    · rename_i c
      cases h
      obtain ⟨vs', k1, k2⟩ := resL_sound ha hr _ _ q
      refine ⟨.tuple ⟨vs'⟩, ?_, .tuple ⟨k2.1, fun i u hu => ?_⟩⟩
      · rw [run _ vs' q k1]
        have hl : ¬ vs'.toArray.size = 1 := by
          intro h1
          have h2 : l.length = 1 := by have := k2.1; simp at h1; omega
          match l, h2, ne with
          | [x], _, ne => exact ne x rfl
        rw [dif_neg hl]
      · obtain ⟨u', e1, e2⟩ := k2.2 i u hu
        exact ⟨u', e1, e2.two (List.all_eq_true.1 c u (List.mem_of_getElem? hu))⟩
    · cases h
  · cases h
/-- calls that are known already -/
abbrev Known := FuncId → List Value → Option Value
def KnownOk (P : Program) (kn : Known) : Prop := ∀ (f : FuncId) (args : List Value) (v : Value), kn f args = some v → flat v = true ∧ (∀ x ∈ args, flat x = true) ∧ ∀ w : World, Calls P f ⟨args⟩ w fun x w' => x = .returned v ∧ Below w.heap.size w w'
theorem Rel.below_step {P : Program} {w0 : World} {r : Rho} {A : Mem} {w w' : World} (h : Rel P w0 r A w) (k : Below w.heap.size w w') : Rel P w0 r A w' := by
  refine ⟨h.len, h.below.trans (k.mono h.below.size), ?_, h.ro, h.inj, h.ex⟩
  intro i b g s e f
  obtain ⟨c, k2, k3, k4⟩ := h.there i b g s e f
  exact ⟨c, k2, by rw [k.block g (Array.getElem?_eq_some_iff.1 k3).1]; exact k3, k4⟩
def noKnown : Known := fun _ _ => none
theorem noKnown_ok (P : Program) : KnownOk P noKnown := fun _ _ _ h => by cases h
end Go.Proofs.YtgaigfmboomnkaaGreat
