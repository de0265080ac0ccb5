/-
  OWN TEXT: an evaluator for calls without open arguments. One operation.
-/
import Derived.Test.YtgaigfmboomnkaaGreatXvF
import Derived.Test.YtgaigfmboomnkaaGreatXvQ
namespace Go.Proofs.YtgaigfmboomnkaaGreat
open Go.RowKit
set_option linter.unusedVariables false
set_option linter.unusedSimpArgs false
/-- what a call comes to -/
abbrev Caller := FuncId → List Value → Mem → Option (Value × Mem)
def KOk (P : Program) (K : Caller) : Prop := ∀ (w0 : World) (r : Rho) (A : Mem) (w : World) (f : FuncId) (args args' : List Value) (v : Value) (A' : Mem), K f args A = some (v, A') → Rel P w0 r A w → LR (VRel r) args args' →
  Calls P f ⟨args'⟩ w fun x w' => ∃ r' v', r.le r' ∧ x = .returned v' ∧ VRel r' v v' ∧ Rel P w0 r' A' w' ∧ Keep r A A'
/-- no function with a body bears the name that the machine keeps for itself -/
def Plain (P : Program) : Prop := ∀ (f : Nat) (fn : Func), P.funcs[f]? = some fn → fn.body.isSome = true → (fn.name == "runtime.NumGoroutine") = false
def evP (P : Program) (e : Operand → Option Value) (o : Oper) : Option Value :=
  match flatP P e o with
  | some v => some v
  | none => match evS P e o with | some v => some v | none => evB P e o
theorem evP_sound {P : Program} {r : Rho} {e : Operand → Option Value} {e' : Operand → Value} {o : Oper} {v : Value} (h : evP P e o = some v) (k : OpsRel r e e' o.op) :
    ∃ v', (∀ w, (execOp e' o).run P w = .ok (.value v') w) ∧ VRel r v v' := by
  unfold evP at h
  split at h
  · rename_i u q; cases h; exact flatP_sound q k
  · split at h
    · rename_i u q; cases h; exact evS_sound q k
    · exact evB_sound h k
def argsO (e : Operand → Option Value) : List Operand → Option (List Value)
  | [] => some []
  | x :: xs => match e x, argsO e xs with | some v, some vs => some (v :: vs) | _, _ => none
theorem argsO_rel {r : Rho} {e : Operand → Option Value} {e' : Operand → Value} : ∀ (xs : List Operand) (vs : List Value), argsO e xs = some vs → (∀ x ∈ xs, ∀ v, e x = some v → VRel r v (e' x)) → LR (VRel r) vs (xs.map e')
  | [], vs, h, _ => by cases h; exact ⟨rfl, fun i v e => by simp at e⟩
  | x :: xs, vs, h, k => by
    simp only [argsO] at h
    split at h
    · rename_i v us q1 q2
      cases h
      have ih := argsO_rel xs us q2 (fun y hy => k y (by simp [hy]))
      refine ⟨by simpa using ih.1, fun i u hu => ?_⟩
      cases i with
      | zero => simp at hu; subst hu; exact ⟨e' x, rfl, k x (by simp) _ q1⟩
      | succ i => simpa using ih.2 i u (by simpa using hu)
    · cases h
/-- the function that is called, and what it has caught -/
def funcO (P : Program) (e : Operand → Option Value) (f : Operand) : Option (FuncId × List Value) :=
  match e f with
  | some (.func (.func g) ⟨[]⟩ ⟨l⟩) => match P.funcs[g]? with | some fn => if fn.body.isSome then some (g, l) else none | none => none
  | _ => none
theorem VRel.inv_func {r : Rho} {f : FuncId} {l : List Value} {v' : Value} (h : VRel r (.func (.func f) ⟨[]⟩ ⟨l⟩) v') : ∃ l', v' = .func (.func f) ⟨[]⟩ ⟨l'⟩ ∧ LR (VRel r) l l' := by
  cases h with
  | one h => cases h with
    | one h => cases h with
      | fn h =>
        refine ⟨_, rfl, h.mono fun v v' k => ?_⟩
        cases k with
        | flat e => exact .one (.one (.flat e))
        | ptr e => exact .one (.one (.ptr e))
      | flat h =>
        simp [flat1] at h
        subst h
        exact ⟨[], rfl, rfl, fun i v e => by simp at e⟩
theorem LR.app {R : Value → Value → Prop} {l l' m m' : List Value} (h : LR R l l') (k : LR R m m') : LR R (l ++ m) (l' ++ m') := by
  refine ⟨by simp [h.1, k.1], fun i v e => ?_⟩
  rcases Nat.lt_or_ge i l.length with c | c
  · rw [List.getElem?_append_left c] at e
    rw [List.getElem?_append_left (by rw [← h.1]; exact c)]
    exact h.2 i v e
  · rw [List.getElem?_append_right c] at e
    rw [List.getElem?_append_right (by rw [← h.1]; exact c), ← h.1]
    exact k.2 _ v e
def evCallO (K : Caller) (P : Program) (A : Mem) (e : Operand → Option Value) (f : Operand) (args : List Operand) : Option (Value × Mem) :=
  match funcO P e f, argsO e args with
  | some g, some vs => K g.1 (vs ++ g.2) A
  | _, _ => none
theorem wp_of_run {P : Program} {o : Oper} {a : Act} {w w' : World} {v : Value} {Kc : Act → World → Prop} {Q : Exit → Act → World → Prop} (h : (execOp a.eval o).run P w = .ok (.value v) w') (k : Kc (a.put o.dst v) w') : o.wp P a w Kc Q := by
  unfold Oper.wp; rw [h]; exact k
def evOp (K : Caller) (P : Program) (A : Mem) (e : Operand → Option Value) (o : Oper) : Option (Value × Mem) :=
  match o.op with
  | .load _ _ => (evR P A e o).map (·, A)
  | .store _ _ _ => (evStore P A e o).map (undef, ·)
  | .alloc _ | .box _ _ | .makeSlice _ _ _ | .buildSlice _ _ _ => (evN P A.length e o).map fun x => (x.1, A ++ [some x.2])
  | .move _ | .assign _ | .extract _ _ => (evS P e o).map (·, A)
  | .call c =>
    match c.callee with
    | .builtin .append => evAppend P A e o
    | .builtin .copy => evCopy P A e o
    | .value f => match funcO P e f with | some _ => evCallO K P A e f c.args.toList | none => (flatP P e o).map (·, A)
    | _ => (evP P e o).map (·, A)
  | _ => (evP P e o).map (·, A)
theorem evOp_sound {K : Caller} {P : Program} (hK : KOk P K) (hP : Plain P) {w0 w : World} {r : Rho} {A A' : Mem} {e : Operand → Option Value} {a : Act} {o : Oper} {v : Value} (h : evOp K P A e o = some (v, A')) (k : OpsRel r e a.eval o.op) (hr : Rel P w0 r A w)
    {Kc : Act → World → Prop} {Q : Exit → Act → World → Prop} (next : ∀ r' v' w', r.le r' → VRel r' v v' → Rel P w0 r' A' w' → Keep r A A' → Kc (a.put o.dst v') w') : o.wp P a w Kc Q := by
  have pur : ∀ u : Option Value, u.map (·, A) = some (v, A') → (∀ x, u = some x → ∃ v', (∀ w, (execOp a.eval o).run P w = .ok (.value v') w) ∧ VRel r x v') → o.wp P a w Kc Q := by
    intro u hu hs
    cases u with
    | none => cases hu
    | some x =>
      cases hu
      obtain ⟨v', r1, r2⟩ := hs _ rfl
      exact wp_of_run (r1 w) (next r v' w (Rho.le.refl r) r2 hr (Keep.refl r A))
  have new : (evN P A.length e o).map (fun x => (x.1, A ++ [some x.2])) = some (v, A') → o.wp P a w Kc Q := by
    intro hu
    cases q : evN P A.length e o with
    | none => rw [q] at hu; cases hu
    | some x =>
      obtain ⟨x1, x2⟩ := x
      rw [q] at hu
      cases hu
      obtain ⟨v', w', r1, r2, r3⟩ := evN_sound q k hr
      exact wp_of_run r1 (next _ v' w' (Rho.le.push r _) r2 r3 ((Keep.refl r A).push hr.len _))
  unfold evOp at h
  split at h
  · cases q : evR P A e o with
    | none => rw [q] at h; cases h
    | some x =>
      rw [q] at h
      cases h
      obtain ⟨v', r1, r2⟩ := evR_sound q k hr
      exact wp_of_run r1 (next r v' w (Rho.le.refl r) r2 hr (Keep.refl r A))
  · cases q : evStore P A e o with
    | none => rw [q] at h; cases h
    | some x =>
      rw [q] at h
      cases h
      obtain ⟨w', r1, r2, r3⟩ := evStore_sound q k hr
      unfold Oper.wp
      rw [r1]
      exact next r undef w' (Rho.le.refl r) (VRel.undef r) r2 r3
  · exact new h
  · exact new h
  · exact new h
  · exact new h
  · exact pur _ h fun x q => evS_sound q k
  · exact pur _ h fun x q => evS_sound q k
  · exact pur _ h fun x q => evS_sound q k
  · rename_i c heq
    split at h
    · obtain ⟨r', v', w', r1, r2, r3, r4, r5⟩ := evAppend_sound h k hr
      exact wp_of_run r2 (next r' v' w' r1 r3 r4 r5)
    · obtain ⟨w', r1, r2, r3, r4⟩ := evCopy_sound h k hr
      exact wp_of_run r1 (next r v w' (Rho.le.refl r) r2 r3 r4)
    · rename_i f hf
      split at h
      · rename_i g qg
        unfold evCallO at h
        rw [qg] at h
        cases q : argsO e c.args.toList with
        | none => rw [q] at h; cases h
        | some vs =>
          rw [q] at h
          simp only at h
          have hargs := argsO_rel (r := r) (e' := a.eval) c.args.toList vs q (fun x hx v hv => k x (by rw [heq]; simp only [Op.operands, Call.operands]; simp at hx ⊢; exact Or.inr hx) v hv)
          -- the function's value
          unfold funcO at qg
          split at qg
          · rename_i g' lc qf
            split at qg
            · rename_i fn qn
              split at qg
              · rename_i hb
                cases qg
                obtain ⟨lc', hx, hlc⟩ := (k f (by rw [heq]; simp [Op.operands, Call.operands, hf]) _ qf).inv_func
                have hc := hK w0 r A w g' (vs ++ lc) _ v A' h hr (hargs.app hlc)
                have g : FuncId := g'
                have hnm := hP g' fn qn hb
                have hbn : fn.body.isNone = false := by cases q : fn.body with | none => rw [q] at hb; cases hb | some c => rfl
                have hrun : (execOp a.eval o).run P w = .ok (.enter g' (c.args.map a.eval ++ ⟨lc'⟩)) w := by
                  obtain ⟨dst, op, type, pos, after, guard⟩ := o
                  simp only at heq
                  subst heq
                  have n1 : ¬ fn.name = "runtime.NumGoroutine" := by simpa using hnm
                  have n2 : ¬ fn.body = none := by intro q; rw [q] at hb; cases hb
                  simp [execOp, resolve, hf, hx, Deferred.ofValue, invoke, callFunc, qn, n1, n2]
                unfold Oper.wp
                rw [hrun]
                have e2 : (⟨c.args.toList.map a.eval ++ lc'⟩ : Array Value) = c.args.map a.eval ++ ⟨lc'⟩ := by apply Array.ext'; simp
                rw [e2] at hc
                exact hc.mono fun x w' hx => by
                  obtain ⟨r', v', q1, rfl, q2, q3, q4⟩ := hx
                  exact next r' v' w' q1 q2 q3 q4
              · cases qg
            · cases qg
          · cases qg
      · exact pur _ h fun x q => flatP_sound q k
    · exact pur _ h fun x q => evP_sound q k
  · exact pur _ h fun x q => evP_sound q k
end Go.Proofs.YtgaigfmboomnkaaGreat
