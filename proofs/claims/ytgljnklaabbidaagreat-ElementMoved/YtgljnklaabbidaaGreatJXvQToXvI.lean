/-
  OWN TEXT: an evaluator for calls without open arguments. Structs with addresses in them; what is nil.
-/
import Derived.Test.YtgljnklaabbidaaGreatJXvDToXvF
import Derived.Test.YtgljnklaabbidaaGreatJBhL
namespace Go.Proofs.YtgljnklaabbidaaGreat
open Go.RowKit
set_option linter.unusedVariables false
set_option linter.unusedSimpArgs false
/-- where the parts of a struct or an array lie -/
def placesO (P : Program) (t : TypeId) : Option (Nat → Option (Nat × Nat)) :=
  match P.underlying t with
  | some (.struct fields) => if fields.toList.all (fun f => (P.info? f.type).isSome) then some (fun i => (fields.map fun f => (f.offset, szOf P f.type))[i]?) else none
  | some (.array _ el) => if (P.info? el).isSome then some (fun i => some (i * szOf P el, szOf P el)) else none
  | _ => none
/-- what a function may have caught -/
def caught1 : Value → Bool
  | .pointer (some ⟨_, _, none⟩) => true
  | v => flat1 v
def caughtO (e : Operand → Option Value) : List Operand → Option (List Value)
  | [] => some []
  | x :: xs => match e x, caughtO e xs with | some v, some vs => if caught1 v then some (v :: vs) else none | _, _ => none
theorem caughtO_rel {r : Rho} {e : Operand → Option Value} {e' : Operand → Value} : ∀ (xs : List Operand) (vs : List Value), caughtO e xs = some vs → (∀ x ∈ xs, ∀ v, e x = some v → VRel r v (e' x)) → LR (VR0 r) vs (xs.map e')
  | [], vs, h, _ => by cases h; exact ⟨rfl, fun i v e => by simp at e⟩
  | x :: xs, vs, h, k => by
    simp only [caughtO] at h
    split at h
    · rename_i v us q1 q2
      split at h
      · rename_i c
        cases h
        have ih := caughtO_rel xs us q2 (fun y hy => k y (by simp [hy]))
        refine ⟨by simpa using ih.1, fun i u hu => ?_⟩
        cases i with
        | zero =>
          simp at hu
          subst hu
          refine ⟨e' x, rfl, ?_⟩
          have kx := k x (by simp) _ q1
          unfold caught1 at c
          split at c
          · obtain ⟨g, s, h1, h2⟩ := kx.inv_ptr
            rw [h2]; exact .ptr h1
          · have hf : flat v = true := by
              unfold flat flat2
              cases v <;> first | exact c | (simp [flat1] at c)
            rw [kx.same hf]; exact .flat c
        | succ i => simpa using ih.2 i u (by simpa using hu)
      · cases h
    · cases h
/-- structs and arrays with addresses in them; whether something is nil; functions that catch -/
def evB (P : Program) (e : Operand → Option Value) (o : Oper) : Option Value :=
  match o.op with
  | .makeFunc fn first captured =>
    match fn, first.toList with
    | .func f, [] => (caughtO e captured.toList).map fun l => .func (.func f) #[] ⟨l⟩
    | _, _ => none
  | .build t parts =>
    match P.info? t with
    | some i => match i.zero with
      | some z =>
        if z.cells.toList.all flat1 && parts.toList.all (partO e) then
          match placesO P t with
          | some place => match Instr.fill place z.cells (parts.toList.map fun p => (p.1, (e p.2).getD undef)) with
            | some cells => some (.agg ⟨cells.toList⟩)
            | none => none
          | none => none
        else none
      | none => none
    | none => none
  | .binOp op t x y _ =>
    match op, e x, e y, P.underlying t with
    | .eql, some (.slice (some _) _ _), some (.slice none _ _), some (.slice _) => some (.bool false)
    | .neq, some (.slice (some _) _ _), some (.slice none _ _), some (.slice _) => some (.bool true)
    | .eql, some (.pointer (some ⟨_, _, none⟩)), some (.pointer none), some (.pointer _) => some (.bool false)
    | .neq, some (.pointer (some ⟨_, _, none⟩)), some (.pointer none), some (.pointer _) => some (.bool true)
    | _, _, _, _ => none
  | _ => none
theorem eq_slice {P : Program} {t el : TypeId} (qu : P.underlying t = some (.slice el)) (d : Nat) (a : Addr) (n c m c' : Nat) (w : World) : (Op.equalIn (d + 1) t (.slice (some a) n c) (.slice none m c')).run P w = .ok false w := by
  simp [Op.equalIn, run_underlying qu]
theorem eq_pointer {P : Program} {t el : TypeId} (qu : P.underlying t = some (.pointer el)) (d : Nat) (a : Addr) (w : World) : (Op.equalIn (d + 1) t (.pointer (some a)) (.pointer none)).run P w = .ok false w := by
  simp [Op.equalIn, run_underlying qu]
theorem cmp_slice {P : Program} {t el : TypeId} (qu : P.underlying t = some (.slice el)) (op : BinOp) (hop : op = .eql ∨ op = .neq) (ox oy : Operand) (a : Addr) (n c m c' : Nat) (w : World) : (do eqGuard op t ox oy (.slice (some a) n c) (.slice none m c'); binOp op t (.slice (some a) n c) (.slice none m c') : Sem Value).run P w = .ok (.bool (op == .neq)) w := by
  have k := eq_slice (P := P) qu 9999 a n c m c' w
  rcases hop with rfl | rfl
  · show (do pure (.bool (← Op.equal t (.slice (some a) n c) (.slice none m c'))) : Sem Value).run P w = _
    rw [Sem.run_bind]
    show Result.andThen ((Op.equalIn (9999 + 1) t (.slice (some a) n c) (.slice none m c')).run P w) _ = _
    rw [k]; rfl
  · show (do pure (.bool (!(← Op.equal t (.slice (some a) n c) (.slice none m c')))) : Sem Value).run P w = _
    rw [Sem.run_bind]
    show Result.andThen ((Op.equalIn (9999 + 1) t (.slice (some a) n c) (.slice none m c')).run P w) _ = _
    rw [k]; rfl
theorem cmp_pointer {P : Program} {t el : TypeId} (qu : P.underlying t = some (.pointer el)) (op : BinOp) (hop : op = .eql ∨ op = .neq) (ox oy : Operand) (a : Addr) (w : World) : (do eqGuard op t ox oy (.pointer (some a)) (.pointer none); binOp op t (.pointer (some a)) (.pointer none) : Sem Value).run P w = .ok (.bool (op == .neq)) w := by
  have k := eq_pointer (P := P) qu 9999 a w
  rcases hop with rfl | rfl
  · show (do pure (.bool (← Op.equal t (.pointer (some a)) (.pointer none))) : Sem Value).run P w = _
    rw [Sem.run_bind]
    show Result.andThen ((Op.equalIn (9999 + 1) t (.pointer (some a)) (.pointer none)).run P w) _ = _
    rw [k]; rfl
  · show (do pure (.bool (!(← Op.equal t (.pointer (some a)) (.pointer none)))) : Sem Value).run P w = _
    rw [Sem.run_bind]
    show Result.andThen ((Op.equalIn (9999 + 1) t (.pointer (some a)) (.pointer none)).run P w) _ = _
    rw [k]; rfl
theorem run_sizes {P : Program} (w : World) : ∀ (l : List Field), l.all (fun f => (P.info? f.type).isSome) = true → (l.mapM (fun f => do pure (f.offset, ← sizeOf f.type) : Field → Sem (Nat × Nat))).run P w = .ok (l.map fun f => (f.offset, szOf P f.type)) w
  | [], _ => by simp
  | f :: l, h => by
    simp only [List.all_cons, Bool.and_eq_true] at h
    obtain ⟨i, hi⟩ := Option.isSome_iff_exists.1 h.1
    have ih := run_sizes w l h.2
    simp only [List.mapM_cons]
    simp [sizeOf, typeInfo, hi, szOf]
    simp [sizeOf, typeInfo, szOf] at ih
    simp [ih]
theorem evB_sound {P : Program} {r : Rho} {e : Operand → Option Value} {e' : Operand → Value} {o : Oper} {v : Value} (h : evB P e o = some v) (k : OpsRel r e e' o.op) :
    ∃ v', (∀ w, (execOp e' o).run P w = .ok (.value v') w) ∧ VRel r v v' := by
  obtain ⟨dst, op, type, pos, after, guard⟩ := o
  unfold evB at h
  simp only at h
  cases op
  case build t parts =>
    simp only at h
    split at h
    · rename_i i qi
      split at h
      · rename_i z qz
        split at h
        · rename_i hf
          rw [Bool.and_eq_true] at hf
          obtain ⟨hf, hp⟩ := hf
          split at h
          · rename_i place qp
            split at h
            · rename_i cells qf
              cases h
              have hp' : ∀ p ∈ parts.toList, ∃ u, e p.2 = some u ∧ (cellsO u).isSome = true := by
                intro p hm
                have := List.all_eq_true.1 hp p hm
                unfold partO at this
                cases q : e p.2 with
                | none => rw [q] at this; cases this
                | some u => rw [q] at this; exact ⟨u, rfl, this⟩
              have pr : PR r (parts.toList.map fun p => (p.1, (e p.2).getD undef)) (parts.toList.map fun p => (p.1, e' p.2)) := by
                refine ⟨by simp, fun j n u hj => ?_⟩
                simp only [List.getElem?_map] at hj ⊢
                cases q : parts.toList[j]? with
                | none => rw [q] at hj; cases hj
                | some p =>
                  rw [q] at hj
                  simp only [Option.map_some, Option.some.injEq, Prod.mk.injEq] at hj ⊢
                  obtain ⟨u', hu, _⟩ := hp' p (List.mem_of_getElem? q)
                  rw [hu] at hj
                  obtain ⟨rfl, rfl⟩ := hj
                  refine ⟨e' p.2, ⟨rfl, rfl⟩, k p.2 ?_ _ hu⟩
                  simp only [Op.operands]
                  simp
                  exact ⟨p.1, by simpa using List.mem_of_getElem? q⟩
              obtain ⟨out', f1, f2⟩ := fill_rel (r := r) place _ _ _ z.cells cells pr (by
                intro p hm
                simp only [List.mem_map] at hm
                obtain ⟨p0, hm, rfl⟩ := hm
                obtain ⟨u, hu, hc⟩ := hp' p0 hm
                simp only [hu, Option.getD_some]; exact hc) (flat_cells hf) qf
              have f1' : Instr.fill place z.cells (parts.map fun p => (p.1, e' p.2)).toList = some out' := by
                rw [Array.toList_map]; exact f1
              obtain ⟨out'⟩ := out'
              refine ⟨.agg ⟨out'⟩, fun w => ?_, .one (.agg f2)⟩
              unfold placesO at qp
              split at qp
              · rename_i fields qu
                split at qp
                · rename_i hall
                  cases qp
                  have hm := run_sizes (P := P) w fields.toList hall
                  have hm' : (fields.mapM (fun f => do pure (f.offset, ← sizeOf f.type) : Field → Sem (Nat × Nat))).run P w = .ok (fields.map fun f => (f.offset, szOf P f.type)) w := by
                    rw [Array.mapM_eq_mapM_toList]
                    simp only [Sem.run_map, hm, Result.andThen_ok]
                    congr 1
                    apply Array.ext'
                    simp
                  simp only [execOp, Instr.build, Sem.run_bind, zeroValue, typeInfo, program]
                  simp only [Sem.run, qi, qz, Sem.run_pure, Result.andThen_ok, run_underlying qu, Sem.run_bind, hm', f1']
                · cases qp
              · rename_i n el qu
                split at qp
                · rename_i hall
                  cases qp
                  obtain ⟨i2, hi2⟩ := Option.isSome_iff_exists.1 hall
                  have hsz : szOf P el = i2.size := by simp [szOf, hi2]
                  rw [hsz] at f1'
                  simp only [execOp, Instr.build, Sem.run_bind, zeroValue, typeInfo, program, sizeOf]
                  simp only [Sem.run, qi, qz, hi2, Sem.run_pure, Result.andThen_ok, run_underlying qu, Sem.run_bind, f1']
                · cases qp
              · cases qp
            · cases h
          · cases h
        · cases h
      · cases h
    · cases h
  case makeFunc fn first captured =>
    simp only at h
    split at h
    · rename_i f qf
      obtain rfl : first = #[] := by apply Array.ext'; simpa using qf
      cases q : caughtO e captured.toList with
      | none => rw [q] at h; cases h
      | some l =>
        rw [q] at h
        cases h
        have hl := caughtO_rel (r := r) (e' := e') captured.toList l q (fun x hx v hv => k x (by simp [Op.operands]; simpa using hx) v hv)
        refine ⟨.func (.func f) #[] ⟨captured.toList.map e'⟩, fun w => ?_, .one (.one (.fn hl))⟩
        simp only [execOp, Instr.makeFunc]
        have : (⟨captured.toList.map e'⟩ : Array Value) = captured.map e' := by apply Array.ext'; simp
        rw [this]
        simp
    · cases h
  case binOp op t x y yt =>
    simp only at h
    have fin : ∀ op' b, op = op' → (∀ w, (do eqGuard op' t x y (e' x) (e' y); binOp op' t (e' x) (e' y) : Sem Value).run P w = .ok (.bool b) w) → v = .bool b → ∃ v', (∀ w, (execOp e' { dst := dst, op := .binOp op t x y yt, type := type, pos := pos, after := after, guard := guard }).run P w = .ok (.value v') w) ∧ VRel r v v' := by
      intro op' b ho hrun hv
      subst ho
      subst hv
      refine ⟨.bool b, fun w => ?_, VRel.of_flat r rfl⟩
      simp only [execOp]
      rw [Sem.run_bind, hrun w]
      rfl
    split at h
    · rename_i a n c m c' el q1 q2 qu
      cases h
      have hy := (k y (by simp [Op.operands]) _ q2).same rfl
      rcases (k x (by simp [Op.operands]) _ q1).inv_slices0 with ⟨z, _⟩ | ⟨ad, cx, hx, _⟩
      · cases z
      · exact fin .eql false rfl (fun w => by rw [hx, hy]; exact cmp_slice qu .eql (Or.inl rfl) x y ad _ _ _ _ w) rfl
    · rename_i a n c m c' el q1 q2 qu
      cases h
      have hy := (k y (by simp [Op.operands]) _ q2).same rfl
      rcases (k x (by simp [Op.operands]) _ q1).inv_slices0 with ⟨z, _⟩ | ⟨ad, cx, hx, _⟩
      · cases z
      · exact fin .neq true rfl (fun w => by rw [hx, hy]; exact cmp_slice qu .neq (Or.inr rfl) x y ad _ _ _ _ w) rfl
    · rename_i b0 o0 el q1 q2 qu
      cases h
      have hy := (k y (by simp [Op.operands]) _ q2).same rfl
      obtain ⟨g, s, _, hx⟩ := (k x (by simp [Op.operands]) _ q1).inv_ptr
      exact fin .eql false rfl (fun w => by rw [hx, hy]; exact cmp_pointer qu .eql (Or.inl rfl) x y _ w) rfl
    · rename_i b0 o0 el q1 q2 qu
      cases h
      have hy := (k y (by simp [Op.operands]) _ q2).same rfl
      obtain ⟨g, s, _, hx⟩ := (k x (by simp [Op.operands]) _ q1).inv_ptr
      exact fin .neq true rfl (fun w => by rw [hx, hy]; exact cmp_pointer qu .neq (Or.inr rfl) x y _ w) rfl
    · cases h
  all_goals cases h
end Go.Proofs.YtgljnklaabbidaaGreat
/-
  OWN TEXT: an evaluator for calls without open arguments. One operation.
-/
namespace Go.Proofs.YtgljnklaabbidaaGreat
open Go.RowKit
set_option linter.unusedVariables false
set_option linter.unusedSimpArgs false
/-- what a call comes to -/
abbrev Caller := FuncId → List Value → Mem → Option (Value × Mem)
def KOk (P : Program) (K : Caller) : Prop := ∀ (w0 : World) (r : Rho) (A : Mem) (w : World) (f : FuncId) (args args' : List Value) (v : Value) (A' : Mem), K f args A = some (v, A') → Rel P w0 r A w → LR (VRel r) args args' →
  Calls P f ⟨args'⟩ w fun x w' => ∃ r' v', r.le r' ∧ x = .returned v' ∧ VRel r' v v' ∧ Rel P w0 r' A' w' ∧ Keep r A A'
/-- no function with a body bears the name that the machine keeps for itself -/
def Plain (P : Program) : Prop := ∀ (f : Nat) (fn : Func), P.funcs[f]? = some fn → fn.body.isSome = true → (fn.name == "runtime.NumGoroutine") = false
def evP (P : Program) (e : Operand → Option Value) (o : Oper) : Option Value :=
  match flatP P e o with
  | some v => some v
  | none => match evS P e o with | some v => some v | none => evB P e o
theorem evP_sound {P : Program} {r : Rho} {e : Operand → Option Value} {e' : Operand → Value} {o : Oper} {v : Value} (h : evP P e o = some v) (k : OpsRel r e e' o.op) :
    ∃ v', (∀ w, (execOp e' o).run P w = .ok (.value v') w) ∧ VRel r v v' := by
  unfold evP at h
  split at h
  · rename_i u q; cases h; exact flatP_sound q k
  · split at h
    · rename_i u q; cases h; exact evS_sound q k
    · exact evB_sound h k
def argsO (e : Operand → Option Value) : List Operand → Option (List Value)
  | [] => some []
  | x :: xs => match e x, argsO e xs with | some v, some vs => some (v :: vs) | _, _ => none
theorem argsO_rel {r : Rho} {e : Operand → Option Value} {e' : Operand → Value} : ∀ (xs : List Operand) (vs : List Value), argsO e xs = some vs → (∀ x ∈ xs, ∀ v, e x = some v → VRel r v (e' x)) → LR (VRel r) vs (xs.map e')
  | [], vs, h, _ => by cases h; exact ⟨rfl, fun i v e => by simp at e⟩
  | x :: xs, vs, h, k => by
    simp only [argsO] at h
    split at h
    · rename_i v us q1 q2
      cases h
      have ih := argsO_rel xs us q2 (fun y hy => k y (by simp [hy]))
      refine ⟨by simpa using ih.1, fun i u hu => ?_⟩
      cases i with
      | zero => simp at hu; subst hu; exact ⟨e' x, rfl, k x (by simp) _ q1⟩
      | succ i => simpa using ih.2 i u (by simpa using hu)
    · cases h
/-- the function that is called, and what it has caught -/
def funcO (P : Program) (e : Operand → Option Value) (f : Operand) : Option (FuncId × List Value) :=
  match e f with
  | some (.func (.func g) ⟨[]⟩ ⟨l⟩) => match P.funcs[g]? with | some fn => if fn.body.isSome then some (g, l) else none | none => none
  | _ => none
theorem VRel.inv_func {r : Rho} {f : FuncId} {l : List Value} {v' : Value} (h : VRel r (.func (.func f) ⟨[]⟩ ⟨l⟩) v') : ∃ l', v' = .func (.func f) ⟨[]⟩ ⟨l'⟩ ∧ LR (VRel r) l l' := by
  cases h with
  | one h => cases h with
    | one h => cases h with
      | fn h =>
        refine ⟨_, rfl, h.mono fun v v' k => ?_⟩
        cases k with
        | flat e => exact .one (.one (.flat e))
        | ptr e => exact .one (.one (.ptr e))
      | flat h =>
        simp [flat1] at h
        subst h
        exact ⟨[], rfl, rfl, fun i v e => by simp at e⟩
theorem LR.app {R : Value → Value → Prop} {l l' m m' : List Value} (h : LR R l l') (k : LR R m m') : LR R (l ++ m) (l' ++ m') := by
  refine ⟨by simp [h.1, k.1], fun i v e => ?_⟩
  rcases Nat.lt_or_ge i l.length with c | c
  · rw [List.getElem?_append_left c] at e
    rw [List.getElem?_append_left (by rw [← h.1]; exact c)]
    exact h.2 i v e
  · rw [List.getElem?_append_right c] at e
    rw [List.getElem?_append_right (by rw [← h.1]; exact c), ← h.1]
    exact k.2 _ v e
/-- the method that is called on what an interface holds, and its receiver -/
def invF (P : Program) (v : Value) (name : String) : Option (FuncId × Value) :=
  match v with
  | .iface t u => bif flatI u then pureRun P (method (P.types.size + Made.depth) t u name) else none
  | _ => none
def invO (P : Program) (e : Operand → Option Value) (x : Operand) (name : String) : Option (FuncId × Value) :=
  match e x with
  | some v => match invF P v name with
    | some (f, u) => if flat u then (match P.funcs[f]? with | some fn => if fn.body.isSome then some (f, u) else none | none => none) else none
    | none => none
  | none => none
def evInvO (K : Caller) (P : Program) (A : Mem) (e : Operand → Option Value) (x : Operand) (name : String) (args : List Operand) : Option (Value × Mem) :=
  match invO P e x name, argsO e args with
  | some g, some vs => K g.1 (g.2 :: vs) A
  | _, _ => none
theorem LR.cons {R : Value → Value → Prop} {v v' : Value} {l l' : List Value} (h : R v v') (k : LR R l l') : LR R (v :: l) (v' :: l') := by
  refine ⟨by simp [k.1], fun i u e => ?_⟩
  cases i with
  | zero => simp at e; subst e; exact ⟨v', rfl, h⟩
  | succ i => exact k.2 i u (by simpa using e)
/-- what a call through an interface enters -/
theorem invO_run {P : Program} (hP : Plain P) {r : Rho} {e : Operand → Option Value} {e' : Operand → Value} {x : Operand} {name : String} {args : Array Operand} {ts : Array TypeId} {dst : Option Tmp} {type : TypeId} {pos : String} {after : Array Edge} {guard : Option (Nat × Bool)} {g : FuncId × Value} (h : invO P e x name = some g) (k : ∀ v, e x = some v → VRel r v (e' x)) :
    flat g.2 = true ∧ ∀ w, (execOp e' (Oper.mk dst (.call ⟨.invoke x name, args, ts⟩) type pos after guard)).run P w = .ok (.enter g.1 (#[g.2] ++ args.map e')) w := by
  unfold invO at h
  split at h
  · rename_i v qv
    split at h
    · rename_i f u qf
      split at h
      · rename_i hu
        split at h
        · rename_i fn qn
          split at h
          · rename_i hb
            cases h
            refine ⟨hu, fun w => ?_⟩
            unfold invF at qf
            split at qf
            · rename_i t y
              cases hy : flatI y with
              | false => rw [hy] at qf; cases qf
              | true =>
                rw [hy, cond_true] at qf
                have hx : e' x = .iface t y := (k _ qv).same (show flat (.iface t y) = true from hy)
                have hm := pureRun_run _ qf w
                have hnm := hP f fn qn hb
                have n1 : ¬ fn.name = "runtime.NumGoroutine" := by simpa using hnm
                have n2 : ¬ fn.body = none := by intro q; rw [q] at hb; cases hb
                have e1 : ∀ l : Array Value, (#[e' x] ++ l).extract 1 (#[e' x] ++ l).size = l := by
                  intro l
                  apply Array.ext'
                  simp
                have e0 : ∀ l : Array Value, (#[e' x] ++ l)[0]? = some (e' x) := by
                  intro l
                  rw [Array.getElem?_append_left (by simp)]
                  rfl
                have hcm : ∀ l : Array Value, (callMethod (.iface t y) name l).run P w = .ok (.enter f (#[u] ++ l)) w := by
                  intro l
                  show (do let p ← program; let (f, receiver) ← method (p.types.size + Made.depth) t y name; callFunc f (#[receiver] ++ l) : Sem Next).run P w = _
                  rw [Sem.run_bind]
                  have hp : (program).run P w = .ok P w := rfl
                  rw [hp, Result.andThen_ok, Sem.run_bind, hm, Result.andThen_ok]
                  simp [callFunc, qn, n1, n2]
                have hiv : ∀ l : Array Value, (invoke (.fn (.method name) #[]) (#[e' x] ++ l)).run P w = .ok (.enter f (#[u] ++ l)) w := by
                  intro l
                  simp only [invoke]
                  rw [e0, e1, hx]
                  exact hcm l
                exact hiv (args.map e')
            · cases qf
          · cases h
        · cases h
      · cases h
    · cases h
  · cases h
def evCallO (K : Caller) (P : Program) (A : Mem) (e : Operand → Option Value) (f : Operand) (args : List Operand) : Option (Value × Mem) :=
  match funcO P e f, argsO e args with
  | some g, some vs => K g.1 (vs ++ g.2) A
  | _, _ => none
theorem wp_of_run {P : Program} {o : Oper} {a : Act} {w w' : World} {v : Value} {Kc : Act → World → Prop} {Q : Exit → Act → World → Prop} (h : (execOp a.eval o).run P w = .ok (.value v) w') (k : Kc (a.put o.dst v) w') : o.wp P a w Kc Q := by
  unfold Oper.wp; rw [h]; exact k
def evOp (K : Caller) (P : Program) (A : Mem) (e : Operand → Option Value) (o : Oper) : Option (Value × Mem) :=
  match o.op with
  | .load _ _ => (evR P A e o).map (·, A)
  | .store _ _ _ => (evStore P A e o).map (undef, ·)
  | .alloc _ | .box _ _ | .makeSlice _ _ _ | .buildSlice _ _ _ => (evN P A.length e o).map fun x => (x.1, A ++ [some x.2])
  | .move _ | .assign _ | .extract _ _ => (evS P e o).map (·, A)
  | .call c =>
    match c.callee with
    | .builtin .append => evAppend P A e o
    | .builtin .copy => evCopy P A e o
    | .value f => match funcO P e f with | some _ => evCallO K P A e f c.args.toList | none => (flatP P e o).map (·, A)
    | .invoke x name => evInvO K P A e x name c.args.toList
    | _ => (evP P e o).map (·, A)
  | _ => (evP P e o).map (·, A)
theorem evOp_sound {K : Caller} {P : Program} (hK : KOk P K) (hP : Plain P) {w0 w : World} {r : Rho} {A A' : Mem} {e : Operand → Option Value} {a : Act} {o : Oper} {v : Value} (h : evOp K P A e o = some (v, A')) (k : OpsRel r e a.eval o.op) (hr : Rel P w0 r A w)
    {Kc : Act → World → Prop} {Q : Exit → Act → World → Prop} (next : ∀ r' v' w', r.le r' → VRel r' v v' → Rel P w0 r' A' w' → Keep r A A' → Kc (a.put o.dst v') w') : o.wp P a w Kc Q := by
  have pur : ∀ u : Option Value, u.map (·, A) = some (v, A') → (∀ x, u = some x → ∃ v', (∀ w, (execOp a.eval o).run P w = .ok (.value v') w) ∧ VRel r x v') → o.wp P a w Kc Q := by
    intro u hu hs
    cases u with
    | none => cases hu
    | some x =>
      cases hu
      obtain ⟨v', r1, r2⟩ := hs _ rfl
      exact wp_of_run (r1 w) (next r v' w (Rho.le.refl r) r2 hr (Keep.refl r A))
  have new : (evN P A.length e o).map (fun x => (x.1, A ++ [some x.2])) = some (v, A') → o.wp P a w Kc Q := by
    intro hu
    cases q : evN P A.length e o with
    | none => rw [q] at hu; cases hu
    | some x =>
      obtain ⟨x1, x2⟩ := x
      rw [q] at hu
      cases hu
      obtain ⟨v', w', r1, r2, r3⟩ := evN_sound q k hr
      exact wp_of_run r1 (next _ v' w' (Rho.le.push r _) r2 r3 ((Keep.refl r A).push hr.len _))
  unfold evOp at h
  split at h
  · cases q : evR P A e o with
    | none => rw [q] at h; cases h
    | some x =>
      rw [q] at h
      cases h
      obtain ⟨v', r1, r2⟩ := evR_sound q k hr
      exact wp_of_run r1 (next r v' w (Rho.le.refl r) r2 hr (Keep.refl r A))
  · cases q : evStore P A e o with
    | none => rw [q] at h; cases h
    | some x =>
      rw [q] at h
      cases h
      obtain ⟨w', r1, r2, r3⟩ := evStore_sound q k hr
      unfold Oper.wp
      rw [r1]
      exact next r undef w' (Rho.le.refl r) (VRel.undef r) r2 r3
  · exact new h
  · exact new h
  · exact new h
  · exact new h
  · exact pur _ h fun x q => evS_sound q k
  · exact pur _ h fun x q => evS_sound q k
  · exact pur _ h fun x q => evS_sound q k
  · rename_i c heq
    split at h
    · obtain ⟨r', v', w', r1, r2, r3, r4, r5⟩ := evAppend_sound h k hr
      exact wp_of_run r2 (next r' v' w' r1 r3 r4 r5)
    · obtain ⟨w', r1, r2, r3, r4⟩ := evCopy_sound h k hr
      exact wp_of_run r1 (next r v w' (Rho.le.refl r) r2 r3 r4)
    · rename_i f hf
      split at h
      · rename_i g qg
        unfold evCallO at h
        rw [qg] at h
        cases q : argsO e c.args.toList with
        | none => rw [q] at h; cases h
        | some vs =>
          rw [q] at h
          simp only at h
          have hargs := argsO_rel (r := r) (e' := a.eval) c.args.toList vs q (fun x hx v hv => k x (by rw [heq]; simp only [Op.operands, Call.operands]; simp at hx ⊢; exact Or.inr hx) v hv)
          -- the function's value
          unfold funcO at qg
          split at qg
          · rename_i g' lc qf
            split at qg
            · rename_i fn qn
              split at qg
              · rename_i hb
                cases qg
                obtain ⟨lc', hx, hlc⟩ := (k f (by rw [heq]; simp [Op.operands, Call.operands, hf]) _ qf).inv_func
                have hc := hK w0 r A w g' (vs ++ lc) _ v A' h hr (hargs.app hlc)
                have g : FuncId := g'
                have hnm := hP g' fn qn hb
                have hbn : fn.body.isNone = false := by cases q : fn.body with | none => rw [q] at hb; cases hb | some c => rfl
                have hrun : (execOp a.eval o).run P w = .ok (.enter g' (c.args.map a.eval ++ ⟨lc'⟩)) w := by
                  obtain ⟨dst, op, type, pos, after, guard⟩ := o
                  simp only at heq
                  subst heq
                  have n1 : ¬ fn.name = "runtime.NumGoroutine" := by simpa using hnm
                  have n2 : ¬ fn.body = none := by intro q; rw [q] at hb; cases hb
                  simp [execOp, resolve, hf, hx, Deferred.ofValue, invoke, callFunc, qn, n1, n2]
                unfold Oper.wp
                rw [hrun]
                have e2 : (⟨c.args.toList.map a.eval ++ lc'⟩ : Array Value) = c.args.map a.eval ++ ⟨lc'⟩ := by apply Array.ext'; simp
                rw [e2] at hc
                exact hc.mono fun x w' hx => by
                  obtain ⟨r', v', q1, rfl, q2, q3, q4⟩ := hx
                  exact next r' v' w' q1 q2 q3 q4
              · cases qg
            · cases qg
          · cases qg
      · exact pur _ h fun x q => flatP_sound q k
    · rename_i x name hf
      unfold evInvO at h
      cases qg : invO P e x name with
      | none => rw [qg] at h; cases h
      | some g =>
        rw [qg] at h
        cases q : argsO e c.args.toList with
        | none => rw [q] at h; cases h
        | some vs =>
          rw [q] at h
          simp only at h
          have hargs := argsO_rel (r := r) (e' := a.eval) c.args.toList vs q (fun x hx v hv => k x (by rw [heq]; simp only [Op.operands, Call.operands]; simp at hx ⊢; exact Or.inr hx) v hv)
          obtain ⟨dst, op, type, pos, after, guard⟩ := o
          obtain ⟨callee, args, ts⟩ := c
          simp only at heq hf
          subst hf
          subst heq
          obtain ⟨hu, hrun⟩ := invO_run (dst := dst) (type := type) (pos := pos) (after := after) (guard := guard) (args := args) (ts := ts) hP qg (fun v hv => k x (by simp [Op.operands, Call.operands]) v hv)
          have hc := hK w0 r A w g.1 (g.2 :: vs) _ v A' h hr (LR.cons (VRel.of_flat r hu) hargs)
          unfold Oper.wp
          rw [hrun w]
          have e2 : (⟨g.2 :: args.toList.map a.eval⟩ : Array Value) = #[g.2] ++ args.map a.eval := by apply Array.ext'; simp
          rw [e2] at hc
          exact hc.mono fun x w' hx => by
            obtain ⟨r', v', q1, rfl, q2, q3, q4⟩ := hx
            exact next r' v' w' q1 q2 q3 q4
    · exact pur _ h fun x q => evP_sound q k
  · exact pur _ h fun x q => evP_sound q k
end Go.Proofs.YtgljnklaabbidaaGreat
/-
  OWN TEXT: an evaluator for calls without open arguments. An operation hangs on its operands alone.
-/
namespace Go.Proofs.YtgljnklaabbidaaGreat
open Go.RowKit
set_option linter.unusedVariables false
set_option linter.unusedSimpArgs false
section
variable {P : Program} {e e' : Operand → Option Value}
theorem flatP_congr {o : Oper} (h : ∀ x ∈ o.op.operands, e x = e' x) : flatP P e o = flatP P e' o := by
  unfold flatP
  have h1 : o.op.operands.toList.all (flatO e) = o.op.operands.toList.all (flatO e') := by
    rw [Bool.eq_iff_iff, List.all_eq_true, List.all_eq_true]
    constructor
    · intro q x hx; have := q x hx; unfold flatO at this ⊢; rw [← h x (by simpa using hx)]; exact this
    · intro q x hx; have := q x hx; unfold flatO at this ⊢; rw [h x (by simpa using hx)]; exact this
  rw [h1]
  by_cases c : notSelect o.op = true
  · have hs : ∀ cs b, o.op ≠ .select cs b := by intro cs b q; rw [q] at c; cases c
    rw [execOp_congr (ρ' := fun x => (e' x).getD undef) o hs (fun x hx => by simp only [h x hx])]
  · have c' : notSelect o.op = false := by simpa using c
    simp [c']
theorem bndO_congr {y d : Nat} {z : Option Operand} (h : ∀ x ∈ z.toArray, e x = e' x) : bndO e y d z = bndO e' y d z := by
  cases z with
  | none => rfl
  | some x => simp only [bndO, h x (by simp)]
theorem evSlice_congr {b off len cap size : Nat} {sp : Option Nat} {lo hi mx : Option Operand} (h1 : ∀ x ∈ lo.toArray, e x = e' x) (h2 : ∀ x ∈ hi.toArray, e x = e' x) (h3 : ∀ x ∈ mx.toArray, e x = e' x) : evSlice e b off len cap size sp lo hi mx = evSlice e' b off len cap size sp lo hi mx := by
  unfold evSlice
  rw [bndO_congr h3]
  simp only [bndO_congr h2, bndO_congr h1]
theorem evS_congr {o : Oper} (h : ∀ x ∈ o.op.operands, e x = e' x) : evS P e o = evS P e' o := by
  obtain ⟨dst, op, type, pos, after, guard⟩ := o
  cases op
  case move x => exact h x (by simp [Op.operands])
  case assign x => exact h x (by simp [Op.operands])
  case nilCheck x => simp only [evS, h x (by simp [Op.operands])]
  case extract x i => simp only [evS, h x (by simp [Op.operands])]
  case fieldAddr s x f => simp only [evS, h x (by simp [Op.operands])]
  case field s x f => simp only [evS, h x (by simp [Op.operands])]
  case indexAddr t x ix => simp only [evS, h x (by simp [Op.operands]), h ix (by simp [Op.operands])]
  case slice t x lo hi mx =>
    have e1 : ∀ b off len cap size sp, evSlice e b off len cap size sp lo hi mx = evSlice e' b off len cap size sp lo hi mx := fun b off len cap size sp =>
      evSlice_congr (fun y hy => h y (by simp only [Op.operands]; simp at hy ⊢; simp [hy])) (fun y hy => h y (by simp only [Op.operands]; simp at hy ⊢; simp [hy])) (fun y hy => h y (by simp only [Op.operands]; simp at hy ⊢; simp [hy]))
    simp only [evS, h x (by simp [Op.operands]), e1]
  case call c =>
    obtain ⟨callee, args, argTypes⟩ := c
    have ha : ∀ x ∈ args.toList, e x = e' x := fun x hx => h x (by simp only [Op.operands, Call.operands]; simp at hx ⊢; exact Or.inr hx)
    simp only [evS]
    split
    · rename_i x t qa qt
      rw [ha x (by rw [qa]; simp)]
    · rfl
  all_goals rfl
theorem evB_congr {o : Oper} (h : ∀ x ∈ o.op.operands, e x = e' x) : evB P e o = evB P e' o := by
  obtain ⟨dst, op, type, pos, after, guard⟩ := o
  cases op
  case build t parts =>
    have hp : ∀ p ∈ parts.toList, e p.2 = e' p.2 := by
      intro p hp
      refine h p.2 ?_
      simp only [Op.operands]
      simp
      exact ⟨p.1, by simpa using hp⟩
    have h1 : parts.toList.all (partO e) = parts.toList.all (partO e') := by
      rw [Bool.eq_iff_iff, List.all_eq_true, List.all_eq_true]
      constructor
      · intro q x hx; have := q x hx; unfold partO at this ⊢; rw [← hp x hx]; exact this
      · intro q x hx; have := q x hx; unfold partO at this ⊢; rw [hp x hx]; exact this
    have h2 : (parts.toList.map fun p => (p.1, (e p.2).getD undef)) = (parts.toList.map fun p => (p.1, (e' p.2).getD undef)) := List.map_congr_left fun p hm => by rw [hp p hm]
    simp only [evB, h1, h2]
  case makeFunc fn first captured =>
    have hc : ∀ l : List Operand, (∀ x ∈ l, e x = e' x) → caughtO e l = caughtO e' l := by
      intro l
      induction l with
      | nil => intro _; rfl
      | cons x l ih => intro h; simp only [caughtO, h x (by simp), ih (fun y hy => h y (by simp [hy]))]
    simp only [evB, hc captured.toList (fun x hx => h x (by simp [Op.operands]; exact Or.inr (by simpa using hx)))]
  case binOp op t x y yt => simp only [evB, h x (by simp [Op.operands]), h y (by simp [Op.operands])]
  all_goals rfl
theorem evP_congr {o : Oper} (h : ∀ x ∈ o.op.operands, e x = e' x) : evP P e o = evP P e' o := by
  unfold evP
  rw [flatP_congr h, evS_congr h, evB_congr h]
theorem evR_congr {A : Mem} {o : Oper} (h : ∀ x ∈ o.op.operands, e x = e' x) : evR P A e o = evR P A e' o := by
  obtain ⟨dst, op, type, pos, after, guard⟩ := o
  cases op
  case load t x => simp only [evR, h x (by simp [Op.operands])]
  all_goals rfl
theorem evN_congr {id : Nat} {o : Oper} (h : ∀ x ∈ o.op.operands, e x = e' x) : evN P id e o = evN P id e' o := by
  obtain ⟨dst, op, type, pos, after, guard⟩ := o
  cases op
  case box el x => simp only [evN, h x (by simp [Op.operands])]
  case makeSlice t l c => simp only [evN, h l (by simp [Op.operands]), h c (by simp [Op.operands])]
  case buildSlice t len parts =>
    have hp : ∀ p ∈ parts.toList, e p.2 = e' p.2 := by
      intro p hp
      refine h p.2 ?_
      simp only [Op.operands]
      simp
      exact ⟨p.1, by simpa using hp⟩
    have h1 : parts.toList.all (partO e) = parts.toList.all (partO e') := by
      rw [Bool.eq_iff_iff, List.all_eq_true, List.all_eq_true]
      constructor
      · intro q x hx; have := q x hx; unfold partO at this ⊢; rw [← hp x hx]; exact this
      · intro q x hx; have := q x hx; unfold partO at this ⊢; rw [hp x hx]; exact this
    have h2 : (parts.toList.map fun p => (p.1, (e p.2).getD undef)) = (parts.toList.map fun p => (p.1, (e' p.2).getD undef)) := List.map_congr_left fun p hm => by rw [hp p hm]
    simp only [evN, h1, h2]
  all_goals rfl
theorem evStore_congr {A : Mem} {o : Oper} (h : ∀ x ∈ o.op.operands, e x = e' x) : evStore P A e o = evStore P A e' o := by
  obtain ⟨dst, op, type, pos, after, guard⟩ := o
  cases op
  case store t x y => simp only [evStore, storeD, h x (by simp [Op.operands]), h y (by simp [Op.operands])]
  all_goals rfl
theorem evCopy_congr {A : Mem} {o : Oper} (h : ∀ x ∈ o.op.operands, e x = e' x) : evCopy P A e o = evCopy P A e' o := by
  obtain ⟨dst, op, type, pos, after, guard⟩ := o
  cases op
  case call c =>
    obtain ⟨callee, args, argTypes⟩ := c
    have ha : ∀ x ∈ args.toList, e x = e' x := fun x hx => h x (by simp only [Op.operands, Call.operands]; simp at hx ⊢; exact Or.inr hx)
    simp only [evCopy, copyD]
    split
    · rename_i d s dT sT qa qt
      rw [ha d (by rw [qa]; simp), ha s (by rw [qa]; simp)]
    · rfl
  all_goals rfl
theorem evAppend_congr {A : Mem} {o : Oper} (h : ∀ x ∈ o.op.operands, e x = e' x) : evAppend P A e o = evAppend P A e' o := by
  obtain ⟨dst, op, type, pos, after, guard⟩ := o
  cases op
  case call c =>
    obtain ⟨callee, args, argTypes⟩ := c
    have ha : ∀ x ∈ args.toList, e x = e' x := fun x hx => h x (by simp only [Op.operands, Call.operands]; simp at hx ⊢; exact Or.inr hx)
    simp only [evAppend, appendD]
    split
    · rename_i d s dT sT qa qt
      rw [ha d (by rw [qa]; simp), ha s (by rw [qa]; simp)]
    · rfl
  all_goals rfl
theorem argsO_congr : ∀ (l : List Operand), (∀ x ∈ l, e x = e' x) → argsO e l = argsO e' l
  | [], _ => rfl
  | x :: l, h => by simp only [argsO, h x (by simp), argsO_congr l (fun y hy => h y (by simp [hy]))]
theorem invO_congr {f : Operand} {n : String} (h : e f = e' f) : invO P e f n = invO P e' f n := by unfold invO; rw [h]
theorem funcO_congr {f : Operand} (h : e f = e' f) : funcO P e f = funcO P e' f := by unfold funcO; rw [h]
theorem evOp_congr {K : Caller} {A : Mem} {o : Oper} (h : ∀ x ∈ o.op.operands, e x = e' x) : evOp K P A e o = evOp K P A e' o := by
  obtain ⟨dst, op, type, pos, after, guard⟩ := o
  cases op
  case call c =>
    have ha : ∀ x ∈ c.args.toList, e x = e' x := fun x hx => h x (by simp only [Op.operands, Call.operands]; simp at hx ⊢; exact Or.inr hx)
    simp only [evOp, evAppend_congr h, evCopy_congr h, flatP_congr h, evP_congr h]
    split
    · rfl
    · rfl
    · rename_i f hf
      have h1 := funcO_congr (P := P) (h f (by simp [Op.operands, Call.operands, hf]))
      rw [h1]
      unfold evCallO
      rw [h1, argsO_congr _ ha]
    · rename_i f n hf
      have h1 := invO_congr (P := P) (n := n) (h f (by simp [Op.operands, Call.operands, hf]))
      unfold evInvO
      rw [h1, argsO_congr _ ha]
    · rfl
  all_goals simp only [evOp, evR_congr h, evStore_congr h, evN_congr h, evS_congr h, evP_congr h]
end
/-- operations that neither read nor write memory -/
def isP : Op → Bool
  | .load _ _ | .store _ _ _ | .alloc _ | .box _ _ | .makeSlice _ _ _ | .buildSlice _ _ _ | .ready _ | .waits _ | .select _ _ | .panic _ => false
  | .call c => match c.callee with | .builtin .append | .builtin .copy | .value _ | .invoke _ _ => false | _ => true
  | _ => true
def isR : Op → Bool
  | .load _ _ => true
  | _ => false
theorem evOp_P {K : Caller} {P : Program} {A : Mem} {e : Operand → Option Value} {o : Oper} (h : isP o.op = true) : ∃ u : Option Value, ∀ A, evOp K P A e o = u.map (·, A) := by
  obtain ⟨dst, op, type, pos, after, guard⟩ := o
  cases op
  case call c =>
    obtain ⟨callee, args, argTypes⟩ := c
    cases callee with
    | value f => cases h
    | invoke r m => cases h
    | builtin b => cases b <;> first | exact ⟨_, fun A => rfl⟩ | cases h
  all_goals first | exact ⟨evP P e _, fun A => rfl⟩ | exact ⟨evS P e _, fun A => rfl⟩ | cases h
theorem evOp_R {K : Caller} {P : Program} {A : Mem} {e : Operand → Option Value} {o : Oper} (h : isR o.op = true) : evOp K P A e o = (evR P A e o).map (·, A) := by
  obtain ⟨dst, op, type, pos, after, guard⟩ := o
  cases op
  case load t x => rfl
  all_goals cases h
theorem evOp_keeps {K : Caller} {P : Program} {A A' : Mem} {e : Operand → Option Value} {o : Oper} {v : Value} (h : (isP o.op || isR o.op) = true) (k : evOp K P A e o = some (v, A')) : A' = A := by
  rw [Bool.or_eq_true] at h
  rcases h with h | h
  · obtain ⟨u, hu⟩ := evOp_P (K := K) (P := P) (A := A) (e := e) h
    rw [hu A] at k
    cases u with
    | none => cases k
    | some u => cases k; rfl
  · rw [evOp_R h] at k
    cases q : evR P A e o with
    | none => rw [q] at k; cases k
    | some u => rw [q] at k; cases k; rfl
end Go.Proofs.YtgljnklaabbidaaGreat
/-
  OWN TEXT: an evaluator for calls without open arguments. Regions, in whatever order.
-/
namespace Go.Proofs.YtgljnklaabbidaaGreat
open Go.RowKit
set_option linter.unusedVariables false
set_option linter.unusedSimpArgs false
abbrev St := Act × Mem
def stepA (K : Caller) (P : Program) (ops : Array Oper) (o : Oper) (s : St) : Option St :=
  if Region.wanted o (yielded ops s.1.tmps) then (evOp K P s.2 (evalO s.1) o).map (fun x => (s.1.put o.dst x.1, x.2)) else some (s.1.put o.dst undef, s.2)
def evSeq (K : Caller) (P : Program) (ops : Array Oper) : List Oper → St → Option St
  | [], s => some s
  | o :: rest, s => match stepA K P ops o s with | some s' => evSeq K P ops rest s' | none => none
theorem opsRel {r : Rho} {a a' : Act} (h : ActRel r a a') (o : Op) : OpsRel r (evalO a) a'.eval o := fun x _ v hv => h.eval hv
/-- a step, as the world takes it -/
theorem stepA_sound {K : Caller} {P : Program} (hK : KOk P K) (hP : Plain P) {ops : Array Oper} {o : Oper} {s s' : St} (h : stepA K P ops o s = some s') {w0 w : World} {r : Rho} {a : Act} (ha : ActRel r s.1 a) (hr : Rel P w0 r s.2 w)
    {Kc : Act → World → Prop} {Q : Exit → Act → World → Prop} (next : ∀ r' a' w', r.le r' → ActRel r' s'.1 a' → Rel P w0 r' s'.2 w' → Keep r s.2 s'.2 → Kc a' w') :
    if Region.wanted o (yielded ops a.tmps) then o.wp P a w Kc Q ∨ (o.asks P a w ∧ LetsOut Q) else Kc (a.put o.dst undef) w := by
  unfold stepA at h
  rw [ha.wanted ops o]
  split at h
  · rename_i c
    rw [if_pos c]
    cases q : evOp K P s.2 (evalO s.1) o with
    | none => rw [q] at h; cases h
    | some x =>
      obtain ⟨v, A'⟩ := x
      rw [q] at h
      cases h
      exact Or.inl (evOp_sound hK hP q (opsRel ha o.op) hr fun r' v' w' h1 h2 h3 h4 => next r' _ w' h1 ((ha.mono h1.wk).put h2 o.dst) h3 h4)
  · rename_i c
    rw [if_neg c]
    cases h
    exact next r _ w (Rho.le.refl r) (ha.put (VRel.undef r) o.dst) hr (Keep.refl r _)
theorem evSeq_sound {K : Caller} {P : Program} (hK : KOk P K) (hP : Plain P) {ops : Array Oper} {w0 : World} {Q : Exit → Act → World → Prop} {F : St} : ∀ (l : List Oper) (s : St), evSeq K P ops l s = some F → ∀ (r : Rho) (a : Act) (w : World), ActRel r s.1 a → Rel P w0 r s.2 w →
    (∀ r' a' w', r.le r' → ActRel r' F.1 a' → Rel P w0 r' F.2 w' → Keep r s.2 F.2 → Q .normal a' w') → wpList P ops Q l a w
  | [], s, h, r, a, w, ha, hr, hQ => by cases h; exact hQ r a w (Rho.le.refl r) ha hr (Keep.refl r _)
  | o :: rest, s, h, r, a, w, ha, hr, hQ => by
    simp only [evSeq] at h
    split at h
    · rename_i s' q
      unfold wpList
      exact stepA_sound hK hP q ha hr fun r' a' w' h1 h2 h3 h4 => evSeq_sound hK hP rest s' h r' a' w' h2 h3 fun r'' a'' w'' k1 k2 k3 k4 => hQ r'' a'' w'' (h1.trans k1) k2 k3 (Keep.trans h1 h4 k4)
    · cases h
section
variable (st : Nat → St → Option St) (ops : Array Oper) (F : St)
/-- whatever order is picked, it ends in F -/
def absAny : Nat → Array Bool → St → Prop
  | 0, listed, s => Region.ready .any ops listed = [] ∧ s = F
  | n + 1, listed, s => (Region.ready .any ops listed = [] → s = F) ∧ ∀ i ∈ Region.ready .any ops listed, ∃ s', st i s = some s' ∧ absAny n (listed.setIfInBounds i true) s'
theorem abs_take {i : Nat} (C : Array Bool → Prop)
    (hcomm : ∀ listed j s si sij, C listed → i ∈ Region.ready .any ops listed → j ∈ Region.ready .any ops listed → j ≠ i → st i s = some si → st j si = some sij → ∃ sj, st j s = some sj ∧ st i sj = some sij)
    (hC : ∀ listed j, C listed → i ∈ Region.ready .any ops listed → j ∈ Region.ready .any ops listed → j ≠ i → C (listed.setIfInBounds j true)) :
    ∀ (n : Nat) (listed : Array Bool) (s si : St), C listed → i ∈ Region.ready .any ops listed → st i s = some si → absAny st ops F n (listed.setIfInBounds i true) si → absAny st ops F (n + 1) listed s := by
  intro n
  induction n with
  | zero =>
    intro listed s si hc hr hs H
    refine ⟨fun h => (by rw [h] at hr; cases hr), fun j hj => ?_⟩
    by_cases hji : j = i
    · subst hji; exact ⟨si, hs, H⟩
    · have := ready_mono hj hji
      rw [H.1] at this
      cases this
  | succ n ih =>
    intro listed s si hc hr hs H
    refine ⟨fun h => (by rw [h] at hr; cases hr), fun j hj => ?_⟩
    by_cases hji : j = i
    · subst hji; exact ⟨si, hs, H⟩
    · obtain ⟨sij, h1, h2⟩ := H.2 j (ready_mono hj hji)
      obtain ⟨sj, k1, k2⟩ := hcomm listed j s si sij hc hr hj hji hs h1
      refine ⟨sj, k1, ih _ sj sij (hC listed j hc hr hj hji) (ready_mono hr (Ne.symm hji)) k2 ?_⟩
      rw [Array.setIfInBounds_comm _ _ hji]
      exact h2
end
theorem evalO_put {a : Act} {dst : Option Tmp} {v : Value} {x : Operand} (h : ∀ d, dst = some d → x ≠ .tmp d) : evalO (a.put dst v) x = evalO a x := by
  cases dst with
  | none => rfl
  | some d =>
    cases x with
    | tmp t =>
      have hne : d ≠ t := fun e => h d rfl (e ▸ rfl)
      simp [evalO, Act.put, Array.getElem?_setIfInBounds_ne hne]
    | _ => rfl
theorem evOp_put {K : Caller} {P : Program} {ops : Array Oper} {A : Mem} (o : Oper) (a : Act) (dst : Option Tmp) (v : Value) (h : ∀ d, dst = some d → d ∉ o.looksAt ops) : evOp K P A (evalO (a.put dst v)) o = evOp K P A (evalO a) o :=
  evOp_congr fun x hx => evalO_put fun d hd hxd => h d hd (by
    subst hxd
    exact List.mem_append_left _ (List.mem_filterMap.2 ⟨.tmp d, by simpa using hx, rfl⟩))
theorem evN_put {P : Program} {ops : Array Oper} {p : Nat} (o : Oper) (a : Act) (dst : Option Tmp) (v : Value) (h : ∀ d, dst = some d → d ∉ o.looksAt ops) : evN P p (evalO (a.put dst v)) o = evN P p (evalO a) o :=
  evN_congr fun x hx => evalO_put fun d hd hxd => h d hd (by
    subst hxd
    exact List.mem_append_left _ (List.mem_filterMap.2 ⟨.tmp d, by simpa using hx, rfl⟩))
/-- what is told ahead of an operation: its value, its block's number, its block -/
abbrev Td := Value × Nat × Blk
open Classical in
/-- a step whose block may be told already -/
noncomputable def stepT (K : Caller) (P : Program) (ops : Array Oper) (tv : Option Td) (o : Oper) (s : St) : Option St :=
  match tv with
  | none => stepA K P ops o s
  | some x => if Region.wanted o (yielded ops s.1.tmps) then (if evN P x.2.1 (evalO s.1) o = some (x.1, x.2.2) then some (s.1.put o.dst x.1, s.2) else none) else some (s.1.put o.dst undef, s.2)
/-- told ahead: the operation, its value, its block's number, its block -/
abbrev Tab := List (Nat × Td)
def tabAt : Tab → Nat → Option Td
  | [], _ => none
  | (i, x) :: T, j => if i = j then some x else tabAt T j
def tvAt (T : Tab) (i : Nat) : Option Td := tabAt T i
noncomputable def stI (K : Caller) (P : Program) (ops : Array Oper) (T : Tab) (i : Nat) (s : St) : Option St := match ops[i]? with | some o => stepT K P ops (tvAt T i) o s | none => none
def lightB (tv : Option Td) (o : Op) : Bool := tv.isSome || isP o
/-- an operation that only reckons, and another one -/
theorem swap_P {K : Caller} {P : Program} {ops : Array Oper} {ti tj : Option Td} {oi oj : Oper} (hap : oi.apart ops oj = true) {s si sij : St} (hp : lightB ti oi.op = true ∨ (isR oi.op = true ∧ (lightB tj oj.op || isR oj.op) = true)) (h1 : stepT K P ops ti oi s = some si) (h2 : stepT K P ops tj oj si = some sij) :
    ∃ sj, stepT K P ops tj oj s = some sj ∧ stepT K P ops ti oi sj = some sij := by
  obtain ⟨p1, p2, p3⟩ := Oper.apart_spec hap
  obtain ⟨a, A⟩ := s
  obtain ⟨vi, hi, first⟩ : ∃ vi, si = (a.put oi.dst vi, A) ∧ ∀ (b : Act) (B : Mem), Region.wanted oi (yielded ops b.tmps) = Region.wanted oi (yielded ops a.tmps) → evOp K P A (evalO b) oi = evOp K P A (evalO a) oi → (∀ p, evN P p (evalO b) oi = evN P p (evalO a) oi) → (lightB ti oi.op = true ∨ B = A) → stepT K P ops ti oi (b, B) = some (b.put oi.dst vi, B) := by
    cases ti with
    | some v =>
      simp only [stepT] at h1 ⊢
      split at h1
      · rename_i c
        split at h1
        · rename_i d; cases h1; exact ⟨v.1, rfl, fun b B e1 _ e4 _ => by rw [e1, if_pos c, if_pos (by rw [e4]; exact d)]⟩
        · cases h1
      · rename_i c; cases h1; exact ⟨undef, rfl, fun b B e1 _ _ _ => by rw [e1, if_neg c]⟩
    | none =>
      simp only [stepT] at h1 ⊢
      unfold stepA at h1
      simp only at h1
      split at h1
      · rename_i c
        cases q : evOp K P A (evalO a) oi with
        | none => rw [q] at h1; cases h1
        | some x =>
          obtain ⟨vi, A'⟩ := x
          rw [q] at h1
          have hA : A' = A := evOp_keeps (by rcases hp with h | h <;> simp [lightB] at h <;> simp [h]) q
          subst hA
          cases h1
          refine ⟨vi, rfl, fun b B e1 e2 _ e3 => ?_⟩
          unfold stepA
          simp only
          rw [e1, if_pos c]
          rcases e3 with e3 | rfl
          · obtain ⟨u, hu⟩ := evOp_P (K := K) (P := P) (A := A') (e := evalO b) (o := oi) (by simpa [lightB] using e3)
            have := e2
            rw [hu A'] at this
            rw [hu B]
            cases u with
            | none => cases this
            | some u => cases this; rfl
          · rw [e2]; rfl
      · rename_i c
        cases h1
        refine ⟨undef, rfl, fun b B e1 _ _ _ => ?_⟩
        unfold stepA
        simp only
        rw [e1, if_neg c]
  subst hi
  cases tj with
  | some u =>
    simp only [stepT] at h2 ⊢
    rw [wanted_put oj a oi.dst vi p1, evN_put oj a oi.dst vi p1] at h2
    split at h2
    · rename_i c
      split at h2
      · rename_i d
        cases h2
        refine ⟨(a.put oj.dst u.1, A), by rw [if_pos c, if_pos d], ?_⟩
        have := first (a.put oj.dst u.1) A (wanted_put oi a oj.dst u.1 p3) (evOp_put oi a oj.dst u.1 p3) (fun p => evN_put oi a oj.dst u.1 p3) (Or.inr rfl)
        simp only [stepT] at this
        rw [this, Act.put_comm a vi u.1 p2]
      · cases h2
    · rename_i c
      cases h2
      refine ⟨(a.put oj.dst undef, A), by rw [if_neg c], ?_⟩
      have := first (a.put oj.dst undef) A (wanted_put oi a oj.dst undef p3) (evOp_put oi a oj.dst undef p3) (fun p => evN_put oi a oj.dst undef p3) (Or.inr rfl)
      simp only [stepT] at this
      rw [this, Act.put_comm a vi undef p2]
  | none =>
    have h2' : stepA K P ops oj (a.put oi.dst vi, A) = some sij := h2
    unfold stepA at h2'
    simp only at h2'
    rw [wanted_put oj a oi.dst vi p1] at h2'
    rw [evOp_put oj a oi.dst vi p1] at h2'
    split at h2'
    · rename_i c
      cases q : evOp K P A (evalO a) oj with
      | none => rw [q] at h2'; cases h2'
      | some x =>
        obtain ⟨vj, B⟩ := x
        rw [q] at h2'
        cases h2'
        refine ⟨(a.put oj.dst vj, B), by show stepA K P ops oj (a, A) = _; unfold stepA; simp only; rw [if_pos c, q]; rfl, ?_⟩
        rw [first (a.put oj.dst vj) B (wanted_put oi a oj.dst vj p3) (evOp_put oi a oj.dst vj p3) (fun p => evN_put oi a oj.dst vj p3) (by
          rcases hp with h | ⟨_, h⟩
          · exact Or.inl h
          · exact Or.inr (evOp_keeps (by simpa [lightB] using h) q))]
        show _ = some ((a.put oi.dst vi).put oj.dst vj, B)
        rw [Act.put_comm a vi vj p2]
    · rename_i c
      cases h2'
      refine ⟨(a.put oj.dst undef, A), by show stepA K P ops oj (a, A) = _; unfold stepA; simp only; rw [if_neg c], ?_⟩
      rw [first (a.put oj.dst undef) A (wanted_put oi a oj.dst undef p3) (evOp_put oi a oj.dst undef p3) (fun p => evN_put oi a oj.dst undef p3) (Or.inr rfl)]
      rw [Act.put_comm a vi undef p2]
end Go.Proofs.YtgljnklaabbidaaGreat
