/-
  OWN TEXT: an evaluator for calls without open arguments. Structs with addresses in them; what is nil.
-/
import Derived.Test.YtbicaldchikkjaaGreatJXvDToXvF
namespace Go.Proofs.YtbicaldchikkjaaGreat
open Go.RowKit
set_option linter.unusedVariables false
set_option linter.unusedSimpArgs false
/-- where the parts of a struct or an array lie -/
def placesO (P : Program) (t : TypeId) : Option (Nat → Option (Nat × Nat)) :=
  match P.underlying t with
  | some (.struct fields) => if fields.toList.all (fun f => (P.info? f.type).isSome) then some (fun i => (fields.map fun f => (f.offset, szOf P f.type))[i]?) else none
  | some (.array _ el) => if (P.info? el).isSome then some (fun i => some (i * szOf P el, szOf P el)) else none
  | _ => none
/-- what a function may have caught -/
def caught1 : Value → Bool
  | .pointer (some ⟨_, _, none⟩) => true
  | .slice (some _) _ _ => true
  | v => flat1 v
def caughtO (e : Operand → Option Value) : List Operand → Option (List Value)
  | [] => some []
  | x :: xs => match e x, caughtO e xs with | some v, some vs => if caught1 v then some (v :: vs) else none | _, _ => none
theorem caughtO_rel {r : Rho} {e : Operand → Option Value} {e' : Operand → Value} : ∀ (xs : List Operand) (vs : List Value), caughtO e xs = some vs → (∀ x ∈ xs, ∀ v, e x = some v → VRel r v (e' x)) → LR (VR0 r) vs (xs.map e')
  | [], vs, h, _ => by cases h; exact ⟨rfl, fun i v e => by simp at e⟩
  | x :: xs, vs, h, k => by
    simp only [caughtO] at h
    split at h
    · rename_i v us q1 q2
      split at h
      · rename_i c
        cases h
        have ih := caughtO_rel xs us q2 (fun y hy => k y (by simp [hy]))
        refine ⟨by simpa using ih.1, fun i u hu => ?_⟩
        cases i with
        | zero =>
          simp at hu
          subst hu
          refine ⟨e' x, rfl, ?_⟩
          have kx := k x (by simp) _ q1
          unfold caught1 at c
          split at c
          · obtain ⟨g, s, h1, h2⟩ := kx.inv_ptr
            rw [h2]; exact .ptr h1
          · generalize e' x = y at kx ⊢
            cases kx with
            | one kx => cases kx with
              | one kx => cases kx with
                | flat f => simp [flat1] at f
                | exact f => exact .exact f
                | loose f => exact .loose f
          · have hf : flat v = true := by
              unfold flat flat2
              cases v <;> first | exact c | (simp [flat1] at c)
            rw [kx.same hf]; exact .flat c
        | succ i => simpa using ih.2 i u (by simpa using hu)
      · cases h
    · cases h
/-- structs and arrays with addresses in them; whether something is nil; functions that catch -/
def evB (P : Program) (e : Operand → Option Value) (o : Oper) : Option Value :=
  match o.op with
  | .makeFunc fn first captured =>
    match fn with
    | .func f => match caughtO e first.toList, caughtO e captured.toList with | some m, some l => some (.func (.func f) ⟨m⟩ ⟨l⟩) | _, _ => none
    | _ => none
  | .build t parts =>
    match P.info? t with
    | some i => match i.zero with
      | some z =>
        if z.cells.toList.all flat1 && parts.toList.all (partO e) then
          match placesO P t with
          | some place => match Instr.fill place z.cells (parts.toList.map fun p => (p.1, (e p.2).getD undef)) with
            | some cells => some (.agg ⟨cells.toList⟩)
            | none => none
          | none => none
        else none
      | none => none
    | none => none
  | .binOp op t x y _ =>
    match op, e x, e y, P.underlying t with
    | .eql, some (.slice (some _) _ _), some (.slice none _ _), some (.slice _) => some (.bool false)
    | .neq, some (.slice (some _) _ _), some (.slice none _ _), some (.slice _) => some (.bool true)
    | .eql, some (.pointer (some ⟨_, _, none⟩)), some (.pointer none), some (.pointer _) => some (.bool false)
    | .neq, some (.pointer (some ⟨_, _, none⟩)), some (.pointer none), some (.pointer _) => some (.bool true)
    | _, _, _, _ => none
  | _ => none
theorem eq_slice {P : Program} {t el : TypeId} (qu : P.underlying t = some (.slice el)) (d : Nat) (a : Addr) (n c m c' : Nat) (w : World) : (Op.equalIn (d + 1) t (.slice (some a) n c) (.slice none m c')).run P w = .ok false w := by
  simp [Op.equalIn, run_underlying qu]
theorem eq_pointer {P : Program} {t el : TypeId} (qu : P.underlying t = some (.pointer el)) (d : Nat) (a : Addr) (w : World) : (Op.equalIn (d + 1) t (.pointer (some a)) (.pointer none)).run P w = .ok false w := by
  simp [Op.equalIn, run_underlying qu]
theorem cmp_slice {P : Program} {t el : TypeId} (qu : P.underlying t = some (.slice el)) (op : BinOp) (hop : op = .eql ∨ op = .neq) (ox oy : Operand) (a : Addr) (n c m c' : Nat) (w : World) : (do eqGuard op t ox oy (.slice (some a) n c) (.slice none m c'); binOp op t (.slice (some a) n c) (.slice none m c') : Sem Value).run P w = .ok (.bool (op == .neq)) w := by
  have k := eq_slice (P := P) qu 9999 a n c m c' w
  rcases hop with rfl | rfl
  · show (do pure (.bool (← Op.equal t (.slice (some a) n c) (.slice none m c'))) : Sem Value).run P w = _
    rw [Sem.run_bind]
    show Result.andThen ((Op.equalIn (9999 + 1) t (.slice (some a) n c) (.slice none m c')).run P w) _ = _
    rw [k]; rfl
  · show (do pure (.bool (!(← Op.equal t (.slice (some a) n c) (.slice none m c')))) : Sem Value).run P w = _
    rw [Sem.run_bind]
    show Result.andThen ((Op.equalIn (9999 + 1) t (.slice (some a) n c) (.slice none m c')).run P w) _ = _
    rw [k]; rfl
theorem cmp_pointer {P : Program} {t el : TypeId} (qu : P.underlying t = some (.pointer el)) (op : BinOp) (hop : op = .eql ∨ op = .neq) (ox oy : Operand) (a : Addr) (w : World) : (do eqGuard op t ox oy (.pointer (some a)) (.pointer none); binOp op t (.pointer (some a)) (.pointer none) : Sem Value).run P w = .ok (.bool (op == .neq)) w := by
  have k := eq_pointer (P := P) qu 9999 a w
  rcases hop with rfl | rfl
  · show (do pure (.bool (← Op.equal t (.pointer (some a)) (.pointer none))) : Sem Value).run P w = _
    rw [Sem.run_bind]
    show Result.andThen ((Op.equalIn (9999 + 1) t (.pointer (some a)) (.pointer none)).run P w) _ = _
    rw [k]; rfl
  · show (do pure (.bool (!(← Op.equal t (.pointer (some a)) (.pointer none)))) : Sem Value).run P w = _
    rw [Sem.run_bind]
    show Result.andThen ((Op.equalIn (9999 + 1) t (.pointer (some a)) (.pointer none)).run P w) _ = _
    rw [k]; rfl
theorem run_sizes {P : Program} (w : World) : ∀ (l : List Field), l.all (fun f => (P.info? f.type).isSome) = true → (l.mapM (fun f => do pure (f.offset, ← sizeOf f.type) : Field → Sem (Nat × Nat))).run P w = .ok (l.map fun f => (f.offset, szOf P f.type)) w
  | [], _ => by simp
  | f :: l, h => by
    simp only [List.all_cons, Bool.and_eq_true] at h
    obtain ⟨i, hi⟩ := Option.isSome_iff_exists.1 h.1
    have ih := run_sizes w l h.2
    simp only [List.mapM_cons]
    simp [sizeOf, typeInfo, hi, szOf]
    simp [sizeOf, typeInfo, szOf] at ih
    simp [ih]
theorem evB_sound {P : Program} {r : Rho} {e : Operand → Option Value} {e' : Operand → Value} {o : Oper} {v : Value} (h : evB P e o = some v) (k : OpsRel r e e' o.op) :
    ∃ v', (∀ w, (execOp e' o).run P w = .ok (.value v') w) ∧ VRel r v v' := by
  obtain ⟨dst, op, type, pos, after, guard⟩ := o
  unfold evB at h
  simp only at h
  cases op
  case build t parts =>
    simp only at h
    split at h
    · rename_i i qi
      split at h
      · rename_i z qz
        split at h
        · rename_i hf
          rw [Bool.and_eq_true] at hf
          obtain ⟨hf, hp⟩ := hf
          split at h
          · rename_i place qp
            split at h
            · rename_i cells qf
              cases h
              have hp' : ∀ p ∈ parts.toList, ∃ u, e p.2 = some u ∧ (cellsO u).isSome = true := by
                intro p hm
                have := List.all_eq_true.1 hp p hm
                unfold partO at this
                cases q : e p.2 with
                | none => rw [q] at this; cases this
                | some u => rw [q] at this; exact ⟨u, rfl, this⟩
              have pr : PR r (parts.toList.map fun p => (p.1, (e p.2).getD undef)) (parts.toList.map fun p => (p.1, e' p.2)) := by
                refine ⟨by simp, fun j n u hj => ?_⟩
                simp only [List.getElem?_map] at hj ⊢
                cases q : parts.toList[j]? with
                | none => rw [q] at hj; cases hj
                | some p =>
                  rw [q] at hj
                  simp only [Option.map_some, Option.some.injEq, Prod.mk.injEq] at hj ⊢
                  obtain ⟨u', hu, _⟩ := hp' p (List.mem_of_getElem? q)
                  rw [hu] at hj
                  obtain ⟨rfl, rfl⟩ := hj
                  refine ⟨e' p.2, ⟨rfl, rfl⟩, k p.2 ?_ _ hu⟩
                  simp only [Op.operands]
                  simp
                  exact ⟨p.1, by simpa using List.mem_of_getElem? q⟩
              obtain ⟨out', f1, f2⟩ := fill_rel (r := r) place _ _ _ z.cells cells pr (by
                intro p hm
                simp only [List.mem_map] at hm
                obtain ⟨p0, hm, rfl⟩ := hm
                obtain ⟨u, hu, hc⟩ := hp' p0 hm
                simp only [hu, Option.getD_some]; exact hc) (flat_cells hf) qf
              have f1' : Instr.fill place z.cells (parts.map fun p => (p.1, e' p.2)).toList = some out' := by
                rw [Array.toList_map]; exact f1
              obtain ⟨out'⟩ := out'
              refine ⟨.agg ⟨out'⟩, fun w => ?_, .one (.agg f2)⟩
              unfold placesO at qp
              split at qp
              · rename_i fields qu
                split at qp
                · rename_i hall
                  cases qp
                  have hm := run_sizes (P := P) w fields.toList hall
                  have hm' : (fields.mapM (fun f => do pure (f.offset, ← sizeOf f.type) : Field → Sem (Nat × Nat))).run P w = .ok (fields.map fun f => (f.offset, szOf P f.type)) w := by
                    rw [Array.mapM_eq_mapM_toList]
                    simp only [Sem.run_map, hm, Result.andThen_ok]
                    congr 1
                    apply Array.ext'
                    simp
                  simp only [execOp, Instr.build, Sem.run_bind, zeroValue, typeInfo, program]
                  simp only [Sem.run, qi, qz, Sem.run_pure, Result.andThen_ok, run_underlying qu, Sem.run_bind, hm', f1']
                · cases qp
              · rename_i n el qu
                split at qp
                · rename_i hall
                  cases qp
                  obtain ⟨i2, hi2⟩ := Option.isSome_iff_exists.1 hall
                  have hsz : szOf P el = i2.size := by simp [szOf, hi2]
                  rw [hsz] at f1'
                  simp only [execOp, Instr.build, Sem.run_bind, zeroValue, typeInfo, program, sizeOf]
                  simp only [Sem.run, qi, qz, hi2, Sem.run_pure, Result.andThen_ok, run_underlying qu, Sem.run_bind, f1']
                · cases qp
              · cases qp
            · cases h
          · cases h
        · cases h
      · cases h
    · cases h
  case makeFunc fn first captured =>
    simp only at h
    split at h
    · rename_i f
      split at h
      · rename_i m l q0 q
        cases h
        have hm := caughtO_rel (r := r) (e' := e') first.toList m q0 (fun x hx v hv => k x (by simp [Op.operands]; exact Or.inl (by simpa using hx)) v hv)
        have hl := caughtO_rel (r := r) (e' := e') captured.toList l q (fun x hx v hv => k x (by simp [Op.operands]; exact Or.inr (by simpa using hx)) v hv)
        refine ⟨.func (.func f) ⟨first.toList.map e'⟩ ⟨captured.toList.map e'⟩, fun w => ?_, .one (.one (.fn hm hl))⟩
        simp only [execOp, Instr.makeFunc]
        have : (⟨captured.toList.map e'⟩ : Array Value) = captured.map e' := by apply Array.ext'; simp
        rw [this]
        have : (⟨first.toList.map e'⟩ : Array Value) = first.map e' := by apply Array.ext'; simp
        rw [this]
        simp
      · cases h
    · cases h
  case binOp op t x y yt =>
    simp only at h
    have fin : ∀ op' b, op = op' → (∀ w, (do eqGuard op' t x y (e' x) (e' y); binOp op' t (e' x) (e' y) : Sem Value).run P w = .ok (.bool b) w) → v = .bool b → ∃ v', (∀ w, (execOp e' { dst := dst, op := .binOp op t x y yt, type := type, pos := pos, after := after, guard := guard }).run P w = .ok (.value v') w) ∧ VRel r v v' := by
      intro op' b ho hrun hv
      subst ho
      subst hv
      refine ⟨.bool b, fun w => ?_, VRel.of_flat r rfl⟩
      simp only [execOp]
      rw [Sem.run_bind, hrun w]
      rfl
    split at h
    · rename_i a n c m c' el q1 q2 qu
      cases h
      have hy := (k y (by simp [Op.operands]) _ q2).same rfl
      rcases (k x (by simp [Op.operands]) _ q1).inv_slices0 with ⟨z, _⟩ | ⟨ad, cx, hx, _⟩
      · cases z
      · exact fin .eql false rfl (fun w => by rw [hx, hy]; exact cmp_slice qu .eql (Or.inl rfl) x y ad _ _ _ _ w) rfl
    · rename_i a n c m c' el q1 q2 qu
      cases h
      have hy := (k y (by simp [Op.operands]) _ q2).same rfl
      rcases (k x (by simp [Op.operands]) _ q1).inv_slices0 with ⟨z, _⟩ | ⟨ad, cx, hx, _⟩
      · cases z
      · exact fin .neq true rfl (fun w => by rw [hx, hy]; exact cmp_slice qu .neq (Or.inr rfl) x y ad _ _ _ _ w) rfl
    · rename_i b0 o0 el q1 q2 qu
      cases h
      have hy := (k y (by simp [Op.operands]) _ q2).same rfl
      obtain ⟨g, s, _, hx⟩ := (k x (by simp [Op.operands]) _ q1).inv_ptr
      exact fin .eql false rfl (fun w => by rw [hx, hy]; exact cmp_pointer qu .eql (Or.inl rfl) x y _ w) rfl
    · rename_i b0 o0 el q1 q2 qu
      cases h
      have hy := (k y (by simp [Op.operands]) _ q2).same rfl
      obtain ⟨g, s, _, hx⟩ := (k x (by simp [Op.operands]) _ q1).inv_ptr
      exact fin .neq true rfl (fun w => by rw [hx, hy]; exact cmp_pointer qu .neq (Or.inr rfl) x y _ w) rfl
    · cases h
  all_goals cases h
end Go.Proofs.YtbicaldchikkjaaGreat
