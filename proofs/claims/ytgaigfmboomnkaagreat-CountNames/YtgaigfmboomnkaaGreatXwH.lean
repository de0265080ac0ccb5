/-
  OWN TEXT: an evaluator made for the kernel: every operation that was made ready does what the operation does.
-/
import Derived.Test.YtgaigfmboomnkaaGreatXwG
namespace Go.Proofs.YtgaigfmboomnkaaGreat
open Go.RowKit
set_option linter.unusedVariables false
set_option linter.unusedSimpArgs false
/-- functions without a body: they answer as they are told -/
def XnOk (P : Program) (ex : Xn) : Prop := ∀ (f : FuncId) (g : List Value → (Value → Out) → Out), ex f = some g → ∀ (vs : List Value) (k : Value → Out) (out : Value × Me), g vs k = some out →
  ∃ v, (∀ k, g vs k = k v) ∧ flat v = true ∧ (∀ u ∈ vs, flat u = true) ∧ pureRun P (callFunc f ⟨vs⟩) = some (.value v)
section
variable {P : Program} {Ks : Caller} {o : Oper} {res : Rs}
theorem resT_some : ∀ {l : List Nat} {xs : List Sc}, resT res l = some xs → xs.length = l.length ∧ ∀ (i : Nat) (t : Nat), l[i]? = some t → ∃ sc, xs[i]? = some sc ∧ res (.tmp t) = some sc
  | [], xs, h => by cases h; exact ⟨rfl, fun i t e => by simp at e⟩
  | t :: l, xs, h => by
    simp only [resT] at h
    split at h
    · rename_i x ys q1 q2
      cases h
      obtain ⟨h1, h2⟩ := resT_some q2
      refine ⟨by simp [h1], fun i u e => ?_⟩
      cases i with
      | zero => simp at e; subst e; exact ⟨x, rfl, q1⟩
      | succ i => simpa using h2 i u (by simpa using e)
    · cases h
theorem resO2_some : ∀ {l : List Operand} {xs : List Sc}, resO2 res l = some xs → ∀ {a : Act} {T : Tm} {L : Rg}, Fits res a T L → argsO (evalO a) l = some (xs.map fun x => x T L)
  | [], xs, h, _, _, _, _ => by cases h; rfl
  | t :: l, xs, h, a, T, L, hf => by
    simp only [resO2] at h
    split at h
    · rename_i x ys q1 q2
      cases h
      simp only [argsO, hf t x q1, resO2_some q2 hf, List.map_cons]
    · cases h
theorem tvT_at {a : Act} {T : Tm} {L : Rg} : ∀ (l : List Nat) (xs : List Sc), xs.length = l.length → (∀ (i t : Nat), l[i]? = some t → ∃ sc, xs[i]? = some sc ∧ evalO a (.tmp t) = some (sc T L)) → ∀ t ∈ l, evalL.tvT (l.zip (xs.map fun x => x T L)) t = evalO a (.tmp t)
  | [], xs, _, _, t, ht => by cases ht
  | u :: l, [], hl, _, _, _ => by simp at hl
  | u :: l, x :: xs, hl, h, t, ht => by
    simp only [List.map_cons, List.zip_cons_cons, evalL.tvT]
    rw [beq_iff]
    by_cases c : u = t
    · subst c
      obtain ⟨sc, e1, e2⟩ := h 0 u rfl
      simp at e1
      subst e1
      rw [decide_eq_true rfl, cond_true, e2]
    · rw [decide_eq_false c, cond_false]
      have ht' : t ∈ l := by
        rcases List.mem_cons.1 ht with e | e
        · exact absurd e.symm c
        · exact e
      exact tvT_at l xs (by simpa using hl) (fun i v e => by obtain ⟨sc, e1, e2⟩ := h (i + 1) v (by simpa using e); exact ⟨sc, by simpa using e1, e2⟩) t ht'
theorem mem_tmpsOf : ∀ {l : List Operand} {t : Nat}, .tmp t ∈ l → t ∈ tmpsOf l
  | [], t, h => by cases h
  | x :: l, t, h => by
    rcases List.mem_cons.1 h with e | e
    · subst e; simp [tmpsOf]
    · have := mem_tmpsOf e
      cases x <;> simp [tmpsOf, this]
theorem evalL_at {xs : List Sc} (h : resT res (tmpsOf o.op.operands.toList) = some xs) {a : Act} {T : Tm} {L : Rg} (hf : Fits res a T L) : ∀ x ∈ o.op.operands, evalL ((tmpsOf o.op.operands.toList).zip (xs.map fun x => x T L)) x = evalO a x := by
  obtain ⟨h1, h2⟩ := resT_some h
  intro x hx
  cases x with
  | tmp t =>
    exact tvT_at _ xs h1 (fun i t e => by obtain ⟨sc, e1, e2⟩ := h2 i t e; exact ⟨sc, e1, hf _ _ e2⟩) t (mem_tmpsOf (by simpa using hx))
  | _ => rfl
theorem mkL_some {k : List Sc → XO} {c : XO} (h : mkL res o k = some c) : ∃ xs, resT res (tmpsOf o.op.operands.toList) = some xs ∧ c = k xs := by
  unfold mkL at h
  split at h
  · rename_i q; cases h; exact ⟨_, q, rfl⟩
  · cases h
theorem gen_ok {c : XO} (h : mkL res o (xPn (genP P o)) = some c) (hp : ∀ a A, evOp Ks P A (evalO a) o = (evP P (evalO a) o).map (·, A)) : OpOk P Ks c o res := by
  obtain ⟨xs, h1, rfl⟩ := mkL_some h
  intro K T M L k out a hK hM hfit h
  have h' : scsK xs T L (fun vs => genP P o vs fun u => k u M) = some out := h
  rw [scsK_eq] at h'
  have ce := evP_congr (P := P) (evalL_at h1 hfit)
  unfold genP at h'
  rw [ce] at h'
  cases q : evP P (evalO a) o with
  | none => rw [q] at h'; cases h'
  | some v =>
    refine ⟨v, M, hM, fun K k => ?_, by rw [hp, q]; rfl⟩
    show scsK xs T L (fun vs => genP P o vs fun u => k u M) = _
    rw [scsK_eq]
    unfold genP
    rw [ce, q]
    exact frc_eq _ _
theorem genF_ok {c : XO} (h : mkL res o (xPn (genF P o)) = some c) (hp : ∀ a A, evOp Ks P A (evalO a) o = (flatP P (evalO a) o).map (·, A)) : OpOk P Ks c o res := by
  obtain ⟨xs, h1, rfl⟩ := mkL_some h
  intro K T M L k out a hK hM hfit h
  have h' : scsK xs T L (fun vs => genF P o vs fun u => k u M) = some out := h
  rw [scsK_eq] at h'
  have ce := flatP_congr (P := P) (evalL_at h1 hfit)
  unfold genF at h'
  rw [ce] at h'
  cases q : flatP P (evalO a) o with
  | none => rw [q] at h'; cases h'
  | some v =>
    refine ⟨v, M, hM, fun K k => ?_, by rw [hp, q]; rfl⟩
    show scsK xs T L (fun vs => genF P o vs fun u => k u M) = _
    rw [scsK_eq]
    unfold genF
    rw [ce, q]
    exact frc_eq _ _
theorem genN_ok {c : XO} (h : mkL res o (xNw (genN P o)) = some c) (hp : ∀ a A, evOp Ks P A (evalO a) o = (evN P A.length (evalO a) o).map fun x => (x.1, A ++ [some x.2])) : OpOk P Ks c o res := by
  obtain ⟨xs, h1, rfl⟩ := mkL_some h
  intro K T M L k out a hK hM hfit h
  have h' : scsK xs T L (fun vs => genN P o M.n vs fun v b => pushM M b fun M => k v M) = some out := h
  rw [scsK_eq] at h'
  have ce := fun id => evN_congr (P := P) (id := id) (evalL_at h1 hfit)
  unfold genN at h'
  rw [ce] at h'
  cases q : evN P M.n (evalO a) o with
  | none => rw [q] at h'; cases h'
  | some x =>
    obtain ⟨v, b⟩ := x
    rw [q] at h'
    simp only [frc_eq, frcK_eq] at h'
    obtain ⟨c1, e⟩ := pushM_some h'
    obtain ⟨k1, k2⟩ := hM.push c1 b
    refine ⟨v, _, k1, fun K k => ?_, by rw [hp, toMem_len, q, k2]; rfl⟩
    show scsK xs T L (fun vs => genN P o M.n vs fun v b => pushM M b fun M => k v M) = _
    rw [scsK_eq]
    unfold genN
    rw [ce, q]
    simp only [frc_eq, frcK_eq, e]
theorem appendD_congr {A : Mem} {e e' : Operand → Option Value} (he : ∀ x ∈ o.op.operands, e x = e' x) : appendD P A e o = appendD P A e' o := by
  obtain ⟨dst, op, type, pos, after, guard⟩ := o
  cases op
  case call c =>
    obtain ⟨callee, args, argTypes⟩ := c
    have ha : ∀ x ∈ args.toList, e x = e' x := fun x hx => he x (by simp only [Op.operands, Call.operands]; simp at hx ⊢; exact Or.inr hx)
    simp only [appendD]
    split
    · rename_i d s dT sT qa qt
      rw [ha d (by rw [qa]; simp), ha s (by rw [qa]; simp)]
    · rfl
  all_goals rfl
theorem genA_ok {c : XO} (h : mkL res o (xMm (genA P o)) = some c) (hp : ∀ a A, evOp Ks P A (evalO a) o = evAppend P A (evalO a) o) : OpOk P Ks c o res := by
  obtain ⟨xs, h1, rfl⟩ := mkL_some h
  intro K T M L k out a hK hM hfit h
  have h' : scsK xs T L (fun vs => genA P o M vs k) = some out := h
  rw [scsK_eq] at h'
  unfold genA at h'
  rw [getM_eq, ← toMem_len, appendG_eq, appendD_congr (evalL_at h1 hfit)] at h'
  cases q : appendD P (toMem M) (evalO a) o with
  | none => rw [q] at h'; cases h'
  | some x =>
    obtain ⟨v, d⟩ := x
    rw [q] at h'
    simp only [frc_eq] at h'
    obtain ⟨M', k1, k2, k3⟩ := dlM_some hM h'
    refine ⟨v, M', k1, fun K k => ?_, by rw [hp]; unfold evAppend; rw [q, k2]; rfl⟩
    show scsK xs T L (fun vs => genA P o M vs k) = _
    rw [scsK_eq]
    unfold genA
    rw [getM_eq, ← toMem_len, appendG_eq, appendD_congr (evalL_at h1 hfit), q]
    simp only [frc_eq, k3]
theorem copyD_congr {A : Mem} {e e' : Operand → Option Value} (he : ∀ x ∈ o.op.operands, e x = e' x) : copyD P A e o = copyD P A e' o := by
  obtain ⟨dst, op, type, pos, after, guard⟩ := o
  cases op
  case call c =>
    obtain ⟨callee, args, argTypes⟩ := c
    have ha : ∀ x ∈ args.toList, e x = e' x := fun x hx => he x (by simp only [Op.operands, Call.operands]; simp at hx ⊢; exact Or.inr hx)
    simp only [copyD]
    split
    · rename_i d s dT sT qa qt
      rw [ha d (by rw [qa]; simp), ha s (by rw [qa]; simp)]
    · rfl
  all_goals rfl
theorem genC_ok {c : XO} (h : mkL res o (xMm (genC P o)) = some c) (hp : ∀ a A, evOp Ks P A (evalO a) o = evCopy P A (evalO a) o) : OpOk P Ks c o res := by
  obtain ⟨xs, h1, rfl⟩ := mkL_some h
  intro K T M L k out a hK hM hfit h
  have h' : scsK xs T L (fun vs => genC P o M vs k) = some out := h
  rw [scsK_eq] at h'
  unfold genC at h'
  rw [getM_eq, copyG_eq, copyD_congr (evalL_at h1 hfit)] at h'
  cases q : copyD P (toMem M) (evalO a) o with
  | none => rw [q] at h'; cases h'
  | some x =>
    obtain ⟨v, d⟩ := x
    rw [q] at h'
    simp only [frc_eq] at h'
    obtain ⟨M', k1, k2, k3⟩ := dlM_some hM h'
    refine ⟨v, M', k1, fun K k => ?_, by rw [hp]; unfold evCopy; rw [q, k2]; rfl⟩
    show scsK xs T L (fun vs => genC P o M vs k) = _
    rw [scsK_eq]
    unfold genC
    rw [getM_eq, copyG_eq, copyD_congr (evalL_at h1 hfit), q]
    simp only [frc_eq, k3]
end
end Go.Proofs.YtgaigfmboomnkaaGreat
