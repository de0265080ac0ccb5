/-
  OWN TEXT: an evaluator for calls without open arguments. An operation hangs on its operands alone.
-/
import Derived.Test.YtgaigfmboomnkaaGreatXvG
namespace Go.Proofs.YtgaigfmboomnkaaGreat
open Go.RowKit
set_option linter.unusedVariables false
set_option linter.unusedSimpArgs false
section
variable {P : Program} {e e' : Operand → Option Value}
theorem flatP_congr {o : Oper} (h : ∀ x ∈ o.op.operands, e x = e' x) : flatP P e o = flatP P e' o := by
  unfold flatP
  have h1 : o.op.operands.toList.all (flatO e) = o.op.operands.toList.all (flatO e') := by
    rw [Bool.eq_iff_iff, List.all_eq_true, List.all_eq_true]
    constructor
    · intro q x hx; have := q x hx; unfold flatO at this ⊢; rw [← h x (by simpa using hx)]; exact this
    · intro q x hx; have := q x hx; unfold flatO at this ⊢; rw [h x (by simpa using hx)]; exact this
  rw [h1]
  by_cases c : notSelect o.op = true
  · have hs : ∀ cs b, o.op ≠ .select cs b := by intro cs b q; rw [q] at c; cases c
    rw [execOp_congr (ρ' := fun x => (e' x).getD undef) o hs (fun x hx => by simp only [h x hx])]
  · have c' : notSelect o.op = false := by simpa using c
    simp [c']
theorem bndO_congr {y d : Nat} {z : Option Operand} (h : ∀ x ∈ z.toArray, e x = e' x) : bndO e y d z = bndO e' y d z := by
  cases z with
  | none => rfl
  | some x => simp only [bndO, h x (by simp)]
theorem evSlice_congr {b off len cap size : Nat} {sp : Option Nat} {lo hi mx : Option Operand} (h1 : ∀ x ∈ lo.toArray, e x = e' x) (h2 : ∀ x ∈ hi.toArray, e x = e' x) (h3 : ∀ x ∈ mx.toArray, e x = e' x) : evSlice e b off len cap size sp lo hi mx = evSlice e' b off len cap size sp lo hi mx := by
  unfold evSlice
  rw [bndO_congr h3]
  simp only [bndO_congr h2, bndO_congr h1]
theorem evS_congr {o : Oper} (h : ∀ x ∈ o.op.operands, e x = e' x) : evS P e o = evS P e' o := by
  obtain ⟨dst, op, type, pos, after, guard⟩ := o
  cases op
  case move x => exact h x (by simp [Op.operands])
  case assign x => exact h x (by simp [Op.operands])
  case nilCheck x => simp only [evS, h x (by simp [Op.operands])]
  case extract x i => simp only [evS, h x (by simp [Op.operands])]
  case fieldAddr s x f => simp only [evS, h x (by simp [Op.operands])]
  case field s x f => simp only [evS, h x (by simp [Op.operands])]
  case indexAddr t x ix => simp only [evS, h x (by simp [Op.operands]), h ix (by simp [Op.operands])]
  case slice t x lo hi mx =>
    have e1 : ∀ b off len cap size sp, evSlice e b off len cap size sp lo hi mx = evSlice e' b off len cap size sp lo hi mx := fun b off len cap size sp =>
      evSlice_congr (fun y hy => h y (by simp only [Op.operands]; simp at hy ⊢; simp [hy])) (fun y hy => h y (by simp only [Op.operands]; simp at hy ⊢; simp [hy])) (fun y hy => h y (by simp only [Op.operands]; simp at hy ⊢; simp [hy]))
    simp only [evS, h x (by simp [Op.operands]), e1]
  case call c =>
    obtain ⟨callee, args, argTypes⟩ := c
    have ha : ∀ x ∈ args.toList, e x = e' x := fun x hx => h x (by simp only [Op.operands, Call.operands]; simp at hx ⊢; exact Or.inr hx)
    simp only [evS]
    split
    · rename_i x t qa qt
      rw [ha x (by rw [qa]; simp)]
    · rfl
  all_goals rfl
theorem evB_congr {o : Oper} (h : ∀ x ∈ o.op.operands, e x = e' x) : evB P e o = evB P e' o := by
  obtain ⟨dst, op, type, pos, after, guard⟩ := o
  cases op
  case build t parts =>
    have hp : ∀ p ∈ parts.toList, e p.2 = e' p.2 := by
      intro p hp
      refine h p.2 ?_
      simp only [Op.operands]
      simp
      exact ⟨p.1, by simpa using hp⟩
    have h1 : parts.toList.all (partO e) = parts.toList.all (partO e') := by
      rw [Bool.eq_iff_iff, List.all_eq_true, List.all_eq_true]
      constructor
      · intro q x hx; have := q x hx; unfold partO at this ⊢; rw [← hp x hx]; exact this
      · intro q x hx; have := q x hx; unfold partO at this ⊢; rw [hp x hx]; exact this
    have h2 : (parts.toList.map fun p => (p.1, (e p.2).getD undef)) = (parts.toList.map fun p => (p.1, (e' p.2).getD undef)) := List.map_congr_left fun p hm => by rw [hp p hm]
    simp only [evB, h1, h2]
  case makeFunc fn first captured =>
    have hc : ∀ l : List Operand, (∀ x ∈ l, e x = e' x) → caughtO e l = caughtO e' l := by
      intro l
      induction l with
      | nil => intro _; rfl
      | cons x l ih => intro h; simp only [caughtO, h x (by simp), ih (fun y hy => h y (by simp [hy]))]
    simp only [evB, hc captured.toList (fun x hx => h x (by simp [Op.operands]; exact Or.inr (by simpa using hx)))]
  case binOp op t x y yt => simp only [evB, h x (by simp [Op.operands]), h y (by simp [Op.operands])]
  all_goals rfl
theorem evP_congr {o : Oper} (h : ∀ x ∈ o.op.operands, e x = e' x) : evP P e o = evP P e' o := by
  unfold evP
  rw [flatP_congr h, evS_congr h, evB_congr h]
theorem evR_congr {A : Mem} {o : Oper} (h : ∀ x ∈ o.op.operands, e x = e' x) : evR P A e o = evR P A e' o := by
  obtain ⟨dst, op, type, pos, after, guard⟩ := o
  cases op
  case load t x => simp only [evR, h x (by simp [Op.operands])]
  all_goals rfl
theorem evN_congr {id : Nat} {o : Oper} (h : ∀ x ∈ o.op.operands, e x = e' x) : evN P id e o = evN P id e' o := by
  obtain ⟨dst, op, type, pos, after, guard⟩ := o
  cases op
  case box el x => simp only [evN, h x (by simp [Op.operands])]
  case makeSlice t l c => simp only [evN, h l (by simp [Op.operands]), h c (by simp [Op.operands])]
  case buildSlice t len parts =>
    have hp : ∀ p ∈ parts.toList, e p.2 = e' p.2 := by
      intro p hp
      refine h p.2 ?_
      simp only [Op.operands]
      simp
      exact ⟨p.1, by simpa using hp⟩
    have h1 : parts.toList.all (partO e) = parts.toList.all (partO e') := by
      rw [Bool.eq_iff_iff, List.all_eq_true, List.all_eq_true]
      constructor
      · intro q x hx; have := q x hx; unfold partO at this ⊢; rw [← hp x hx]; exact this
      · intro q x hx; have := q x hx; unfold partO at this ⊢; rw [hp x hx]; exact this
    have h2 : (parts.toList.map fun p => (p.1, (e p.2).getD undef)) = (parts.toList.map fun p => (p.1, (e' p.2).getD undef)) := List.map_congr_left fun p hm => by rw [hp p hm]
    simp only [evN, h1, h2]
  all_goals rfl
theorem evStore_congr {A : Mem} {o : Oper} (h : ∀ x ∈ o.op.operands, e x = e' x) : evStore P A e o = evStore P A e' o := by
  obtain ⟨dst, op, type, pos, after, guard⟩ := o
  cases op
  case store t x y => simp only [evStore, storeD, h x (by simp [Op.operands]), h y (by simp [Op.operands])]
  all_goals rfl
theorem evCopy_congr {A : Mem} {o : Oper} (h : ∀ x ∈ o.op.operands, e x = e' x) : evCopy P A e o = evCopy P A e' o := by
  obtain ⟨dst, op, type, pos, after, guard⟩ := o
  cases op
  case call c =>
    obtain ⟨callee, args, argTypes⟩ := c
    have ha : ∀ x ∈ args.toList, e x = e' x := fun x hx => h x (by simp only [Op.operands, Call.operands]; simp at hx ⊢; exact Or.inr hx)
    simp only [evCopy, copyD]
    split
    · rename_i d s dT sT qa qt
      rw [ha d (by rw [qa]; simp), ha s (by rw [qa]; simp)]
    · rfl
  all_goals rfl
theorem evAppend_congr {A : Mem} {o : Oper} (h : ∀ x ∈ o.op.operands, e x = e' x) : evAppend P A e o = evAppend P A e' o := by
  obtain ⟨dst, op, type, pos, after, guard⟩ := o
  cases op
  case call c =>
    obtain ⟨callee, args, argTypes⟩ := c
    have ha : ∀ x ∈ args.toList, e x = e' x := fun x hx => h x (by simp only [Op.operands, Call.operands]; simp at hx ⊢; exact Or.inr hx)
    simp only [evAppend, appendD]
    split
    · rename_i d s dT sT qa qt
      rw [ha d (by rw [qa]; simp), ha s (by rw [qa]; simp)]
    · rfl
  all_goals rfl
theorem argsO_congr : ∀ (l : List Operand), (∀ x ∈ l, e x = e' x) → argsO e l = argsO e' l
  | [], _ => rfl
  | x :: l, h => by simp only [argsO, h x (by simp), argsO_congr l (fun y hy => h y (by simp [hy]))]
theorem funcO_congr {f : Operand} (h : e f = e' f) : funcO P e f = funcO P e' f := by unfold funcO; rw [h]
theorem evOp_congr {K : Caller} {A : Mem} {o : Oper} (h : ∀ x ∈ o.op.operands, e x = e' x) : evOp K P A e o = evOp K P A e' o := by
  obtain ⟨dst, op, type, pos, after, guard⟩ := o
  cases op
  case call c =>
    have ha : ∀ x ∈ c.args.toList, e x = e' x := fun x hx => h x (by simp only [Op.operands, Call.operands]; simp at hx ⊢; exact Or.inr hx)
    simp only [evOp, evAppend_congr h, evCopy_congr h, flatP_congr h, evP_congr h]
    split
    · rfl
    · rfl
    · rename_i f hf
      have h1 := funcO_congr (P := P) (h f (by simp [Op.operands, Call.operands, hf]))
      rw [h1]
      unfold evCallO
      rw [h1, argsO_congr _ ha]
    · rfl
  all_goals simp only [evOp, evR_congr h, evStore_congr h, evN_congr h, evS_congr h, evP_congr h]
end
/-- operations that neither read nor write memory -/
def isP : Op → Bool
  | .load _ _ | .store _ _ _ | .alloc _ | .box _ _ | .makeSlice _ _ _ | .buildSlice _ _ _ | .ready _ | .waits _ | .select _ _ | .panic _ => false
  | .call c => match c.callee with | .builtin .append | .builtin .copy | .value _ => false | _ => true
  | _ => true
def isR : Op → Bool
  | .load _ _ => true
  | _ => false
theorem evOp_P {K : Caller} {P : Program} {A : Mem} {e : Operand → Option Value} {o : Oper} (h : isP o.op = true) : ∃ u : Option Value, ∀ A, evOp K P A e o = u.map (·, A) := by
  obtain ⟨dst, op, type, pos, after, guard⟩ := o
  cases op
  case call c =>
    obtain ⟨callee, args, argTypes⟩ := c
    cases callee with
    | value f => cases h
    | invoke r m => exact ⟨_, fun A => rfl⟩
    | builtin b => cases b <;> first | exact ⟨_, fun A => rfl⟩ | cases h
  all_goals first | exact ⟨evP P e _, fun A => rfl⟩ | exact ⟨evS P e _, fun A => rfl⟩ | cases h
theorem evOp_R {K : Caller} {P : Program} {A : Mem} {e : Operand → Option Value} {o : Oper} (h : isR o.op = true) : evOp K P A e o = (evR P A e o).map (·, A) := by
  obtain ⟨dst, op, type, pos, after, guard⟩ := o
  cases op
  case load t x => rfl
  all_goals cases h
theorem evOp_keeps {K : Caller} {P : Program} {A A' : Mem} {e : Operand → Option Value} {o : Oper} {v : Value} (h : (isP o.op || isR o.op) = true) (k : evOp K P A e o = some (v, A')) : A' = A := by
  rw [Bool.or_eq_true] at h
  rcases h with h | h
  · obtain ⟨u, hu⟩ := evOp_P (K := K) (P := P) (A := A) (e := e) h
    rw [hu A] at k
    cases u with
    | none => cases k
    | some u => cases k; rfl
  · rw [evOp_R h] at k
    cases q : evR P A e o with
    | none => rw [q] at k; cases k
    | some u => rw [q] at k; cases k; rfl
end Go.Proofs.YtgaigfmboomnkaaGreat
