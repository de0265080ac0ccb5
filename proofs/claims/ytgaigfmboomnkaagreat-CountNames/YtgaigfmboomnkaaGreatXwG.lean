/-
  OWN TEXT: an evaluator made for the kernel: reads, writes, new blocks.
-/
import Derived.Test.YtgaigfmboomnkaaGreatXwF
namespace Go.Proofs.YtgaigfmboomnkaaGreat
open Go.RowKit
set_option linter.unusedVariables false
set_option linter.unusedSimpArgs false
theorem cutK_eq {α β : Type} : ∀ (l : List β) (o n : Nat) (k : List β → Option α), cutK l o n k = if o + n ≤ l.length then k ((l.drop o).take n) else none
  | [], 0, 0, k => rfl
  | [], 0, n + 1, k => rfl
  | [], o + 1, n, k => by rw [if_neg (by simp)]; rfl
  | x :: l, 0, 0, k => rfl
  | x :: l, 0, n + 1, k => by
    show cutK l 0 n (fun r => k (x :: r)) = _
    rw [cutK_eq l 0 n]
    by_cases c : 0 + n ≤ l.length
    · rw [if_pos c, if_pos (by simp; omega)]; rfl
    · rw [if_neg c, if_neg (by simp; omega)]
  | x :: l, o + 1, n, k => by
    show cutK l o n k = _
    rw [cutK_eq l o n]
    by_cases c : o + n ≤ l.length
    · rw [if_pos c, if_pos (by simp; omega)]; rfl
    · rw [if_neg c, if_neg (by simp; omega)]
theorem layK_eq {α β : Type} : ∀ (l : List β) (o : Nat) (m : List β) (k : List β → Option α), layK l o m k = if o + m.length ≤ l.length then k (l.take o ++ m ++ l.drop (o + m.length)) else none
  | [], 0, [], k => rfl
  | [], 0, y :: m, k => by rw [if_neg (by simp)]; rfl
  | [], o + 1, m, k => by rw [if_neg (by simp)]; rfl
  | x :: l, 0, [], k => rfl
  | x :: l, 0, y :: m, k => by
    show layK l 0 m (fun r => k (y :: r)) = _
    rw [layK_eq l 0 m]
    by_cases c : 0 + m.length ≤ l.length
    · rw [if_pos c, if_pos (by simp; omega)]; simp
    · rw [if_neg c, if_neg (by simp; omega)]
  | x :: l, o + 1, m, k => by
    show layK l o m (fun r => k (x :: r)) = _
    rw [layK_eq l o m]
    by_cases c : o + m.length ≤ l.length
    · rw [if_pos c, if_pos (by simp; omega)]
      congr 1
      rw [show o + 1 + m.length = (o + m.length) + 1 by omega]
      simp
    · rw [if_neg c, if_neg (by simp; omega)]
theorem cellsK_eq {α : Type} (v : Value) (k : List Value → Option α) : cellsK v k = (cellsO v).bind k := by
  unfold cellsK
  cases v <;> rfl
theorem beq_iff (m n : Nat) : Nat.beq m n = decide (m = n) := by
  by_cases c : m = n
  · subst c; rw [Nat.beq_refl]; simp
  · rw [decide_eq_false c]; exact Bool.eq_false_iff.2 fun q => c (Nat.eq_of_beq_eq_true q)
/-- reads -/
theorem ldK_some {P : Program} {n : Nat} {row : Bool} {v : Value} {M : Me} {k : Value → Out} {out : Value × Me} (h : ldK n row v M k = some out) :
    ∃ b o u, v = .pointer (some ⟨b, o, none⟩) ∧ (∀ k : Value → Out, ldK n row v M k = k u) ∧
      ((∃ blk, (toMem M)[b]? = some (some blk) ∧ ((row = true ∧ o + n ≤ blk.cells.length ∧ u = .agg ⟨(blk.cells.drop o).take n⟩) ∨ (row = false ∧ blk.cells[o]? = some u))) ∨
       ((toMem M)[b]? = some none ∧ row = false ∧ ∃ x, roTab[b]? = some x ∧ x.2[o]? = some u)) := by
  unfold ldK at h
  obtain ⟨b, o, rfl, h1⟩ := ptrK_some h
  clear h
  have e : Nat.blt b M.n = decide (b < M.n) := blt_iff _ _
  rw [e] at h1
  have key : ∀ k : Value → Out, ldK n row (.pointer (some ⟨b, o, none⟩)) M k = Bool.rec (motive := fun _ => Out) none (Option.rec (motive := fun _ => Out)
    (Bool.rec (motive := fun _ => Out) (nthK roTab b fun x => nthK x.2 o k) none row)
    (fun blk => Bool.rec (motive := fun _ => Out) (nthK blk.cells o k) (cutK blk.cells o n fun l => k (.agg ⟨l⟩)) row)
    (getB M b)) (decide (b < M.n)) := fun k => by rw [← e]; rfl
  by_cases c : b < M.n
  · rw [decide_eq_true c] at h1 key
    have hmem : (toMem M)[b]? = some (getB M b) := by rw [toMem_get, if_pos c]
    cases q : getB M b with
    | none =>
      rw [q] at h1 key hmem
      cases row with
      | true => cases h1
      | false =>
        have h2 : nthK roTab b (fun x => nthK x.2 o k) = some out := h1
        rw [nthK_eq] at h2
        obtain ⟨x, e1, h3⟩ := bind_some h2
        rw [nthK_eq] at h3
        obtain ⟨u, e2, h4⟩ := bind_some h3
        refine ⟨b, o, u, rfl, fun k => ?_, Or.inr ⟨hmem, rfl, x, e1, e2⟩⟩
        rw [key]
        show nthK roTab b (fun x => nthK x.2 o k) = _
        rw [nthK_eq, e1]
        show nthK x.2 o k = _
        rw [nthK_eq, e2]; rfl
    | some blk =>
      rw [q] at h1 key hmem
      cases row with
      | true =>
        have h2 : cutK blk.cells o n (fun l => k (.agg ⟨l⟩)) = some out := h1
        rw [cutK_eq] at h2
        split at h2
        · rename_i c2
          refine ⟨b, o, _, rfl, fun k => ?_, Or.inl ⟨blk, hmem, Or.inl ⟨rfl, c2, rfl⟩⟩⟩
          rw [key]
          show cutK blk.cells o n (fun l => k (.agg ⟨l⟩)) = _
          rw [cutK_eq, if_pos c2]
        · cases h2
      | false =>
        have h2 : nthK blk.cells o k = some out := h1
        rw [nthK_eq] at h2
        obtain ⟨u, e2, h4⟩ := bind_some h2
        refine ⟨b, o, u, rfl, fun k => ?_, Or.inl ⟨blk, hmem, Or.inr ⟨rfl, e2⟩⟩⟩
        rw [key]
        show nthK blk.cells o k = _
        rw [nthK_eq, e2]; rfl
  · rw [decide_eq_false c] at h1; cases h1
/-- writes -/
theorem stM_some {n : Nat} {v u : Value} {M : Me} (hM : Can M) {k : Me → Out} {out : Value × Me} (h : stM n v u M k = some out) :
    ∃ b o l blk, v = .pointer (some ⟨b, o, none⟩) ∧ cellsO u = some l ∧ (toMem M)[b]? = some (some blk) ∧ l.length = n ∧ o + l.length ≤ blk.cells.length ∧
      ∃ M', Can M' ∧ toMem M' = (toMem M).set b (some ⟨blk.cells.take o ++ l ++ blk.cells.drop (o + l.length), blk.elem⟩) ∧ ∀ k : Me → Out, stM n v u M k = k M' := by
  have key : ∀ (b o : Nat) (k : Me → Out), stM n (.pointer (some ⟨b, o, none⟩)) u M k = (cellsO u).bind fun l => Bool.rec (motive := fun _ => Out) none (Option.rec (motive := fun _ => Out) none
    (fun blk => layK blk.cells o l fun c => setM M b (some ⟨c, blk.elem⟩) k) (getB M b)) (Nat.beq l.length n && Nat.blt b M.n) := fun b o k => by
    rw [← cellsK_eq]; rfl
  have h0 := h
  unfold stM at h
  obtain ⟨b, o, rfl, _⟩ := ptrK_some h
  clear h
  rw [key] at h0
  obtain ⟨l, hl, h1⟩ := bind_some h0
  rw [beq_iff, blt_iff] at h1
  by_cases c : (decide (l.length = n) && decide (b < M.n)) = true
  · have c' := c
    simp only [Bool.and_eq_true, decide_eq_true_eq] at c
    obtain ⟨c1, c2⟩ := c
    rw [c'] at h1
    have hmem : (toMem M)[b]? = some (getB M b) := by rw [toMem_get, if_pos c2]
    cases q : getB M b with
    | none => rw [q] at h1; cases h1
    | some blk =>
      rw [q] at h1 hmem
      have h2 : layK blk.cells o l (fun c => setM M b (some ⟨c, blk.elem⟩) k) = some out := h1
      rw [layK_eq] at h2
      split at h2
      · rename_i c3
        obtain ⟨k1, k2⟩ := hM.set c2 (some ⟨blk.cells.take o ++ l ++ blk.cells.drop (o + l.length), blk.elem⟩)
        refine ⟨b, o, l, blk, rfl, hl, hmem, c1, c3, _, k1, k2, fun k => ?_⟩
        rw [key, hl]
        show Bool.rec (motive := fun _ => Out) none (Option.rec (motive := fun _ => Out) none (fun blk => layK blk.cells o l fun c => setM M b (some ⟨c, blk.elem⟩) k) (getB M b)) (Nat.beq l.length n && Nat.blt b M.n) = _
        rw [beq_iff, blt_iff, c', q]
        show layK blk.cells o l (fun c => setM M b (some ⟨c, blk.elem⟩) k) = _
        rw [layK_eq, if_pos c3, setM_eq]
      · cases h2
  · rw [Bool.eq_false_iff.2 c] at h1; cases h1
/-- how memory turns -/
theorem dlM_some {d : Dl} {M : Me} (hM : Can M) {k : Me → Out} {out : Value × Me} (h : dlM d M k = some out) : ∃ M', Can M' ∧ toMem M' = d.app (toMem M) ∧ ∀ k : Me → Out, dlM d M k = k M' := by
  unfold dlM at h
  cases d with
  | same => exact ⟨M, hM, rfl, fun k => rfl⟩
  | push b =>
    have h1 : frcK b (fun b => pushM M b fun M => k M) = some out := h
    rw [frcK_eq] at h1
    obtain ⟨c, e⟩ := pushM_some h1
    obtain ⟨k1, k2⟩ := hM.push c b
    refine ⟨_, k1, k2, fun k => ?_⟩
    show frcK b (fun b => pushM M b fun M => k M) = _
    rw [frcK_eq, e]
  | set i b =>
    have h1 : frcK b (fun b => cond (Nat.blt i M.n) (setM M i (some b) k) none) = some out := h
    rw [frcK_eq, blt_iff] at h1
    by_cases c : i < M.n
    · obtain ⟨k1, k2⟩ := hM.set c (some b)
      refine ⟨_, k1, k2, fun k => ?_⟩
      show frcK b (fun b => cond (Nat.blt i M.n) (setM M i (some b) k) none) = _
      rw [frcK_eq, blt_iff, decide_eq_true c, cond_true, setM_eq]
    · rw [decide_eq_false c] at h1; cases h1
  | turn i b =>
    have h1 : frcK b (fun b => cond (Nat.blt i M.n) (setM M i none fun M => pushM M b fun M => k M) none) = some out := h
    rw [frcK_eq, blt_iff] at h1
    by_cases c : i < M.n
    · rw [decide_eq_true c, cond_true, setM_eq] at h1
      obtain ⟨k1, k2⟩ := hM.set c none
      obtain ⟨c2, e⟩ := pushM_some h1
      obtain ⟨k3, k4⟩ := k1.push c2 b
      refine ⟨_, k3, by rw [k4, k2]; rfl, fun k => ?_⟩
      show frcK b (fun b => cond (Nat.blt i M.n) (setM M i none fun M => pushM M b fun M => k M) none) = _
      rw [frcK_eq, blt_iff, decide_eq_true c, cond_true, setM_eq, e]
    · rw [decide_eq_false c] at h1; cases h1
  | whole B => cases h
/-- memory as a function -/
theorem getM_eq (M : Me) : getM M = fun b => (toMem M)[b]? := by
  funext b
  unfold getM
  rw [blt_iff, toMem_get]
  by_cases c : b < M.n
  · rw [decide_eq_true c, if_pos c]; rfl
  · rw [decide_eq_false c, if_neg c]; rfl
theorem partsG_eq (A : Mem) (size n : Nat) (v : Value) : partsG (fun b => A[b]?) size n v = partsO A size n v := by
  unfold partsG partsO
  rfl
theorem growG_eq (P : Program) (A : Mem) (i : TypeInfo) (z : Value) (el : TypeId) (a : Option Addr) (len cap n : Nat) (news : List Value) : growG P (fun b => A[b]?) A.length i z el a len cap n news = growD P A i z el a len cap n news := by
  unfold growG growD
  rw [partsG_eq]
  rfl
theorem zeroG_eq (P : Program) (A : Mem) (el : TypeId) (b off : Nat) (sp : Option Nat) (len cap n : Nat) : zeroG P (fun b => A[b]?) el b off sp len cap n = zeroD P A el b off sp len cap n := by
  unfold zeroG zeroD
  rfl
theorem appendG_eq (P : Program) (A : Mem) (e : Operand → Option Value) (o : Oper) : appendG P (fun b => A[b]?) A.length e o = appendD P A e o := by
  unfold appendG appendD
  simp only [partsG_eq, growG_eq, zeroG_eq]
  rfl
theorem copyG_eq (P : Program) (A : Mem) (e : Operand → Option Value) (o : Oper) : copyG P (fun b => A[b]?) e o = copyD P A e o := by
  unfold copyG copyD
  simp only [partsG_eq]
  rfl
end Go.Proofs.YtgaigfmboomnkaaGreat
