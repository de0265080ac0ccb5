/-
  OWN TEXT: an evaluator made for the kernel: regions whose order is drawn: one order is taken, and what was read too early is looked at again. What is asked of that order.
-/
import Derived.Test.YtgaigfmboomnkaaGreatXwL
namespace Go.Proofs.YtgaigfmboomnkaaGreat
open Go.RowKit
set_option linter.unusedVariables false
set_option linter.unusedSimpArgs false
theorem tb_eq (m i : Nat) : tb m i = m.testBit i := by
  unfold tb
  rw [beq_iff, Nat.testBit_eq_decide_div_mod_eq]
  rfl
theorem tb_lor (a b i : Nat) : tb (Nat.lor a b) i = (tb a i || tb b i) := by
  rw [tb_eq, tb_eq, tb_eq]
  exact Nat.testBit_or a b i
theorem tb_pow (k i : Nat) : tb (Nat.pow 2 k) i = decide (k = i) := by
  rw [tb_eq]
  exact Nat.testBit_two_pow
theorem tb_zero (i : Nat) : tb 0 i = false := by rw [tb_eq]; exact Nat.zero_testBit i
theorem edM_tb (bl : List Nat) (i : Nat) : ∀ (l : List Edge), tb (edM bl l) i = true → ∃ e ∈ l, Region.binds .any e = true ∧ (e.on = i ∨ tb (getN bl e.on) i = true)
  | [], h => by have : tb 0 i = true := h; rw [tb_zero] at this; cases this
  | e :: l, h => by
    have h' : tb (Bool.rec (motive := fun _ => Nat) (edM bl l) (Nat.lor (Nat.lor (Nat.pow 2 e.on) (getN bl e.on)) (edM bl l)) (Region.binds .any e)) i = true := h
    cases q : Region.binds .any e with
    | false =>
      rw [q] at h'
      obtain ⟨e', h1, h2⟩ := edM_tb bl i l h'
      exact ⟨e', by simp [h1], h2⟩
    | true =>
      rw [q] at h'
      have h2 : tb (Nat.lor (Nat.lor (Nat.pow 2 e.on) (getN bl e.on)) (edM bl l)) i = true := h'
      rw [tb_lor, tb_lor, tb_pow, Bool.or_eq_true, Bool.or_eq_true, decide_eq_true_eq] at h2
      rcases h2 with h2 | h2
      · exact ⟨e, by simp, q, h2⟩
      · obtain ⟨e', h3, h4⟩ := edM_tb bl i l h2
        exact ⟨e', by simp [h3], h4⟩
theorem edM_on (bl : List Nat) : ∀ (l : List Edge) (e : Edge), e ∈ l → Region.binds .any e = true → tb (edM bl l) e.on = true
  | [], e, h, _ => by cases h
  | d :: l, e, h, hb => by
    show tb (Bool.rec (motive := fun _ => Nat) (edM bl l) (Nat.lor (Nat.lor (Nat.pow 2 d.on) (getN bl d.on)) (edM bl l)) (Region.binds .any d)) e.on = true
    rcases List.mem_cons.1 h with q | q
    · subst q
      rw [hb]
      show tb (Nat.lor (Nat.lor (Nat.pow 2 e.on) (getN bl e.on)) (edM bl l)) e.on = true
      rw [tb_lor, tb_lor, tb_pow]
      simp
    · have ih := edM_on bl l e q hb
      cases z : Region.binds .any d with
      | false => exact ih
      | true =>
        show tb (Nat.lor (Nat.lor (Nat.pow 2 d.on) (getN bl d.on)) (edM bl l)) e.on = true
        rw [tb_lor, ih]
        simp
theorem opAt_eq (ops : Array Oper) (i : Nat) : opAt ops i = ops[i]? := by unfold opAt; rw [nth_eq, Array.getElem?_toList]
structure DF (ops : Array Oper) (bl : List Nat) : Prop where
  fwd : ∀ (j : Nat) (o : Oper) (e : Edge), ops[j]? = some o → e ∈ o.after → Region.binds .any e = true → tb (getN bl j) e.on = true ∧ e.on < ops.size
  back : ∀ (i j : Nat) (o : Oper), ops[j]? = some o → tb (getN bl j) i = true → ∃ e ∈ o.after, Region.binds .any e = true ∧ (e.on = i ∨ tb (getN bl e.on) i = true)
  ap : ∀ (i j : Nat) (oi oj : Oper), i ≠ j → ops[i]? = some oi → ops[j]? = some oj → tb (getN bl j) i = false → tb (getN bl i) j = false → oi.apart ops oj = true
  rd : ∀ (w i : Nat) (o p : Oper) (e : Tmp), isR o.op = true → ops[w]? = some o → ops[i]? = some p → i ≠ w → tb (getN bl w) i = false → p.dst = some e → e ∉ o.looksAt ops ∧ o.dst ≠ some e
  rg : ∀ (w : Nat) (o : Oper), isR o.op = true → ops[w]? = some o → ∃ d, o.dst = some d ∧ d ∉ o.looksAt ops
theorem apart_symm {ops : Array Oper} {x y : Oper} (h : x.apart ops y = true) : y.apart ops x = true := by
  obtain ⟨p1, p2, p3⟩ := Oper.apart_spec h
  unfold Oper.apart
  rw [Bool.and_eq_true]
  constructor
  · cases q : y.dst with
    | none => rfl
    | some d =>
      simp only [Bool.and_eq_true, Bool.not_eq_true', bne_iff_ne, ne_eq]
      refine ⟨?_, fun e => p2 d e q⟩
      have := p3 d q
      simpa using this
  · cases q : x.dst with
    | none => rfl
    | some d =>
      simp only [Bool.not_eq_true']
      have := p1 d q
      simpa using this
theorem df_of {ops : Array Oper} {bl : List Nat} (h1 : chkB ops bl (List.range ops.size) = true) (h2 : chkA ops bl (List.range ops.size) = true) (h3 : chkR ops bl (List.range ops.size) = true) : DF ops bl := by
  have mem : ∀ {i : Nat} {o : Oper}, ops[i]? = some o → i ∈ List.range ops.size := fun h => List.mem_range.2 (Array.getElem?_eq_some_iff.1 h).1
  have half : ∀ (i j : Nat) (oi oj : Oper), i < j → ops[i]? = some oi → ops[j]? = some oj → tb (getN bl j) i = false → tb (getN bl i) j = false → oi.apart ops oj = true := by
    intro i j oi oj hlt hi hj e1 e2
    have := allR_iff (allR_iff h2 j (mem hj)) i (mem hi)
    simp only [ble_iff, decide_eq_false (show ¬ j ≤ i by omega), cond_false, e1, e2, opAt_eq, hi, hj] at this
    exact this
  refine ⟨?_, ?_, ?_, ?_, ?_⟩
  · intro j o e hj he hb
    have := allR_iff h1 j (mem hj)
    simp only [opAt_eq, hj, Bool.and_eq_true] at this
    have k1 := edM_on bl o.after.toList e (by simpa using he) hb
    rw [← Nat.eq_of_beq_eq_true this.1] at k1
    refine ⟨k1, ?_⟩
    have k2 := this.2
    rw [blt_iff, decide_eq_true_eq] at k2
    rw [tb_eq] at k1
    rcases Nat.lt_or_ge e.on ops.size with c | c
    · exact c
    · have : (getN bl j).testBit e.on = false := Nat.testBit_lt_two_pow (Nat.lt_of_lt_of_le k2 (Nat.pow_le_pow_right (by decide) c))
      rw [this] at k1
      cases k1
  · intro i j o hj ht
    have := allR_iff h1 j (mem hj)
    simp only [opAt_eq, hj, Bool.and_eq_true] at this
    rw [Nat.eq_of_beq_eq_true this.1] at ht
    obtain ⟨e, k1, k2⟩ := edM_tb bl i _ ht
    exact ⟨e, by simpa using k1, k2⟩
  · intro i j oi oj hne hi hj e1 e2
    rcases Nat.lt_or_gt_of_ne hne with c | c
    · exact half i j oi oj c hi hj e1 e2
    · exact apart_symm (half j i oj oi c hj hi e2 e1)
  · intro w i o p e hR hw hi hne ht hd
    have := allR_iff h3 w (mem hw)
    simp only [opAt_eq, hw, hR, cond_true] at this
    split at this
    · rw [Bool.and_eq_true] at this
      have := allR_iff this.2 i (mem hi)
      simp only [beq_iff, decide_eq_false hne, cond_false, ht, opAt_eq, hi, hd, Bool.and_eq_true, Bool.not_eq_true', bne_iff_ne, ne_eq] at this
      refine ⟨?_, this.2⟩
      have := this.1
      simpa using this
    · cases this
  · intro w o hR hw
    have := allR_iff h3 w (mem hw)
    simp only [opAt_eq, hw, hR, cond_true] at this
    split at this
    · rename_i d q
      rw [Bool.and_eq_true] at this
      exact ⟨d, q, by simpa using this.1⟩
    · cases this
end Go.Proofs.YtgaigfmboomnkaaGreat
