/-
  OWN TEXT: an evaluator made for the kernel: regions whose order is drawn: one order is taken, and what was read too early is looked at again. What is asked of that order.
-/
import Derived.Test.YtmbjgakehghdjaaKai
namespace Go.Proofs.Ytmbjgakehghdjaa
open Go.RowKit
set_option linter.unusedVariables false
set_option linter.unusedSimpArgs false
theorem allR_iff {α : Type} {f : α → Bool} : ∀ {l : List α}, allR l f = true → ∀ x ∈ l, f x = true
  | [], _, x, hx => by cases hx
  | y :: l, h, x, hx => by
    have h' : Bool.rec (motive := fun _ => Bool) false (allR l f) (f y) = true := h
    cases q : f y with
    | false => rw [q] at h'; cases h'
    | true =>
      rw [q] at h'
      rcases List.mem_cons.1 hx with e | e
      · subst e; exact q
      · exact allR_iff h' x e
theorem tb_eq (m i : Nat) : tb m i = m.testBit i := by
  unfold tb
  rw [beq_iff, Nat.testBit_eq_decide_div_mod_eq]
  rfl
theorem tb_lor (a b i : Nat) : tb (Nat.lor a b) i = (tb a i || tb b i) := by
  rw [tb_eq, tb_eq, tb_eq]
  exact Nat.testBit_or a b i
theorem tb_pow (k i : Nat) : tb (Nat.pow 2 k) i = decide (k = i) := by
  rw [tb_eq]
  exact Nat.testBit_two_pow
theorem tb_zero (i : Nat) : tb 0 i = false := by rw [tb_eq]; exact Nat.zero_testBit i
theorem edM_tb (bl : List Nat) (i : Nat) : ∀ (l : List Edge), tb (edM bl l) i = true → ∃ e ∈ l, Region.binds .any e = true ∧ (e.on = i ∨ tb (getN bl e.on) i = true)
  | [], h => by have : tb 0 i = true := h; rw [tb_zero] at this; cases this
  | e :: l, h => by
    have h' : tb (Bool.rec (motive := fun _ => Nat) (edM bl l) (Nat.lor (Nat.lor (Nat.pow 2 e.on) (getN bl e.on)) (edM bl l)) (Region.binds .any e)) i = true := h
    cases q : Region.binds .any e with
    | false =>
      rw [q] at h'
      obtain ⟨e', h1, h2⟩ := edM_tb bl i l h'
      exact ⟨e', by simp [h1], h2⟩
    | true =>
      rw [q] at h'
      have h2 : tb (Nat.lor (Nat.lor (Nat.pow 2 e.on) (getN bl e.on)) (edM bl l)) i = true := h'
      rw [tb_lor, tb_lor, tb_pow, Bool.or_eq_true, Bool.or_eq_true, decide_eq_true_eq] at h2
      rcases h2 with h2 | h2
      · exact ⟨e, by simp, q, h2⟩
      · obtain ⟨e', h3, h4⟩ := edM_tb bl i l h2
        exact ⟨e', by simp [h3], h4⟩
theorem edM_on (bl : List Nat) : ∀ (l : List Edge) (e : Edge), e ∈ l → Region.binds .any e = true → tb (edM bl l) e.on = true
  | [], e, h, _ => by cases h
  | d :: l, e, h, hb => by
    show tb (Bool.rec (motive := fun _ => Nat) (edM bl l) (Nat.lor (Nat.lor (Nat.pow 2 d.on) (getN bl d.on)) (edM bl l)) (Region.binds .any d)) e.on = true
    rcases List.mem_cons.1 h with q | q
    · subst q
      rw [hb]
      show tb (Nat.lor (Nat.lor (Nat.pow 2 e.on) (getN bl e.on)) (edM bl l)) e.on = true
      rw [tb_lor, tb_lor, tb_pow]
      simp
    · have ih := edM_on bl l e q hb
      cases z : Region.binds .any d with
      | false => exact ih
      | true =>
        show tb (Nat.lor (Nat.lor (Nat.pow 2 d.on) (getN bl d.on)) (edM bl l)) e.on = true
        rw [tb_lor, ih]
        simp
theorem opAt_eq (ops : Array Oper) (i : Nat) : opAt ops i = ops[i]? := by unfold opAt; rw [nth_eq, Array.getElem?_toList]
structure DF (ops : Array Oper) (bl : List Nat) : Prop where
  fwd : ∀ (j : Nat) (o : Oper) (e : Edge), ops[j]? = some o → e ∈ o.after → Region.binds .any e = true → tb (getN bl j) e.on = true ∧ e.on < ops.size
  back : ∀ (i j : Nat) (o : Oper), ops[j]? = some o → tb (getN bl j) i = true → ∃ e ∈ o.after, Region.binds .any e = true ∧ (e.on = i ∨ tb (getN bl e.on) i = true)
  ap : ∀ (i j : Nat) (oi oj : Oper), i ≠ j → ops[i]? = some oi → ops[j]? = some oj → tb (getN bl j) i = false → tb (getN bl i) j = false → oi.apart ops oj = true
  rd : ∀ (w i : Nat) (o p : Oper) (e : Tmp), isR o.op = true → ops[w]? = some o → ops[i]? = some p → i ≠ w → tb (getN bl w) i = false → p.dst = some e → e ∉ o.looksAt ops ∧ o.dst ≠ some e
  rg : ∀ (w : Nat) (o : Oper), isR o.op = true → ops[w]? = some o → ∃ d, o.dst = some d ∧ d ∉ o.looksAt ops
theorem apart_symm {ops : Array Oper} {x y : Oper} (h : x.apart ops y = true) : y.apart ops x = true := by
  obtain ⟨p1, p2, p3⟩ := Oper.apart_spec h
  unfold Oper.apart
  rw [Bool.and_eq_true]
  constructor
  · cases q : y.dst with
    | none => rfl
    | some d =>
      simp only [Bool.and_eq_true, Bool.not_eq_true', bne_iff_ne, ne_eq]
      refine ⟨?_, fun e => p2 d e q⟩
      have := p3 d q
      simpa using this
  · cases q : x.dst with
    | none => rfl
    | some d =>
      simp only [Bool.not_eq_true']
      have := p1 d q
      simpa using this
theorem df_of {ops : Array Oper} {bl : List Nat} (h1 : chkB ops bl (List.range ops.size) = true) (h2 : chkA ops bl (List.range ops.size) = true) (h3 : chkR ops bl (List.range ops.size) = true) : DF ops bl := by
  have mem : ∀ {i : Nat} {o : Oper}, ops[i]? = some o → i ∈ List.range ops.size := fun h => List.mem_range.2 (Array.getElem?_eq_some_iff.1 h).1
  have half : ∀ (i j : Nat) (oi oj : Oper), i < j → ops[i]? = some oi → ops[j]? = some oj → tb (getN bl j) i = false → tb (getN bl i) j = false → oi.apart ops oj = true := by
    intro i j oi oj hlt hi hj e1 e2
    have := allR_iff (allR_iff h2 j (mem hj)) i (mem hi)
    simp only [ble_iff, decide_eq_false (show ¬ j ≤ i by omega), cond_false, e1, e2, opAt_eq, hi, hj] at this
    exact this
  refine ⟨?_, ?_, ?_, ?_, ?_⟩
  · intro j o e hj he hb
    have := allR_iff h1 j (mem hj)
    simp only [opAt_eq, hj, Bool.and_eq_true] at this
    have k1 := edM_on bl o.after.toList e (by simpa using he) hb
    rw [← Nat.eq_of_beq_eq_true this.1] at k1
    refine ⟨k1, ?_⟩
    have k2 := this.2
    rw [blt_iff, decide_eq_true_eq] at k2
    rw [tb_eq] at k1
    rcases Nat.lt_or_ge e.on ops.size with c | c
    · exact c
    · have : (getN bl j).testBit e.on = false := Nat.testBit_lt_two_pow (Nat.lt_of_lt_of_le k2 (Nat.pow_le_pow_right (by decide) c))
      rw [this] at k1
      cases k1
  · intro i j o hj ht
    have := allR_iff h1 j (mem hj)
    simp only [opAt_eq, hj, Bool.and_eq_true] at this
    rw [Nat.eq_of_beq_eq_true this.1] at ht
    obtain ⟨e, k1, k2⟩ := edM_tb bl i _ ht
    exact ⟨e, by simpa using k1, k2⟩
  · intro i j oi oj hne hi hj e1 e2
    rcases Nat.lt_or_gt_of_ne hne with c | c
    · exact half i j oi oj c hi hj e1 e2
    · exact apart_symm (half j i oj oi c hj hi e2 e1)
  · intro w i o p e hR hw hi hne ht hd
    have := allR_iff h3 w (mem hw)
    simp only [opAt_eq, hw, hR, cond_true] at this
    split at this
    · rw [Bool.and_eq_true] at this
      have := allR_iff this.2 i (mem hi)
      simp only [beq_iff, decide_eq_false hne, cond_false, ht, opAt_eq, hi, hd, Bool.and_eq_true, Bool.not_eq_true', bne_iff_ne, ne_eq] at this
      refine ⟨?_, this.2⟩
      have := this.1
      simpa using this
    · cases this
  · intro w o hR hw
    have := allR_iff h3 w (mem hw)
    simp only [opAt_eq, hw, hR, cond_true] at this
    split at this
    · rename_i d q
      rw [Bool.and_eq_true] at this
      exact ⟨d, q, by simpa using this.1⟩
    · cases this
end Go.Proofs.Ytmbjgakehghdjaa
/-
  OWN TEXT: an evaluator made for the kernel: regions whose order is drawn: one order stands for all of them.
-/
namespace Go.Proofs.Ytmbjgakehghdjaa
open Go.RowKit
set_option linter.unusedVariables false
set_option linter.unusedSimpArgs false
/-- what was read is there still -/
def Hd (P : Program) (ops : Array Oper) (w : Nat) (s : St) : Prop := ∃ o d, ops[w]? = some o ∧ isR o.op = true ∧ o.dst = some d ∧ (Region.wanted o (yielded ops s.1.tmps) = true → ∃ v, evR P s.2 (evalO s.1) o = some v ∧ s.1.tmps[d]? = some v)
noncomputable def flt (ops : Array Oper) (bl : List Nat) (ef : Nat → Bool) (j : Nat) (W : List Nat) : List Nat := if ef j then W.filter (fun w => !tb (getN bl j) w) else W
theorem flt_mem {ops : Array Oper} {bl : List Nat} {ef : Nat → Bool} {j w : Nat} {W : List Nat} (h : w ∈ flt ops bl ef j W) : w ∈ W := by
  unfold flt at h
  split at h
  · exact (List.mem_filter.1 h).1
  · exact h
theorem flt_mono {ops : Array Oper} {bl : List Nat} {ef : Nat → Bool} {j : Nat} {W W' : List Nat} (h : ∀ w ∈ W, w ∈ W') : ∀ w ∈ flt ops bl ef j W, w ∈ flt ops bl ef j W' := by
  intro w hw
  unfold flt at hw ⊢
  split at hw
  · rename_i c
    rw [if_pos c]
    obtain ⟨h1, h2⟩ := List.mem_filter.1 hw
    exact List.mem_filter.2 ⟨h w h1, h2⟩
  · rename_i c
    rw [if_neg c]
    exact h w hw
section
variable (P : Program) (st : Nat → St → Option St) (ops : Array Oper) (bl : List Nat) (ef : Nat → Bool) (F : St)
/-- whatever order is picked, it ends in F, and what was read (W) stays where it may be read later -/
def absW : Nat → Array Bool → St → List Nat → Prop
  | 0, l, s, W => (∀ w ∈ W, Hd P ops w s) ∧ Region.ready .any ops l = [] ∧ s = F
  | n + 1, l, s, W => (∀ w ∈ W, Hd P ops w s) ∧ (Region.ready .any ops l = [] → s = F) ∧ ∀ j ∈ Region.ready .any ops l, ∃ s', st j s = some s' ∧ absW n (l.setIfInBounds j true) s' (flt ops bl ef j W)
theorem absW_any : ∀ (n : Nat) (l : Array Bool) (s : St) (W : List Nat), absW P st ops bl ef F n l s W → absAny st ops F n l s
  | 0, l, s, W, h => h.2
  | n + 1, l, s, W, h => ⟨h.2.1, fun j hj => let ⟨s', h1, h2⟩ := h.2.2 j hj; ⟨s', h1, absW_any n _ s' _ h2⟩⟩
theorem absW_mono : ∀ (n : Nat) (l : Array Bool) (s : St) (W W' : List Nat), (∀ w ∈ W, w ∈ W') → absW P st ops bl ef F n l s W' → absW P st ops bl ef F n l s W
  | 0, l, s, W, W', hs, h => ⟨fun w hw => h.1 w (hs w hw), h.2⟩
  | n + 1, l, s, W, W', hs, h => ⟨fun w hw => h.1 w (hs w hw), h.2.1, fun j hj => let ⟨s', h1, h2⟩ := h.2.2 j hj; ⟨s', h1, absW_mono n _ s' _ _ (flt_mono hs) h2⟩⟩
theorem absW_hd {n : Nat} {l : Array Bool} {s : St} {W : List Nat} (h : absW P st ops bl ef F n l s W) : ∀ w ∈ W, Hd P ops w s := by
  cases n with
  | zero => exact h.1
  | succ n => exact h.1
end
/-- what came up has all that it is behind -/
def DC (ops : Array Oper) (bl : List Nat) (l : Array Bool) : Prop := l.size = ops.size ∧ ∀ (j i : Nat), j < ops.size → l.getD j true = true → tb (getN bl j) i = true → l.getD i false = true
theorem getD_lt {l : Array Bool} {j : Nat} (h : j < l.size) (x y : Bool) : l.getD j x = l.getD j y := by simp [h]
section
variable {ops : Array Oper} {bl : List Nat}
theorem ready_lt {l : Array Bool} {j : Nat} (h : j ∈ Region.ready .any ops l) : j < ops.size := by
  obtain ⟨_, o, ho, _⟩ := mem_ready.1 h
  exact (Array.getElem?_eq_some_iff.1 ho).1
/-- one that may come up is not behind one that has not -/
theorem ready_not (df : DF ops bl) {l : Array Bool} (dc : DC ops bl l) {i j : Nat} (hi : l.getD i false = false) (hj : j ∈ Region.ready .any ops l) : tb (getN bl j) i = false := by
  cases q : tb (getN bl j) i with
  | false => rfl
  | true =>
    exfalso
    obtain ⟨_, o, ho, hall⟩ := mem_ready.1 hj
    obtain ⟨e, he, hb, hor⟩ := df.back i j o ho q
    obtain ⟨_, hlt⟩ := df.fwd j o e ho he hb
    have h1 := hall e he hb
    rcases hor with rfl | hor
    · rw [hi] at h1; cases h1
    · have := dc.2 e.on i hlt (by rw [getD_lt (by rw [dc.1]; exact hlt) true false]; exact h1) hor
      rw [hi] at this; cases this
theorem getD_set {l : Array Bool} {i j : Nat} (x : Bool) (hj : j < l.size) : (l.setIfInBounds j true).getD i x = if j = i then true else l.getD i x := by
  by_cases c : j = i
  · subst c; simp [hj]
  · rw [getD_set_ne x c, if_neg c]
theorem DC.set (df : DF ops bl) {l : Array Bool} (dc : DC ops bl l) {j : Nat} (hj : j ∈ Region.ready .any ops l) : DC ops bl (l.setIfInBounds j true) := by
  have hlt := ready_lt hj
  have hls : j < l.size := by rw [dc.1]; exact hlt
  refine ⟨by simp [dc.1], fun k i hk h1 h2 => ?_⟩
  rw [getD_set true hls] at h1
  rw [getD_set false hls]
  by_cases ci : j = i
  · rw [if_pos ci]
  · rw [if_neg ci]
    by_cases c : j = k
    · subst c
      cases q : l.getD i false with
      | true => rfl
      | false =>
        have := ready_not df dc q hj
        rw [h2] at this; cases this
    · rw [if_neg c] at h1
      exact dc.2 k i hk h1 h2
theorem unlisted {l : Array Bool} {i : Nat} (h : i ∈ Region.ready .any ops l) (hs : l.size = ops.size) : l.getD i false = false := by
  have h1 := (mem_ready.1 h).1
  rw [getD_lt (by rw [hs]; exact ready_lt h) false true]
  exact h1
/-- two that may come up are apart -/
theorem ready_apart (df : DF ops bl) {l : Array Bool} (dc : DC ops bl l) {i j : Nat} {oi oj : Oper} (hi : i ∈ Region.ready .any ops l) (hj : j ∈ Region.ready .any ops l) (hne : i ≠ j) (h1 : ops[i]? = some oi) (h2 : ops[j]? = some oj) : oi.apart ops oj = true :=
  df.ap i j oi oj hne h1 h2 (ready_not df dc (unlisted hi dc.1) hj) (ready_not df dc (unlisted hj dc.1) hi)
end
theorem evalO_looks {ops : Array Oper} {o : Oper} {a : Act} {d : Tmp} {v : Value} (h : d ∉ o.looksAt ops) : ∀ x ∈ o.op.operands, evalO (a.put (some d) v) x = evalO a x := by
  intro x hx
  refine evalO_put fun d' hd hxd => h ?_
  cases hd
  exact List.mem_append_left _ (List.mem_filterMap.2 ⟨.tmp d, by rw [← hxd]; simpa using hx, rfl⟩)
/-- what was read is there still, whatever other temporary is put -/
theorem Hd.put {P : Program} {ops : Array Oper} {w : Nat} {a : Act} {A : Mem} {dst : Option Tmp} {v : Value} (hs : ∀ o d, ops[w]? = some o → isR o.op = true → dst = some d → d ∉ o.looksAt ops ∧ o.dst ≠ some d) : Hd P ops w (a.put dst v, A) ↔ Hd P ops w (a, A) := by
  cases dst with
  | none => exact Iff.rfl
  | some d =>
    constructor
    · rintro ⟨o, e, h1, h2, h3, h4⟩
      obtain ⟨k1, k2⟩ := hs o d h1 h2 rfl
      refine ⟨o, e, h1, h2, h3, fun hw => ?_⟩
      obtain ⟨u, h4, h5⟩ := h4 (by rw [wanted_put o a (some d) v (fun d' q => by cases q; exact k1)]; exact hw)
      refine ⟨u, ?_, ?_⟩
      · rw [← h4]; exact (evR_congr (evalO_looks k1)).symm
      · have hne : d ≠ e := fun q => k2 (q ▸ h3)
        simpa [Act.put, Array.getElem?_setIfInBounds_ne hne] using h5
    · rintro ⟨o, e, h1, h2, h3, h4⟩
      obtain ⟨k1, k2⟩ := hs o d h1 h2 rfl
      refine ⟨o, e, h1, h2, h3, fun hw => ?_⟩
      obtain ⟨u, h4, h5⟩ := h4 (by rw [wanted_put o a (some d) v (fun d' q => by cases q; exact k1)] at hw; exact hw)
      refine ⟨u, ?_, ?_⟩
      · rw [← h4]; exact evR_congr (evalO_looks k1)
      · have hne : d ≠ e := fun q => k2 (q ▸ h3)
        simpa [Act.put, Array.getElem?_setIfInBounds_ne hne] using h5
section
variable {P : Program} {st : Nat → St → Option St} {ops : Array Oper} {bl : List Nat} {ef : Nat → Bool} {F : St}
/-- one may be taken first that commutes with all others -/
theorem takeW (df : DF ops bl) (J : St → Prop) (hJ : ∀ j s s', st j s = some s' → J s → J s') {i : Nat} (Wi : List Nat) (hef : ef i = false) (hWi : ∀ w ∈ Wi, w = i)
    (hcomm : ∀ (l : Array Bool) (j : Nat) (s si sij : St), DC ops bl l → i ∈ Region.ready .any ops l → j ∈ Region.ready .any ops l → j ≠ i → J s → st i s = some si → st j si = some sij → (∀ w ∈ Wi, Hd P ops w sij) → ∃ sj, st j s = some sj ∧ st i sj = some sij)
    (hback : ∀ (s si : St) (w : Nat), st i s = some si → w ≠ i → tb (getN bl w) i = false → Hd P ops w si → Hd P ops w s) :
    ∀ (n : Nat) (l : Array Bool) (s si : St) (W : List Nat), DC ops bl l → J s → i ∈ Region.ready .any ops l → st i s = some si → (∀ w ∈ W, w ≠ i ∧ tb (getN bl w) i = false) → absW P st ops bl ef F n (l.setIfInBounds i true) si (Wi ++ W) → absW P st ops bl ef F (n + 1) l s W := by
  intro n
  induction n with
  | zero =>
    intro l s si W dc hj0 hr hs hW H
    refine ⟨fun w hw => hback s si w hs (hW w hw).1 (hW w hw).2 (H.1 w (by simp [hw])), fun h => (by rw [h] at hr; cases hr), fun j hj => ?_⟩
    by_cases hji : j = i
    · subst hji
      refine ⟨si, hs, ?_⟩
      have : flt ops bl ef j W = W := by unfold flt; rw [hef]; rfl
      rw [this]
      exact absW_mono P st ops bl ef F 0 _ _ W (Wi ++ W) (fun w hw => by simp [hw]) H
    · have := ready_mono hj hji
      rw [H.2.1] at this
      cases this
  | succ n ih =>
    intro l s si W dc hj0 hr hs hW H
    refine ⟨fun w hw => hback s si w hs (hW w hw).1 (hW w hw).2 (H.1 w (by simp [hw])), fun h => (by rw [h] at hr; cases hr), fun j hj => ?_⟩
    by_cases hji : j = i
    · subst hji
      refine ⟨si, hs, ?_⟩
      have : flt ops bl ef j W = W := by unfold flt; rw [hef]; rfl
      rw [this]
      exact absW_mono P st ops bl ef F (n + 1) _ _ W (Wi ++ W) (fun w hw => by simp [hw]) H
    · obtain ⟨sij, h1, h2⟩ := H.2.2 j (ready_mono hj hji)
      have hnb := ready_not df dc (unlisted hr dc.1) hj
      have sub : ∀ w ∈ Wi ++ flt ops bl ef j W, w ∈ flt ops bl ef j (Wi ++ W) := by
        intro w hw
        unfold flt at hw ⊢
        split at hw
        · rename_i c
          rw [if_pos c]
          rcases List.mem_append.1 hw with q | q
          · refine List.mem_filter.2 ⟨by simp [q], ?_⟩
            rw [hWi w q, hnb]; rfl
          · obtain ⟨q1, q2⟩ := List.mem_filter.1 q
            exact List.mem_filter.2 ⟨by simp [q1], q2⟩
        · rename_i c
          rw [if_neg c]
          exact hw
      have h3 := absW_mono P st ops bl ef F n _ _ _ _ sub h2
      obtain ⟨sj, k1, k2⟩ := hcomm l j s si sij dc hr hj hji hj0 hs h1 (fun w hw => absW_hd P st ops bl ef F h3 w (by simp [hw]))
      refine ⟨sj, k1, ih _ sj sij _ (dc.set df hj) (hJ j s sj k1 hj0) (ready_mono hr (Ne.symm hji)) k2 (fun w hw => hW w (flt_mem hw)) ?_⟩
      rw [Array.setIfInBounds_comm _ _ hji]
      exact h3
/-- one alone may come up -/
theorem oneW {i n : Nat} {l : Array Bool} {s si : St} {W : List Nat} (hone : ∀ j ∈ Region.ready .any ops l, j = i) (hi : i ∈ Region.ready .any ops l) (hs : st i s = some si) (hW : ∀ w ∈ W, Hd P ops w s) (H : absW P st ops bl ef F n (l.setIfInBounds i true) si (flt ops bl ef i W)) : absW P st ops bl ef F (n + 1) l s W := by
  refine ⟨hW, fun h => (by rw [h] at hi; cases hi), fun j hj => ?_⟩
  rw [hone j hj]
  exact ⟨si, hs, H⟩
end
end Go.Proofs.Ytmbjgakehghdjaa
/-
  OWN TEXT: an evaluator made for the kernel: regions whose order is drawn: the order that was looked at stands for all.
-/
namespace Go.Proofs.Ytmbjgakehghdjaa
open Go.RowKit
set_option linter.unusedVariables false
set_option linter.unusedSimpArgs false
section
variable {K : Caller} {P : Program} {ops : Array Oper} {T : Tab} {bl td : List Nat}
/-- steps in an order, and what is looked at again -/
def Chain (K : Caller) (P : Program) (ops : Array Oper) (T : Tab) : List (Nat × List Nat) → St → St → Prop
  | [], s, F => s = F
  | (i, ws) :: rest, s, F => ∃ s', stI K P ops T i s = some s' ∧ (∀ w ∈ ws, Hd P ops w s') ∧ Chain K P ops T rest s' F
/-- the table tells just the new blocks that are listed -/
def TabOk (ops : Array Oper) (T : Tab) (td : List Nat) : Prop := ∀ i, (tvAt T i).isSome = memN td i ∧ (memN td i = true → ∃ o, ops[i]? = some o ∧ isN o.op = true)
theorem stI_put {i : Nat} {s s' : St} {o : Oper} (ho : ops[i]? = some o) (h : stI K P ops T i s = some s') : ∃ u, s'.1 = s.1.put o.dst u := by
  unfold stI at h
  rw [ho] at h
  simp only at h
  unfold stepT at h
  split at h
  · exact stepA_put h
  · split at h
    · split at h
      · cases h; exact ⟨_, rfl⟩
      · cases h
    · cases h; exact ⟨_, rfl⟩
theorem light_step {i : Nat} {s s' : St} {o : Oper} (ho : ops[i]? = some o) (hl : lightB (tvAt T i) o.op = true) (h : stI K P ops T i s = some s') : ∃ u, s' = (s.1.put o.dst u, s.2) := by
  unfold stI at h
  rw [ho] at h
  simp only at h
  unfold stepT at h
  split at h
  · rename_i q
    rw [q] at hl
    unfold stepA at h
    split at h
    · cases z : evOp K P s.2 (evalO s.1) o with
      | none => rw [z] at h; cases h
      | some x =>
        obtain ⟨v, A'⟩ := x
        rw [z] at h
        cases h
        have : A' = s.2 := evOp_keeps (by simp [lightB] at hl; simp [hl]) z
        subst this
        exact ⟨v, rfl⟩
    · cases h; exact ⟨undef, rfl⟩
  · split at h
    · split at h
      · cases h; exact ⟨_, rfl⟩
      · cases h
    · cases h; exact ⟨_, rfl⟩
theorem read_step {i : Nat} {s s' : St} {o : Oper} (ho : ops[i]? = some o) (hR : isR o.op = true) (hT : tvAt T i = none) (h : stI K P ops T i s = some s') : ∃ u, s' = (s.1.put o.dst u, s.2) ∧ (Region.wanted o (yielded ops s.1.tmps) = true → evR P s.2 (evalO s.1) o = some u) ∧ (Region.wanted o (yielded ops s.1.tmps) = false → u = undef) := by
  unfold stI at h
  rw [ho] at h
  simp only [hT, stepT] at h
  unfold stepA at h
  split at h
  · rename_i hw
    rw [evOp_R hR] at h
    cases z : evR P s.2 (evalO s.1) o with
    | none => rw [z] at h; cases h
    | some x => rw [z] at h; cases h; exact ⟨x, rfl, fun _ => rfl, fun q => by rw [hw] at q; cases q⟩
  · rename_i hw
    cases h
    exact ⟨undef, rfl, fun q => absurd q hw, fun _ => rfl⟩
/-- a read and another one, either way round, where it is there still -/
theorem swap_R {oi oj : Oper} (hap : oi.apart ops oj = true) (hR : isR oi.op = true) {tj : Option Td} {a : Act} {A : Mem} {u : Value} (hu : Region.wanted oi (yielded ops a.tmps) = false → u = undef) {sij : St} (h2 : stepT K P ops tj oj (a.put oi.dst u, A) = some sij)
    (hd : ∃ d, oi.dst = some d ∧ d ∉ oi.looksAt ops ∧ (Region.wanted oi (yielded ops sij.1.tmps) = true → ∃ v, evR P sij.2 (evalO sij.1) oi = some v ∧ sij.1.tmps[d]? = some v)) (hsz : ∀ d, oi.dst = some d → d < a.tmps.size) :
    ∃ sj, stepT K P ops tj oj (a, A) = some sj ∧ stepT K P ops none oi sj = some sij := by
  obtain ⟨p1, p2, p3⟩ := Oper.apart_spec hap
  obtain ⟨vj, B, e1, e2⟩ : ∃ vj B, stepT K P ops tj oj (a, A) = some (a.put oj.dst vj, B) ∧ sij = ((a.put oi.dst u).put oj.dst vj, B) := by
    cases tj with
    | some v =>
      simp only [stepT] at h2 ⊢
      rw [wanted_put oj a oi.dst u p1, evN_put oj a oi.dst u p1] at h2
      split at h2
      · rename_i c
        split at h2
        · rename_i d; cases h2; exact ⟨v.1, A, by rw [if_pos c, if_pos d], rfl⟩
        · cases h2
      · rename_i c; cases h2; exact ⟨undef, A, by rw [if_neg c], rfl⟩
    | none =>
      simp only [stepT] at h2 ⊢
      unfold stepA at h2 ⊢
      simp only at h2 ⊢
      rw [wanted_put oj a oi.dst u p1, evOp_put oj a oi.dst u p1] at h2
      split at h2
      · rename_i c
        rw [if_pos c]
        cases q : evOp K P A (evalO a) oj with
        | none => rw [q] at h2; cases h2
        | some x => rw [q] at h2; cases h2; exact ⟨x.1, x.2, rfl, rfl⟩
      · rename_i c
        rw [if_neg c]
        cases h2
        exact ⟨undef, A, rfl, rfl⟩
  refine ⟨_, e1, ?_⟩
  subst e2
  obtain ⟨d, k1, k2, k3⟩ := hd
  have own : ∀ d', oi.dst = some d' → d' ∉ oi.looksAt ops := fun d' q => by rw [k1] at q; cases q; exact k2
  have w1 : Region.wanted oi (yielded ops (a.put oj.dst vj).tmps) = Region.wanted oi (yielded ops a.tmps) := wanted_put oi a oj.dst vj p3
  have w2 : Region.wanted oi (yielded ops ((a.put oi.dst u).put oj.dst vj).tmps) = Region.wanted oi (yielded ops a.tmps) := by
    rw [wanted_put oi (a.put oi.dst u) oj.dst vj p3, wanted_put oi a oi.dst u own]
  simp only [stepT]
  unfold stepA
  simp only
  rw [w1]
  cases hw : Region.wanted oi (yielded ops a.tmps) with
  | false =>
    rw [if_neg (by decide), hu hw]
    rw [Act.put_comm a undef vj p2]
  | true =>
    obtain ⟨v, k3, k4⟩ := k3 (by rw [w2]; exact hw)
    have hne : oj.dst ≠ some d := p2 d k1
    have hv : v = u := by
      have : ((a.put oi.dst u).put oj.dst vj).tmps[d]? = some u := by
        have e : (a.put oi.dst u).tmps[d]? = some u := by
          rw [k1, put_get (hsz d k1), if_pos rfl]
        cases q : oj.dst with
        | none => exact e
        | some d' =>
          have hd' : d' ≠ d := fun x => hne (by rw [q, x])
          simp only [Act.put, Array.getElem?_setIfInBounds_ne hd']
          exact e
      rw [this] at k4
      exact (Option.some.inj k4).symm
    subst hv
    have hev : evR P B (evalO (a.put oj.dst vj)) oi = some v := by
      rw [← k3]
      refine evR_congr fun x hx => ?_
      have e1 : evalO ((a.put oi.dst v).put oj.dst vj) x = evalO (a.put oi.dst v) x := evalO_put fun d' hd' hxd => p3 d' hd' (by exact List.mem_append_left _ (List.mem_filterMap.2 ⟨.tmp d', by rw [← hxd]; simpa using hx, rfl⟩))
      have e2 : evalO (a.put oi.dst v) x = evalO a x := evalO_put fun d' hd' hxd => own d' hd' (by exact List.mem_append_left _ (List.mem_filterMap.2 ⟨.tmp d', by rw [← hxd]; simpa using hx, rfl⟩))
      have e3 : evalO (a.put oj.dst vj) x = evalO a x := evalO_put fun d' hd' hxd => p3 d' hd' (by exact List.mem_append_left _ (List.mem_filterMap.2 ⟨.tmp d', by rw [← hxd]; simpa using hx, rfl⟩))
      show evalO (a.put oj.dst vj) x = evalO ((a.put oi.dst v).put oj.dst vj) x
      rw [e1, e2, e3]
    rw [if_pos rfl, evOp_R hR]
    simp only [hev, Option.map_some]
    rw [Act.put_comm a v vj p2]
end
end Go.Proofs.Ytmbjgakehghdjaa
