/-
  OWN TEXT: an evaluator made for the kernel: regions whose order is drawn: one order stands for all of them.
-/
import Derived.Test.YtgaigfmboomnkaaGreatXwM
namespace Go.Proofs.YtgaigfmboomnkaaGreat
open Go.RowKit
set_option linter.unusedVariables false
set_option linter.unusedSimpArgs false
/-- what was read is there still -/
def Hd (P : Program) (ops : Array Oper) (w : Nat) (s : St) : Prop := ∃ o d, ops[w]? = some o ∧ isR o.op = true ∧ o.dst = some d ∧ (Region.wanted o (yielded ops s.1.tmps) = true → ∃ v, evR P s.2 (evalO s.1) o = some v ∧ s.1.tmps[d]? = some v)
noncomputable def flt (ops : Array Oper) (bl : List Nat) (ef : Nat → Bool) (j : Nat) (W : List Nat) : List Nat := if ef j then W.filter (fun w => !tb (getN bl j) w) else W
theorem flt_mem {ops : Array Oper} {bl : List Nat} {ef : Nat → Bool} {j w : Nat} {W : List Nat} (h : w ∈ flt ops bl ef j W) : w ∈ W := by
  unfold flt at h
  split at h
  · exact (List.mem_filter.1 h).1
  · exact h
theorem flt_mono {ops : Array Oper} {bl : List Nat} {ef : Nat → Bool} {j : Nat} {W W' : List Nat} (h : ∀ w ∈ W, w ∈ W') : ∀ w ∈ flt ops bl ef j W, w ∈ flt ops bl ef j W' := by
  intro w hw
  unfold flt at hw ⊢
  split at hw
  · rename_i c
    rw [if_pos c]
    obtain ⟨h1, h2⟩ := List.mem_filter.1 hw
    exact List.mem_filter.2 ⟨h w h1, h2⟩
  · rename_i c
    rw [if_neg c]
    exact h w hw
section
variable (P : Program) (st : Nat → St → Option St) (ops : Array Oper) (bl : List Nat) (ef : Nat → Bool) (F : St)
/-- whatever order is picked, it ends in F, and what was read (W) stays where it may be read later -/
def absW : Nat → Array Bool → St → List Nat → Prop
  | 0, l, s, W => (∀ w ∈ W, Hd P ops w s) ∧ Region.ready .any ops l = [] ∧ s = F
  | n + 1, l, s, W => (∀ w ∈ W, Hd P ops w s) ∧ (Region.ready .any ops l = [] → s = F) ∧ ∀ j ∈ Region.ready .any ops l, ∃ s', st j s = some s' ∧ absW n (l.setIfInBounds j true) s' (flt ops bl ef j W)
theorem absW_any : ∀ (n : Nat) (l : Array Bool) (s : St) (W : List Nat), absW P st ops bl ef F n l s W → absAny st ops F n l s
  | 0, l, s, W, h => h.2
  | n + 1, l, s, W, h => ⟨h.2.1, fun j hj => let ⟨s', h1, h2⟩ := h.2.2 j hj; ⟨s', h1, absW_any n _ s' _ h2⟩⟩
theorem absW_mono : ∀ (n : Nat) (l : Array Bool) (s : St) (W W' : List Nat), (∀ w ∈ W, w ∈ W') → absW P st ops bl ef F n l s W' → absW P st ops bl ef F n l s W
  | 0, l, s, W, W', hs, h => ⟨fun w hw => h.1 w (hs w hw), h.2⟩
  | n + 1, l, s, W, W', hs, h => ⟨fun w hw => h.1 w (hs w hw), h.2.1, fun j hj => let ⟨s', h1, h2⟩ := h.2.2 j hj; ⟨s', h1, absW_mono n _ s' _ _ (flt_mono hs) h2⟩⟩
theorem absW_hd {n : Nat} {l : Array Bool} {s : St} {W : List Nat} (h : absW P st ops bl ef F n l s W) : ∀ w ∈ W, Hd P ops w s := by
  cases n with
  | zero => exact h.1
  | succ n => exact h.1
end
/-- what came up has all that it is behind -/
def DC (ops : Array Oper) (bl : List Nat) (l : Array Bool) : Prop := l.size = ops.size ∧ ∀ (j i : Nat), j < ops.size → l.getD j true = true → tb (getN bl j) i = true → l.getD i false = true
theorem getD_lt {l : Array Bool} {j : Nat} (h : j < l.size) (x y : Bool) : l.getD j x = l.getD j y := by simp [h]
section
variable {ops : Array Oper} {bl : List Nat}
theorem ready_lt {l : Array Bool} {j : Nat} (h : j ∈ Region.ready .any ops l) : j < ops.size := by
  obtain ⟨_, o, ho, _⟩ := mem_ready.1 h
  exact (Array.getElem?_eq_some_iff.1 ho).1
/-- one that may come up is not behind one that has not -/
theorem ready_not (df : DF ops bl) {l : Array Bool} (dc : DC ops bl l) {i j : Nat} (hi : l.getD i false = false) (hj : j ∈ Region.ready .any ops l) : tb (getN bl j) i = false := by
  cases q : tb (getN bl j) i with
  | false => rfl
  | true =>
    exfalso
    obtain ⟨_, o, ho, hall⟩ := mem_ready.1 hj
    obtain ⟨e, he, hb, hor⟩ := df.back i j o ho q
    obtain ⟨_, hlt⟩ := df.fwd j o e ho he hb
    have h1 := hall e he hb
    rcases hor with rfl | hor
    · rw [hi] at h1; cases h1
    · have := dc.2 e.on i hlt (by rw [getD_lt (by rw [dc.1]; exact hlt) true false]; exact h1) hor
      rw [hi] at this; cases this
theorem getD_set {l : Array Bool} {i j : Nat} (x : Bool) (hj : j < l.size) : (l.setIfInBounds j true).getD i x = if j = i then true else l.getD i x := by
  by_cases c : j = i
  · subst c; simp [hj]
  · rw [getD_set_ne x c, if_neg c]
theorem DC.set (df : DF ops bl) {l : Array Bool} (dc : DC ops bl l) {j : Nat} (hj : j ∈ Region.ready .any ops l) : DC ops bl (l.setIfInBounds j true) := by
  have hlt := ready_lt hj
  have hls : j < l.size := by rw [dc.1]; exact hlt
  refine ⟨by simp [dc.1], fun k i hk h1 h2 => ?_⟩
  rw [getD_set true hls] at h1
  rw [getD_set false hls]
  by_cases ci : j = i
  · rw [if_pos ci]
  · rw [if_neg ci]
    by_cases c : j = k
    · subst c
      cases q : l.getD i false with
      | true => rfl
      | false =>
        have := ready_not df dc q hj
        rw [h2] at this; cases this
    · rw [if_neg c] at h1
      exact dc.2 k i hk h1 h2
theorem unlisted {l : Array Bool} {i : Nat} (h : i ∈ Region.ready .any ops l) (hs : l.size = ops.size) : l.getD i false = false := by
  have h1 := (mem_ready.1 h).1
  rw [getD_lt (by rw [hs]; exact ready_lt h) false true]
  exact h1
/-- two that may come up are apart -/
theorem ready_apart (df : DF ops bl) {l : Array Bool} (dc : DC ops bl l) {i j : Nat} {oi oj : Oper} (hi : i ∈ Region.ready .any ops l) (hj : j ∈ Region.ready .any ops l) (hne : i ≠ j) (h1 : ops[i]? = some oi) (h2 : ops[j]? = some oj) : oi.apart ops oj = true :=
  df.ap i j oi oj hne h1 h2 (ready_not df dc (unlisted hi dc.1) hj) (ready_not df dc (unlisted hj dc.1) hi)
end
theorem evalO_looks {ops : Array Oper} {o : Oper} {a : Act} {d : Tmp} {v : Value} (h : d ∉ o.looksAt ops) : ∀ x ∈ o.op.operands, evalO (a.put (some d) v) x = evalO a x := by
  intro x hx
  refine evalO_put fun d' hd hxd => h ?_
  cases hd
  exact List.mem_append_left _ (List.mem_filterMap.2 ⟨.tmp d, by rw [← hxd]; simpa using hx, rfl⟩)
/-- what was read is there still, whatever other temporary is put -/
theorem Hd.put {P : Program} {ops : Array Oper} {w : Nat} {a : Act} {A : Mem} {dst : Option Tmp} {v : Value} (hs : ∀ o d, ops[w]? = some o → isR o.op = true → dst = some d → d ∉ o.looksAt ops ∧ o.dst ≠ some d) : Hd P ops w (a.put dst v, A) ↔ Hd P ops w (a, A) := by
  cases dst with
  | none => exact Iff.rfl
  | some d =>
    constructor
    · rintro ⟨o, e, h1, h2, h3, h4⟩
      obtain ⟨k1, k2⟩ := hs o d h1 h2 rfl
      refine ⟨o, e, h1, h2, h3, fun hw => ?_⟩
      obtain ⟨u, h4, h5⟩ := h4 (by rw [wanted_put o a (some d) v (fun d' q => by cases q; exact k1)]; exact hw)
      refine ⟨u, ?_, ?_⟩
      · rw [← h4]; exact (evR_congr (evalO_looks k1)).symm
      · have hne : d ≠ e := fun q => k2 (q ▸ h3)
        simpa [Act.put, Array.getElem?_setIfInBounds_ne hne] using h5
    · rintro ⟨o, e, h1, h2, h3, h4⟩
      obtain ⟨k1, k2⟩ := hs o d h1 h2 rfl
      refine ⟨o, e, h1, h2, h3, fun hw => ?_⟩
      obtain ⟨u, h4, h5⟩ := h4 (by rw [wanted_put o a (some d) v (fun d' q => by cases q; exact k1)] at hw; exact hw)
      refine ⟨u, ?_, ?_⟩
      · rw [← h4]; exact evR_congr (evalO_looks k1)
      · have hne : d ≠ e := fun q => k2 (q ▸ h3)
        simpa [Act.put, Array.getElem?_setIfInBounds_ne hne] using h5
section
variable {P : Program} {st : Nat → St → Option St} {ops : Array Oper} {bl : List Nat} {ef : Nat → Bool} {F : St}
/-- one may be taken first that commutes with all others -/
theorem takeW (df : DF ops bl) (J : St → Prop) (hJ : ∀ j s s', st j s = some s' → J s → J s') {i : Nat} (Wi : List Nat) (hef : ef i = false) (hWi : ∀ w ∈ Wi, w = i)
    (hcomm : ∀ (l : Array Bool) (j : Nat) (s si sij : St), DC ops bl l → i ∈ Region.ready .any ops l → j ∈ Region.ready .any ops l → j ≠ i → J s → st i s = some si → st j si = some sij → (∀ w ∈ Wi, Hd P ops w sij) → ∃ sj, st j s = some sj ∧ st i sj = some sij)
    (hback : ∀ (s si : St) (w : Nat), st i s = some si → w ≠ i → tb (getN bl w) i = false → Hd P ops w si → Hd P ops w s) :
    ∀ (n : Nat) (l : Array Bool) (s si : St) (W : List Nat), DC ops bl l → J s → i ∈ Region.ready .any ops l → st i s = some si → (∀ w ∈ W, w ≠ i ∧ tb (getN bl w) i = false) → absW P st ops bl ef F n (l.setIfInBounds i true) si (Wi ++ W) → absW P st ops bl ef F (n + 1) l s W := by
  intro n
  induction n with
  | zero =>
    intro l s si W dc hj0 hr hs hW H
    refine ⟨fun w hw => hback s si w hs (hW w hw).1 (hW w hw).2 (H.1 w (by simp [hw])), fun h => (by rw [h] at hr; cases hr), fun j hj => ?_⟩
    by_cases hji : j = i
    · subst hji
      refine ⟨si, hs, ?_⟩
      have : flt ops bl ef j W = W := by unfold flt; rw [hef]; rfl
      rw [this]
      exact absW_mono P st ops bl ef F 0 _ _ W (Wi ++ W) (fun w hw => by simp [hw]) H
    · have := ready_mono hj hji
      rw [H.2.1] at this
      cases this
  | succ n ih =>
    intro l s si W dc hj0 hr hs hW H
    refine ⟨fun w hw => hback s si w hs (hW w hw).1 (hW w hw).2 (H.1 w (by simp [hw])), fun h => (by rw [h] at hr; cases hr), fun j hj => ?_⟩
    by_cases hji : j = i
    · subst hji
      refine ⟨si, hs, ?_⟩
      have : flt ops bl ef j W = W := by unfold flt; rw [hef]; rfl
      rw [this]
      exact absW_mono P st ops bl ef F (n + 1) _ _ W (Wi ++ W) (fun w hw => by simp [hw]) H
    · obtain ⟨sij, h1, h2⟩ := H.2.2 j (ready_mono hj hji)
      have hnb := ready_not df dc (unlisted hr dc.1) hj
      have sub : ∀ w ∈ Wi ++ flt ops bl ef j W, w ∈ flt ops bl ef j (Wi ++ W) := by
        intro w hw
        unfold flt at hw ⊢
        split at hw
        · rename_i c
          rw [if_pos c]
          rcases List.mem_append.1 hw with q | q
          · refine List.mem_filter.2 ⟨by simp [q], ?_⟩
            rw [hWi w q, hnb]; rfl
          · obtain ⟨q1, q2⟩ := List.mem_filter.1 q
            exact List.mem_filter.2 ⟨by simp [q1], q2⟩
        · rename_i c
          rw [if_neg c]
          exact hw
      have h3 := absW_mono P st ops bl ef F n _ _ _ _ sub h2
      obtain ⟨sj, k1, k2⟩ := hcomm l j s si sij dc hr hj hji hj0 hs h1 (fun w hw => absW_hd P st ops bl ef F h3 w (by simp [hw]))
      refine ⟨sj, k1, ih _ sj sij _ (dc.set df hj) (hJ j s sj k1 hj0) (ready_mono hr (Ne.symm hji)) k2 (fun w hw => hW w (flt_mem hw)) ?_⟩
      rw [Array.setIfInBounds_comm _ _ hji]
      exact h3
/-- one alone may come up -/
theorem oneW {i n : Nat} {l : Array Bool} {s si : St} {W : List Nat} (hone : ∀ j ∈ Region.ready .any ops l, j = i) (hi : i ∈ Region.ready .any ops l) (hs : st i s = some si) (hW : ∀ w ∈ W, Hd P ops w s) (H : absW P st ops bl ef F n (l.setIfInBounds i true) si (flt ops bl ef i W)) : absW P st ops bl ef F (n + 1) l s W := by
  refine ⟨hW, fun h => (by rw [h] at hi; cases hi), fun j hj => ?_⟩
  rw [hone j hj]
  exact ⟨si, hs, H⟩
end
end Go.Proofs.YtgaigfmboomnkaaGreat
