/-
  OWN TEXT: a region whose order is drawn, with a condition that hangs on what has come up: loads of what no store of the region reaches may be taken first, whatever waits.
-/
import Derived.Test.YtjfkdmddfeeheaaJBhL
namespace Go.Proofs.Ytjfkdmddfeeheaa
section
variable {P : Program} {ops : Array Oper} {Q : Exit → Act → World → Prop} {md : Region.Mode} {F : Array Bool → World → Prop}

/-- whatever order is picked from here on, and 'F' holds of what has come up and the world behind every operation -/
def wpAnyF (P : Program) (md : Region.Mode) (ops : Array Oper) (Q : Exit → Act → World → Prop) (F : Array Bool → World → Prop) : Nat → Array Bool → Act → World → Prop
  | 0, listed, a, w => Region.ready md ops listed = [] ∧ Q .normal a w
  | fuel + 1, listed, a, w =>
    (Region.ready md ops listed = [] → Q .normal a w) ∧
    ∀ i ∈ Region.ready md ops listed, wpOp P ops Q i (fun a' w' => F (listed.setIfInBounds i true) w' ∧ wpAnyF P md ops Q F fuel (listed.setIfInBounds i true) a' w') a w

theorem wpAny_of_F : ∀ (fuel : Nat) (listed : Array Bool) (a : Act) (w : World), wpAnyF P md ops Q F fuel listed a w → wpAny P md ops Q fuel listed a w
  | 0, _, _, _, h => h
  | fuel + 1, _, _, _, h => ⟨h.1, fun i hi => wpOp_mono (fun a' w' h' => wpAny_of_F fuel _ a' w' h'.2) (h.2 i hi)⟩

theorem wpAnyF_first {i k : Nat} {oi : Oper} {v : Value} {blk : List Nat} {S : World → Prop} (hi : ops[i]? = some oi) (hsel : ∀ (j : Nat) (o : Oper) cs b, ops[j]? = some o → o.op ≠ .select cs b)
    (hQ : ∀ c a w, Q (.panic c) (a.put oi.dst v) w → Q (.panic c) a w) (hk : k ∈ blk) (hFS : ∀ l w, l.getD k true = false → F l w → S w) (hFi : ∀ l w, F (l.setIfInBounds i true) w → F l w) (hFi2 : ∀ l w, F l w → F (l.setIfInBounds i true) w) :
    ∀ (fuel : Nat) (listed : Array Bool) (a : Act) (w : World),
      (∀ j oj, ops[j]? = some oj → j ≠ i → listed.getD j true = false → (∀ e ∈ oj.after, Region.binds md e = true → e.on ≠ i) → oi.apart ops oj = true) →
      i ∈ Region.ready md ops listed → waits md ops listed i blk = true → YieldsIf P ops S oi v a → F listed w →
      wpAnyF P md ops Q F fuel (listed.setIfInBounds i true) (a.put oi.dst v) w → wpAnyF P md ops Q F (fuel + 1) listed a w := by
  intro fuel
  induction fuel with
  | zero =>
    intro listed a w _ hr hw hy hS H
    refine ⟨fun h => (by rw [h] at hr; cases hr), fun j hj => ?_⟩
    by_cases hji : j = i
    · subst hji; exact hy.wpOp hi (hFS _ _ (waits_un hw hk) hS) ⟨hFi2 _ _ hS, H⟩
    · have := ready_mono hj hji
      rw [H.1] at this
      cases this
  | succ fuel ih =>
    intro listed a w hfree hr hw hy hS H
    refine ⟨fun h => (by rw [h] at hr; cases hr), fun j hj => ?_⟩
    by_cases hji : j = i
    · subst hji; exact hy.wpOp hi (hFS _ _ (waits_un hw hk) hS) ⟨hFi2 _ _ hS, H⟩
    · have h1 := H.2 j (ready_mono hj hji)
      have hjb := waits_not hw hr hj
      obtain ⟨hjun, oj, hoj, hall⟩ := mem_ready.1 hj
      have hnot : ∀ e ∈ oj.after, Region.binds md e = true → e.on ≠ i := fun e he hb heq => by
        have h1 := hall e he hb
        have h0 := (mem_ready.1 hr).1
        rw [heq] at h1
        rcases Nat.lt_or_ge i listed.size with h' | h'
        · simp [h'] at h0 h1; rw [h0] at h1; cases h1
        · simp [Array.getElem?_eq_none h'] at h1
      have h2 := wpOp_putIf hoj (hfree j oj hoj hji hjun hnot) (fun cs b => hsel i oi cs b hi) (fun cs b => hsel j oj cs b hoj) hQ hy h1
      have hfree' : ∀ k ok, ops[k]? = some ok → k ≠ i → (listed.setIfInBounds j true).getD k true = false →
          (∀ e ∈ ok.after, Region.binds md e = true → e.on ≠ i) → oi.apart ops ok = true := fun k ok hk hki hun hno => by
        refine hfree k ok hk hki ?_ hno
        by_cases hjk : j = k
        · subst hjk; exact hjun
        · rw [getD_set_ne true hjk] at hun; exact hun
      refine wpOp_mono (fun a' w' h3 => ?_) h2
      have h4 : F (listed.setIfInBounds j true) w' := hFi _ _ (by rw [Array.setIfInBounds_comm _ _ hji]; exact h3.2.1)
      refine ⟨h4, ih (listed.setIfInBounds j true) a' w' hfree' (ready_mono hr (Ne.symm hji)) (waits_set hw hjb) h3.1 h4 ?_⟩
      rw [Array.setIfInBounds_comm _ _ hji]
      exact h3.2.2

/-- the condition: S up to number j, T up to number k -/
def upTo2 (j : Nat) (S : World → Prop) (k : Nat) (T : World → Prop) : Array Bool → World → Prop := fun l w => (l.getD j true = false → S w) ∧ (l.getD k true = false → T w)

theorem wpAnyF_take (b : Bool) (i d : Nat) {j k : Nat} {S T : World → Prop} {oi : Oper} {v : Value} {fuel : Nat} {listed : Array Bool} {a : Act} {w : World} (hi : ops[i]? = some oi)
    (hs : Region.noSelect ops = true) (hf : Region.free md ops listed i = true) (hr : (Region.ready md ops listed).contains i = true)
    (hk : (behind md ops i (if b then j else k)).contains (if b then j else k) = true) (hb : waits md ops listed i (behind md ops i (if b then j else k)) = true) (hij : i ≠ j ∧ i ≠ k)
    (hQ : ∀ c a w, Q (.panic c) (a.put oi.dst v) w → Q (.panic c) a w) (hd : oi.dst = some d) (hy : YieldsIf P ops (if b then S else T) oi v a) (hS : upTo2 j S k T listed w)
    (h : wpAnyF P md ops Q (upTo2 j S k T) fuel (listed.setIfInBounds i true) (a.put (some d) v) w) : wpAnyF P md ops Q (upTo2 j S k T) (fuel + 1) listed a w := by
  rw [← hd] at h
  refine wpAnyF_first (k := if b then j else k) (S := if b then S else T) hi (Region.noSelect_spec hs) hQ (by simpa using hk) ?_ ?_ ?_ fuel listed a w (Region.free_spec hi hf) (by simpa using hr) hb hy hS h
  · intro l w hl hF
    cases b
    · exact hF.2 hl
    · exact hF.1 hl
  · intro l w hF
    unfold upTo2 at hF ⊢
    rw [getD_set_ne true hij.1, getD_set_ne true hij.2] at hF
    exact hF
  · intro l w hF
    unfold upTo2 at hF ⊢
    rw [getD_set_ne true hij.1, getD_set_ne true hij.2]
    exact hF

theorem wpAnyF_takeS (i d : Nat) {j k : Nat} {S T : World → Prop} {oi : Oper} {v : Value} {fuel : Nat} {listed : Array Bool} {a : Act} {w : World} (hi : ops[i]? = some oi)
    (hs : Region.noSelect ops = true) (hf : Region.free md ops listed i = true) (hr : (Region.ready md ops listed).contains i = true)
    (hk : (behind md ops i j).contains j = true) (hb : waits md ops listed i (behind md ops i j) = true) (hij : i ≠ j ∧ i ≠ k)
    (hQ : ∀ c a w, Q (.panic c) (a.put oi.dst v) w → Q (.panic c) a w) (hd : oi.dst = some d) (hy : YieldsIf P ops S oi v a) (hS : upTo2 j S k T listed w)
    (h : wpAnyF P md ops Q (upTo2 j S k T) fuel (listed.setIfInBounds i true) (a.put (some d) v) w) : wpAnyF P md ops Q (upTo2 j S k T) (fuel + 1) listed a w :=
  wpAnyF_take true i d hi hs hf hr hk hb hij hQ hd hy hS h
theorem wpAnyF_takeT (i d : Nat) {j k : Nat} {S T : World → Prop} {oi : Oper} {v : Value} {fuel : Nat} {listed : Array Bool} {a : Act} {w : World} (hi : ops[i]? = some oi)
    (hs : Region.noSelect ops = true) (hf : Region.free md ops listed i = true) (hr : (Region.ready md ops listed).contains i = true)
    (hk : (behind md ops i k).contains k = true) (hb : waits md ops listed i (behind md ops i k) = true) (hij : i ≠ j ∧ i ≠ k)
    (hQ : ∀ c a w, Q (.panic c) (a.put oi.dst v) w → Q (.panic c) a w) (hd : oi.dst = some d) (hy : YieldsIf P ops T oi v a) (hS : upTo2 j S k T listed w)
    (h : wpAnyF P md ops Q (upTo2 j S k T) fuel (listed.setIfInBounds i true) (a.put (some d) v) w) : wpAnyF P md ops Q (upTo2 j S k T) (fuel + 1) listed a w :=
  wpAnyF_take false i d hi hs hf hr hk hb hij hQ hd hy hS h

/-- one alone may come up -/
theorem wpAnyF_one (i : Nat) {o : Oper} {fuel : Nat} {listed : Array Bool} {a : Act} {w : World} (hr : Region.ready md ops listed = [i]) (ho : ops[i]? = some o)
    (h : ∀ K' : Act → World → Prop, Shut (∀ a w, F (listed.setIfInBounds i true) w → wpAnyF P md ops Q F fuel (listed.setIfInBounds i true) a w → K' a w) → if Region.wanted o (yielded ops a.tmps) = true then Oper.wp P o a w K' Q else K' (a.put o.dst undef) w) : wpAnyF P md ops Q F (fuel + 1) listed a w := by
  refine ⟨fun h0 => absurd (hr ▸ h0) (by simp), ?_⟩
  rw [hr]
  intro j hj
  rw [List.mem_singleton] at hj
  subst hj
  exact wpOp_step ho (fun K' hK => h K' (fun a w hS hW => hK a w ⟨hS, hW⟩))

theorem wpAnyF_done {listed : Array Bool} {a : Act} {w : World} (hr : Region.ready md ops listed = []) (h : Q .normal a w) :
    ∀ fuel, wpAnyF P md ops Q F fuel listed a w
  | 0 => ⟨hr, h⟩
  | _ + 1 => ⟨fun _ => h, by rw [hr]; simp⟩

theorem wp_region_F (j : Nat) (S : World → Prop) (k : Nat) (T : World → Prop) (n : Nat) (l : Array Bool) {id : Nat} {a : Act} {w : World} (hm : P.follows .mixedOrders = true) (hn : ops.size = n) (hl : Array.replicate n false = l)
    (h : wpAnyF P .any ops Q (upTo2 j S k T) n l a w.drew) : (Code.region id ops true).wp P Q a w := by
  subst hn; subst hl
  exact wp_region_any hm (wpAny_of_F _ _ _ _ h)
end
end Go.Proofs.Ytjfkdmddfeeheaa
