/-
 OWN TEXT: the program's logarithm (elem.Log), for every float.
-/
import Derived.Test.YtfgfofedacehiaaGreatJEoEToEqE
import Derived.Test.YtfgfofedacehiaaGreatJLsAToEoC
import Derived.Deep.RegionHeld
namespace Go.Proofs.YtfgfofedacehiaaGreat
open Go.ChangeShapes Go.WideShapes Go.ChangeAt Go.RowKit
set_option linter.unusedVariables false
attribute [local go_sem] frombits_call tobits_call run_neg
end Go.Proofs.YtfgfofedacehiaaGreat

/-
 OWN TEXT: package elem's logarithm (elem.Log), for every float, and that it is a word.
-/
namespace Go.Proofs.YtfgfofedacehiaaGreat
open Go.ChangeShapes Go.WideShapes Go.ChangeAt Go.RowKit
set_option linter.unusedVariables false
attribute [local go_sem] frombits_call tobits_call run_neg
end Go.Proofs.YtfgfofedacehiaaGreat

/-
 OWN TEXT: a region whose last call writes what its loads read: a load may be taken first as long as that call waits for it.
-/
namespace Go.Proofs.YtfgfofedacehiaaGreat
section
variable {P : Program} {ops : Array Oper} {Q : Exit → Act → World → Prop} {md : Region.Mode} {S : World → Prop} {k : Nat}

/-- whatever order is picked from here on, and 'S' holds behind every operation ahead of number 'k' -/
def wpAnyK (P : Program) (md : Region.Mode) (ops : Array Oper) (Q : Exit → Act → World → Prop) (S : World → Prop) (k : Nat) : Nat → Array Bool → Act → World → Prop
 | 0, listed, a, w => Region.ready md ops listed = [] ∧ Q .normal a w
 | fuel + 1, listed, a, w =>
  (Region.ready md ops listed = [] → Q .normal a w) ∧
  ∀ i ∈ Region.ready md ops listed, wpOp P ops Q i (fun a' w' => (i ≠ k → listed.getD k true = false → S w') ∧ wpAnyK P md ops Q S k fuel (listed.setIfInBounds i true) a' w') a w
theorem wpAny_of_K : ∀ (fuel : Nat) (listed : Array Bool) (a : Act) (w : World), wpAnyK P md ops Q S k fuel listed a w → wpAny P md ops Q fuel listed a w
 | 0, _, _, _, h => h
 | fuel + 1, _, _, _, h => ⟨h.1, fun i hi => wpOp_mono (fun a' w' h' => wpAny_of_K fuel _ a' w' h'.2) (h.2 i hi)⟩
/-- those of 'blk' have not come up, and each waits for 'i' or for another one of 'blk' -/
def waits (md : Region.Mode) (ops : Array Oper) (listed : Array Bool) (i : Nat) (blk : List Nat) : Bool :=
 blk.all fun m => !(listed.getD m true) && (match ops[m]? with | some o => o.after.toList.any (fun e => Region.binds md e && (e.on == i || blk.contains e.on)) | none => true)
theorem waits_not {listed : Array Bool} {i : Nat} {blk : List Nat} (hw : waits md ops listed i blk = true) (hi : i ∈ Region.ready md ops listed) {j : Nat} (hj : j ∈ Region.ready md ops listed) : j ∉ blk := by
 intro hb
 have h0 := List.all_eq_true.1 hw
 have h1 := h0 j hb
 obtain ⟨hjun, oj, hoj, hall⟩ := mem_ready.1 hj
 rw [hoj] at h1
 simp only [Bool.and_eq_true, List.any_eq_true, Bool.or_eq_true] at h1
 obtain ⟨_, e, he, hbe, h2⟩ := h1
 have h3 := hall e (by simpa using he) hbe
 have h4 : listed.getD e.on true = false := by
  rcases h2 with h2 | h2
  · rw [eq_of_beq h2]; exact (mem_ready.1 hi).1
  ·
   have h5 := h0 e.on (by simpa using h2)
   simp only [Bool.and_eq_true, Bool.not_eq_true'] at h5
   exact h5.1
 rcases Nat.lt_or_ge e.on listed.size with h' | h'
 · simp [h'] at h3 h4; rw [h4] at h3; cases h3
 · simp [Array.getElem?_eq_none h'] at h3
theorem waits_un {listed : Array Bool} {i m : Nat} {blk : List Nat} (hw : waits md ops listed i blk = true) (hm : m ∈ blk) : listed.getD m true = false := by
 have h1 := List.all_eq_true.1 hw m hm
 rw [Bool.and_eq_true, Bool.not_eq_true'] at h1
 exact h1.1
theorem waits_set {listed : Array Bool} {i j : Nat} {blk : List Nat} (hw : waits md ops listed i blk = true) (hj : j ∉ blk) : waits md ops (listed.setIfInBounds j true) i blk = true := by
 refine List.all_eq_true.2 fun m hm => ?_
 have h1 := List.all_eq_true.1 hw m hm
 have hne : j ≠ m := fun e => by subst e; exact hj hm
 rw [getD_set_ne true hne]
 exact h1
theorem wpAnyK_first {i : Nat} {oi : Oper} {v : Value} {blk : List Nat} (hi : ops[i]? = some oi) (hsel : ∀ (j : Nat) (o : Oper) cs b, ops[j]? = some o → o.op ≠ .select cs b)
  (hQ : ∀ c a w, Q (.panic c) (a.put oi.dst v) w → Q (.panic c) a w) (hk : k ∈ blk) :
  ∀ (fuel : Nat) (listed : Array Bool) (a : Act) (w : World),
   (∀ j oj, ops[j]? = some oj → j ≠ i → listed.getD j true = false → (∀ e ∈ oj.after, Region.binds md e = true → e.on ≠ i) → oi.apart ops oj = true) →
   i ∈ Region.ready md ops listed → waits md ops listed i blk = true → YieldsIf P ops S oi v a → S w →
   wpAnyK P md ops Q S k fuel (listed.setIfInBounds i true) (a.put oi.dst v) w → wpAnyK P md ops Q S k (fuel + 1) listed a w := by
 intro fuel
 induction fuel with
 | zero =>
  intro listed a w _ hr hw hy hS H
  refine ⟨fun h => (by rw [h] at hr; cases hr), fun j hj => ?_⟩
  by_cases hji : j = i
  · subst hji; exact hy.wpOp hi hS ⟨fun _ _ => hS, H⟩
  ·
   have := ready_mono hj hji
   rw [H.1] at this
   cases this
 | succ fuel ih =>
  intro listed a w hfree hr hw hy hS H
  refine ⟨fun h => (by rw [h] at hr; cases hr), fun j hj => ?_⟩
  by_cases hji : j = i
  · subst hji; exact hy.wpOp hi hS ⟨fun _ _ => hS, H⟩
  ·
   have h1 := H.2 j (ready_mono hj hji)
   have hjb := waits_not hw hr hj
   have hjk : j ≠ k := fun e => hjb (e ▸ hk)
   have hkun := waits_un hw hk
   have hik : i ≠ k := fun e => waits_not hw hr hr (e ▸ hk)
   have hkun' : (listed.setIfInBounds i true).getD k true = false := by rw [getD_set_ne true hik]; exact hkun
   obtain ⟨hjun, oj, hoj, hall⟩ := mem_ready.1 hj
   have hnot : ∀ e ∈ oj.after, Region.binds md e = true → e.on ≠ i := fun e he hb heq => by
    have h1 := hall e he hb
    have h0 := (mem_ready.1 hr).1
    rw [heq] at h1
    rcases Nat.lt_or_ge i listed.size with h' | h'
    · simp [h'] at h0 h1; rw [h0] at h1; cases h1
    · simp [Array.getElem?_eq_none h'] at h1
   have h2 := wpOp_putIf hoj (hfree j oj hoj hji hjun hnot) (fun cs b => hsel i oi cs b hi) (fun cs b => hsel j oj cs b hoj) hQ hy h1
   have hfree' : ∀ k ok, ops[k]? = some ok → k ≠ i → (listed.setIfInBounds j true).getD k true = false →
     (∀ e ∈ ok.after, Region.binds md e = true → e.on ≠ i) → oi.apart ops ok = true := fun k ok hk hki hun hno => by
    refine hfree k ok hk hki ?_ hno
    by_cases hjk : j = k
    · subst hjk; exact hjun
    · rw [getD_set_ne true hjk] at hun; exact hun
   refine wpOp_mono (fun a' w' h3 => ⟨fun _ _ => h3.2.1 hjk hkun', ih (listed.setIfInBounds j true) a' w' hfree' (ready_mono hr (Ne.symm hji)) (waits_set hw hjb) h3.1 (h3.2.1 hjk hkun') ?_⟩) h2
   rw [Array.setIfInBounds_comm _ _ hji]
   exact h3.2.2
/-- what waits for 'i', up to 'k' -/
def behind (md : Region.Mode) (ops : Array Oper) (i k : Nat) : List Nat :=
 (List.range (k + 1)).foldl (fun acc m => match ops[m]? with | some o => if o.after.toList.any (fun e => Region.binds md e && (e.on == i || acc.contains e.on)) then m :: acc else acc | none => acc) []
theorem wpAnyK_take (i d : Nat) {oi : Oper} {v : Value} {fuel : Nat} {listed : Array Bool} {a : Act} {w : World} (hi : ops[i]? = some oi)
  (hs : Region.noSelect ops = true) (hf : Region.free md ops listed i = true) (hr : (Region.ready md ops listed).contains i = true)
  (hk : (behind md ops i k).contains k = true) (hb : waits md ops listed i (behind md ops i k) = true)
  (hQ : ∀ c a w, Q (.panic c) (a.put oi.dst v) w → Q (.panic c) a w) (hd : oi.dst = some d) (hy : YieldsIf P ops S oi v a) (hS : S w)
  (h : wpAnyK P md ops Q S k fuel (listed.setIfInBounds i true) (a.put (some d) v) w) : wpAnyK P md ops Q S k (fuel + 1) listed a w := by
 rw [← hd] at h
 exact wpAnyK_first hi (Region.noSelect_spec hs) hQ (by simpa using hk) fuel listed a w (Region.free_spec hi hf) (by simpa using hr) hb hy hS h
/-- one alone may come up -/
theorem wpAnyK_one (i : Nat) {o : Oper} {fuel : Nat} {listed : Array Bool} {a : Act} {w : World} (hr : Region.ready md ops listed = [i]) (ho : ops[i]? = some o)
  (h : ∀ K' : Act → World → Prop, Shut (∀ a w, (i ≠ k → listed.getD k true = false → S w) → wpAnyK P md ops Q S k fuel (listed.setIfInBounds i true) a w → K' a w) → if Region.wanted o (yielded ops a.tmps) = true then Oper.wp P o a w K' Q else K' (a.put o.dst undef) w) : wpAnyK P md ops Q S k (fuel + 1) listed a w := by
 refine ⟨fun h0 => absurd (hr ▸ h0) (by simp), ?_⟩
 rw [hr]
 intro j hj
 rw [List.mem_singleton] at hj
 subst hj
 exact wpOp_step ho (fun K' hK => h K' (fun a w hS hW => hK a w ⟨hS, hW⟩))
theorem wpAnyK_done {listed : Array Bool} {a : Act} {w : World} (hr : Region.ready md ops listed = []) (h : Q .normal a w) :
  ∀ fuel, wpAnyK P md ops Q S k fuel listed a w
 | 0 => ⟨hr, h⟩
 | _ + 1 => ⟨fun _ => h, by rw [hr]; simp⟩
theorem wp_region_K (S : World → Prop) (k n : Nat) (l : Array Bool) {id : Nat} {a : Act} {w : World} (hm : P.follows .mixedOrders = true) (hn : ops.size = n) (hl : Array.replicate n false = l)
  (h : wpAnyK P .any ops Q S k n l a w.drew) : (Code.region id ops true).wp P Q a w := by
 subst hn; subst hl
 exact wp_region_any hm (wpAny_of_K _ _ _ _ h)
end
end Go.Proofs.YtfgfofedacehiaaGreat

