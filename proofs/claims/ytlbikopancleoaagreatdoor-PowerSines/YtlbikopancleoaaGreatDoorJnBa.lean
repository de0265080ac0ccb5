/-
  OWN TEXT: package elem's logarithm (elem.Log), for every float, and that it is a word.
-/
import Derived.Test.YtlbikopancleoaaGreatDoorJnAz
import Derived.Deep.RegionHeld
namespace Go.Proofs.YtlbikopancleoaaGreatDoor
open Go.ChangeShapes Go.WideShapes Go.ChangeAt Go.RowKit
set_option linter.unusedVariables false
attribute [local go_sem] frombits_call tobits_call run_neg
theorem logP_lt {m : Nat} {e : Int} {y : Nat} (h : logP m e y) : y < 18446744073709551616 := by
  obtain ⟨_, _, _, _, _, _, _, _, _, _, _, _, _, _, h⟩ := h
  exact h.1
theorem logF_lt {x y : Nat} (h : logF x y) : y < 18446744073709551616 := by
  unfold logF at h
  by_cases c : Fl.ltF (paF x) 4604544271217802189 = true
  · rw [if_pos c] at h
    obtain ⟨m, _, h⟩ := h
    exact logP_lt h
  · rw [if_neg c] at h; exact logP_lt h
set_option maxHeartbeats 4000000 in
theorem log_word_any (x : Nat) (w : World) (hx : x < 18446744073709551616) : Calls Tryz.prog 31 #[.float .f64 x] w fun e w' => ∃ y, e = .returned (.float .f64 y) ∧ logR x y ∧ y < 18446744073709551616 ∧ Bw w w' := by
  have g1 := Fl.o_lt x 0
  have g2 := Fl.o_eq x 0
  rcases log_cases x hx with h | ⟨h, h1⟩ | ⟨h, h1, h2⟩ | ⟨h, h1, h2, h3⟩ | ⟨h1, h2, h3⟩
  · have HL : Hid (logR x x) := Or.inl ⟨Or.inl h, h⟩
    have k1 : Fl.ltF x 0 = false := by unfold Fl.ltF; rw [h]; rfl
    have k2 : Fl.eqF x 0 = false := by unfold Fl.eqF; rw [h]; rfl
    have k3 : Fl.finB x = false := by have := Fl.nan_lt h; unfold Fl.finB; exact decide_eq_false (by omega)
    have FI : Hid (∀ wz, Calls Tryz.prog 67 #[.float .f64 x] wz fun e w' => e = .returned (.bool false) ∧ w' = wz) := fun wz => by have h := finite_any x wz hx; rw [k3] at h; exact h
    rw [k1] at g1
    rw [k2] at g2
    clear h k1 k2 k3
    go_enter Tryz.func31, Tryz.ntmps31
    go_wp2_with (go_at_call 67; refine (FI.out _).mono ?_; rintro e w ⟨rfl, rfl⟩)
    go_ret
    exact ⟨_, rfl, HL.out, by first | exact hx | decide, Bw.refl _⟩
  · have HL : Hid (logR x 9221120237041090561) := Or.inl ⟨Or.inr h1, by decide⟩
    rw [h1] at g1
    clear g2
    go_enter Tryz.func31, Tryz.ntmps31
    go_wp2_with (go_at_call 66; refine (nan_ret _).mono ?_; rintro e w ⟨rfl, rfl⟩)
    go_ret
    exact ⟨_, rfl, HL.out, by first | exact hx | decide, Bw.refl _⟩
  · have HL : Hid (logR x 18442240474082181120) := Or.inr (Or.inl ⟨h, h2, rfl⟩)
    obtain ⟨t1, t2, t3⟩ := up_tests hx h
    rw [t2, decide_eq_true h2] at g2
    rw [h1] at g1
    clear t1 t2 t3 h2
    go_enter Tryz.func31, Tryz.ntmps31
    go_wp2_with (go_at_call 50; refine (inf_ret _).mono ?_; rintro e w ⟨rfl, rfl⟩)
    go_ret
    exact ⟨_, rfl, HL.out, by first | exact hx | decide, Bw.refl _⟩
  · have HL : Hid (logR x x) := Or.inr (Or.inr (Or.inl ⟨h3, rfl⟩))
    obtain ⟨t1, t2, t3⟩ := up_tests hx h
    have k3 : Fl.finB x = false := by rw [h3]; decide
    have FI : Hid (∀ wz, Calls Tryz.prog 67 #[.float .f64 x] wz fun e w' => e = .returned (.bool false) ∧ w' = wz) := fun wz => by have h := finite_any x wz hx; rw [k3] at h; exact h
    rw [t2, decide_eq_false h2] at g2
    rw [h1] at g1
    clear t1 t2 t3 h2 h3 k3
    go_enter Tryz.func31, Tryz.ntmps31
    go_wp2_with (go_at_call 67; refine (FI.out _).mono ?_; rintro e w ⟨rfl, rfl⟩)
    go_ret
    exact ⟨_, rfl, HL.out, by first | exact hx | decide, Bw.refl _⟩
  · refine (log_fin x w hx h1 h2 h3).mono ?_
    rintro e w' ⟨y, rfl, hy, hg⟩
    exact ⟨y, rfl, Or.inr (Or.inr (Or.inr ⟨h1, h2, h3, hy⟩)), logF_lt hy, hg⟩
end Go.Proofs.YtlbikopancleoaaGreatDoor
/-
  OWN TEXT: a region whose last call writes what its loads read: a load may be taken first as long as that call waits for it.
-/
namespace Go.Proofs.YtlbikopancleoaaGreatDoor
section
variable {P : Program} {ops : Array Oper} {Q : Exit → Act → World → Prop} {md : Region.Mode} {S : World → Prop} {k : Nat}

/-- whatever order is picked from here on, and 'S' holds behind every operation ahead of number 'k' -/
def wpAnyK (P : Program) (md : Region.Mode) (ops : Array Oper) (Q : Exit → Act → World → Prop) (S : World → Prop) (k : Nat) : Nat → Array Bool → Act → World → Prop
  | 0, listed, a, w => Region.ready md ops listed = [] ∧ Q .normal a w
  | fuel + 1, listed, a, w =>
    (Region.ready md ops listed = [] → Q .normal a w) ∧
    ∀ i ∈ Region.ready md ops listed, wpOp P ops Q i (fun a' w' => (i ≠ k → listed.getD k true = false → S w') ∧ wpAnyK P md ops Q S k fuel (listed.setIfInBounds i true) a' w') a w

theorem wpAny_of_K : ∀ (fuel : Nat) (listed : Array Bool) (a : Act) (w : World), wpAnyK P md ops Q S k fuel listed a w → wpAny P md ops Q fuel listed a w
  | 0, _, _, _, h => h
  | fuel + 1, _, _, _, h => ⟨h.1, fun i hi => wpOp_mono (fun a' w' h' => wpAny_of_K fuel _ a' w' h'.2) (h.2 i hi)⟩

/-- those of 'blk' have not come up, and each waits for 'i' or for another one of 'blk' -/
def waits (md : Region.Mode) (ops : Array Oper) (listed : Array Bool) (i : Nat) (blk : List Nat) : Bool :=
  blk.all fun m => !(listed.getD m true) && (match ops[m]? with | some o => o.after.toList.any (fun e => Region.binds md e && (e.on == i || blk.contains e.on)) | none => true)

theorem waits_not {listed : Array Bool} {i : Nat} {blk : List Nat} (hw : waits md ops listed i blk = true) (hi : i ∈ Region.ready md ops listed) {j : Nat} (hj : j ∈ Region.ready md ops listed) : j ∉ blk := by
  intro hb
  have h0 := List.all_eq_true.1 hw
  have h1 := h0 j hb
  obtain ⟨hjun, oj, hoj, hall⟩ := mem_ready.1 hj
  rw [hoj] at h1
  simp only [Bool.and_eq_true, List.any_eq_true, Bool.or_eq_true] at h1
  obtain ⟨_, e, he, hbe, h2⟩ := h1
  have h3 := hall e (by simpa using he) hbe
  have h4 : listed.getD e.on true = false := by
    rcases h2 with h2 | h2
    · rw [eq_of_beq h2]; exact (mem_ready.1 hi).1
    · have h5 := h0 e.on (by simpa using h2)
      simp only [Bool.and_eq_true, Bool.not_eq_true'] at h5
      exact h5.1
  rcases Nat.lt_or_ge e.on listed.size with h' | h'
  · simp [h'] at h3 h4; rw [h4] at h3; cases h3
  · simp [Array.getElem?_eq_none h'] at h3

theorem waits_un {listed : Array Bool} {i m : Nat} {blk : List Nat} (hw : waits md ops listed i blk = true) (hm : m ∈ blk) : listed.getD m true = false := by
  have h1 := List.all_eq_true.1 hw m hm
  rw [Bool.and_eq_true, Bool.not_eq_true'] at h1
  exact h1.1

theorem waits_set {listed : Array Bool} {i j : Nat} {blk : List Nat} (hw : waits md ops listed i blk = true) (hj : j ∉ blk) : waits md ops (listed.setIfInBounds j true) i blk = true := by
  refine List.all_eq_true.2 fun m hm => ?_
  have h1 := List.all_eq_true.1 hw m hm
  have hne : j ≠ m := fun e => by subst e; exact hj hm
  rw [getD_set_ne true hne]
  exact h1

theorem wpAnyK_first {i : Nat} {oi : Oper} {v : Value} {blk : List Nat} (hi : ops[i]? = some oi) (hsel : ∀ (j : Nat) (o : Oper) cs b, ops[j]? = some o → o.op ≠ .select cs b)
    (hQ : ∀ c a w, Q (.panic c) (a.put oi.dst v) w → Q (.panic c) a w) (hk : k ∈ blk) :
    ∀ (fuel : Nat) (listed : Array Bool) (a : Act) (w : World),
      (∀ j oj, ops[j]? = some oj → j ≠ i → listed.getD j true = false → (∀ e ∈ oj.after, Region.binds md e = true → e.on ≠ i) → oi.apart ops oj = true) →
      i ∈ Region.ready md ops listed → waits md ops listed i blk = true → YieldsIf P ops S oi v a → S w →
      wpAnyK P md ops Q S k fuel (listed.setIfInBounds i true) (a.put oi.dst v) w → wpAnyK P md ops Q S k (fuel + 1) listed a w := by
  intro fuel
  induction fuel with
  | zero =>
    intro listed a w _ hr hw hy hS H
    refine ⟨fun h => (by rw [h] at hr; cases hr), fun j hj => ?_⟩
    by_cases hji : j = i
    · subst hji; exact hy.wpOp hi hS ⟨fun _ _ => hS, H⟩
    · have := ready_mono hj hji
      rw [H.1] at this
      cases this
  | succ fuel ih =>
    intro listed a w hfree hr hw hy hS H
    refine ⟨fun h => (by rw [h] at hr; cases hr), fun j hj => ?_⟩
    by_cases hji : j = i
    · subst hji; exact hy.wpOp hi hS ⟨fun _ _ => hS, H⟩
    · have h1 := H.2 j (ready_mono hj hji)
      have hjb := waits_not hw hr hj
      have hjk : j ≠ k := fun e => hjb (e ▸ hk)
      have hkun := waits_un hw hk
      have hik : i ≠ k := fun e => waits_not hw hr hr (e ▸ hk)
      have hkun' : (listed.setIfInBounds i true).getD k true = false := by rw [getD_set_ne true hik]; exact hkun
      obtain ⟨hjun, oj, hoj, hall⟩ := mem_ready.1 hj
      have hnot : ∀ e ∈ oj.after, Region.binds md e = true → e.on ≠ i := fun e he hb heq => by
        have h1 := hall e he hb
        have h0 := (mem_ready.1 hr).1
        rw [heq] at h1
        rcases Nat.lt_or_ge i listed.size with h' | h'
        · simp [h'] at h0 h1; rw [h0] at h1; cases h1
        · simp [Array.getElem?_eq_none h'] at h1
      have h2 := wpOp_putIf hoj (hfree j oj hoj hji hjun hnot) (fun cs b => hsel i oi cs b hi) (fun cs b => hsel j oj cs b hoj) hQ hy h1
      have hfree' : ∀ k ok, ops[k]? = some ok → k ≠ i → (listed.setIfInBounds j true).getD k true = false →
          (∀ e ∈ ok.after, Region.binds md e = true → e.on ≠ i) → oi.apart ops ok = true := fun k ok hk hki hun hno => by
        refine hfree k ok hk hki ?_ hno
        by_cases hjk : j = k
        · subst hjk; exact hjun
        · rw [getD_set_ne true hjk] at hun; exact hun
      refine wpOp_mono (fun a' w' h3 => ⟨fun _ _ => h3.2.1 hjk hkun', ih (listed.setIfInBounds j true) a' w' hfree' (ready_mono hr (Ne.symm hji)) (waits_set hw hjb) h3.1 (h3.2.1 hjk hkun') ?_⟩) h2
      rw [Array.setIfInBounds_comm _ _ hji]
      exact h3.2.2

/-- what waits for 'i', up to 'k' -/
def behind (md : Region.Mode) (ops : Array Oper) (i k : Nat) : List Nat :=
  (List.range (k + 1)).foldl (fun acc m => match ops[m]? with | some o => if o.after.toList.any (fun e => Region.binds md e && (e.on == i || acc.contains e.on)) then m :: acc else acc | none => acc) []

theorem wpAnyK_take (i d : Nat) {oi : Oper} {v : Value} {fuel : Nat} {listed : Array Bool} {a : Act} {w : World} (hi : ops[i]? = some oi)
    (hs : Region.noSelect ops = true) (hf : Region.free md ops listed i = true) (hr : (Region.ready md ops listed).contains i = true)
    (hk : (behind md ops i k).contains k = true) (hb : waits md ops listed i (behind md ops i k) = true)
    (hQ : ∀ c a w, Q (.panic c) (a.put oi.dst v) w → Q (.panic c) a w) (hd : oi.dst = some d) (hy : YieldsIf P ops S oi v a) (hS : S w)
    (h : wpAnyK P md ops Q S k fuel (listed.setIfInBounds i true) (a.put (some d) v) w) : wpAnyK P md ops Q S k (fuel + 1) listed a w := by
  rw [← hd] at h
  exact wpAnyK_first hi (Region.noSelect_spec hs) hQ (by simpa using hk) fuel listed a w (Region.free_spec hi hf) (by simpa using hr) hb hy hS h

/-- one alone may come up -/
theorem wpAnyK_one (i : Nat) {o : Oper} {fuel : Nat} {listed : Array Bool} {a : Act} {w : World} (hr : Region.ready md ops listed = [i]) (ho : ops[i]? = some o)
    (h : ∀ K' : Act → World → Prop, Shut (∀ a w, (i ≠ k → listed.getD k true = false → S w) → wpAnyK P md ops Q S k fuel (listed.setIfInBounds i true) a w → K' a w) → if Region.wanted o (yielded ops a.tmps) = true then Oper.wp P o a w K' Q else K' (a.put o.dst undef) w) : wpAnyK P md ops Q S k (fuel + 1) listed a w := by
  refine ⟨fun h0 => absurd (hr ▸ h0) (by simp), ?_⟩
  rw [hr]
  intro j hj
  rw [List.mem_singleton] at hj
  subst hj
  exact wpOp_step ho (fun K' hK => h K' (fun a w hS hW => hK a w ⟨hS, hW⟩))

/-- one of two may come up -/
theorem wpAnyK_two (i j : Nat) {o p : Oper} {fuel : Nat} {listed : Array Bool} {a : Act} {w : World} (hr : Region.ready md ops listed = [i, j]) (ho : ops[i]? = some o) (hp : ops[j]? = some p)
    (h : ∀ K' : Act → World → Prop, Shut (∀ a w, (i ≠ k → listed.getD k true = false → S w) → wpAnyK P md ops Q S k fuel (listed.setIfInBounds i true) a w → K' a w) → if Region.wanted o (yielded ops a.tmps) = true then Oper.wp P o a w K' Q else K' (a.put o.dst undef) w)
    (h' : ∀ K' : Act → World → Prop, Shut (∀ a w, (j ≠ k → listed.getD k true = false → S w) → wpAnyK P md ops Q S k fuel (listed.setIfInBounds j true) a w → K' a w) → if Region.wanted p (yielded ops a.tmps) = true then Oper.wp P p a w K' Q else K' (a.put p.dst undef) w) : wpAnyK P md ops Q S k (fuel + 1) listed a w := by
  refine ⟨fun h0 => absurd (hr ▸ h0) (by simp), ?_⟩
  rw [hr]
  intro m hm
  rcases List.mem_cons.mp hm with e | hm
  · subst e
    exact wpOp_step ho (fun K' hK => h K' (fun a w hS hW => hK a w ⟨hS, hW⟩))
  · rw [List.mem_singleton] at hm
    subst hm
    exact wpOp_step hp (fun K' hK => h' K' (fun a w hS hW => hK a w ⟨hS, hW⟩))

theorem wpAnyK_done {listed : Array Bool} {a : Act} {w : World} (hr : Region.ready md ops listed = []) (h : Q .normal a w) :
    ∀ fuel, wpAnyK P md ops Q S k fuel listed a w
  | 0 => ⟨hr, h⟩
  | _ + 1 => ⟨fun _ => h, by rw [hr]; simp⟩

theorem wp_region_K (S : World → Prop) (k n : Nat) (l : Array Bool) {id : Nat} {a : Act} {w : World} (hm : P.follows .mixedOrders = true) (hn : ops.size = n) (hl : Array.replicate n false = l)
    (h : wpAnyK P .any ops Q S k n l a w.drew) : (Code.region id ops true).wp P Q a w := by
  subst hn; subst hl
  exact wp_region_any hm (wpAny_of_K _ _ _ _ h)
end
end Go.Proofs.YtlbikopancleoaaGreatDoor
