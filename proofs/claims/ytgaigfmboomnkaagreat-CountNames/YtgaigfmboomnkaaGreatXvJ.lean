/-
  OWN TEXT: an evaluator for calls without open arguments. Code and calls: what it tells is so, in every world.
-/
import Derived.Test.YtgaigfmboomnkaaGreatXvI
namespace Go.Proofs.YtgaigfmboomnkaaGreat
open Go.RowKit
set_option linter.unusedVariables false
set_option linter.unusedSimpArgs false
def eq1 : Value → Value → Bool
  | .bool a, .bool b => a == b
  | .int k n, .int k' n' => decide (k = k') && decide (n = n')
  | .float k n, .float k' n' => decide (k = k') && decide (n = n')
  | .complex k n m, .complex k' n' m' => decide (k = k') && decide (n = n') && decide (m = m')
  | .string s, .string s' => decide (s = s')
  | .pointer a, .pointer b => decide (a = b)
  | .slice a n c, .slice a' n' c' => decide (a = a') && decide (n = n') && decide (c = c')
  | .nilFunc, .nilFunc => true
  | .nilIface, .nilIface => true
  | .func f ⟨[]⟩ ⟨[]⟩, .func f' ⟨[]⟩ ⟨[]⟩ => decide (f = f')
  | .func f ⟨[]⟩ ⟨[.pointer a]⟩, .func f' ⟨[]⟩ ⟨[.pointer a']⟩ => decide (f = f') && decide (a = a')
  | .func f ⟨[]⟩ ⟨[.pointer a, .pointer b]⟩, .func f' ⟨[]⟩ ⟨[.pointer a', .pointer b']⟩ => decide (f = f') && decide (a = a') && decide (b = b')
  | .func f ⟨[]⟩ ⟨[.pointer a, .pointer b, .pointer c]⟩, .func f' ⟨[]⟩ ⟨[.pointer a', .pointer b', .pointer c']⟩ => decide (f = f') && decide (a = a') && decide (b = b') && decide (c = c')
  | .func f ⟨[]⟩ ⟨[.pointer a, .pointer b, .pointer c, .pointer d]⟩, .func f' ⟨[]⟩ ⟨[.pointer a', .pointer b', .pointer c', .pointer d']⟩ => decide (f = f') && decide (a = a') && decide (b = b') && decide (c = c') && decide (d = d')
  | .func f ⟨[]⟩ ⟨[.pointer a, .pointer b, .pointer c, .pointer d, .pointer e]⟩, .func f' ⟨[]⟩ ⟨[.pointer a', .pointer b', .pointer c', .pointer d', .pointer e']⟩ => decide (f = f') && decide (a = a') && decide (b = b') && decide (c = c') && decide (d = d') && decide (e = e')
  | _, _ => false
theorem eq1_ok {v u : Value} (h : eq1 v u = true) : v = u := by
  unfold eq1 at h
  split at h <;> simp_all
def eqL (f : Value → Value → Bool) : List Value → List Value → Bool
  | [], [] => true
  | v :: l, u :: m => f v u && eqL f l m
  | _, _ => false
theorem eqL_ok {f : Value → Value → Bool} (hf : ∀ v u, f v u = true → v = u) : ∀ {l m : List Value}, eqL f l m = true → l = m
  | [], [], _ => rfl
  | [], _ :: _, h => by cases h
  | _ :: _, [], h => by cases h
  | v :: l, u :: m, h => by
    simp only [eqL, Bool.and_eq_true] at h
    rw [hf v u h.1, eqL_ok hf h.2]
def eq2 : Value → Value → Bool
  | .agg ⟨l⟩, .agg ⟨m⟩ => eqL eq1 l m
  | .iface t v, .iface t' v' => decide (t = t') && eq1 v v'
  | v, u => eq1 v u
theorem eq2_ok {v u : Value} (h : eq2 v u = true) : v = u := by
  unfold eq2 at h
  split at h
  · rw [eqL_ok (fun _ _ => eq1_ok) h]
  · simp only [Bool.and_eq_true, decide_eq_true_eq] at h; rw [h.1, eq1_ok h.2]
  · exact eq1_ok h
def eq3 : Value → Value → Bool
  | .tuple ⟨l⟩, .tuple ⟨m⟩ => eqL eq2 l m
  | v, u => eq2 v u
theorem eq3_ok {v u : Value} (h : eq3 v u = true) : v = u := by
  unfold eq3 at h
  split at h
  · rw [eqL_ok (fun _ _ => eq2_ok) h]
  · exact eq2_ok h
def eqM : Mem → Mem → Bool
  | [], [] => true
  | none :: l, none :: m => eqM l m
  | some a :: l, some b :: m => eqL eq1 a.cells b.cells && decide (a.elem = b.elem) && eqM l m
  | _, _ => false
theorem eqM_ok : ∀ {l m : Mem}, eqM l m = true → l = m
  | [], [], _ => rfl
  | [], _ :: _, h => by cases h
  | _ :: _, [], h => by rename_i x l; cases x <;> cases h
  | none :: l, none :: m, h => by rw [eqM_ok (l := l) (m := m) h]
  | none :: _, some _ :: _, h => by cases h
  | some _ :: _, none :: _, h => by cases h
  | some a :: l, some b :: m, h => by
    simp only [eqM, Bool.and_eq_true, decide_eq_true_eq] at h
    obtain ⟨ac, ae⟩ := a
    obtain ⟨bc, be⟩ := b
    rw [eqM_ok (l := l) (m := m) h.2]
    have := eqL_ok (fun _ _ => eq1_ok) h.1.1
    simp only at this
    rw [this]
    have := h.1.2
    simp only at this
    rw [this]
def eqS (s t : St) : Bool := eqL eq3 s.1.tmps.toList t.1.tmps.toList && s.1.defers.isEmpty && t.1.defers.isEmpty && eqM s.2 t.2
theorem eqS_ok {s t : St} (h : eqS s t = true) : s = t := by
  obtain ⟨⟨⟨l⟩, d⟩, A⟩ := s
  obtain ⟨⟨⟨m⟩, d'⟩, B⟩ := t
  simp only [eqS, Bool.and_eq_true, List.isEmpty_iff] at h
  obtain ⟨⟨⟨h1, h2⟩, h3⟩, h4⟩ := h
  have := eqL_ok (fun _ _ => eq3_ok) h1
  (try simp only at this)
  subst this
  subst h2
  subst h3
  rw [eqM_ok h4]
/-- a block is told that the world has not laid yet -/
theorem Rel.tell {P : Program} {w0 : World} {r : Rho} {A : Mem} {w : World} (h : Rel P w0 r A w) (b : Blk) : Rel P w0 (r ++ [none]) (A ++ [some b]) w := by
  have hwk := (Rho.le.push r none).wk
  have back : ∀ (i g s : Nat), (r ++ [none])[i]? = some (some (g, s)) → i < A.length ∧ r[i]? = some (some (g, s)) := by
    intro i g s f
    rcases Nat.lt_or_ge i r.length with q | q
    · rw [List.getElem?_append_left q] at f; exact ⟨by rw [← h.len]; exact q, f⟩
    · rw [List.getElem?_append_right q] at f
      cases z : i - r.length with
      | zero => rw [z] at f; simp at f
      | succ n => rw [z] at f; simp at f
  refine ⟨by simp [h.len], h.below, ?_, ro_wk hwk h.ro, ?_, h.ex⟩
  · intro i b' g s e f
    obtain ⟨hi, f⟩ := back i g s f
    rw [List.getElem?_append_left hi] at e
    obtain ⟨c, k2, k3, k4, k5⟩ := h.there i b' g s e f
    exact ⟨c, k2, k3, k4, fun j v hj => let ⟨v', a1, a2⟩ := k5 j v hj; ⟨v', a1, a2.mono hwk⟩⟩
  · intro i j bi bj g s s' e1 e2 f1 f2
    obtain ⟨hi, f1⟩ := back i g s f1
    obtain ⟨hj, f2⟩ := back j g s' f2
    rw [List.getElem?_append_left hi] at e1
    rw [List.getElem?_append_left hj] at e2
    exact h.inj i j bi bj g s s' e1 e2 f1 f2
def isN : Op → Bool
  | .alloc _ | .box _ _ | .makeSlice _ _ _ | .buildSlice _ _ _ => true
  | _ => false
theorem some_lt {β : Type} {l : List β} {i : Nat} {x : β} (h : l[i]? = some x) : i < l.length := by
  rcases Nat.lt_or_ge i l.length with q | q
  · exact q
  · rw [List.getElem?_eq_none q] at h; cases h
structure Inv (T : Tab) (r0 : Rho) (listed : Array Bool) (s : St) (r : Rho) : Prop where
  ext : r0.le r
  tab : ∀ (i : Nat) (v : Value) (p : Nat) (b : Blk), tabAt T i = some (v, p, b) → r0.length ≤ p ∧ (listed.getD i true = false → r[p]? = some none ∧ s.2[p]? = some (some b))
  inj : ∀ (i j : Nat) (v u : Value) (p : Nat) (b c : Blk), tabAt T i = some (v, p, b) → tabAt T j = some (u, p, c) → i = j
theorem listed_not {listed : Array Bool} {i j : Nat} (h : (listed.setIfInBounds j true).getD i true = false) : i ≠ j ∧ listed.getD i true = false := by
  by_cases q : j = i
  · subst q
    rcases Nat.lt_or_ge j listed.size with c | c
    · simp [c] at h
    · simp [Array.getElem?_eq_none c] at h
  · rw [getD_set_ne true q] at h
    exact ⟨fun x => q x.symm, h⟩
theorem Inv.step {T : Tab} {r0 r r' : Rho} {listed : Array Bool} {s s' : St} (h : Inv T r0 listed s r) {j : Nat} (hext : r0.le r')
    (hk : ∀ (i : Nat) (v : Value) (p : Nat) (b : Blk), tabAt T i = some (v, p, b) → i ≠ j → r[p]? = some none → r'[p]? = some none ∧ s'.2[p]? = s.2[p]?) : Inv T r0 (listed.setIfInBounds j true) s' r' := by
  refine ⟨hext, ?_, h.inj⟩
  intro i v p b e
  obtain ⟨k1, k2⟩ := h.tab i v p b e
  refine ⟨k1, fun hl => ?_⟩
  obtain ⟨hij, hl⟩ := listed_not hl
  obtain ⟨k3, k6⟩ := k2 hl
  obtain ⟨m1, m2⟩ := hk i v p b e hij k3
  exact ⟨m1, by rw [m2]; exact k6⟩
theorem stepA_put {K : Caller} {P : Program} {ops : Array Oper} {o : Oper} {s s' : St} (h : stepA K P ops o s = some s') : ∃ u, s'.1 = s.1.put o.dst u := by
  unfold stepA at h
  split at h
  · cases q : evOp K P s.2 (evalO s.1) o with
    | none => rw [q] at h; cases h
    | some x => rw [q] at h; cases h; exact ⟨x.1, rfl⟩
  · cases h; exact ⟨undef, rfl⟩
theorem keep_on {r0 r : Rho} (h : r0.le r) {A B C : Mem} (k : Keep r0 A B) (l : Keep r B C) : Keep r0 A C := Keep.trans h k l
theorem absT_sound {K : Caller} {P : Program} (hK : KOk P K) (hP : Plain P) {ops : Array Oper} {T : Tab} {F : St} {w0 : World} {r0 : Rho} {A0 : Mem} {Q : Exit → Act → World → Prop} : ∀ (n : Nat) (listed : Array Bool) (s : St), absAny (stI K P ops T) ops F n listed s → ∀ (r : Rho) (a : Act) (w : World), ActRel r s.1 a → Rel P w0 r s.2 w → Inv T r0 listed s r → Keep r0 A0 s.2 →
    (∀ r' a' w', r0.le r' → ActRel r' F.1 a' → Rel P w0 r' F.2 w' → Keep r0 A0 F.2 → Q .normal a' w') → wpAny P .any ops Q n listed a w
  | 0, listed, s, h, r, a, w, ha, hr, hi, hk, hQ => ⟨h.1, hQ r a w hi.ext (h.2 ▸ ha) (h.2 ▸ hr) (h.2 ▸ hk)⟩
  | n + 1, listed, s, h, r, a, w, ha, hr, hi, hk, hQ => by
    refine ⟨fun h0 => hQ r a w hi.ext (h.1 h0 ▸ ha) (h.1 h0 ▸ hr) (h.1 h0 ▸ hk), fun i hmem => ?_⟩
    obtain ⟨s', h1, h2⟩ := h.2 i hmem
    have hun := (mem_ready.1 hmem).1
    unfold stI at h1
    unfold wpOp
    cases ho : ops[i]? with
    | none => rw [ho] at h1; cases h1
    | some o =>
      rw [ho] at h1
      simp only at h1 ⊢
      unfold tvAt at h1
      cases ht : tabAt T i with
      | none =>
        rw [ht] at h1
        simp only [stepT] at h1
        exact stepA_sound hK hP h1 ha hr fun r' a' w' k1 k2 k3 k4 => absT_sound hK hP n _ s' h2 r' a' w' k2 k3 (hi.step (hi.ext.trans k1) (fun _ _ p _ _ _ e => ⟨k1.none e, k4 p e⟩)) (keep_on hi.ext hk k4) hQ
      | some x =>
        obtain ⟨v, p, b⟩ := x
        rw [ht] at h1
        simp only [stepT] at h1
        obtain ⟨hp0, hp1⟩ := hi.tab i v p b ht
        obtain ⟨hp2, hb⟩ := hp1 hun
        rw [ha.wanted ops o]
        split at h1
        · rename_i c
          rw [if_pos c]
          split at h1
          · rename_i hev
            cases h1
            obtain ⟨v', cc, e1, e2, e3⟩ := evN_core (w := w) hev (opsRel ha o.op)
            have hlt := some_lt hp2
            have atp : (r.set p (some (w.heap.size, 0)))[p]? = some (some (w.heap.size, 0)) := by rw [List.getElem?_set_self hlt]
            have hwk : r.wk (r.set p (some (w.heap.size, 0))) := by
              intro k x e
              by_cases q : p = k
              · subst q; rw [hp2] at e; cases e
              · rw [List.getElem?_set_ne q]; exact e
            have hext : r0.le (r.set p (some (w.heap.size, 0))) := by
              obtain ⟨y, rfl⟩ := hi.ext
              exact ⟨y.set (p - r0.length) (some (w.heap.size, 0)), by rw [List.set_append_right _ _ hp0]⟩
            refine Or.inl (wp_of_run e1 (absT_sound hK hP n _ _ h2 _ _ _ ((ha.mono hwk).put (e3 _ atp) o.dst) (hr.laidAt hp2 hb e2) (hi.step hext ?_) hk hQ))
            intro k u q bk e hne hq
            have : p ≠ q := fun x => hne (hi.inj k i u v q bk b e (x ▸ ht))
            exact ⟨by rw [List.getElem?_set_ne this]; exact hq, rfl⟩
          · cases h1
        · rename_i c
          rw [if_neg c]
          cases h1
          exact absT_sound hK hP n _ _ h2 r _ w (ha.put (VRel.undef r) o.dst) hr (hi.step hi.ext (fun _ _ p _ _ _ e => ⟨e, rfl⟩)) hk hQ
/-- how code ends -/
inductive Ex where
  | normal
  | exit (id : Nat)
  | ret
  | pan (v : Value)
def Ex.out : Ex → Exit
  | .normal => .normal
  | .exit id => .exit id
  | .ret => .ret
  | .pan v => .panic [{ v := v, recovered := false }]
def iter (f : St → Option (Ex × St)) : Nat → St → Option (Ex × St)
  | 0, _ => none
  | n + 1, s => match f s with | some (.normal, s') => iter f n s' | x => x
theorem wp_loop_n {P : Program} {c : Code} {Q : Exit → Act → World → Prop} (J : Nat → Act → World → Prop) (round : ∀ n a w, J n a w → c.wp P (Exit.then (fun a' w' => ∃ m, m < n ∧ J m a' w') Q) a w) {n : Nat} {a : Act} {w : World} (h0 : J n a w) : (Code.loop c).wp P Q a w := by
  intro b k cs
  have key : ∀ n a w, J n a w → ∃ e a' w', Q e a' w' ∧ Arrives P (lone (b.at a (.code c :: .inLoop c :: k)) cs w) b k cs e a' w' := by
    intro n
    induction n using Nat.strongRecOn with
    | _ n ih =>
      intro a w hJ
      obtain ⟨e, a1, w1, hq, harr⟩ := round n a w hJ b (.inLoop c :: k) cs
      cases e with
      | normal =>
        obtain ⟨m, hlt, hJ1⟩ := hq
        obtain ⟨e2, a2, w2, hq2, harr2⟩ := ih m hlt a1 w1 hJ1
        exact ⟨e2, a2, w2, hq2, .of_steps (Steps.trans harr (.one step_inLoop)) harr2⟩
      | exit id => exact ⟨_, a1, w1, hq, .pass (x := .inLoop c) rfl (fun _ _ => .inl (by simp)) harr⟩
      | goto l => exact ⟨_, a1, w1, hq, .pass (x := .inLoop c) rfl (fun _ _ => .inl (by simp)) harr⟩
      | ret => exact ⟨_, a1, w1, hq, .pass (x := .inLoop c) rfl (fun _ _ => .inl (by simp)) harr⟩
      | panic ch => exact ⟨_, a1, w1, hq, .pass (x := .inLoop c) rfl (fun _ _ => .inl (by simp)) harr⟩
      | outgrown => exact ⟨_, a1, w1, hq, .pass (x := .inLoop c) rfl (fun _ _ => .inl (by simp)) harr⟩
  obtain ⟨e, a', w', hq, harr⟩ := key n a w h0
  exact ⟨e, a', w', hq, .of_steps (.one step_loop) harr⟩
/-- the temporaries, where code ends; where it panics, those that are asked for later -/
def AR (rt : List Nat) (x : Ex) (r : Rho) (s a : Act) : Prop := match x with
  | .pan _ => ∃ s1 : Act, ActRel r s1 a ∧ s1.defers = s.defers ∧ ∀ t ∈ rt, s1.tmps[t]? = s.tmps[t]?
  | _ => ActRel r s a
/-- where code ends, and how -/
def Post (rt : List Nat) (P : Program) (w0 : World) (r : Rho) (A : Mem) (x : Ex) (F : St) : Exit → Act → World → Prop := fun e a w => e = x.out ∧ ∃ r', r.le r' ∧ AR rt x r' F.1 a ∧ Rel P w0 r' F.2 w ∧ Keep r A F.2
theorem Post.mono {rt : List Nat} {P : Program} {w0 : World} {r r' : Rho} {A B : Mem} (h : r.le r') (hk : Keep r A B) {x : Ex} {F : St} {e : Exit} {a : Act} {w : World} (k : Post rt P w0 r' B x F e a w) : Post rt P w0 r A x F e a w := by
  obtain ⟨k1, r'', k2, k3, k4, k5⟩ := k
  exact ⟨k1, r'', h.trans k2, k3, k4, Keep.trans h hk k5⟩
end Go.Proofs.YtgaigfmboomnkaaGreat
