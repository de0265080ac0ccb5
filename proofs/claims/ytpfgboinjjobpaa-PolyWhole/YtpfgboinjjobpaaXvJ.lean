/-
  OWN TEXT: an evaluator for calls without open arguments. Code and calls: what it tells is so, in every world.
-/
import Derived.Test.YtpfgboinjjobpaaXvI
namespace Go.Proofs.Ytpfgboinjjobpaa
open Go.RowKit
set_option linter.unusedVariables false
set_option linter.unusedSimpArgs false
def eq1 : Value → Value → Bool
  | .bool a, .bool b => a == b
  | .int k n, .int k' n' => decide (k = k') && decide (n = n')
  | .float k n, .float k' n' => decide (k = k') && decide (n = n')
  | .complex k n m, .complex k' n' m' => decide (k = k') && decide (n = n') && decide (m = m')
  | .string s, .string s' => decide (s = s')
  | .pointer a, .pointer b => decide (a = b)
  | .slice a n c, .slice a' n' c' => decide (a = a') && decide (n = n') && decide (c = c')
  | .nilFunc, .nilFunc => true
  | .nilIface, .nilIface => true
  | .func f ⟨[]⟩ ⟨[]⟩, .func f' ⟨[]⟩ ⟨[]⟩ => decide (f = f')
  | _, _ => false
theorem eq1_ok {v u : Value} (h : eq1 v u = true) : v = u := by
  unfold eq1 at h
  split at h <;> simp_all
def eqL (f : Value → Value → Bool) : List Value → List Value → Bool
  | [], [] => true
  | v :: l, u :: m => f v u && eqL f l m
  | _, _ => false
theorem eqL_ok {f : Value → Value → Bool} (hf : ∀ v u, f v u = true → v = u) : ∀ {l m : List Value}, eqL f l m = true → l = m
  | [], [], _ => rfl
  | [], _ :: _, h => by cases h
  | _ :: _, [], h => by cases h
  | v :: l, u :: m, h => by
    simp only [eqL, Bool.and_eq_true] at h
    rw [hf v u h.1, eqL_ok hf h.2]
def eq2 : Value → Value → Bool
  | .agg ⟨l⟩, .agg ⟨m⟩ => eqL eq1 l m
  | .iface t v, .iface t' v' => decide (t = t') && eq1 v v'
  | v, u => eq1 v u
theorem eq2_ok {v u : Value} (h : eq2 v u = true) : v = u := by
  unfold eq2 at h
  split at h
  · rw [eqL_ok (fun _ _ => eq1_ok) h]
  · simp only [Bool.and_eq_true, decide_eq_true_eq] at h; rw [h.1, eq1_ok h.2]
  · exact eq1_ok h
def eq3 : Value → Value → Bool
  | .tuple ⟨l⟩, .tuple ⟨m⟩ => eqL eq2 l m
  | v, u => eq2 v u
theorem eq3_ok {v u : Value} (h : eq3 v u = true) : v = u := by
  unfold eq3 at h
  split at h
  · rw [eqL_ok (fun _ _ => eq2_ok) h]
  · exact eq2_ok h
def eqM : Mem → Mem → Bool
  | [], [] => true
  | none :: l, none :: m => eqM l m
  | some a :: l, some b :: m => eqL eq1 a.cells b.cells && decide (a.elem = b.elem) && eqM l m
  | _, _ => false
theorem eqM_ok : ∀ {l m : Mem}, eqM l m = true → l = m
  | [], [], _ => rfl
  | [], _ :: _, h => by cases h
  | _ :: _, [], h => by rename_i x l; cases x <;> cases h
  | none :: l, none :: m, h => by rw [eqM_ok (l := l) (m := m) h]
  | none :: _, some _ :: _, h => by cases h
  | some _ :: _, none :: _, h => by cases h
  | some a :: l, some b :: m, h => by
    simp only [eqM, Bool.and_eq_true, decide_eq_true_eq] at h
    obtain ⟨ac, ae⟩ := a
    obtain ⟨bc, be⟩ := b
    rw [eqM_ok (l := l) (m := m) h.2]
    have := eqL_ok (fun _ _ => eq1_ok) h.1.1
    simp only at this
    rw [this]
    have := h.1.2
    simp only at this
    rw [this]
def eqS (s t : St) : Bool := eqL eq3 s.1.tmps.toList t.1.tmps.toList && s.1.defers.isEmpty && t.1.defers.isEmpty && eqM s.2 t.2
theorem eqS_ok {s t : St} (h : eqS s t = true) : s = t := by
  obtain ⟨⟨⟨l⟩, d⟩, A⟩ := s
  obtain ⟨⟨⟨m⟩, d'⟩, B⟩ := t
  simp only [eqS, Bool.and_eq_true, List.isEmpty_iff] at h
  obtain ⟨⟨⟨h1, h2⟩, h3⟩, h4⟩ := h
  have := eqL_ok (fun _ _ => eq3_ok) h1
  (try simp only at this)
  subst this
  subst h2
  subst h3
  rw [eqM_ok h4]
/-- a block is told that the world has not laid yet -/
theorem Rel.tell {P : Program} {w0 : World} {r : Rho} {A : Mem} {w : World} (h : Rel P w0 r A w) (b : Blk) : Rel P w0 (r ++ [none]) (A ++ [some b]) w := by
  have hwk := (Rho.le.push r none).wk
  have back : ∀ (i g s : Nat), (r ++ [none])[i]? = some (some (g, s)) → i < A.length ∧ r[i]? = some (some (g, s)) := by
    intro i g s f
    rcases Nat.lt_or_ge i r.length with q | q
    · rw [List.getElem?_append_left q] at f; exact ⟨by rw [← h.len]; exact q, f⟩
    · rw [List.getElem?_append_right q] at f
      cases z : i - r.length with
      | zero => rw [z] at f; simp at f
      | succ n => rw [z] at f; simp at f
  refine ⟨by simp [h.len], h.below, ?_, ?_⟩
  · intro i b' g s e f
    obtain ⟨hi, f⟩ := back i g s f
    rw [List.getElem?_append_left hi] at e
    obtain ⟨c, k2, k3, k4, k5⟩ := h.there i b' g s e f
    exact ⟨c, k2, k3, k4, fun j v hj => let ⟨v', a1, a2⟩ := k5 j v hj; ⟨v', a1, a2.mono hwk⟩⟩
  · intro i j bi bj g s s' e1 e2 f1 f2
    obtain ⟨hi, f1⟩ := back i g s f1
    obtain ⟨hj, f2⟩ := back j g s' f2
    rw [List.getElem?_append_left hi] at e1
    rw [List.getElem?_append_left hj] at e2
    exact h.inj i j bi bj g s s' e1 e2 f1 f2
def steadyX (ops : Array Oper) : Operand → Bool
  | .tmp t => ops.toList.all fun p => p.dst != some t
  | .global _ => false
  | _ => true
/-- the region's own operations do not turn its operands -/
def steadyB (ops : Array Oper) (o : Oper) : Bool := o.op.operands.toList.all (steadyX ops)
def isN : Op → Bool
  | .alloc _ | .box _ _ | .makeSlice _ _ _ | .buildSlice _ _ _ => true
  | _ => false
/-- new blocks are told ahead of a region whose order is drawn -/
def pre (P : Program) (ops : Array Oper) (e0 : Operand → Option Value) : List Nat → Tab → Mem → Tab × Mem
  | [], T, A => (T, A)
  | i :: l, T, A =>
    match ops[i]? with
    | some o =>
      if isN o.op && steadyB ops o then
        match evN P A.length e0 o with
        | some (v, b) => pre P ops e0 l ((i, v, A.length) :: T) (A ++ [some b])
        | none => pre P ops e0 l T A
      else pre P ops e0 l T A
    | none => pre P ops e0 l T A
structure PreOk (P : Program) (ops : Array Oper) (e0 : Operand → Option Value) (w0 w : World) (base : Nat) (r : Rho) (T : Tab) (A : Mem) : Prop where
  rel : Rel P w0 r A w
  tab : ∀ (i : Nat) (v : Value) (p : Nat), tabAt T i = some (v, p) → base ≤ p ∧ r[p]? = some none ∧ ∃ o b, ops[i]? = some o ∧ steadyB ops o = true ∧ A[p]? = some (some b) ∧ evN P p e0 o = some (v, b)
  inj : ∀ (i j : Nat) (v u : Value) (p : Nat), tabAt T i = some (v, p) → tabAt T j = some (u, p) → i = j
  le : base ≤ r.length
theorem some_lt {β : Type} {l : List β} {i : Nat} {x : β} (h : l[i]? = some x) : i < l.length := by
  rcases Nat.lt_or_ge i l.length with q | q
  · exact q
  · rw [List.getElem?_eq_none q] at h; cases h
theorem pre_ok {P : Program} {ops : Array Oper} {e0 : Operand → Option Value} {w0 w : World} {base : Nat} : ∀ (l : List Nat) (T : Tab) (A : Mem) (r : Rho), PreOk P ops e0 w0 w base r T A →
    ∃ z X, PreOk P ops e0 w0 w base (r ++ z) (pre P ops e0 l T A).1 (pre P ops e0 l T A).2 ∧ (pre P ops e0 l T A).2 = A ++ X
  | [], T, A, r, h => ⟨[], [], by simpa [pre] using h, by simp [pre]⟩
  | i :: l, T, A, r, h => by
    unfold pre
    split
    · rename_i o ho
      split
      · rename_i c
        rw [Bool.and_eq_true] at c
        split
        · rename_i v b q
          have hn : PreOk P ops e0 w0 w base (r ++ [none]) ((i, v, A.length) :: T) (A ++ [some b]) := by
            have hl := h.rel.len
            refine ⟨h.rel.tell b, ?_, ?_, by have := h.le; simp; omega⟩
            · intro j u p e
              simp only [tabAt] at e
              split at e
              · rename_i hij
                cases e
                subst hij
                refine ⟨by have := h.le; omega, by rw [← hl]; simp, o, b, ho, c.2, by simp, q⟩
              · obtain ⟨k1, k2, o', b', k3, k4, k5, k6⟩ := h.tab j u p e
                exact ⟨k1, by rw [List.getElem?_append_left (some_lt k2)]; exact k2, o', b', k3, k4, by rw [List.getElem?_append_left (some_lt k5)]; exact k5, k6⟩
            · intro j k u u' p e1 e2
              simp only [tabAt] at e1 e2
              split at e1 <;> split at e2
              · rename_i a1 a2; rw [← a1, ← a2]
              · cases e1
                obtain ⟨_, k2, _⟩ := h.tab k u' _ e2
                have := some_lt k2
                omega
              · cases e2
                obtain ⟨_, k2, _⟩ := h.tab j u _ e1
                have := some_lt k2
                omega
              · exact h.inj j k u u' p e1 e2
          obtain ⟨z, X, k1, k2⟩ := pre_ok l _ _ _ hn
          exact ⟨[none] ++ z, [some b] ++ X, by simpa using k1, by simpa using k2⟩
        · exact pre_ok l T A r h
      · exact pre_ok l T A r h
    · exact pre_ok l T A r h
structure Inv (P : Program) (ops : Array Oper) (T : Tab) (r0 : Rho) (listed : Array Bool) (s : St) (r : Rho) : Prop where
  ext : r0.le r
  tab : ∀ (i : Nat) (v : Value) (p : Nat), tabAt T i = some (v, p) → r0.length ≤ p ∧ (listed.getD i true = false → r[p]? = some none ∧ ∃ o b, ops[i]? = some o ∧ steadyB ops o = true ∧ s.2[p]? = some (some b) ∧ evN P p (evalO s.1) o = some (v, b))
  inj : ∀ (i j : Nat) (v u : Value) (p : Nat), tabAt T i = some (v, p) → tabAt T j = some (u, p) → i = j
theorem listed_not {listed : Array Bool} {i j : Nat} (h : (listed.setIfInBounds j true).getD i true = false) : i ≠ j ∧ listed.getD i true = false := by
  by_cases q : j = i
  · subst q
    rcases Nat.lt_or_ge j listed.size with c | c
    · simp [c] at h
    · simp [Array.getElem?_eq_none c] at h
  · rw [getD_set_ne true q] at h
    exact ⟨fun x => q x.symm, h⟩
theorem evN_steady {P : Program} {ops : Array Oper} {o oj : Oper} {j p : Nat} (hs : steadyB ops o = true) (hj : ops[j]? = some oj) (a : Act) (u : Value) : evN P p (evalO (a.put oj.dst u)) o = evN P p (evalO a) o := by
  refine evN_congr fun x hx => evalO_put fun d hd hxd => ?_
  have := List.all_eq_true.1 hs x (by simpa using hx)
  rw [hxd] at this
  simp only [steadyX] at this
  have := List.all_eq_true.1 this oj (by simpa using Array.mem_of_getElem? hj)
  rw [hd] at this
  simp at this
theorem Inv.step {P : Program} {ops : Array Oper} {T : Tab} {r0 r r' : Rho} {listed : Array Bool} {s s' : St} (h : Inv P ops T r0 listed s r) {j : Nat} {oj : Oper} (hj : ops[j]? = some oj) {u : Value} (h1 : s'.1 = s.1.put oj.dst u) (hext : r0.le r')
    (hk : ∀ (i : Nat) (v : Value) (p : Nat), tabAt T i = some (v, p) → i ≠ j → r[p]? = some none → r'[p]? = some none ∧ s'.2[p]? = s.2[p]?) : Inv P ops T r0 (listed.setIfInBounds j true) s' r' := by
  refine ⟨hext, ?_, h.inj⟩
  intro i v p e
  obtain ⟨k1, k2⟩ := h.tab i v p e
  refine ⟨k1, fun hl => ?_⟩
  obtain ⟨hij, hl⟩ := listed_not hl
  obtain ⟨k3, o, b, k4, k5, k6, k7⟩ := k2 hl
  obtain ⟨m1, m2⟩ := hk i v p e hij k3
  exact ⟨m1, o, b, k4, k5, by rw [m2]; exact k6, by rw [h1, evN_steady k5 hj]; exact k7⟩
theorem stepA_put {K : Caller} {P : Program} {ops : Array Oper} {o : Oper} {s s' : St} (h : stepA K P ops o s = some s') : ∃ u, s'.1 = s.1.put o.dst u := by
  unfold stepA at h
  split at h
  · cases q : evOp K P s.2 (evalO s.1) o with
    | none => rw [q] at h; cases h
    | some x => rw [q] at h; cases h; exact ⟨x.1, rfl⟩
  · cases h; exact ⟨undef, rfl⟩
theorem keep_on {r0 r : Rho} (h : r0.le r) {A B C : Mem} (k : Keep r0 A B) (l : Keep r B C) : Keep r0 A C := Keep.trans h k l
theorem absT_sound {K : Caller} {P : Program} (hK : KOk P K) (hP : Plain P) {ops : Array Oper} {T : Tab} {F : St} {w0 : World} {r0 : Rho} {A0 : Mem} {Q : Exit → Act → World → Prop} : ∀ (n : Nat) (listed : Array Bool) (s : St), absAny (stI K P ops T) ops F n listed s → ∀ (r : Rho) (a : Act) (w : World), ActRel r s.1 a → Rel P w0 r s.2 w → Inv P ops T r0 listed s r → Keep r0 A0 s.2 →
    (∀ r' a' w', r0.le r' → ActRel r' F.1 a' → Rel P w0 r' F.2 w' → Keep r0 A0 F.2 → Q .normal a' w') → wpAny P .any ops Q n listed a w
  | 0, listed, s, h, r, a, w, ha, hr, hi, hk, hQ => ⟨h.1, hQ r a w hi.ext (h.2 ▸ ha) (h.2 ▸ hr) (h.2 ▸ hk)⟩
  | n + 1, listed, s, h, r, a, w, ha, hr, hi, hk, hQ => by
    refine ⟨fun h0 => hQ r a w hi.ext (h.1 h0 ▸ ha) (h.1 h0 ▸ hr) (h.1 h0 ▸ hk), fun i hmem => ?_⟩
    obtain ⟨s', h1, h2⟩ := h.2 i hmem
    have hun := (mem_ready.1 hmem).1
    unfold stI at h1
    unfold wpOp
    cases ho : ops[i]? with
    | none => rw [ho] at h1; cases h1
    | some o =>
      rw [ho] at h1
      simp only at h1 ⊢
      unfold tvAt at h1
      cases ht : tabAt T i with
      | none =>
        rw [ht] at h1
        simp only [stepT] at h1
        obtain ⟨u, hu⟩ := stepA_put h1
        exact stepA_sound hK hP h1 ha hr fun r' a' w' k1 k2 k3 k4 => absT_sound hK hP n _ s' h2 r' a' w' k2 k3 (hi.step ho hu (hi.ext.trans k1) (fun _ _ p _ _ e => ⟨k1.none e, k4 p e⟩)) (keep_on hi.ext hk k4) hQ
      | some x =>
        obtain ⟨v, p⟩ := x
        rw [ht] at h1
        simp only [stepT] at h1
        obtain ⟨hp0, hp1⟩ := hi.tab i v p ht
        obtain ⟨hp2, o', b, ho', hst, hb, hev⟩ := hp1 hun
        rw [ho] at ho'
        cases ho'
        rw [ha.wanted ops o]
        split at h1
        · rename_i c
          rw [if_pos c]
          cases h1
          obtain ⟨v', cc, e1, e2, e3⟩ := evN_core (w := w) hev (opsRel ha o.op)
          have hlt := some_lt hp2
          have atp : (r.set p (some (w.heap.size, 0)))[p]? = some (some (w.heap.size, 0)) := by rw [List.getElem?_set_self hlt]
          have hwk : r.wk (r.set p (some (w.heap.size, 0))) := by
            intro k x e
            by_cases q : p = k
            · subst q; rw [hp2] at e; cases e
            · rw [List.getElem?_set_ne q]; exact e
          have hext : r0.le (r.set p (some (w.heap.size, 0))) := by
            obtain ⟨y, rfl⟩ := hi.ext
            exact ⟨y.set (p - r0.length) (some (w.heap.size, 0)), by rw [List.set_append_right _ _ hp0]⟩
          refine Or.inl (wp_of_run e1 (absT_sound hK hP n _ _ h2 _ _ _ ((ha.mono hwk).put (e3 _ atp) o.dst) (hr.laidAt hp2 hb e2) (hi.step ho rfl hext ?_) hk hQ))
          intro k u q e hne hq
          have : p ≠ q := fun x => hne (hi.inj k i u v q e (x ▸ ht))
          exact ⟨by rw [List.getElem?_set_ne this]; exact hq, rfl⟩
        · rename_i c
          rw [if_neg c]
          cases h1
          exact absT_sound hK hP n _ _ h2 r _ w (ha.put (VRel.undef r) o.dst) hr (hi.step ho rfl hi.ext (fun _ _ p _ _ e => ⟨e, rfl⟩)) hk hQ
/-- how code ends -/
inductive Ex where
  | normal
  | exit (id : Nat)
  | ret
def Ex.out : Ex → Exit
  | .normal => .normal
  | .exit id => .exit id
  | .ret => .ret
def iter (f : St → Option (Ex × St)) : Nat → St → Option (Ex × St)
  | 0, _ => none
  | n + 1, s => match f s with | some (.normal, s') => iter f n s' | x => x
theorem wp_loop_n {P : Program} {c : Code} {Q : Exit → Act → World → Prop} (J : Nat → Act → World → Prop) (round : ∀ n a w, J n a w → c.wp P (Exit.then (fun a' w' => ∃ m, m < n ∧ J m a' w') Q) a w) {n : Nat} {a : Act} {w : World} (h0 : J n a w) : (Code.loop c).wp P Q a w := by
  intro b k cs
  have key : ∀ n a w, J n a w → ∃ e a' w', Q e a' w' ∧ Arrives P (lone (b.at a (.code c :: .inLoop c :: k)) cs w) b k cs e a' w' := by
    intro n
    induction n using Nat.strongRecOn with
    | _ n ih =>
      intro a w hJ
      obtain ⟨e, a1, w1, hq, harr⟩ := round n a w hJ b (.inLoop c :: k) cs
      cases e with
      | normal =>
        obtain ⟨m, hlt, hJ1⟩ := hq
        obtain ⟨e2, a2, w2, hq2, harr2⟩ := ih m hlt a1 w1 hJ1
        exact ⟨e2, a2, w2, hq2, .of_steps (Steps.trans harr (.one step_inLoop)) harr2⟩
      | exit id => exact ⟨_, a1, w1, hq, .pass (x := .inLoop c) rfl (fun _ _ => .inl (by simp)) harr⟩
      | goto l => exact ⟨_, a1, w1, hq, .pass (x := .inLoop c) rfl (fun _ _ => .inl (by simp)) harr⟩
      | ret => exact ⟨_, a1, w1, hq, .pass (x := .inLoop c) rfl (fun _ _ => .inl (by simp)) harr⟩
      | panic ch => exact ⟨_, a1, w1, hq, .pass (x := .inLoop c) rfl (fun _ _ => .inl (by simp)) harr⟩
      | outgrown => exact ⟨_, a1, w1, hq, .pass (x := .inLoop c) rfl (fun _ _ => .inl (by simp)) harr⟩
  obtain ⟨e, a', w', hq, harr⟩ := key n a w h0
  exact ⟨e, a', w', hq, .of_steps (.one step_loop) harr⟩
/-- where code ends, and how -/
def Post (P : Program) (w0 : World) (r : Rho) (A : Mem) (x : Ex) (F : St) : Exit → Act → World → Prop := fun e a w => e = x.out ∧ ∃ r', r.le r' ∧ ActRel r' F.1 a ∧ Rel P w0 r' F.2 w ∧ Keep r A F.2
theorem Post.mono {P : Program} {w0 : World} {r r' : Rho} {A B : Mem} (h : r.le r') (hk : Keep r A B) {x : Ex} {F : St} {e : Exit} {a : Act} {w : World} (k : Post P w0 r' B x F e a w) : Post P w0 r A x F e a w := by
  obtain ⟨k1, r'', k2, k3, k4, k5⟩ := k
  exact ⟨k1, r'', h.trans k2, k3, k4, Keep.trans h hk k5⟩
end Go.Proofs.Ytpfgboinjjobpaa
