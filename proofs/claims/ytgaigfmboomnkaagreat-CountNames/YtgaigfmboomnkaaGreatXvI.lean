/-
  OWN TEXT: an evaluator for calls without open arguments. Regions, in whatever order.
-/
import Derived.Test.YtgaigfmboomnkaaGreatXvH
import Derived.Test.YtgaigfmboomnkaaGreatBhL
namespace Go.Proofs.YtgaigfmboomnkaaGreat
open Go.RowKit
set_option linter.unusedVariables false
set_option linter.unusedSimpArgs false
abbrev St := Act × Mem
def stepA (K : Caller) (P : Program) (ops : Array Oper) (o : Oper) (s : St) : Option St :=
  if Region.wanted o (yielded ops s.1.tmps) then (evOp K P s.2 (evalO s.1) o).map (fun x => (s.1.put o.dst x.1, x.2)) else some (s.1.put o.dst undef, s.2)
def evSeq (K : Caller) (P : Program) (ops : Array Oper) : List Oper → St → Option St
  | [], s => some s
  | o :: rest, s => match stepA K P ops o s with | some s' => evSeq K P ops rest s' | none => none
theorem opsRel {r : Rho} {a a' : Act} (h : ActRel r a a') (o : Op) : OpsRel r (evalO a) a'.eval o := fun x _ v hv => h.eval hv
/-- a step, as the world takes it -/
theorem stepA_sound {K : Caller} {P : Program} (hK : KOk P K) (hP : Plain P) {ops : Array Oper} {o : Oper} {s s' : St} (h : stepA K P ops o s = some s') {w0 w : World} {r : Rho} {a : Act} (ha : ActRel r s.1 a) (hr : Rel P w0 r s.2 w)
    {Kc : Act → World → Prop} {Q : Exit → Act → World → Prop} (next : ∀ r' a' w', r.le r' → ActRel r' s'.1 a' → Rel P w0 r' s'.2 w' → Keep r s.2 s'.2 → Kc a' w') :
    if Region.wanted o (yielded ops a.tmps) then o.wp P a w Kc Q ∨ (o.asks P a w ∧ LetsOut Q) else Kc (a.put o.dst undef) w := by
  unfold stepA at h
  rw [ha.wanted ops o]
  split at h
  · rename_i c
    rw [if_pos c]
    cases q : evOp K P s.2 (evalO s.1) o with
    | none => rw [q] at h; cases h
    | some x =>
      obtain ⟨v, A'⟩ := x
      rw [q] at h
      cases h
      exact Or.inl (evOp_sound hK hP q (opsRel ha o.op) hr fun r' v' w' h1 h2 h3 h4 => next r' _ w' h1 ((ha.mono h1.wk).put h2 o.dst) h3 h4)
  · rename_i c
    rw [if_neg c]
    cases h
    exact next r _ w (Rho.le.refl r) (ha.put (VRel.undef r) o.dst) hr (Keep.refl r _)
theorem evSeq_sound {K : Caller} {P : Program} (hK : KOk P K) (hP : Plain P) {ops : Array Oper} {w0 : World} {Q : Exit → Act → World → Prop} {F : St} : ∀ (l : List Oper) (s : St), evSeq K P ops l s = some F → ∀ (r : Rho) (a : Act) (w : World), ActRel r s.1 a → Rel P w0 r s.2 w →
    (∀ r' a' w', r.le r' → ActRel r' F.1 a' → Rel P w0 r' F.2 w' → Keep r s.2 F.2 → Q .normal a' w') → wpList P ops Q l a w
  | [], s, h, r, a, w, ha, hr, hQ => by cases h; exact hQ r a w (Rho.le.refl r) ha hr (Keep.refl r _)
  | o :: rest, s, h, r, a, w, ha, hr, hQ => by
    simp only [evSeq] at h
    split at h
    · rename_i s' q
      unfold wpList
      exact stepA_sound hK hP q ha hr fun r' a' w' h1 h2 h3 h4 => evSeq_sound hK hP rest s' h r' a' w' h2 h3 fun r'' a'' w'' k1 k2 k3 k4 => hQ r'' a'' w'' (h1.trans k1) k2 k3 (Keep.trans h1 h4 k4)
    · cases h
section
variable (st : Nat → St → Option St) (ops : Array Oper) (F : St)
/-- whatever order is picked, it ends in F -/
def absAny : Nat → Array Bool → St → Prop
  | 0, listed, s => Region.ready .any ops listed = [] ∧ s = F
  | n + 1, listed, s => (Region.ready .any ops listed = [] → s = F) ∧ ∀ i ∈ Region.ready .any ops listed, ∃ s', st i s = some s' ∧ absAny n (listed.setIfInBounds i true) s'
theorem abs_take {i : Nat} (C : Array Bool → Prop)
    (hcomm : ∀ listed j s si sij, C listed → i ∈ Region.ready .any ops listed → j ∈ Region.ready .any ops listed → j ≠ i → st i s = some si → st j si = some sij → ∃ sj, st j s = some sj ∧ st i sj = some sij)
    (hC : ∀ listed j, C listed → i ∈ Region.ready .any ops listed → j ∈ Region.ready .any ops listed → j ≠ i → C (listed.setIfInBounds j true)) :
    ∀ (n : Nat) (listed : Array Bool) (s si : St), C listed → i ∈ Region.ready .any ops listed → st i s = some si → absAny st ops F n (listed.setIfInBounds i true) si → absAny st ops F (n + 1) listed s := by
  intro n
  induction n with
  | zero =>
    intro listed s si hc hr hs H
    refine ⟨fun h => (by rw [h] at hr; cases hr), fun j hj => ?_⟩
    by_cases hji : j = i
    · subst hji; exact ⟨si, hs, H⟩
    · have := ready_mono hj hji
      rw [H.1] at this
      cases this
  | succ n ih =>
    intro listed s si hc hr hs H
    refine ⟨fun h => (by rw [h] at hr; cases hr), fun j hj => ?_⟩
    by_cases hji : j = i
    · subst hji; exact ⟨si, hs, H⟩
    · obtain ⟨sij, h1, h2⟩ := H.2 j (ready_mono hj hji)
      obtain ⟨sj, k1, k2⟩ := hcomm listed j s si sij hc hr hj hji hs h1
      refine ⟨sj, k1, ih _ sj sij (hC listed j hc hr hj hji) (ready_mono hr (Ne.symm hji)) k2 ?_⟩
      rw [Array.setIfInBounds_comm _ _ hji]
      exact h2
end
theorem evalO_put {a : Act} {dst : Option Tmp} {v : Value} {x : Operand} (h : ∀ d, dst = some d → x ≠ .tmp d) : evalO (a.put dst v) x = evalO a x := by
  cases dst with
  | none => rfl
  | some d =>
    cases x with
    | tmp t =>
      have hne : d ≠ t := fun e => h d rfl (e ▸ rfl)
      simp [evalO, Act.put, Array.getElem?_setIfInBounds_ne hne]
    | _ => rfl
theorem evOp_put {K : Caller} {P : Program} {ops : Array Oper} {A : Mem} (o : Oper) (a : Act) (dst : Option Tmp) (v : Value) (h : ∀ d, dst = some d → d ∉ o.looksAt ops) : evOp K P A (evalO (a.put dst v)) o = evOp K P A (evalO a) o :=
  evOp_congr fun x hx => evalO_put fun d hd hxd => h d hd (by
    subst hxd
    exact List.mem_append_left _ (List.mem_filterMap.2 ⟨.tmp d, by simpa using hx, rfl⟩))
theorem evN_put {P : Program} {ops : Array Oper} {p : Nat} (o : Oper) (a : Act) (dst : Option Tmp) (v : Value) (h : ∀ d, dst = some d → d ∉ o.looksAt ops) : evN P p (evalO (a.put dst v)) o = evN P p (evalO a) o :=
  evN_congr fun x hx => evalO_put fun d hd hxd => h d hd (by
    subst hxd
    exact List.mem_append_left _ (List.mem_filterMap.2 ⟨.tmp d, by simpa using hx, rfl⟩))
/-- what is told ahead of an operation: its value, its block's number, its block -/
abbrev Td := Value × Nat × Blk
open Classical in
/-- a step whose block may be told already -/
noncomputable def stepT (K : Caller) (P : Program) (ops : Array Oper) (tv : Option Td) (o : Oper) (s : St) : Option St :=
  match tv with
  | none => stepA K P ops o s
  | some x => if Region.wanted o (yielded ops s.1.tmps) then (if evN P x.2.1 (evalO s.1) o = some (x.1, x.2.2) then some (s.1.put o.dst x.1, s.2) else none) else some (s.1.put o.dst undef, s.2)
/-- told ahead: the operation, its value, its block's number, its block -/
abbrev Tab := List (Nat × Td)
def tabAt : Tab → Nat → Option Td
  | [], _ => none
  | (i, x) :: T, j => if i = j then some x else tabAt T j
def tvAt (T : Tab) (i : Nat) : Option Td := tabAt T i
noncomputable def stI (K : Caller) (P : Program) (ops : Array Oper) (T : Tab) (i : Nat) (s : St) : Option St := match ops[i]? with | some o => stepT K P ops (tvAt T i) o s | none => none
def lightB (tv : Option Td) (o : Op) : Bool := tv.isSome || isP o
/-- an operation that only reckons, and another one -/
theorem swap_P {K : Caller} {P : Program} {ops : Array Oper} {ti tj : Option Td} {oi oj : Oper} (hap : oi.apart ops oj = true) {s si sij : St} (hp : lightB ti oi.op = true ∨ (isR oi.op = true ∧ (lightB tj oj.op || isR oj.op) = true)) (h1 : stepT K P ops ti oi s = some si) (h2 : stepT K P ops tj oj si = some sij) :
    ∃ sj, stepT K P ops tj oj s = some sj ∧ stepT K P ops ti oi sj = some sij := by
  obtain ⟨p1, p2, p3⟩ := Oper.apart_spec hap
  obtain ⟨a, A⟩ := s
  obtain ⟨vi, hi, first⟩ : ∃ vi, si = (a.put oi.dst vi, A) ∧ ∀ (b : Act) (B : Mem), Region.wanted oi (yielded ops b.tmps) = Region.wanted oi (yielded ops a.tmps) → evOp K P A (evalO b) oi = evOp K P A (evalO a) oi → (∀ p, evN P p (evalO b) oi = evN P p (evalO a) oi) → (lightB ti oi.op = true ∨ B = A) → stepT K P ops ti oi (b, B) = some (b.put oi.dst vi, B) := by
    cases ti with
    | some v =>
      simp only [stepT] at h1 ⊢
      split at h1
      · rename_i c
        split at h1
        · rename_i d; cases h1; exact ⟨v.1, rfl, fun b B e1 _ e4 _ => by rw [e1, if_pos c, if_pos (by rw [e4]; exact d)]⟩
        · cases h1
      · rename_i c; cases h1; exact ⟨undef, rfl, fun b B e1 _ _ _ => by rw [e1, if_neg c]⟩
    | none =>
      simp only [stepT] at h1 ⊢
      unfold stepA at h1
      simp only at h1
      split at h1
      · rename_i c
        cases q : evOp K P A (evalO a) oi with
        | none => rw [q] at h1; cases h1
        | some x =>
          obtain ⟨vi, A'⟩ := x
          rw [q] at h1
          have hA : A' = A := evOp_keeps (by rcases hp with h | h <;> simp [lightB] at h <;> simp [h]) q
          subst hA
          cases h1
          refine ⟨vi, rfl, fun b B e1 e2 _ e3 => ?_⟩
          unfold stepA
          simp only
          rw [e1, if_pos c]
          rcases e3 with e3 | rfl
          · obtain ⟨u, hu⟩ := evOp_P (K := K) (P := P) (A := A') (e := evalO b) (o := oi) (by simpa [lightB] using e3)
            have := e2
            rw [hu A'] at this
            rw [hu B]
            cases u with
            | none => cases this
            | some u => cases this; rfl
          · rw [e2]; rfl
      · rename_i c
        cases h1
        refine ⟨undef, rfl, fun b B e1 _ _ _ => ?_⟩
        unfold stepA
        simp only
        rw [e1, if_neg c]
  subst hi
  cases tj with
  | some u =>
    simp only [stepT] at h2 ⊢
    rw [wanted_put oj a oi.dst vi p1, evN_put oj a oi.dst vi p1] at h2
    split at h2
    · rename_i c
      split at h2
      · rename_i d
        cases h2
        refine ⟨(a.put oj.dst u.1, A), by rw [if_pos c, if_pos d], ?_⟩
        have := first (a.put oj.dst u.1) A (wanted_put oi a oj.dst u.1 p3) (evOp_put oi a oj.dst u.1 p3) (fun p => evN_put oi a oj.dst u.1 p3) (Or.inr rfl)
        simp only [stepT] at this
        rw [this, Act.put_comm a vi u.1 p2]
      · cases h2
    · rename_i c
      cases h2
      refine ⟨(a.put oj.dst undef, A), by rw [if_neg c], ?_⟩
      have := first (a.put oj.dst undef) A (wanted_put oi a oj.dst undef p3) (evOp_put oi a oj.dst undef p3) (fun p => evN_put oi a oj.dst undef p3) (Or.inr rfl)
      simp only [stepT] at this
      rw [this, Act.put_comm a vi undef p2]
  | none =>
    have h2' : stepA K P ops oj (a.put oi.dst vi, A) = some sij := h2
    unfold stepA at h2'
    simp only at h2'
    rw [wanted_put oj a oi.dst vi p1] at h2'
    rw [evOp_put oj a oi.dst vi p1] at h2'
    split at h2'
    · rename_i c
      cases q : evOp K P A (evalO a) oj with
      | none => rw [q] at h2'; cases h2'
      | some x =>
        obtain ⟨vj, B⟩ := x
        rw [q] at h2'
        cases h2'
        refine ⟨(a.put oj.dst vj, B), by show stepA K P ops oj (a, A) = _; unfold stepA; simp only; rw [if_pos c, q]; rfl, ?_⟩
        rw [first (a.put oj.dst vj) B (wanted_put oi a oj.dst vj p3) (evOp_put oi a oj.dst vj p3) (fun p => evN_put oi a oj.dst vj p3) (by
          rcases hp with h | ⟨_, h⟩
          · exact Or.inl h
          · exact Or.inr (evOp_keeps (by simpa [lightB] using h) q))]
        show _ = some ((a.put oi.dst vi).put oj.dst vj, B)
        rw [Act.put_comm a vi vj p2]
    · rename_i c
      cases h2'
      refine ⟨(a.put oj.dst undef, A), by show stepA K P ops oj (a, A) = _; unfold stepA; simp only; rw [if_neg c], ?_⟩
      rw [first (a.put oj.dst undef) A (wanted_put oi a oj.dst undef p3) (evOp_put oi a oj.dst undef p3) (fun p => evN_put oi a oj.dst undef p3) (Or.inr rfl)]
      rw [Act.put_comm a vi undef p2]
end Go.Proofs.YtgaigfmboomnkaaGreat
