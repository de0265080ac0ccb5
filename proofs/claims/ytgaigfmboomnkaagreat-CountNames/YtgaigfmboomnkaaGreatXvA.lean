/-
  OWN TEXT: an evaluator for calls without open arguments. Its memory, and how a world holds it.
-/
import Derived.Deep.AppendSrc
import Derived.Deep.MidRow
import Derived.Laws.CopyRow
import Derived.Scope
import Derived.Below
namespace Go.Proofs.YtgaigfmboomnkaaGreat
open Go.RowKit
set_option linter.unusedVariables false
/-- a block of the evaluator's memory -/
structure Blk where
  cells : List Value
  elem : TypeId
abbrev Mem := List (Option Blk)
/-- where the blocks lie: the world's block, and by how many elements its room is greater -/
abbrev Rho := List (Option (Nat × Nat))
/-- what is told stays told -/
def Rho.wk (r r' : Rho) : Prop := ∀ (i : Nat) (x : Nat × Nat), r[i]? = some (some x) → r'[i]? = some (some x)
/-- more is told behind it -/
def Rho.le (r r' : Rho) : Prop := ∃ x, r' = r ++ x
theorem Rho.le.refl (r : Rho) : r.le r := ⟨[], by simp⟩
theorem Rho.le.trans {a b c : Rho} (h : a.le b) (k : b.le c) : a.le c := by
  obtain ⟨x, rfl⟩ := h
  obtain ⟨y, rfl⟩ := k
  exact ⟨x ++ y, by simp⟩
theorem Rho.le.push (r : Rho) (x : Option (Nat × Nat)) : r.le (r ++ [x]) := ⟨[x], rfl⟩
theorem Rho.le.wk {r r' : Rho} (h : r.le r') : r.wk r' := by
  obtain ⟨x, rfl⟩ := h
  intro i y e
  have hl : i < r.length := by
    rcases Nat.lt_or_ge i r.length with h' | h'
    · exact h'
    · rw [List.getElem?_eq_none h'] at e; cases e
  rw [List.getElem?_append_left hl]; exact e
theorem Rho.wk.refl (r : Rho) : r.wk r := fun _ _ h => h
/-- values without an address in them -/
def flat1 : Value → Bool
  | .bool _ | .int .. | .float .. | .complex .. | .string _ | .nilFunc | .nilIface => true
  | .pointer none => true
  | .slice none _ _ => true
  | .func (.func _) first captured => first.isEmpty && captured.isEmpty
  | _ => false
def flat2 : Value → Bool
  | .agg cs => cs.toList.all flat1
  | .iface _ v => flat1 v
  | v => flat1 v
def flat : Value → Bool
  | .tuple vs => vs.toList.all flat2
  | v => flat2 v
/-- lists, member by member -/
def LR (R : Value → Value → Prop) (l l' : List Value) : Prop := l.length = l'.length ∧ ∀ (i : Nat) (v : Value), l[i]? = some v → ∃ v', l'[i]? = some v' ∧ R v v'
/-- what a function may have caught -/
inductive VR0 (r : Rho) : Value → Value → Prop
  | flat {v : Value} : flat1 v = true → VR0 r v v
  | ptr {b o g s : Nat} : r[b]? = some (some (g, s)) → VR0 r (.pointer (some ⟨b, o, none⟩)) (.pointer (some ⟨g, o, none⟩))
inductive VR1 (r : Rho) : Value → Value → Prop
  | fn {f : FuncId} {l l' : List Value} : LR (VR0 r) l l' → VR1 r (.func (.func f) #[] ⟨l⟩) (.func (.func f) #[] ⟨l'⟩)
  | flat {v : Value} : flat1 v = true → VR1 r v v
  | ptr {b o g s : Nat} : r[b]? = some (some (g, s)) → VR1 r (.pointer (some ⟨b, o, none⟩)) (.pointer (some ⟨g, o, none⟩))
  | exact {b o g s n c : Nat} : r[b]? = some (some (g, s)) → VR1 r (.slice (some ⟨b, o, none⟩) n c) (.slice (some ⟨g, o, none⟩) n c)
  | loose {b o g s n c k : Nat} : r[b]? = some (some (g, s)) → VR1 r (.slice (some ⟨b, o, some k⟩) n c) (.slice (some ⟨g, o, none⟩) n (c + s))
inductive VR2 (r : Rho) : Value → Value → Prop
  | one {v v' : Value} : VR1 r v v' → VR2 r v v'
  | agg {l l' : List Value} : LR (VR1 r) l l' → VR2 r (.agg ⟨l⟩) (.agg ⟨l'⟩)
  | iface {t : TypeId} {v v' : Value} : VR1 r v v' → VR2 r (.iface t v) (.iface t v')
inductive VRel (r : Rho) : Value → Value → Prop
  | one {v v' : Value} : VR2 r v v' → VRel r v v'
  | tuple {l l' : List Value} : LR (VR2 r) l l' → VRel r (.tuple ⟨l⟩) (.tuple ⟨l'⟩)
theorem LR.mono {R R' : Value → Value → Prop} (h : ∀ v v', R v v' → R' v v') {l l' : List Value} (k : LR R l l') : LR R' l l' :=
  ⟨k.1, fun i v e => let ⟨v', a, b⟩ := k.2 i v e; ⟨v', a, h _ _ b⟩⟩
theorem VR0.mono {r r' : Rho} (h : r.wk r') {v v' : Value} (k : VR0 r v v') : VR0 r' v v' := by
  cases k with
  | flat e => exact .flat e
  | ptr e => exact .ptr (h _ _ e)
theorem VR1.mono {r r' : Rho} (h : r.wk r') {v v' : Value} (k : VR1 r v v') : VR1 r' v v' := by
  cases k with
  | fn e => exact .fn (e.mono fun _ _ => VR0.mono h)
  | flat e => exact .flat e
  | ptr e => exact .ptr (h _ _ e)
  | exact e => exact .exact (h _ _ e)
  | loose e => exact .loose (h _ _ e)
theorem VR2.mono {r r' : Rho} (h : r.wk r') {v v' : Value} (k : VR2 r v v') : VR2 r' v v' := by
  cases k with
  | one e => exact .one (e.mono h)
  | agg e => exact .agg (e.mono fun _ _ => VR1.mono h)
  | iface e => exact .iface (e.mono h)
theorem VRel.mono {r r' : Rho} (h : r.wk r') {v v' : Value} (k : VRel r v v') : VRel r' v v' := by
  cases k with
  | one e => exact .one (e.mono h)
  | tuple e => exact .tuple (e.mono fun _ _ => VR2.mono h)
theorem VR1.same {r : Rho} {v v' : Value} (k : VR1 r v v') (f : flat1 v = true) : v' = v := by
  cases k with
  | fn e =>
    rename_i g l l'
    simp [flat1] at f
    subst f
    have := e.1
    cases l' with
    | nil => rfl
    | cons a b => simp at this
  | flat e => rfl
  | ptr e => simp [flat1] at f
  | exact e => simp [flat1] at f
  | loose e => simp [flat1] at f
theorem LR.same {R : Value → Value → Prop} {f : Value → Bool} (h : ∀ v v', R v v' → f v = true → v' = v) {l l' : List Value} (k : LR R l l') (hf : l.all f = true) : l' = l := by
  refine List.ext_getElem? fun i => ?_
  cases e : l[i]? with
  | none =>
    rw [List.getElem?_eq_none_iff] at e ⊢
    have := k.1
    omega
  | some v =>
    obtain ⟨v', a, b⟩ := k.2 i v e
    rw [a, h v v' b (List.all_eq_true.1 hf v (List.mem_of_getElem? e))]
theorem VR2.same {r : Rho} {v v' : Value} (k : VR2 r v v') (f : flat2 v = true) : v' = v := by
  cases k with
  | one e =>
    refine e.same ?_
    cases e with
    | fn e => exact f
    | flat e => exact e
    | ptr e => exact f
    | exact e => exact f
    | loose e => exact f
  | agg e => rw [e.same (f := flat1) (fun _ _ => VR1.same) f]
  | iface e => rw [e.same f]
theorem VRel.same {r : Rho} {v v' : Value} (k : VRel r v v') (f : flat v = true) : v' = v := by
  cases k with
  | one e =>
    refine e.same ?_
    cases e with
    | one e =>
      cases e with
      | fn e => exact f
      | flat e =>
        cases v <;> first | exact f | (simp [flat1] at e)
      | ptr e => exact f
      | exact e => exact f
      | loose e => exact f
    | agg e => exact f
    | iface e => exact f
  | tuple e => rw [e.same (f := flat2) (fun _ _ => VR2.same) f]
theorem LR.of_all {R : Value → Value → Prop} {f : Value → Bool} (h : ∀ v, f v = true → R v v) {l : List Value} (hf : l.all f = true) : LR R l l :=
  ⟨rfl, fun i v e => ⟨v, e, h v (List.all_eq_true.1 hf v (List.mem_of_getElem? e))⟩⟩
theorem VR2.of_flat (r : Rho) {v : Value} (f : flat2 v = true) : VR2 r v v := by
  cases v
  case agg cs => exact .agg (LR.of_all (fun v h => VR1.flat h) f)
  case iface t v => exact .iface (.flat f)
  all_goals exact .one (.flat f)
theorem VRel.of_flat (r : Rho) {v : Value} (f : flat v = true) : VRel r v v := by
  cases v
  case tuple vs => exact .tuple (LR.of_all (fun v h => VR2.of_flat r h) f)
  all_goals exact .one (VR2.of_flat r f)
theorem VRel.undef (r : Rho) : VRel r undef undef := VRel.of_flat r rfl
/-- package-level variables that are laid by the program's text: their numbers and what they hold; only read -/
def roTab : List (Nat × List Value) := []
/-- so many cells has a type -/
def szOf (P : Program) (t : TypeId) : Nat := match P.info? t with | some i => i.size | none => 0
/-- the listed package variables lie there, whole -/
def RoX (w : World) : Prop := ∀ (g : Nat) (l : List Value), (g, l) ∈ roTab → ∃ t fr, w.heap[g]? = some (.cells l.toArray t fr)
/-- how a world holds the evaluator's memory; w0: the world when it began -/
structure Rel (P : Program) (w0 : World) (r : Rho) (A : Mem) (w : World) : Prop where
  len : r.length = A.length
  below : Below w0.heap.size w0 w
  there : ∀ (i : Nat) (b : Blk) (g s : Nat), A[i]? = some (some b) → r[i]? = some (some (g, s)) → ∃ (c : Array Value), w0.heap.size ≤ g ∧ w.heap[g]? = some (.cells c b.elem (0, 0)) ∧ b.cells.length + s * szOf P b.elem ≤ c.size ∧ ∀ (j : Nat) (v : Value), b.cells[j]? = some v → ∃ v', c[j]? = some v' ∧ VR1 r v v'
  ro : ∀ (i g : Nat) (l : List Value), roTab[i]? = some (g, l) → r[i]? = some (some (g, 0)) ∧ g < w0.heap.size ∧ ∀ (j : Nat) (v : Value), l[j]? = some v → flat1 v = true ∧ w0.cell? ⟨g, j, none⟩ = some v
  inj : ∀ (i j : Nat) (bi bj : Blk) (g s s' : Nat), A[i]? = some (some bi) → A[j]? = some (some bj) → r[i]? = some (some (g, s)) → r[j]? = some (some (g, s')) → i = j
  ex : RoX w0
/-- what the world has not laid yet stays as it is told -/
def Keep (r : Rho) (A A' : Mem) : Prop := ∀ p : Nat, r[p]? = some none → A'[p]? = A[p]?
theorem Keep.refl (r : Rho) (A : Mem) : Keep r A A := fun _ _ => rfl
theorem Rho.le.none {r r' : Rho} (h : r.le r') {p : Nat} (e : r[p]? = some none) : r'[p]? = some none := by
  obtain ⟨x, rfl⟩ := h
  have hl : p < r.length := by
    rcases Nat.lt_or_ge p r.length with h' | h'
    · exact h'
    · rw [List.getElem?_eq_none h'] at e; cases e
  rw [List.getElem?_append_left hl]; exact e
theorem Keep.trans {r r' : Rho} {A B C : Mem} (h : r.le r') (k : Keep r A B) (l : Keep r' B C) : Keep r A C := fun p e => (l p (h.none e)).trans (k p e)
theorem Keep.push {r : Rho} {A B : Mem} (hl : r.length = B.length) (k : Keep r A B) (x : Mem) : Keep r A (B ++ x) := by
  intro p e
  have hp : p < B.length := by
    rcases Nat.lt_or_ge p r.length with h' | h'
    · omega
    · rw [List.getElem?_eq_none h'] at e; cases e
  rw [List.getElem?_append_left hp]; exact k p e
theorem Keep.set {r : Rho} {A : Mem} {b : Nat} {x : Nat × Nat} (h : r[b]? = some (some x)) (y : Option Blk) : Keep r A (A.set b y) := by
  intro p e
  by_cases q : b = p
  · subst q; rw [h] at e; cases e
  · rw [List.getElem?_set_ne q]
theorem Rel.drew {P : Program} {w0 : World} {r : Rho} {A : Mem} {w : World} (h : Rel P w0 r A w) : Rel P w0 r A w.drew :=
  ⟨h.len, h.below.drew, h.there, h.ro, h.inj, h.ex⟩
/-- how the listed variables begin -/
def roRho : Rho := roTab.map fun x => some (x.1, 0)
def roMem : Mem := roTab.map fun _ => none
def RoOk (w : World) : Prop := ∀ (g : Nat) (l : List Value), (g, l) ∈ roTab → g < w.heap.size ∧ ∀ (j : Nat) (v : Value), l[j]? = some v → flat1 v = true ∧ w.cell? ⟨g, j, none⟩ = some v
theorem roMem_none {i : Nat} {b : Blk} (h : roMem[i]? = some (some b)) : False := by
  unfold roMem at h
  rw [List.getElem?_map] at h
  cases q : roTab[i]? with
  | none => rw [q] at h; cases h
  | some x => rw [q] at h; cases h
theorem Rel.start (P : Program) (w : World) (h : RoOk w) (hx : RoX w) : Rel P w roRho roMem w := by
  refine ⟨by simp [roRho, roMem], Below.refl _ _, fun i b g s h => (roMem_none h).elim, ?_, fun i j bi bj g s s' h => (roMem_none h).elim, hx⟩
  intro i g l e
  obtain ⟨h1, h2⟩ := h g l (List.mem_of_getElem? e)
  refine ⟨?_, h1, h2⟩
  unfold roRho
  rw [List.getElem?_map, e]
  rfl
theorem ro_wk {r r' : Rho} (h : r.wk r') {w0 : World} (k : ∀ (i g : Nat) (l : List Value), roTab[i]? = some (g, l) → r[i]? = some (some (g, 0)) ∧ g < w0.heap.size ∧ ∀ (j : Nat) (v : Value), l[j]? = some v → flat1 v = true ∧ w0.cell? ⟨g, j, none⟩ = some v) :
    ∀ (i g : Nat) (l : List Value), roTab[i]? = some (g, l) → r'[i]? = some (some (g, 0)) ∧ g < w0.heap.size ∧ ∀ (j : Nat) (v : Value), l[j]? = some v → flat1 v = true ∧ w0.cell? ⟨g, j, none⟩ = some v :=
  fun i g l e => let ⟨a, b⟩ := k i g l e; ⟨h _ _ a, b⟩
/-- a new block -/
theorem Rel.alloc {P : Program} {w0 : World} {r : Rho} {A : Mem} {w : World} (h : Rel P w0 r A w) (b : Blk) (c : Array Value) (s : Nat) (hc : b.cells.length + s * szOf P b.elem ≤ c.size)
    (hv : ∀ (j : Nat) (v : Value), b.cells[j]? = some v → ∃ v', c[j]? = some v' ∧ VR1 r v v') : Rel P w0 (r ++ [some (w.heap.size, s)]) (A ++ [some b]) (w.alloc (.cells c b.elem)) := by
  have hle := (Rho.le.push r (some (w.heap.size, s))).wk
  have hsz := h.below.size
  have hlast : (r ++ [some (w.heap.size, s)])[A.length]? = some (some (w.heap.size, s)) := by rw [← h.len]; simp
  have parts : ∀ (i : Nat) (b' : Blk), (A ++ [some b])[i]? = some (some b') → (i < A.length ∧ A[i]? = some (some b')) ∨ (i = A.length ∧ b' = b) := by
    intro i b' e
    rcases Nat.lt_or_ge i A.length with hi | hi
    · rw [List.getElem?_append_left hi] at e; exact Or.inl ⟨hi, e⟩
    · rw [List.getElem?_append_right hi] at e
      rcases Nat.eq_or_lt_of_le hi with hi' | hi'
      · rw [hi', Nat.sub_self] at e
        simp at e
        exact Or.inr ⟨hi'.symm, e.symm⟩
      · rw [List.getElem?_eq_none (by simp; omega)] at e; cases e
  have oldr : ∀ i, i < A.length → (r ++ [some (w.heap.size, s)])[i]? = r[i]? := fun i hi => List.getElem?_append_left (by rw [h.len]; exact hi)
  have old : ∀ (i : Nat) (b' : Blk) (g t : Nat), A[i]? = some (some b') → r[i]? = some (some (g, t)) → g < w.heap.size := by
    intro i b' g t e f
    obtain ⟨c, _, k3, _⟩ := h.there i b' g t e f
    exact (Array.getElem?_eq_some_iff.1 k3).1
  refine ⟨by simp [h.len], h.below.alloc hsz _, ?_, ro_wk hle h.ro, ?_, h.ex⟩
  · intro i b' g t e f
    rcases parts i b' e with ⟨hi, e⟩ | ⟨hi, hb⟩
    · rw [oldr i hi] at f
      obtain ⟨c', k2, k3, k4, k5⟩ := h.there i b' g t e f
      refine ⟨c', k2, ?_, k4, fun j v hj => let ⟨v', a1, a2⟩ := k5 j v hj; ⟨v', a1, a2.mono hle⟩⟩
      rw [Below.heap_alloc _ _ _ (Array.getElem?_eq_some_iff.1 k3).1]; exact k3
    · rw [hi, hlast] at f
      simp only [Option.some.injEq, Prod.mk.injEq] at f
      obtain ⟨rfl, rfl⟩ := f
      subst hb
      exact ⟨c, hsz, heap_alloc_new _ _, hc, fun j v hj => let ⟨v', a1, a2⟩ := hv j v hj; ⟨v', a1, a2.mono hle⟩⟩
  · intro i j bi bj g s1 s2 e1 e2 f1 f2
    rcases parts i bi e1 with ⟨hi, d1⟩ | ⟨hi, _⟩ <;> rcases parts j bj e2 with ⟨hj, d2⟩ | ⟨hj, _⟩
    · rw [oldr i hi] at f1
      rw [oldr j hj] at f2
      exact h.inj i j bi bj g s1 s2 d1 d2 f1 f2
    · rw [oldr i hi] at f1
      rw [hj, hlast] at f2
      have := old i bi g s1 d1 f1
      simp at f2
      omega
    · rw [oldr j hj] at f2
      rw [hi, hlast] at f1
      have := old j bj g s2 d2 f2
      simp at f1
      omega
    · rw [hi, hj]
end Go.Proofs.YtgaigfmboomnkaaGreat
