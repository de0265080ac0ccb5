/-
 OWN TEXT: an evaluator for calls without open arguments. Its memory, and how a world holds it.
-/
import Derived.Deep.AppendSrc
import Derived.Deep.MidRow
import Derived.Laws.CopyRow
import Derived.Scope
import Derived.Below
namespace Go.Proofs.YtfgfofedacehiaaGreat
open Go.RowKit
set_option linter.unusedVariables false
/-- a block of the evaluator's memory -/
structure Blk where
 cells : List Value
 elem : TypeId
abbrev Mem := List (Option Blk)
/-- where the blocks lie: the world's block, and by how many elements its room is greater -/
abbrev Rho := List (Option (Nat × Nat))
/-- what is told stays told -/
def Rho.wk (r r' : Rho) : Prop := ∀ (i : Nat) (x : Nat × Nat), r[i]? = some (some x) → r'[i]? = some (some x)
/-- more is told behind it -/
def Rho.le (r r' : Rho) : Prop := ∃ x, r' = r ++ x
theorem Rho.le.refl (r : Rho) : r.le r := ⟨[], by simp⟩
theorem Rho.le.trans {a b c : Rho} (h : a.le b) (k : b.le c) : a.le c := by
 obtain ⟨x, rfl⟩ := h
 obtain ⟨y, rfl⟩ := k
 exact ⟨x ++ y, by simp⟩
theorem Rho.le.push (r : Rho) (x : Option (Nat × Nat)) : r.le (r ++ [x]) := ⟨[x], rfl⟩
theorem Rho.le.wk {r r' : Rho} (h : r.le r') : r.wk r' := by
 obtain ⟨x, rfl⟩ := h
 intro i y e
 have hl : i < r.length := by
  rcases Nat.lt_or_ge i r.length with h' | h'
  · exact h'
  · rw [List.getElem?_eq_none h'] at e; cases e
 rw [List.getElem?_append_left hl]; exact e
theorem Rho.wk.refl (r : Rho) : r.wk r := fun _ _ h => h
/-- values without an address in them -/
def flat1 : Value → Bool
 | .bool _ | .int .. | .float .. | .complex .. | .string _ | .nilFunc | .nilIface => true
 | .pointer none => true
 | .slice none _ _ => true
 | .func (.func _) first captured => first.isEmpty && captured.isEmpty
 | _ => false
/-- what an interface may hold: a value, or a struct of such -/
def flatI : Value → Bool
 | .agg cs => cs.toList.all flat1
 | v => flat1 v
def flat2 : Value → Bool
 | .agg cs => cs.toList.all flat1
 | .iface _ v => flatI v
 | v => flat1 v
def flat : Value → Bool
 | .tuple vs => vs.toList.all flat2
 | v => flat2 v
/-- lists, member by member -/
def LR (R : Value → Value → Prop) (l l' : List Value) : Prop := l.length = l'.length ∧ ∀ (i : Nat) (v : Value), l[i]? = some v → ∃ v', l'[i]? = some v' ∧ R v v'
/-- what a function may have caught -/
inductive VR0 (r : Rho) : Value → Value → Prop
 | flat {v : Value} : flat1 v = true → VR0 r v v
 | ptr {b o g s : Nat} : r[b]? = some (some (g, s)) → VR0 r (.pointer (some ⟨b, o, none⟩)) (.pointer (some ⟨g, o, none⟩))
 | exact {b o g s n c : Nat} : r[b]? = some (some (g, s)) → VR0 r (.slice (some ⟨b, o, none⟩) n c) (.slice (some ⟨g, o, none⟩) n c)
 | loose {b o g s n c k : Nat} : r[b]? = some (some (g, s)) → VR0 r (.slice (some ⟨b, o, some k⟩) n c) (.slice (some ⟨g, o, none⟩) n (c + s))
/-- no number, whichever: 'nanV' stands for it here; a complex number with such a part: 'cnV' (a part by its bits and one more; 0: no number) -/
def noNum (m : Nat) : Prop := 9218868437227405312 < m % 9223372036854775808 ∧ m < 18446744073709551616
def nanV : Value := .pointer (some ⟨0, 0, some 1⟩)
def cnV (a b : Nat) : Value := .pointer (some ⟨a, b, some 0⟩)
def PrtR (a m : Nat) : Prop := match a with | 0 => noNum m | n + 1 => m = n
inductive VR1 (r : Rho) : Value → Value → Prop
 | nan {m : Nat} : noNum m → VR1 r nanV (.float .f64 m)
 | cn {a b m n : Nat} : PrtR a m → PrtR b n → VR1 r (cnV a b) (.complex .f64 m n)
 | fn {f : FuncId} {m m' l l' : List Value} : LR (VR0 r) m m' → LR (VR0 r) l l' → VR1 r (.func (.func f) ⟨m⟩ ⟨l⟩) (.func (.func f) ⟨m'⟩ ⟨l'⟩)
 | flat {v : Value} : flat1 v = true → VR1 r v v
 | ptr {b o g s : Nat} : r[b]? = some (some (g, s)) → VR1 r (.pointer (some ⟨b, o, none⟩)) (.pointer (some ⟨g, o, none⟩))
 | exact {b o g s n c : Nat} : r[b]? = some (some (g, s)) → VR1 r (.slice (some ⟨b, o, none⟩) n c) (.slice (some ⟨g, o, none⟩) n c)
 | loose {b o g s n c k : Nat} : r[b]? = some (some (g, s)) → VR1 r (.slice (some ⟨b, o, some k⟩) n c) (.slice (some ⟨g, o, none⟩) n (c + s))
inductive VRI (r : Rho) : Value → Value → Prop
 | one {v v' : Value} : VR1 r v v' → VRI r v v'
 | agg {l l' : List Value} : LR (VR1 r) l l' → VRI r (.agg ⟨l⟩) (.agg ⟨l'⟩)
inductive VR2 (r : Rho) : Value → Value → Prop
 | one {v v' : Value} : VR1 r v v' → VR2 r v v'
 | agg {l l' : List Value} : LR (VR1 r) l l' → VR2 r (.agg ⟨l⟩) (.agg ⟨l'⟩)
 | iface {t : TypeId} {v v' : Value} : VRI r v v' → VR2 r (.iface t v) (.iface t v')
inductive VRel (r : Rho) : Value → Value → Prop
 | one {v v' : Value} : VR2 r v v' → VRel r v v'
 | tuple {l l' : List Value} : LR (VR2 r) l l' → VRel r (.tuple ⟨l⟩) (.tuple ⟨l'⟩)
theorem LR.mono {R R' : Value → Value → Prop} (h : ∀ v v', R v v' → R' v v') {l l' : List Value} (k : LR R l l') : LR R' l l' :=
 ⟨k.1, fun i v e => let ⟨v', a, b⟩ := k.2 i v e; ⟨v', a, h _ _ b⟩⟩
theorem VR0.mono {r r' : Rho} (h : r.wk r') {v v' : Value} (k : VR0 r v v') : VR0 r' v v' := by
 cases k with
 | flat e => exact .flat e
 | ptr e => exact .ptr (h _ _ e)
 | exact e => exact .exact (h _ _ e)
 | loose e => exact .loose (h _ _ e)
theorem VR0.rel {r : Rho} {v v' : Value} (k : VR0 r v v') : VRel r v v' := by
 cases k with
 | flat e => exact .one (.one (.flat e))
 | ptr e => exact .one (.one (.ptr e))
 | exact e => exact .one (.one (.exact e))
 | loose e => exact .one (.one (.loose e))
theorem VR1.mono {r r' : Rho} (h : r.wk r') {v v' : Value} (k : VR1 r v v') : VR1 r' v v' := by
 cases k with
 | nan e => exact .nan e
 | cn e1 e2 => exact .cn e1 e2
 | fn e0 e => exact .fn (e0.mono fun _ _ => VR0.mono h) (e.mono fun _ _ => VR0.mono h)
 | flat e => exact .flat e
 | ptr e => exact .ptr (h _ _ e)
 | exact e => exact .exact (h _ _ e)
 | loose e => exact .loose (h _ _ e)
theorem VRI.mono {r r' : Rho} (h : r.wk r') {v v' : Value} (k : VRI r v v') : VRI r' v v' := by
 cases k with
 | one e => exact .one (e.mono h)
 | agg e => exact .agg (e.mono fun _ _ => VR1.mono h)
theorem VR2.mono {r r' : Rho} (h : r.wk r') {v v' : Value} (k : VR2 r v v') : VR2 r' v v' := by
 cases k with
 | one e => exact .one (e.mono h)
 | agg e => exact .agg (e.mono fun _ _ => VR1.mono h)
 | iface e => exact .iface (e.mono h)
theorem VRel.mono {r r' : Rho} (h : r.wk r') {v v' : Value} (k : VRel r v v') : VRel r' v v' := by
 cases k with
 | one e => exact .one (e.mono h)
 | tuple e => exact .tuple (e.mono fun _ _ => VR2.mono h)
theorem VR1.same {r : Rho} {v v' : Value} (k : VR1 r v v') (f : flat1 v = true) : v' = v := by
 cases k with
 | nan e => simp [flat1, nanV] at f
 | cn e1 e2 => simp [flat1, cnV] at f
 | fn e0 e =>
  rename_i g m m' l l'
  simp [flat1] at f
  obtain ⟨rfl, rfl⟩ := f
  have := e.1
  have h0 := e0.1
  cases m' with
  | cons a b => simp at h0
  | nil => cases l' with
   | nil => rfl
   | cons a b => simp at this
 | flat e => rfl
 | ptr e => simp [flat1] at f
 | exact e => simp [flat1] at f
 | loose e => simp [flat1] at f
theorem LR.same {R : Value → Value → Prop} {f : Value → Bool} (h : ∀ v v', R v v' → f v = true → v' = v) {l l' : List Value} (k : LR R l l') (hf : l.all f = true) : l' = l := by
 refine List.ext_getElem? fun i => ?_
 cases e : l[i]? with
 | none =>
  rw [List.getElem?_eq_none_iff] at e ⊢
  have := k.1
  omega
 | some v =>
  obtain ⟨v', a, b⟩ := k.2 i v e
  rw [a, h v v' b (List.all_eq_true.1 hf v (List.mem_of_getElem? e))]
theorem VRI.same {r : Rho} {v v' : Value} (k : VRI r v v') (f : flatI v = true) : v' = v := by
 cases k with
 | one e =>
  refine e.same ?_
  cases e with
  | nan e => exact f
  | cn e1 e2 => exact f
  | fn e0 e => exact f
  | flat e => exact e
  | ptr e => exact f
  | exact e => exact f
  | loose e => exact f
 | agg e => rw [e.same (f := flat1) (fun _ _ => VR1.same) f]
theorem VR2.same {r : Rho} {v v' : Value} (k : VR2 r v v') (f : flat2 v = true) : v' = v := by
 cases k with
 | one e =>
  refine e.same ?_
  cases e with
  | nan e => exact f
  | cn e1 e2 => exact f
  | fn e0 e => exact f
  | flat e => exact e
  | ptr e => exact f
  | exact e => exact f
  | loose e => exact f
 | agg e => rw [e.same (f := flat1) (fun _ _ => VR1.same) f]
 | iface e => rw [e.same f]
theorem VRel.same {r : Rho} {v v' : Value} (k : VRel r v v') (f : flat v = true) : v' = v := by
 cases k with
 | one e =>
  refine e.same ?_
  cases e with
  | one e =>
   cases e with
   | nan e => exact f
   | cn e1 e2 => exact f
   | fn e0 e => exact f
   | flat e =>
    cases v <;> first | exact f | (simp [flat1] at e)
   | ptr e => exact f
   | exact e => exact f
   | loose e => exact f
  | agg e => exact f
  | iface e => exact f
 | tuple e => rw [e.same (f := flat2) (fun _ _ => VR2.same) f]
theorem LR.of_all {R : Value → Value → Prop} {f : Value → Bool} (h : ∀ v, f v = true → R v v) {l : List Value} (hf : l.all f = true) : LR R l l :=
 ⟨rfl, fun i v e => ⟨v, e, h v (List.all_eq_true.1 hf v (List.mem_of_getElem? e))⟩⟩
theorem VR2.of_flat (r : Rho) {v : Value} (f : flat2 v = true) : VR2 r v v := by
 cases v
 case agg cs => exact .agg (LR.of_all (fun v h => VR1.flat h) f)
 case iface t v =>
  refine .iface ?_
  cases v
  case agg cs => exact .agg (LR.of_all (fun v h => VR1.flat h) f)
  all_goals exact .one (.flat f)
 all_goals exact .one (.flat f)
theorem VRel.of_flat (r : Rho) {v : Value} (f : flat v = true) : VRel r v v := by
 cases v
 case tuple vs => exact .tuple (LR.of_all (fun v h => VR2.of_flat r h) f)
 all_goals exact .one (VR2.of_flat r f)
theorem VRel.undef (r : Rho) : VRel r undef undef := VRel.of_flat r rfl
/-- package-level variables that are laid by the program's text: their numbers and what they hold; only read -/
def roTab : List (Nat × List Value) := []
/-- so many cells has a type -/
def szOf (P : Program) (t : TypeId) : Nat := match P.info? t with | some i => i.size | none => 0
/-- the listed package variables lie there, whole -/
def RoX (w : World) : Prop := ∀ (g : Nat) (l : List Value), (g, l) ∈ roTab → ∃ t fr, w.heap[g]? = some (.cells l.toArray t fr)
/-- how a world holds the evaluator's memory; w0: the world when it began -/
structure Rel (P : Program) (w0 : World) (r : Rho) (A : Mem) (w : World) : Prop where
 len : r.length = A.length
 below : Below w0.heap.size w0 w
 there : ∀ (i : Nat) (b : Blk) (g s : Nat), A[i]? = some (some b) → r[i]? = some (some (g, s)) → ∃ (c : Array Value), w0.heap.size ≤ g ∧ w.heap[g]? = some (.cells c b.elem (0, 0)) ∧ b.cells.length + s * szOf P b.elem ≤ c.size ∧ ∀ (j : Nat) (v : Value), b.cells[j]? = some v → ∃ v', c[j]? = some v' ∧ VR1 r v v'
 ro : ∀ (i g : Nat) (l : List Value), roTab[i]? = some (g, l) → r[i]? = some (some (g, 0)) ∧ g < w0.heap.size ∧ ∀ (j : Nat) (v : Value), l[j]? = some v → flat1 v = true ∧ w0.cell? ⟨g, j, none⟩ = some v
 inj : ∀ (i j : Nat) (bi bj : Blk) (g s s' : Nat), A[i]? = some (some bi) → A[j]? = some (some bj) → r[i]? = some (some (g, s)) → r[j]? = some (some (g, s')) → i = j
 ex : RoX w0
/-- what the world has not laid yet stays as it is told -/
def Keep (r : Rho) (A A' : Mem) : Prop := ∀ p : Nat, r[p]? = some none → A'[p]? = A[p]?
theorem Keep.refl (r : Rho) (A : Mem) : Keep r A A := fun _ _ => rfl
theorem Rho.le.none {r r' : Rho} (h : r.le r') {p : Nat} (e : r[p]? = some none) : r'[p]? = some none := by
 obtain ⟨x, rfl⟩ := h
 have hl : p < r.length := by
  rcases Nat.lt_or_ge p r.length with h' | h'
  · exact h'
  · rw [List.getElem?_eq_none h'] at e; cases e
 rw [List.getElem?_append_left hl]; exact e
theorem Keep.trans {r r' : Rho} {A B C : Mem} (h : r.le r') (k : Keep r A B) (l : Keep r' B C) : Keep r A C := fun p e => (l p (h.none e)).trans (k p e)
theorem Keep.push {r : Rho} {A B : Mem} (hl : r.length = B.length) (k : Keep r A B) (x : Mem) : Keep r A (B ++ x) := by
 intro p e
 have hp : p < B.length := by
  rcases Nat.lt_or_ge p r.length with h' | h'
  · omega
  · rw [List.getElem?_eq_none h'] at e; cases e
 rw [List.getElem?_append_left hp]; exact k p e
theorem Keep.set {r : Rho} {A : Mem} {b : Nat} {x : Nat × Nat} (h : r[b]? = some (some x)) (y : Option Blk) : Keep r A (A.set b y) := by
 intro p e
 by_cases q : b = p
 · subst q; rw [h] at e; cases e
 · rw [List.getElem?_set_ne q]
theorem Rel.drew {P : Program} {w0 : World} {r : Rho} {A : Mem} {w : World} (h : Rel P w0 r A w) : Rel P w0 r A w.drew :=
 ⟨h.len, h.below.drew, h.there, h.ro, h.inj, h.ex⟩
/-- how the listed variables begin -/
def roRho : Rho := roTab.map fun x => some (x.1, 0)
def roMem : Mem := roTab.map fun _ => none
def RoOk (w : World) : Prop := ∀ (g : Nat) (l : List Value), (g, l) ∈ roTab → g < w.heap.size ∧ ∀ (j : Nat) (v : Value), l[j]? = some v → flat1 v = true ∧ w.cell? ⟨g, j, none⟩ = some v
theorem roMem_none {i : Nat} {b : Blk} (h : roMem[i]? = some (some b)) : False := by
 unfold roMem at h
 rw [List.getElem?_map] at h
 cases q : roTab[i]? with
 | none => rw [q] at h; cases h
 | some x => rw [q] at h; cases h
theorem Rel.start (P : Program) (w : World) (h : RoOk w) (hx : RoX w) : Rel P w roRho roMem w := by
 refine ⟨by simp [roRho, roMem], Below.refl _ _, fun i b g s h => (roMem_none h).elim, ?_, fun i j bi bj g s s' h => (roMem_none h).elim, hx⟩
 intro i g l e
 obtain ⟨h1, h2⟩ := h g l (List.mem_of_getElem? e)
 refine ⟨?_, h1, h2⟩
 unfold roRho
 rw [List.getElem?_map, e]
 rfl
theorem ro_wk {r r' : Rho} (h : r.wk r') {w0 : World} (k : ∀ (i g : Nat) (l : List Value), roTab[i]? = some (g, l) → r[i]? = some (some (g, 0)) ∧ g < w0.heap.size ∧ ∀ (j : Nat) (v : Value), l[j]? = some v → flat1 v = true ∧ w0.cell? ⟨g, j, none⟩ = some v) :
  ∀ (i g : Nat) (l : List Value), roTab[i]? = some (g, l) → r'[i]? = some (some (g, 0)) ∧ g < w0.heap.size ∧ ∀ (j : Nat) (v : Value), l[j]? = some v → flat1 v = true ∧ w0.cell? ⟨g, j, none⟩ = some v :=
 fun i g l e => let ⟨a, b⟩ := k i g l e; ⟨h _ _ a, b⟩
/-- a new block -/
theorem Rel.alloc {P : Program} {w0 : World} {r : Rho} {A : Mem} {w : World} (h : Rel P w0 r A w) (b : Blk) (c : Array Value) (s : Nat) (hc : b.cells.length + s * szOf P b.elem ≤ c.size)
  (hv : ∀ (j : Nat) (v : Value), b.cells[j]? = some v → ∃ v', c[j]? = some v' ∧ VR1 r v v') : Rel P w0 (r ++ [some (w.heap.size, s)]) (A ++ [some b]) (w.alloc (.cells c b.elem)) := by
 have hle := (Rho.le.push r (some (w.heap.size, s))).wk
 have hsz := h.below.size
 have hlast : (r ++ [some (w.heap.size, s)])[A.length]? = some (some (w.heap.size, s)) := by rw [← h.len]; simp
 have parts : ∀ (i : Nat) (b' : Blk), (A ++ [some b])[i]? = some (some b') → (i < A.length ∧ A[i]? = some (some b')) ∨ (i = A.length ∧ b' = b) := by
  intro i b' e
  rcases Nat.lt_or_ge i A.length with hi | hi
  · rw [List.getElem?_append_left hi] at e; exact Or.inl ⟨hi, e⟩
  ·
   rw [List.getElem?_append_right hi] at e
   rcases Nat.eq_or_lt_of_le hi with hi' | hi'
   ·
    rw [hi', Nat.sub_self] at e
    simp at e
    exact Or.inr ⟨hi'.symm, e.symm⟩
   · rw [List.getElem?_eq_none (by simp; omega)] at e; cases e
 have oldr : ∀ i, i < A.length → (r ++ [some (w.heap.size, s)])[i]? = r[i]? := fun i hi => List.getElem?_append_left (by rw [h.len]; exact hi)
 have old : ∀ (i : Nat) (b' : Blk) (g t : Nat), A[i]? = some (some b') → r[i]? = some (some (g, t)) → g < w.heap.size := by
  intro i b' g t e f
  obtain ⟨c, _, k3, _⟩ := h.there i b' g t e f
  exact (Array.getElem?_eq_some_iff.1 k3).1
 refine ⟨by simp [h.len], h.below.alloc hsz _, ?_, ro_wk hle h.ro, ?_, h.ex⟩
 ·
  intro i b' g t e f
  rcases parts i b' e with ⟨hi, e⟩ | ⟨hi, hb⟩
  ·
   rw [oldr i hi] at f
   obtain ⟨c', k2, k3, k4, k5⟩ := h.there i b' g t e f
   refine ⟨c', k2, ?_, k4, fun j v hj => let ⟨v', a1, a2⟩ := k5 j v hj; ⟨v', a1, a2.mono hle⟩⟩
   rw [Below.heap_alloc _ _ _ (Array.getElem?_eq_some_iff.1 k3).1]; exact k3
  ·
   rw [hi, hlast] at f
   simp only [Option.some.injEq, Prod.mk.injEq] at f
   obtain ⟨rfl, rfl⟩ := f
   subst hb
   exact ⟨c, hsz, heap_alloc_new _ _, hc, fun j v hj => let ⟨v', a1, a2⟩ := hv j v hj; ⟨v', a1, a2.mono hle⟩⟩
 ·
  intro i j bi bj g s1 s2 e1 e2 f1 f2
  rcases parts i bi e1 with ⟨hi, d1⟩ | ⟨hi, _⟩ <;> rcases parts j bj e2 with ⟨hj, d2⟩ | ⟨hj, _⟩
  ·
   rw [oldr i hi] at f1
   rw [oldr j hj] at f2
   exact h.inj i j bi bj g s1 s2 d1 d2 f1 f2
  ·
   rw [oldr i hi] at f1
   rw [hj, hlast] at f2
   have := old i bi g s1 d1 f1
   simp at f2
   omega
  ·
   rw [oldr j hj] at f2
   rw [hi, hlast] at f1
   have := old j bj g s2 d2 f2
   simp at f1
   omega
  · rw [hi, hj]
end Go.Proofs.YtfgfofedacehiaaGreat

/-
 OWN TEXT: an evaluator for calls without open arguments. Operations that only reckon.
-/
namespace Go.Proofs.YtfgfofedacehiaaGreat
open Go.RowKit
set_option linter.unusedVariables false
set_option linter.unusedSimpArgs false
theorem VRel.inv_ptr {r : Rho} {b o : Nat} {v' : Value} (h : VRel r (.pointer (some ⟨b, o, none⟩)) v') : ∃ g s, r[b]? = some (some (g, s)) ∧ v' = .pointer (some ⟨g, o, none⟩) := by
 cases h with
 | one h => cases h with
  | one h => cases h with
   | flat h => simp [flat1] at h
   | ptr h => exact ⟨_, _, h, rfl⟩
theorem VRel.inv_slice {r : Rho} {b o n c : Nat} {v' : Value} (h : VRel r (.slice (some ⟨b, o, none⟩) n c) v') : ∃ g s, r[b]? = some (some (g, s)) ∧ v' = .slice (some ⟨g, o, none⟩) n c := by
 cases h with
 | one h => cases h with
  | one h => cases h with
   | flat h => simp [flat1] at h
   | exact h => exact ⟨_, _, h, rfl⟩
theorem VRel.inv_loose {r : Rho} {b o n c k : Nat} {v' : Value} (h : VRel r (.slice (some ⟨b, o, some k⟩) n c) v') : ∃ g s, r[b]? = some (some (g, s)) ∧ v' = .slice (some ⟨g, o, none⟩) n (c + s) := by
 cases h with
 | one h => cases h with
  | one h => cases h with
   | flat h => simp [flat1] at h
   | loose h => exact ⟨_, _, h, rfl⟩
theorem VRel.inv_tuple {r : Rho} {l : List Value} {v' : Value} (h : VRel r (.tuple ⟨l⟩) v') : ∃ l', v' = .tuple ⟨l'⟩ ∧ LR (VR2 r) l l' := by
 cases h with
 | one h => cases h with
  | one h => cases h with
   | flat h => simp [flat1] at h
 | tuple h => exact ⟨_, rfl, h⟩
theorem VRel.inv_agg {r : Rho} {l : List Value} {v' : Value} (h : VRel r (.agg ⟨l⟩) v') : ∃ l', v' = .agg ⟨l'⟩ ∧ LR (VR1 r) l l' := by
 cases h with
 | one h => cases h with
  | one h => cases h with
   | flat h => simp [flat1] at h
  | agg h => exact ⟨_, rfl, h⟩
theorem VRel.int {r : Rho} {k : IntKind} {n : Int} {v' : Value} (h : VRel r (.int k n) v') : v' = .int k n := h.same rfl
theorem VRel.bool {r : Rho} {b : Bool} {v' : Value} (h : VRel r (.bool b) v') : v' = .bool b := h.same rfl
/-- a listed variable's number here -/
def roIx (g : Nat) : List (Nat × List Value) → Nat → Option Nat
 | [], _ => none
 | x :: l, n => if x.1 = g then some n else roIx g l (n + 1)
theorem roIx_ok (g : Nat) : ∀ (l : List (Nat × List Value)) (n i : Nat), roIx g l n = some i → n ≤ i ∧ ∃ c, l[i - n]? = some (g, c)
 | [], n, i, h => by cases h
 | x :: l, n, i, h => by
  obtain ⟨x1, x2⟩ := x
  simp only [roIx] at h
  split at h
  ·
   rename_i q
   cases h
   subst q
   exact ⟨Nat.le_refl _, x2, by simp⟩
  ·
   obtain ⟨h1, c, h2⟩ := roIx_ok g l (n + 1) i h
   refine ⟨by omega, c, ?_⟩
   rw [show i - n = (i - (n + 1)) + 1 by omega, List.getElem?_cons_succ]
   exact h2
/-- the value of an operand -/
def evalO (a : Act) : Operand → Option Value
 | .tmp t => a.tmps[t]?
 | .const v => if flat v then some v else none
 | .func f => some (.func (.func f) #[] #[])
 | .global g => (roIx g roTab 0).map fun i => .pointer (some ⟨i, 0, none⟩)
/-- deferred calls, one by one -/
inductive DR (r : Rho) : List Deferred → List Deferred → Prop
 | nil : DR r [] []
 | cons {f : FuncId} {l l' c c' : List Value} {d d' : List Deferred} : LR (VRel r) l l' → LR (VRel r) c c' → DR r d d' → DR r (⟨.fn (.func f) ⟨c⟩, ⟨l⟩⟩ :: d) (⟨.fn (.func f) ⟨c'⟩, ⟨l'⟩⟩ :: d')
theorem DR.mono {r r' : Rho} (h : r.wk r') {d d' : List Deferred} (k : DR r d d') : DR r' d d' := by
 induction k with
 | nil => exact .nil
 | cons h1 h2 _ ih => exact .cons (h1.mono fun _ _ => VRel.mono h) (h2.mono fun _ _ => VRel.mono h) ih
structure ActRel (r : Rho) (a a' : Act) : Prop where
 ro : ∀ (i g : Nat) (l : List Value), roTab[i]? = some (g, l) → r[i]? = some (some (g, 0))
 no : DR r a.defers a'.defers
 size : a.tmps.size = a'.tmps.size
 tmp : ∀ (i : Nat) (v : Value), a.tmps[i]? = some v → ∃ v', a'.tmps[i]? = some v' ∧ VRel r v v'
theorem ActRel.mono {r r' : Rho} (h : r.wk r') {a a' : Act} (k : ActRel r a a') : ActRel r' a a' :=
 ⟨fun i g l e => h _ _ (k.ro i g l e), k.no.mono h, k.size, fun i v e => let ⟨v', x, y⟩ := k.tmp i v e; ⟨v', x, y.mono h⟩⟩
theorem ActRel.eval {r : Rho} {a a' : Act} (k : ActRel r a a') {x : Operand} {v : Value} (h : evalO a x = some v) : VRel r v (a'.eval x) := by
 cases x with
 | tmp t =>
  obtain ⟨v', e, q⟩ := k.tmp t v h
  have : a'.eval (.tmp t) = v' := by simp [Act.eval, e]
  rw [this]; exact q
 | const u =>
  simp only [evalO] at h
  split at h
  · rename_i f; cases h; exact VRel.of_flat r f
  · cases h
 | global g =>
  simp only [evalO, Option.map_eq_some_iff] at h
  obtain ⟨i, h1, rfl⟩ := h
  obtain ⟨_, c, h2⟩ := roIx_ok g roTab 0 i h1
  exact .one (.one (.ptr (k.ro i g c h2)))
 | func f => cases h; exact VRel.of_flat r rfl
theorem ActRel.put {r : Rho} {a a' : Act} (k : ActRel r a a') {v v' : Value} (h : VRel r v v') (d : Option Tmp) : ActRel r (a.put d v) (a'.put d v') := by
 cases d with
 | none => exact k
 | some d =>
  refine ⟨k.ro, k.no, by simp [Act.put, k.size], ?_⟩
  intro i u e
  simp only [Act.put, Array.getElem?_setIfInBounds] at e ⊢
  by_cases c : d = i
  ·
   subst c
   rw [if_pos rfl] at e ⊢
   rw [k.size] at e
   split at e
   · rename_i hl; cases e; exact ⟨v', by rw [if_pos hl], h⟩
   · cases e
  ·
   rw [if_neg c] at e ⊢
   exact k.tmp i u e
theorem ActRel.yielded {r : Rho} {a a' : Act} (k : ActRel r a a') (ops : Array Oper) (j : Nat) : yielded ops a'.tmps j = yielded ops a.tmps j := by
 unfold Go.yielded
 cases h : (ops[j]?).bind (·.dst) with
 | none => rfl
 | some d =>
  simp only [Option.bind_some]
  cases e : a.tmps[d]? with
  | none =>
   have : a'.tmps[d]? = none := by
    rw [Array.getElem?_eq_none_iff] at e ⊢
    have := k.size
    omega
   rw [this]
  | some v =>
   obtain ⟨v', e', q⟩ := k.tmp d v e
   rw [e']
   cases v
   case bool b => rw [q.bool]
   case agg cs => obtain ⟨l', rfl, _⟩ := q.inv_agg; rfl
   case tuple cs => obtain ⟨l', rfl, _⟩ := q.inv_tuple; rfl
   case iface t u =>
    cases q with
    | one q => cases q with
     | one q => cases q; rfl
     | iface q => rfl
   all_goals
    cases q with
    | one q => cases q with
     | one q => cases q <;> rfl
theorem ActRel.wanted {r : Rho} {a a' : Act} (k : ActRel r a a') (ops : Array Oper) (o : Oper) : Region.wanted o (Go.yielded ops a'.tmps) = Region.wanted o (Go.yielded ops a.tmps) := by
 have : Go.yielded ops a'.tmps = Go.yielded ops a.tmps := funext (k.yielded ops)
 rw [this]
/-- what comes of it without a look at the world -/
def pureRun (P : Program) {α : Type} : Sem α → Option α
 | .pure a => some a
 | .program k => pureRun P (k P)
 | .mark _ k => pureRun P k
 | _ => none
theorem pureRun_run {P : Program} {α : Type} (s : Sem α) : ∀ {a : α}, pureRun P s = some a → ∀ w, s.run P w = .ok a w := by
 induction s with
 | pure a => intro b h w; cases h; rfl
 | program k ih => intro b h w; exact ih P h w
 | mark m k ih => intro b h w; exact ih h w
 | _ => intro b h; cases h
def notSelect : Op → Bool
 | .select .. => false
 | _ => true
def flatO (e : Operand → Option Value) (x : Operand) : Bool := match e x with | some v => flat v | none => false
def flatP (P : Program) (e : Operand → Option Value) (o : Oper) : Option Value :=
 if notSelect o.op && o.op.operands.toList.all (flatO e) then
  match pureRun P (execOp (fun x => (e x).getD undef) o) with
  | some (.value v) => if flat v then some v else none
  | _ => none
 else none
/-- operands as they are, and as the world has them -/
def OpsRel (r : Rho) (e : Operand → Option Value) (e' : Operand → Value) (o : Op) : Prop := ∀ x ∈ o.operands, ∀ v, e x = some v → VRel r v (e' x)
theorem flatP_sound {P : Program} {r : Rho} {e : Operand → Option Value} {e' : Operand → Value} {o : Oper} {v : Value} (h : flatP P e o = some v) (k : OpsRel r e e' o.op) :
  ∃ v', (∀ w, (execOp e' o).run P w = .ok (.value v') w) ∧ VRel r v v' := by
 unfold flatP at h
 split at h
 ·
  rename_i c
  rw [Bool.and_eq_true] at c
  obtain ⟨c1, c2⟩ := c
  have hs : ∀ cs b, o.op ≠ .select cs b := by intro cs b q; rw [q] at c1; cases c1
  have he : execOp e' o = execOp (fun x => (e x).getD undef) o := by
   refine execOp_congr o hs fun x hx => ?_
   have := List.all_eq_true.1 c2 x (by simpa using hx)
   unfold flatO at this
   cases q : e x with
   | none => rw [q] at this; cases this
   | some u => rw [q] at this; simp only [Option.getD_some]; exact (k x hx u q).same this
  cases q : pureRun P (execOp (fun x => (e x).getD undef) o) with
  | none => rw [q] at h; cases h
  | some n =>
   rw [q] at h
   cases n with
   | value u =>
    simp only at h
    split at h
    ·
     rename_i f
     cases h
     exact ⟨v, fun w => by rw [he]; exact pureRun_run _ q w, VRel.of_flat r f⟩
    · cases h
   | _ => cases h
 · cases h
def intO (e : Operand → Option Value) (x : Operand) : Option Int := match e x with | some (.int _ n) => some n | _ => none
/-- a bound of a slice, from 0 to y -/
def bndO (e : Operand → Option Value) (y d : Nat) : Option Operand → Option Nat
 | none => some d
 | some x => match e x with | some (.int _ n) => if 0 ≤ n ∧ n ≤ (y : Int) then some n.toNat else none | _ => none
def evSlice (e : Operand → Option Value) (b o len cap size : Nat) (sp : Option Nat) (lo hi mx : Option Operand) : Option Value :=
 match bndO e cap cap mx with
 | none => none
 | some m =>
  match bndO e m len hi with
  | none => none
  | some h =>
   match bndO e h 0 lo with
   | none => none
   | some l =>
    if mx.isSome && hi.isNone then none
    else if hi.isNone && decide (cap < len) then none
    else match sp, mx with
    | none, _ => some (.slice (some ⟨b, if m = l then o else o + l * size, none⟩) (h - l) (m - l))
    | some k, some _ => some (.slice (some ⟨b, if m = l then o else o + l * size, none⟩) (h - l) (m - l))
    | some k, none => if l = 0 then some (.slice (some ⟨b, o, some k⟩) h m) else if l < m then some (.slice (some ⟨b, o + l * size, some k⟩) (h - l) (m - l)) else none
/-- operations that only reckon, at values with addresses in them -/
def evS (P : Program) (e : Operand → Option Value) (o : Oper) : Option Value :=
 match o.op with
 | .move x | .assign x => e x
 | .nilCheck x => match e x with | some (.pointer (some ⟨b, f, none⟩)) => some (.pointer (some ⟨b, f, none⟩)) | _ => none
 | .extract x i => match e x with | some (.tuple ⟨l⟩) => l[i]? | _ => none
 | .fieldAddr s x f =>
  match e x, P.underlying s with
  | some (.pointer (some ⟨b, off, none⟩)), some (.struct fields) =>
   match fields[f]? with
   | some fl => if szOf P fl.type ≠ 0 then some (.pointer (some ⟨b, off + fl.offset, none⟩)) else none
   | none => none
  | _, _ => none
 | .field s x f =>
  match e x, P.underlying s with
  | some (.agg ⟨l⟩), some (.struct fields) =>
   match fields[f]? with
   | some fl =>
    match P.underlying fl.type with
    | some (.struct _) | some (.array _ _) => match P.info? fl.type with | some i => if fl.offset + i.size ≤ l.length then some (.agg ⟨(l.drop fl.offset).take i.size⟩) else none | none => none
    | some _ => l[fl.offset]?
    | none => none
   | none => none
  | _, _ => none
 | .indexAddr t x ix =>
  match e ix with
  | some (.int _ i) =>
   match e x, P.underlying t with
   | some (.slice (some ⟨b, off, _⟩) len _), some (.slice el) => if 0 ≤ i ∧ i < (len : Int) ∧ szOf P el ≠ 0 then some (.pointer (some ⟨b, off + i.toNat * szOf P el, none⟩)) else none
   | some (.pointer (some ⟨b, off, none⟩)), some (.array len el) => if 0 ≤ i ∧ i < (len : Int) ∧ szOf P el ≠ 0 then some (.pointer (some ⟨b, off + i.toNat * szOf P el, none⟩)) else none
   | _, _ => none
  | _ => none
 | .slice t x lo hi mx =>
  match e x, P.underlying t with
  | some (.slice (some ⟨b, off, sp⟩) len cap), some (.slice el) => if szOf P el ≠ 0 then evSlice e b off len cap (szOf P el) sp lo hi mx else none
  | _, _ => none
 | .call c =>
  match c.callee, c.args.toList, c.argTypes.toList with
  | .builtin .len, [x], [t] =>
   match e x, P.underlying t with
   | some (.slice (some _) len _), some (.slice _) => some (.int .i64 len)
   | _, _ => none
  | _, _, _ => none
 | _ => none
theorem szOf_info {P : Program} {t : TypeId} (h : szOf P t ≠ 0) : ∃ i, P.info? t = some i ∧ i.size = szOf P t := by
 unfold szOf at h ⊢
 cases q : P.info? t with
 | none => rw [q] at h; exact absurd rfl h
 | some i => exact ⟨i, rfl, rfl⟩
theorem add_plain (b o n : Nat) : (⟨b, o, none⟩ : Addr).add n = ⟨b, o + n, none⟩ := by unfold Addr.add; split <;> simp_all
theorem VRel.of1 {r : Rho} {v v' : Value} (h : VR1 r v v') : VRel r v v' := .one (.one h)
theorem bnd_run {P : Program} {r : Rho} {e : Operand → Option Value} {e' : Operand → Value} {y y' m : Nat} {x : Operand} (hk : ∀ v, e x = some v → VRel r v (e' x)) (h : (match e x with | some (.int _ n) => if 0 ≤ n ∧ n ≤ (y : Int) then some n.toNat else none | _ => none) = some m) (hy : y ≤ y') (code : BoundsCode) (w : World) :
  (Instr.sliceBound (e' x) y' code).run P w = .ok m w ∧ m ≤ y := by
 cases q : e x with
 | none => rw [q] at h; cases h
 | some v =>
  rw [q] at h
  cases v with
  | int k n =>
   simp only at h
   split at h
   ·
    rename_i c
    cases h
    have := hk _ q
    rw [this.int]
    refine ⟨?_, by omega⟩
    simp [Instr.sliceBound, asIntOf, show 0 ≤ n ∧ n ≤ (y' : Int) by omega]
   · cases h
  | _ => cases h
theorem evSlice_sound {P : Program} {r : Rho} {e : Operand → Option Value} {e' : Operand → Value} {t el : TypeId} {x : Operand} {b off len cap : Nat} {sp : Option Nat} {lo hi mx : Option Operand} {v : Value}
  (ht : P.underlying t = some (.slice el)) (hx : VRel r (.slice (some ⟨b, off, sp⟩) len cap) (e' x)) (hk : ∀ y ∈ lo.toArray ++ hi.toArray ++ mx.toArray, ∀ v, e y = some v → VRel r v (e' y)) (hz : szOf P el ≠ 0) (h : evSlice e b off len cap (szOf P el) sp lo hi mx = some v) :
  ∃ v', (∀ w, (Instr.sliceAt t (e' x) (lo.map e') (hi.map e') (mx.map e')).run P w = .ok v' w) ∧ VRel r v v' := by
 obtain ⟨i, hi1, hi2⟩ := szOf_info hz
 generalize szOf P el = size at *
 obtain ⟨g, s, hg, c', hx', hle, hsp⟩ : ∃ g s, r[b]? = some (some (g, s)) ∧ ∃ c', e' x = .slice (some ⟨g, off, none⟩) len c' ∧ cap ≤ c' ∧ ((sp = none ∧ c' = cap) ∨ (∃ k, sp = some k ∧ c' = cap + s)) := by
  cases sp with
  | none => obtain ⟨g, s, h1, h2⟩ := hx.inv_slice; exact ⟨g, s, h1, cap, h2, Nat.le_refl _, Or.inl ⟨rfl, rfl⟩⟩
  | some k => obtain ⟨g, s, h1, h2⟩ := hx.inv_loose; exact ⟨g, s, h1, cap + s, h2, by omega, Or.inr ⟨k, rfl, rfl⟩⟩
 have run : ∀ (m m' h0 l : Nat), (∀ w, (Instr.sliceBounds true len c' (lo.map e') (hi.map e') (mx.map e')).run P w = .ok (l, h0, m') w) →
   ∀ w, (Instr.sliceAt t (e' x) (lo.map e') (hi.map e') (mx.map e')).run P w = .ok (.slice (some ⟨g, if m' = l then off else off + l * size, none⟩) (h0 - l) (m' - l)) w := by
  intro m m' h0 l hb w
  rw [hx']
  simp only [Instr.sliceAt, Sem.run_bind, run_underlying ht, Result.andThen_ok, Instr.slice, hb w, sizeOf, typeInfo, program, hi1, hi2]
  by_cases c : m' = l
  · simp [c, hi1, hi2, Sem.run]
  · simp [c, hi1, hi2, Sem.run, add_plain]
 unfold evSlice at h
 cases qm : bndO e cap cap mx with
 | none => rw [qm] at h; cases h
 | some m =>
  rw [qm] at h
  simp only at h
  cases qh : bndO e m len hi with
  | none => rw [qh] at h; cases h
  | some h0 =>
   rw [qh] at h
   simp only at h
   cases ql : bndO e h0 0 lo with
   | none => rw [ql] at h; cases h
   | some l =>
    rw [ql] at h
    simp only at h
    split at h
    · cases h
    ·
     rename_i nc
     split at h
     · cases h
     ·
      rename_i nd
      -- the bounds, as the world reckons them
      have low : ∀ w y code, lo = some y → (Instr.sliceBound (e' y) h0 code).run P w = .ok l w := by
       intro w y code hy
       subst hy
       exact (bnd_run (hk y (by simp)) ql (Nat.le_refl _) code w).1
      cases mx with
      | some ymx =>
       cases hi with
       | none => simp at nc
       | some yhi =>
        have bm := fun w => bnd_run (P := P) (hk ymx (by simp)) qm hle .slice3Acap w
        have bh := fun w => bnd_run (P := P) (hk yhi (by simp)) qh (Nat.le_refl _) .slice3B w
        have hb : ∀ w, (Instr.sliceBounds true len c' (lo.map e') (some (e' yhi)) (some (e' ymx))).run P w = .ok (l, h0, m) w := by
         intro w
         have := low w
         simp only [Instr.sliceBounds, Sem.run_bind, (bm w).1, (bh w).1, Result.andThen_ok, if_true, Option.isSome_some]
         cases lo with
         | none => simp only [bndO] at ql; cases ql; simp
         | some y => simp [this y _ rfl]
        have rr := run m m h0 l hb
        refine ⟨_, rr, ?_⟩
        cases sp with
        | none => simp only at h; cases h; exact .of1 (.exact hg)
        | some k => simp only at h; cases h; exact .of1 (.exact hg)
      | none =>
       simp only [bndO] at qm
       cases qm
       have bh : ∀ w, (match hi.map e' with | some v => Instr.sliceBound v c' .sliceAcap | none => pure len : Sem Nat).run P w = .ok h0 w := by
        intro w
        cases hi with
        | none => simp only [bndO] at qh; cases qh; rfl
        | some y => exact (bnd_run (hk y (by simp)) qh hle _ w).1
       have hb : ∀ w, (Instr.sliceBounds true len c' (lo.map e') (hi.map e') none).run P w = .ok (l, h0, c') w := by
        intro w
        have b1 := bh w
        have b2 := low w
        simp only [Instr.sliceBounds, Sem.run_bind, Sem.run_pure, Result.andThen_ok]
        cases hi with
        | none =>
         simp only [bndO] at qh; cases qh
         cases lo with
         | none => simp only [bndO] at ql; cases ql; simp
         | some y => simp [b2 y _ rfl]
        | some y' =>
         simp only [Option.map_some] at b1
         cases lo with
         | none => simp only [bndO] at ql; cases ql; simp [b1]
         | some y => simp [b1, b2 y _ rfl]
       have rr := run cap c' h0 l hb
       refine ⟨_, rr, ?_⟩
       rcases hsp with ⟨rfl, rfl⟩ | ⟨k, rfl, rfl⟩
       · simp only at h; cases h; exact .of1 (.exact hg)
       ·
        simp only at h
        split at h
        ·
         rename_i l0
         subst l0
         cases h
         simp only [Nat.sub_zero, Nat.zero_mul, Nat.add_zero, ite_self]
         exact .of1 (.loose hg)
        ·
         split at h
         ·
          rename_i c1 c2
          cases h
          rw [if_neg (by omega), show cap + s - l = (cap - l) + s by omega]
          exact .of1 (.loose hg)
         · cases h
end Go.Proofs.YtfgfofedacehiaaGreat

/-
 OWN TEXT: an evaluator for calls without open arguments. Operations that only reckon or read: they do what the evaluator says.
-/
namespace Go.Proofs.YtfgfofedacehiaaGreat
open Go.RowKit
set_option linter.unusedVariables false
set_option linter.unusedSimpArgs false
theorem LR.window {R : Value → Value → Prop} {l l' : List Value} (h : LR R l l') (a n : Nat) : LR R ((l.drop a).take n) ((l'.drop a).take n) := by
 refine ⟨by simp [h.1], fun i v e => ?_⟩
 simp only [List.getElem?_take, List.getElem?_drop] at e ⊢
 split at e
 ·
  rename_i c
  obtain ⟨v', e', k⟩ := h.2 _ v e
  exact ⟨v', by rw [if_pos c]; exact e', k⟩
 · cases e
theorem run_isAgg {P : Program} {t : TypeId} {d : TypeDesc} (h : P.underlying t = some d) (w : World) : (isAgg t).run P w = .ok d.isRow w := by
 unfold isAgg
 rw [Sem.run_bind, run_underlying h w]
 cases d <;> rfl
theorem evS_sound {P : Program} {r : Rho} {e : Operand → Option Value} {e' : Operand → Value} {o : Oper} {v : Value} (h : evS P e o = some v) (k : OpsRel r e e' o.op) :
  ∃ v', (∀ w, (execOp e' o).run P w = .ok (.value v') w) ∧ VRel r v v' := by
 obtain ⟨dst, op, type, pos, after, guard⟩ := o
 unfold evS at h
 simp only at h
 cases op
 case move x => exact ⟨e' x, fun w => rfl, k x (by simp [Op.operands]) v h⟩
 case assign x => exact ⟨e' x, fun w => rfl, k x (by simp [Op.operands]) v h⟩
 case nilCheck x =>
  simp only at h
  split at h
  ·
   rename_i b f q
   cases h
   have hx := k x (by simp [Op.operands]) _ q
   obtain ⟨g, s, h1, h2⟩ := hx.inv_ptr
   exact ⟨_, fun w => by simp only [execOp, h2]; rfl, by rw [← h2]; exact hx⟩
  · cases h
 case extract x i =>
  simp only at h
  split at h
  ·
   rename_i l q
   have hx := k x (by simp [Op.operands]) _ q
   obtain ⟨l', h1, h2⟩ := hx.inv_tuple
   obtain ⟨v', e1, e2⟩ := h2.2 i v h
   refine ⟨v', fun w => ?_, .one e2⟩
   simp [execOp, h1, Instr.extract, e1]
  · cases h
 case fieldAddr s x f =>
  simp only at h
  split at h
  ·
   rename_i b off fields q qu
   have hx := k x (by simp [Op.operands]) _ q
   obtain ⟨g, sl, h1, h2⟩ := hx.inv_ptr
   split at h
   ·
    rename_i fl qf
    split at h
    ·
     rename_i hz
     cases h
     obtain ⟨i, hi1, hi2⟩ := szOf_info hz
     refine ⟨.pointer (some ⟨g, off + fl.offset, none⟩), fun w => ?_, .of1 (.ptr h1)⟩
     simp [execOp, h2, Instr.fieldAt, run_underlying qu, qf, Instr.sureAddr, fieldPlace, sizeOf, typeInfo, hi1, hi2, hz, add_plain]
    · cases h
   · cases h
  · cases h
 case field s x f =>
  simp only at h
  split at h
  ·
   rename_i l fields q qu
   have hx := k x (by simp [Op.operands]) _ q
   obtain ⟨l', h1, h2⟩ := hx.inv_agg
   split at h
   ·
    rename_i fl qf
    have row : ∀ d, P.underlying fl.type = some d → d.isRow = true → (match P.info? fl.type with | some i => if fl.offset + i.size ≤ l.length then some (Value.agg ⟨(l.drop fl.offset).take i.size⟩) else none | none => none) = some v →
      ∃ v', (∀ w, (execOp e' { dst := dst, op := .field s x f, type := type, pos := pos, after := after, guard := guard }).run P w = .ok (.value v') w) ∧ VRel r v v' := by
     intro d hd hrow h
     cases qi : P.info? fl.type with
     | none => rw [qi] at h; cases h
     | some i =>
      rw [qi] at h
      simp only at h
      split at h
      ·
       cases h
       refine ⟨.agg ⟨(l'.drop fl.offset).take i.size⟩, fun w => ?_, .one (.agg (h2.window _ _))⟩
       simp [execOp, h1, Instr.field, run_underlying qu, qf, asAgg, part, run_isAgg hd, hrow, sizeOf, typeInfo, qi]
      · cases h
    split at h
    · rename_i fs qd; exact row _ qd rfl h
    · rename_i n el qd; exact row _ qd rfl h
    ·
     rename_i d n1 n2 qd
     obtain ⟨v', e1, e2⟩ := h2.2 _ v h
     have hr : d.isRow = false := by cases d <;> first | rfl | (exfalso; exact n1 _ rfl) | (exfalso; exact n2 _ _ rfl)
     refine ⟨v', fun w => ?_, .of1 e2⟩
     simp [execOp, h1, Instr.field, run_underlying qu, qf, asAgg, part, run_isAgg qd, hr, e1]
    · cases h
   · cases h
  · cases h
 case indexAddr t x ix =>
  simp only at h
  split at h
  ·
   rename_i k0 i qi
   have hi := (k ix (by simp [Op.operands]) _ qi).int
   split at h
   ·
    rename_i b off sp len cap el q qu
    have hx := k x (by simp [Op.operands]) _ q
    split at h
    ·
     rename_i c
     cases h
     obtain ⟨c1, c2, hz⟩ := c
     obtain ⟨ti, hi1, hi2⟩ := szOf_info hz
     obtain ⟨g, s, h1, c', h2⟩ : ∃ g s, r[b]? = some (some (g, s)) ∧ ∃ c', e' x = .slice (some ⟨g, off, none⟩) len c' := by
      cases sp with
      | none => obtain ⟨g, s, h1, h2⟩ := hx.inv_slice; exact ⟨g, s, h1, _, h2⟩
      | some kk => obtain ⟨g, s, h1, h2⟩ := hx.inv_loose; exact ⟨g, s, h1, _, h2⟩
     refine ⟨.pointer (some ⟨g, off + i.toNat * szOf P el, none⟩), fun w => ?_, .of1 (.ptr h1)⟩
     simp [execOp, h2, hi, Instr.indexAt, asIntOf, run_underlying qu, c1, c2, sizeOf, typeInfo, hi1, hi2, add_plain]
    · cases h
   ·
    rename_i b off len el q qu
    have hx := k x (by simp [Op.operands]) _ q
    split at h
    ·
     rename_i c
     cases h
     obtain ⟨c1, c2, hz⟩ := c
     obtain ⟨ti, hi1, hi2⟩ := szOf_info hz
     obtain ⟨g, s, h1, h2⟩ := hx.inv_ptr
     refine ⟨.pointer (some ⟨g, off + i.toNat * szOf P el, none⟩), fun w => ?_, .of1 (.ptr h1)⟩
     simp [execOp, h2, hi, Instr.indexAt, asIntOf, Instr.sureAddr, run_underlying qu, c1, c2, sizeOf, typeInfo, hi1, hi2, add_plain]
    · cases h
   · cases h
  · cases h
 case slice t x lo hi mx =>
  simp only at h
  split at h
  ·
   rename_i b off sp len cap el q qu
   have hx := k x (by simp [Op.operands]) _ q
   split at h
   ·
    rename_i hz
    obtain ⟨v', h1, h2⟩ := evSlice_sound (P := P) (x := x) qu hx (fun y hy u hu => k y (by simp [Op.operands] at hy ⊢; rcases hy with hy | hy | hy <;> simp [hy]) u hu) hz h
    exact ⟨v', fun w => by simp [execOp, h1 w], h2⟩
   · cases h
  · cases h
 case call c =>
  obtain ⟨callee, args, argTypes⟩ := c
  simp only at h
  split at h
  ·
   rename_i x t qa qt
   obtain rfl : args = #[x] := by apply Array.ext'; simpa using qa
   obtain rfl : argTypes = #[t] := by apply Array.ext'; simpa using qt
   split at h
   ·
    rename_i a len cap el q qu
    have hx := k x (by simp [Op.operands, Call.operands]) _ q
    cases h
    obtain ⟨ad, c', h2⟩ : ∃ ad c', e' x = .slice (some ad) len c' := by
     obtain ⟨b, off, sp⟩ := a
     cases sp with
     | none => obtain ⟨g, s, _, h2⟩ := hx.inv_slice; exact ⟨_, _, h2⟩
     | some kk => obtain ⟨g, s, _, h2⟩ := hx.inv_loose; exact ⟨_, _, h2⟩
    refine ⟨.int .i64 len, fun w => ?_, VRel.of_flat r rfl⟩
    simp [execOp, resolve, invoke, builtin, h2, Builtin.len_, run_underlying qu, goInt]
   · cases h
  · cases h
 all_goals cases h
/-- an operation that reads -/
def evR (P : Program) (A : Mem) (e : Operand → Option Value) (o : Oper) : Option Value :=
 match o.op with
 | .load t x =>
  match e x with
  | some (.pointer (some ⟨b, off, none⟩)) =>
   match A[b]? with
   | some (some blk) =>
    match P.underlying t with
    | some d =>
     if d.isRow then
      match P.info? t with
      | some i => if off + i.size ≤ blk.cells.length then some (.agg ⟨(blk.cells.drop off).take i.size⟩) else none
      | none => none
     else blk.cells[off]?
    | none => none
   | some none =>
    match roTab[b]?, P.underlying t with
    | some x, some d => if d.isRow then none else x.2[off]?
    | _, _ => none
   | none => none
  | _ => none
 | _ => none
theorem evR_sound {P : Program} {w0 w : World} {r : Rho} {A : Mem} {e : Operand → Option Value} {e' : Operand → Value} {o : Oper} {v : Value} (h : evR P A e o = some v) (k : OpsRel r e e' o.op) (hr : Rel P w0 r A w) :
  ∃ v', (execOp e' o).run P w = .ok (.value v') w ∧ VRel r v v' := by
 obtain ⟨dst, op, type, pos, after, guard⟩ := o
 unfold evR at h
 simp only at h
 cases op
 case load t x =>
  simp only at h
  split at h
  ·
   rename_i b off q
   have hx := k x (by simp [Op.operands]) _ q
   obtain ⟨g0, s0, h1, h2⟩ := hx.inv_ptr
   split at h
   ·
    rename_i blk qb
    obtain ⟨c, k2, k3, k4, k5⟩ := hr.there b blk g0 s0 qb h1
    split at h
    ·
     rename_i d qd
     split at h
     ·
      rename_i hrow
      split at h
      ·
       rename_i i qi
       split at h
       ·
        rename_i hle
        cases h
        have hlen : blk.cells.length ≤ c.size := by
         have := k4
         omega
        refine ⟨.agg ⟨(c.toList.drop off).take i.size⟩, ?_, ?_⟩
        ·
         have := run_loadAt_mid (P := P) w g0 off t ((c.toList.drop off).take i.size) d (by
          intro j u hu
          simp only [List.getElem?_take, List.getElem?_drop] at hu
          split at hu
          · simp only [World.cell?, k3, Option.isSome_none, Bool.false_eq_true, if_false]; simpa using hu
          · cases hu) qd hrow (by simp [qi]; omega)
         simp only [execOp, h2]
         rw [Sem.run_bind, this]
         rfl
        ·
         refine .one (.agg ⟨by simp; omega, fun j u hu => ?_⟩)
         simp only [List.getElem?_take, List.getElem?_drop] at hu ⊢
         split at hu
         ·
          rename_i cj
          obtain ⟨u', a1, a2⟩ := k5 _ u hu
          exact ⟨u', by rw [if_pos cj]; simpa using a1, a2⟩
         · cases hu
       · cases h
      · cases h
     ·
      rename_i hrow
      obtain ⟨v', a1, a2⟩ := k5 _ v h
      refine ⟨v', ?_, .of1 a2⟩
      have hcell : w.cell? ⟨g0, off, none⟩ = some v' := by simp [World.cell?, k3, a1]
      simp only [execOp, h2, Instr.loadAt, Instr.sureAddr, loadVar, Sem.run_bind, Sem.run_pure, Result.andThen_ok, run_isAgg qd, hrow, load, Bool.false_eq_true, if_false]
      simp [Sem.run, hcell]
    · cases h
   ·
    split at h
    ·
     rename_i x d qx qd
     split at h
     · cases h
     ·
      rename_i hrow
      obtain ⟨gx, lx⟩ := x
      obtain ⟨k1, k2, k3⟩ := hr.ro b gx lx qx
      rw [h1] at k1
      simp only [Option.some.injEq, Prod.mk.injEq] at k1
      obtain ⟨rfl, rfl⟩ := k1
      obtain ⟨f1, f2⟩ := k3 off v h
      refine ⟨v, ?_, VRel.of1 (.flat f1)⟩
      have hcell : w.cell? ⟨g0, off, none⟩ = some v := by rw [hr.below.cell (p := ⟨g0, off, none⟩) k2]; exact f2
      simp only [execOp, h2, Instr.loadAt, Instr.sureAddr, loadVar, Sem.run_bind, Sem.run_pure, Result.andThen_ok, run_isAgg qd, hrow, load, Bool.false_eq_true, if_false]
      simp [Sem.run, hcell]
    · cases h
   · cases h
  · cases h
 all_goals cases h
end Go.Proofs.YtfgfofedacehiaaGreat

