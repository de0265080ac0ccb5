/-
  OWN TEXT: an evaluator for calls without open arguments. Operations that only reckon.
-/
import Derived.Test.YtgaigfmboomnkaaGreatXvA
namespace Go.Proofs.YtgaigfmboomnkaaGreat
open Go.RowKit
set_option linter.unusedVariables false
set_option linter.unusedSimpArgs false
theorem VRel.inv_ptr {r : Rho} {b o : Nat} {v' : Value} (h : VRel r (.pointer (some ⟨b, o, none⟩)) v') : ∃ g s, r[b]? = some (some (g, s)) ∧ v' = .pointer (some ⟨g, o, none⟩) := by
  cases h with
  | one h => cases h with
    | one h => cases h with
      | flat h => simp [flat1] at h
      | ptr h => exact ⟨_, _, h, rfl⟩
theorem VRel.inv_slice {r : Rho} {b o n c : Nat} {v' : Value} (h : VRel r (.slice (some ⟨b, o, none⟩) n c) v') : ∃ g s, r[b]? = some (some (g, s)) ∧ v' = .slice (some ⟨g, o, none⟩) n c := by
  cases h with
  | one h => cases h with
    | one h => cases h with
      | flat h => simp [flat1] at h
      | exact h => exact ⟨_, _, h, rfl⟩
theorem VRel.inv_loose {r : Rho} {b o n c k : Nat} {v' : Value} (h : VRel r (.slice (some ⟨b, o, some k⟩) n c) v') : ∃ g s, r[b]? = some (some (g, s)) ∧ v' = .slice (some ⟨g, o, none⟩) n (c + s) := by
  cases h with
  | one h => cases h with
    | one h => cases h with
      | flat h => simp [flat1] at h
      | loose h => exact ⟨_, _, h, rfl⟩
theorem VRel.inv_tuple {r : Rho} {l : List Value} {v' : Value} (h : VRel r (.tuple ⟨l⟩) v') : ∃ l', v' = .tuple ⟨l'⟩ ∧ LR (VR2 r) l l' := by
  cases h with
  | one h => cases h with
    | one h => cases h with
      | flat h => simp [flat1] at h
  | tuple h => exact ⟨_, rfl, h⟩
theorem VRel.inv_agg {r : Rho} {l : List Value} {v' : Value} (h : VRel r (.agg ⟨l⟩) v') : ∃ l', v' = .agg ⟨l'⟩ ∧ LR (VR1 r) l l' := by
  cases h with
  | one h => cases h with
    | one h => cases h with
      | flat h => simp [flat1] at h
    | agg h => exact ⟨_, rfl, h⟩
theorem VRel.int {r : Rho} {k : IntKind} {n : Int} {v' : Value} (h : VRel r (.int k n) v') : v' = .int k n := h.same rfl
theorem VRel.bool {r : Rho} {b : Bool} {v' : Value} (h : VRel r (.bool b) v') : v' = .bool b := h.same rfl
/-- a listed variable's number here -/
def roIx (g : Nat) : List (Nat × List Value) → Nat → Option Nat
  | [], _ => none
  | x :: l, n => if x.1 = g then some n else roIx g l (n + 1)
theorem roIx_ok (g : Nat) : ∀ (l : List (Nat × List Value)) (n i : Nat), roIx g l n = some i → n ≤ i ∧ ∃ c, l[i - n]? = some (g, c)
  | [], n, i, h => by cases h
  | x :: l, n, i, h => by
    obtain ⟨x1, x2⟩ := x
    simp only [roIx] at h
    split at h
    · rename_i q
      cases h
      subst q
      exact ⟨Nat.le_refl _, x2, by simp⟩
    · obtain ⟨h1, c, h2⟩ := roIx_ok g l (n + 1) i h
      refine ⟨by omega, c, ?_⟩
      rw [show i - n = (i - (n + 1)) + 1 by omega, List.getElem?_cons_succ]
      exact h2
/-- the value of an operand -/
def evalO (a : Act) : Operand → Option Value
  | .tmp t => a.tmps[t]?
  | .const v => if flat v then some v else none
  | .func f => some (.func (.func f) #[] #[])
  | .global g => (roIx g roTab 0).map fun i => .pointer (some ⟨i, 0, none⟩)
/-- deferred calls, one by one -/
inductive DR (r : Rho) : List Deferred → List Deferred → Prop
  | nil : DR r [] []
  | cons {f : FuncId} {l l' c c' : List Value} {d d' : List Deferred} : LR (VRel r) l l' → LR (VRel r) c c' → DR r d d' → DR r (⟨.fn (.func f) ⟨c⟩, ⟨l⟩⟩ :: d) (⟨.fn (.func f) ⟨c'⟩, ⟨l'⟩⟩ :: d')
theorem DR.mono {r r' : Rho} (h : r.wk r') {d d' : List Deferred} (k : DR r d d') : DR r' d d' := by
  induction k with
  | nil => exact .nil
  | cons h1 h2 _ ih => exact .cons (h1.mono fun _ _ => VRel.mono h) (h2.mono fun _ _ => VRel.mono h) ih
structure ActRel (r : Rho) (a a' : Act) : Prop where
  ro : ∀ (i g : Nat) (l : List Value), roTab[i]? = some (g, l) → r[i]? = some (some (g, 0))
  no : DR r a.defers a'.defers
  size : a.tmps.size = a'.tmps.size
  tmp : ∀ (i : Nat) (v : Value), a.tmps[i]? = some v → ∃ v', a'.tmps[i]? = some v' ∧ VRel r v v'
theorem ActRel.mono {r r' : Rho} (h : r.wk r') {a a' : Act} (k : ActRel r a a') : ActRel r' a a' :=
  ⟨fun i g l e => h _ _ (k.ro i g l e), k.no.mono h, k.size, fun i v e => let ⟨v', x, y⟩ := k.tmp i v e; ⟨v', x, y.mono h⟩⟩
theorem ActRel.eval {r : Rho} {a a' : Act} (k : ActRel r a a') {x : Operand} {v : Value} (h : evalO a x = some v) : VRel r v (a'.eval x) := by
  cases x with
  | tmp t =>
    obtain ⟨v', e, q⟩ := k.tmp t v h
    have : a'.eval (.tmp t) = v' := by simp [Act.eval, e]
    rw [this]; exact q
  | const u =>
    simp only [evalO] at h
    split at h
    · rename_i f; cases h; exact VRel.of_flat r f
    · cases h
  | global g =>
    simp only [evalO, Option.map_eq_some_iff] at h
    obtain ⟨i, h1, rfl⟩ := h
    obtain ⟨_, c, h2⟩ := roIx_ok g roTab 0 i h1
    exact .one (.one (.ptr (k.ro i g c h2)))
  | func f => cases h; exact VRel.of_flat r rfl
theorem ActRel.put {r : Rho} {a a' : Act} (k : ActRel r a a') {v v' : Value} (h : VRel r v v') (d : Option Tmp) : ActRel r (a.put d v) (a'.put d v') := by
  cases d with
  | none => exact k
  | some d =>
    refine ⟨k.ro, k.no, by simp [Act.put, k.size], ?_⟩
    intro i u e
    simp only [Act.put, Array.getElem?_setIfInBounds] at e ⊢
    by_cases c : d = i
    · subst c
      rw [if_pos rfl] at e ⊢
      rw [k.size] at e
      split at e
      · rename_i hl; cases e; exact ⟨v', by rw [if_pos hl], h⟩
      · cases e
    · rw [if_neg c] at e ⊢
      exact k.tmp i u e
theorem ActRel.yielded {r : Rho} {a a' : Act} (k : ActRel r a a') (ops : Array Oper) (j : Nat) : yielded ops a'.tmps j = yielded ops a.tmps j := by
  unfold Go.yielded
  cases h : (ops[j]?).bind (·.dst) with
  | none => rfl
  | some d =>
    simp only [Option.bind_some]
    cases e : a.tmps[d]? with
    | none =>
      have : a'.tmps[d]? = none := by
        rw [Array.getElem?_eq_none_iff] at e ⊢
        have := k.size
        omega
      rw [this]
    | some v =>
      obtain ⟨v', e', q⟩ := k.tmp d v e
      rw [e']
      cases v
      case bool b => rw [q.bool]
      case agg cs => obtain ⟨l', rfl, _⟩ := q.inv_agg; rfl
      case tuple cs => obtain ⟨l', rfl, _⟩ := q.inv_tuple; rfl
      case iface t u =>
        cases q with
        | one q => cases q with
          | one q => cases q; rfl
          | iface q => rfl
      all_goals
        cases q with
        | one q => cases q with
          | one q => cases q <;> rfl
theorem ActRel.wanted {r : Rho} {a a' : Act} (k : ActRel r a a') (ops : Array Oper) (o : Oper) : Region.wanted o (Go.yielded ops a'.tmps) = Region.wanted o (Go.yielded ops a.tmps) := by
  have : Go.yielded ops a'.tmps = Go.yielded ops a.tmps := funext (k.yielded ops)
  rw [this]
/-- what comes of it without a look at the world -/
def pureRun (P : Program) {α : Type} : Sem α → Option α
  | .pure a => some a
  | .program k => pureRun P (k P)
  | .mark _ k => pureRun P k
  | _ => none
theorem pureRun_run {P : Program} {α : Type} (s : Sem α) : ∀ {a : α}, pureRun P s = some a → ∀ w, s.run P w = .ok a w := by
  induction s with
  | pure a => intro b h w; cases h; rfl
  | program k ih => intro b h w; exact ih P h w
  | mark m k ih => intro b h w; exact ih h w
  | _ => intro b h; cases h
def notSelect : Op → Bool
  | .select .. => false
  | _ => true
def flatO (e : Operand → Option Value) (x : Operand) : Bool := match e x with | some v => flat v | none => false
def flatP (P : Program) (e : Operand → Option Value) (o : Oper) : Option Value :=
  if notSelect o.op && o.op.operands.toList.all (flatO e) then
    match pureRun P (execOp (fun x => (e x).getD undef) o) with
    | some (.value v) => if flat v then some v else none
    | _ => none
  else none
/-- operands as they are, and as the world has them -/
def OpsRel (r : Rho) (e : Operand → Option Value) (e' : Operand → Value) (o : Op) : Prop := ∀ x ∈ o.operands, ∀ v, e x = some v → VRel r v (e' x)
theorem flatP_sound {P : Program} {r : Rho} {e : Operand → Option Value} {e' : Operand → Value} {o : Oper} {v : Value} (h : flatP P e o = some v) (k : OpsRel r e e' o.op) :
    ∃ v', (∀ w, (execOp e' o).run P w = .ok (.value v') w) ∧ VRel r v v' := by
  unfold flatP at h
  split at h
  · rename_i c
    rw [Bool.and_eq_true] at c
    obtain ⟨c1, c2⟩ := c
    have hs : ∀ cs b, o.op ≠ .select cs b := by intro cs b q; rw [q] at c1; cases c1
    have he : execOp e' o = execOp (fun x => (e x).getD undef) o := by
      refine execOp_congr o hs fun x hx => ?_
      have := List.all_eq_true.1 c2 x (by simpa using hx)
      unfold flatO at this
      cases q : e x with
      | none => rw [q] at this; cases this
      | some u => rw [q] at this; simp only [Option.getD_some]; exact (k x hx u q).same this
    cases q : pureRun P (execOp (fun x => (e x).getD undef) o) with
    | none => rw [q] at h; cases h
    | some n =>
      rw [q] at h
      cases n with
      | value u =>
        simp only at h
        split at h
        · rename_i f
          cases h
          exact ⟨v, fun w => by rw [he]; exact pureRun_run _ q w, VRel.of_flat r f⟩
        · cases h
      | _ => cases h
  · cases h
def intO (e : Operand → Option Value) (x : Operand) : Option Int := match e x with | some (.int _ n) => some n | _ => none
/-- a bound of a slice, from 0 to y -/
def bndO (e : Operand → Option Value) (y d : Nat) : Option Operand → Option Nat
  | none => some d
  | some x => match e x with | some (.int _ n) => if 0 ≤ n ∧ n ≤ (y : Int) then some n.toNat else none | _ => none
def evSlice (e : Operand → Option Value) (b o len cap size : Nat) (sp : Option Nat) (lo hi mx : Option Operand) : Option Value :=
  match bndO e cap cap mx with
  | none => none
  | some m =>
    match bndO e m len hi with
    | none => none
    | some h =>
      match bndO e h 0 lo with
      | none => none
      | some l =>
        if mx.isSome && hi.isNone then none
        else if hi.isNone && decide (cap < len) then none
        else match sp, mx with
        | none, _ => some (.slice (some ⟨b, if m = l then o else o + l * size, none⟩) (h - l) (m - l))
        | some k, some _ => some (.slice (some ⟨b, if m = l then o else o + l * size, none⟩) (h - l) (m - l))
        | some k, none => if l = 0 then some (.slice (some ⟨b, o, some k⟩) h m) else if l < m then some (.slice (some ⟨b, o + l * size, some k⟩) (h - l) (m - l)) else none
/-- operations that only reckon, at values with addresses in them -/
def evS (P : Program) (e : Operand → Option Value) (o : Oper) : Option Value :=
  match o.op with
  | .move x | .assign x => e x
  | .nilCheck x => match e x with | some (.pointer (some ⟨b, f, none⟩)) => some (.pointer (some ⟨b, f, none⟩)) | _ => none
  | .extract x i => match e x with | some (.tuple ⟨l⟩) => l[i]? | _ => none
  | .fieldAddr s x f =>
    match e x, P.underlying s with
    | some (.pointer (some ⟨b, off, none⟩)), some (.struct fields) =>
      match fields[f]? with
      | some fl => if szOf P fl.type ≠ 0 then some (.pointer (some ⟨b, off + fl.offset, none⟩)) else none
      | none => none
    | _, _ => none
  | .field s x f =>
    match e x, P.underlying s with
    | some (.agg ⟨l⟩), some (.struct fields) =>
      match fields[f]? with
      | some fl =>
        match P.underlying fl.type with
        | some (.struct _) | some (.array _ _) => match P.info? fl.type with | some i => if fl.offset + i.size ≤ l.length then some (.agg ⟨(l.drop fl.offset).take i.size⟩) else none | none => none
        | some _ => l[fl.offset]?
        | none => none
      | none => none
    | _, _ => none
  | .indexAddr t x ix =>
    match e ix with
    | some (.int _ i) =>
      match e x, P.underlying t with
      | some (.slice (some ⟨b, off, _⟩) len _), some (.slice el) => if 0 ≤ i ∧ i < (len : Int) ∧ szOf P el ≠ 0 then some (.pointer (some ⟨b, off + i.toNat * szOf P el, none⟩)) else none
      | some (.pointer (some ⟨b, off, none⟩)), some (.array len el) => if 0 ≤ i ∧ i < (len : Int) ∧ szOf P el ≠ 0 then some (.pointer (some ⟨b, off + i.toNat * szOf P el, none⟩)) else none
      | _, _ => none
    | _ => none
  | .slice t x lo hi mx =>
    match e x, P.underlying t with
    | some (.slice (some ⟨b, off, sp⟩) len cap), some (.slice el) => if szOf P el ≠ 0 then evSlice e b off len cap (szOf P el) sp lo hi mx else none
    | _, _ => none
  | .call c =>
    match c.callee, c.args.toList, c.argTypes.toList with
    | .builtin .len, [x], [t] =>
      match e x, P.underlying t with
      | some (.slice (some _) len _), some (.slice _) => some (.int .i64 len)
      | _, _ => none
    | _, _, _ => none
  | _ => none
theorem szOf_info {P : Program} {t : TypeId} (h : szOf P t ≠ 0) : ∃ i, P.info? t = some i ∧ i.size = szOf P t := by
  unfold szOf at h ⊢
  cases q : P.info? t with
  | none => rw [q] at h; exact absurd rfl h
  | some i => exact ⟨i, rfl, rfl⟩
theorem add_plain (b o n : Nat) : (⟨b, o, none⟩ : Addr).add n = ⟨b, o + n, none⟩ := by unfold Addr.add; split <;> simp_all
theorem VRel.of1 {r : Rho} {v v' : Value} (h : VR1 r v v') : VRel r v v' := .one (.one h)
theorem bnd_run {P : Program} {r : Rho} {e : Operand → Option Value} {e' : Operand → Value} {y y' m : Nat} {x : Operand} (hk : ∀ v, e x = some v → VRel r v (e' x)) (h : (match e x with | some (.int _ n) => if 0 ≤ n ∧ n ≤ (y : Int) then some n.toNat else none | _ => none) = some m) (hy : y ≤ y') (code : BoundsCode) (w : World) :
    (Instr.sliceBound (e' x) y' code).run P w = .ok m w ∧ m ≤ y := by
  cases q : e x with
  | none => rw [q] at h; cases h
  | some v =>
    rw [q] at h
    cases v with
    | int k n =>
      simp only at h
      split at h
      · rename_i c
        cases h
        have := hk _ q
        rw [this.int]
        refine ⟨?_, by omega⟩
        simp [Instr.sliceBound, asIntOf, show 0 ≤ n ∧ n ≤ (y' : Int) by omega]
      · cases h
    | _ => cases h
theorem evSlice_sound {P : Program} {r : Rho} {e : Operand → Option Value} {e' : Operand → Value} {t el : TypeId} {x : Operand} {b off len cap : Nat} {sp : Option Nat} {lo hi mx : Option Operand} {v : Value}
    (ht : P.underlying t = some (.slice el)) (hx : VRel r (.slice (some ⟨b, off, sp⟩) len cap) (e' x)) (hk : ∀ y ∈ lo.toArray ++ hi.toArray ++ mx.toArray, ∀ v, e y = some v → VRel r v (e' y)) (hz : szOf P el ≠ 0) (h : evSlice e b off len cap (szOf P el) sp lo hi mx = some v) :
    ∃ v', (∀ w, (Instr.sliceAt t (e' x) (lo.map e') (hi.map e') (mx.map e')).run P w = .ok v' w) ∧ VRel r v v' := by
  obtain ⟨i, hi1, hi2⟩ := szOf_info hz
  generalize szOf P el = size at *
  obtain ⟨g, s, hg, c', hx', hle, hsp⟩ : ∃ g s, r[b]? = some (some (g, s)) ∧ ∃ c', e' x = .slice (some ⟨g, off, none⟩) len c' ∧ cap ≤ c' ∧ ((sp = none ∧ c' = cap) ∨ (∃ k, sp = some k ∧ c' = cap + s)) := by
    cases sp with
    | none => obtain ⟨g, s, h1, h2⟩ := hx.inv_slice; exact ⟨g, s, h1, cap, h2, Nat.le_refl _, Or.inl ⟨rfl, rfl⟩⟩
    | some k => obtain ⟨g, s, h1, h2⟩ := hx.inv_loose; exact ⟨g, s, h1, cap + s, h2, by omega, Or.inr ⟨k, rfl, rfl⟩⟩
  have run : ∀ (m m' h0 l : Nat), (∀ w, (Instr.sliceBounds true len c' (lo.map e') (hi.map e') (mx.map e')).run P w = .ok (l, h0, m') w) →
      ∀ w, (Instr.sliceAt t (e' x) (lo.map e') (hi.map e') (mx.map e')).run P w = .ok (.slice (some ⟨g, if m' = l then off else off + l * size, none⟩) (h0 - l) (m' - l)) w := by
    intro m m' h0 l hb w
    rw [hx']
    simp only [Instr.sliceAt, Sem.run_bind, run_underlying ht, Result.andThen_ok, Instr.slice, hb w, sizeOf, typeInfo, program, hi1, hi2]
    by_cases c : m' = l
    · simp [c, hi1, hi2, Sem.run]
    · simp [c, hi1, hi2, Sem.run, add_plain]
  unfold evSlice at h
  cases qm : bndO e cap cap mx with
  | none => rw [qm] at h; cases h
  | some m =>
    rw [qm] at h
    simp only at h
    cases qh : bndO e m len hi with
    | none => rw [qh] at h; cases h
    | some h0 =>
      rw [qh] at h
      simp only at h
      cases ql : bndO e h0 0 lo with
      | none => rw [ql] at h; cases h
      | some l =>
        rw [ql] at h
        simp only at h
        split at h
        · cases h
        · rename_i nc
          split at h
          · cases h
          · rename_i nd
            -- the bounds, as the world reckons them
            have low : ∀ w y code, lo = some y → (Instr.sliceBound (e' y) h0 code).run P w = .ok l w := by
              intro w y code hy
              subst hy
              exact (bnd_run (hk y (by simp)) ql (Nat.le_refl _) code w).1
            cases mx with
            | some ymx =>
              cases hi with
              | none => simp at nc
              | some yhi =>
                have bm := fun w => bnd_run (P := P) (hk ymx (by simp)) qm hle .slice3Acap w
                have bh := fun w => bnd_run (P := P) (hk yhi (by simp)) qh (Nat.le_refl _) .slice3B w
                have hb : ∀ w, (Instr.sliceBounds true len c' (lo.map e') (some (e' yhi)) (some (e' ymx))).run P w = .ok (l, h0, m) w := by
                  intro w
                  have := low w
                  simp only [Instr.sliceBounds, Sem.run_bind, (bm w).1, (bh w).1, Result.andThen_ok, if_true, Option.isSome_some]
                  cases lo with
                  | none => simp only [bndO] at ql; cases ql; simp
                  | some y => simp [this y _ rfl]
                have rr := run m m h0 l hb
                refine ⟨_, rr, ?_⟩
                cases sp with
                | none => simp only at h; cases h; exact .of1 (.exact hg)
                | some k => simp only at h; cases h; exact .of1 (.exact hg)
            | none =>
              simp only [bndO] at qm
              cases qm
              have bh : ∀ w, (match hi.map e' with | some v => Instr.sliceBound v c' .sliceAcap | none => pure len : Sem Nat).run P w = .ok h0 w := by
                intro w
                cases hi with
                | none => simp only [bndO] at qh; cases qh; rfl
                | some y => exact (bnd_run (hk y (by simp)) qh hle _ w).1
              have hb : ∀ w, (Instr.sliceBounds true len c' (lo.map e') (hi.map e') none).run P w = .ok (l, h0, c') w := by
                intro w
                have b1 := bh w
                have b2 := low w
                simp only [Instr.sliceBounds, Sem.run_bind, Sem.run_pure, Result.andThen_ok]
                cases hi with
                | none =>
                  simp only [bndO] at qh; cases qh
                  cases lo with
                  | none => simp only [bndO] at ql; cases ql; simp
                  | some y => simp [b2 y _ rfl]
                | some y' =>
                  simp only [Option.map_some] at b1
                  cases lo with
                  | none => simp only [bndO] at ql; cases ql; simp [b1]
                  | some y => simp [b1, b2 y _ rfl]
              have rr := run cap c' h0 l hb
              refine ⟨_, rr, ?_⟩
              rcases hsp with ⟨rfl, rfl⟩ | ⟨k, rfl, rfl⟩
              · simp only at h; cases h; exact .of1 (.exact hg)
              · simp only at h
                split at h
                · rename_i l0
                  subst l0
                  cases h
                  simp only [Nat.sub_zero, Nat.zero_mul, Nat.add_zero, ite_self]
                  exact .of1 (.loose hg)
                · split at h
                  · rename_i c1 c2
                    cases h
                    rw [if_neg (by omega), show cap + s - l = (cap - l) + s by omega]
                    exact .of1 (.loose hg)
                  · cases h
end Go.Proofs.YtgaigfmboomnkaaGreat
