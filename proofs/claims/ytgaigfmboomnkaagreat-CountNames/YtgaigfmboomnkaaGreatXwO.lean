/-
  OWN TEXT: an evaluator made for the kernel: regions whose order is drawn: the order that was looked at stands for all.
-/
import Derived.Test.YtgaigfmboomnkaaGreatXwN
namespace Go.Proofs.YtgaigfmboomnkaaGreat
open Go.RowKit
set_option linter.unusedVariables false
set_option linter.unusedSimpArgs false
section
variable {K : Caller} {P : Program} {ops : Array Oper} {T : Tab} {bl td : List Nat}
/-- steps in an order, and what is looked at again -/
def Chain (K : Caller) (P : Program) (ops : Array Oper) (T : Tab) : List (Nat × List Nat) → St → St → Prop
  | [], s, F => s = F
  | (i, ws) :: rest, s, F => ∃ s', stI K P ops T i s = some s' ∧ (∀ w ∈ ws, Hd P ops w s') ∧ Chain K P ops T rest s' F
/-- the table tells just the new blocks that are listed -/
def TabOk (ops : Array Oper) (T : Tab) (td : List Nat) : Prop := ∀ i, (tvAt T i).isSome = memN td i ∧ (memN td i = true → ∃ o, ops[i]? = some o ∧ isN o.op = true)
theorem stI_put {i : Nat} {s s' : St} {o : Oper} (ho : ops[i]? = some o) (h : stI K P ops T i s = some s') : ∃ u, s'.1 = s.1.put o.dst u := by
  unfold stI at h
  rw [ho] at h
  simp only at h
  unfold stepT at h
  split at h
  · exact stepA_put h
  · split at h
    · split at h
      · cases h; exact ⟨_, rfl⟩
      · cases h
    · cases h; exact ⟨_, rfl⟩
theorem light_step {i : Nat} {s s' : St} {o : Oper} (ho : ops[i]? = some o) (hl : lightB (tvAt T i) o.op = true) (h : stI K P ops T i s = some s') : ∃ u, s' = (s.1.put o.dst u, s.2) := by
  unfold stI at h
  rw [ho] at h
  simp only at h
  unfold stepT at h
  split at h
  · rename_i q
    rw [q] at hl
    unfold stepA at h
    split at h
    · cases z : evOp K P s.2 (evalO s.1) o with
      | none => rw [z] at h; cases h
      | some x =>
        obtain ⟨v, A'⟩ := x
        rw [z] at h
        cases h
        have : A' = s.2 := evOp_keeps (by simp [lightB] at hl; simp [hl]) z
        subst this
        exact ⟨v, rfl⟩
    · cases h; exact ⟨undef, rfl⟩
  · split at h
    · split at h
      · cases h; exact ⟨_, rfl⟩
      · cases h
    · cases h; exact ⟨_, rfl⟩
theorem read_step {i : Nat} {s s' : St} {o : Oper} (ho : ops[i]? = some o) (hR : isR o.op = true) (hT : tvAt T i = none) (h : stI K P ops T i s = some s') : ∃ u, s' = (s.1.put o.dst u, s.2) ∧ (Region.wanted o (yielded ops s.1.tmps) = true → evR P s.2 (evalO s.1) o = some u) ∧ (Region.wanted o (yielded ops s.1.tmps) = false → u = undef) := by
  unfold stI at h
  rw [ho] at h
  simp only [hT, stepT] at h
  unfold stepA at h
  split at h
  · rename_i hw
    rw [evOp_R hR] at h
    cases z : evR P s.2 (evalO s.1) o with
    | none => rw [z] at h; cases h
    | some x => rw [z] at h; cases h; exact ⟨x, rfl, fun _ => rfl, fun q => by rw [hw] at q; cases q⟩
  · rename_i hw
    cases h
    exact ⟨undef, rfl, fun q => absurd q hw, fun _ => rfl⟩
/-- a read and another one, either way round, where it is there still -/
theorem swap_R {oi oj : Oper} (hap : oi.apart ops oj = true) (hR : isR oi.op = true) {tj : Option Td} {a : Act} {A : Mem} {u : Value} (hu : Region.wanted oi (yielded ops a.tmps) = false → u = undef) {sij : St} (h2 : stepT K P ops tj oj (a.put oi.dst u, A) = some sij)
    (hd : ∃ d, oi.dst = some d ∧ d ∉ oi.looksAt ops ∧ (Region.wanted oi (yielded ops sij.1.tmps) = true → ∃ v, evR P sij.2 (evalO sij.1) oi = some v ∧ sij.1.tmps[d]? = some v)) (hsz : ∀ d, oi.dst = some d → d < a.tmps.size) :
    ∃ sj, stepT K P ops tj oj (a, A) = some sj ∧ stepT K P ops none oi sj = some sij := by
  obtain ⟨p1, p2, p3⟩ := Oper.apart_spec hap
  obtain ⟨vj, B, e1, e2⟩ : ∃ vj B, stepT K P ops tj oj (a, A) = some (a.put oj.dst vj, B) ∧ sij = ((a.put oi.dst u).put oj.dst vj, B) := by
    cases tj with
    | some v =>
      simp only [stepT] at h2 ⊢
      rw [wanted_put oj a oi.dst u p1, evN_put oj a oi.dst u p1] at h2
      split at h2
      · rename_i c
        split at h2
        · rename_i d; cases h2; exact ⟨v.1, A, by rw [if_pos c, if_pos d], rfl⟩
        · cases h2
      · rename_i c; cases h2; exact ⟨undef, A, by rw [if_neg c], rfl⟩
    | none =>
      simp only [stepT] at h2 ⊢
      unfold stepA at h2 ⊢
      simp only at h2 ⊢
      rw [wanted_put oj a oi.dst u p1, evOp_put oj a oi.dst u p1] at h2
      split at h2
      · rename_i c
        rw [if_pos c]
        cases q : evOp K P A (evalO a) oj with
        | none => rw [q] at h2; cases h2
        | some x => rw [q] at h2; cases h2; exact ⟨x.1, x.2, rfl, rfl⟩
      · rename_i c
        rw [if_neg c]
        cases h2
        exact ⟨undef, A, rfl, rfl⟩
  refine ⟨_, e1, ?_⟩
  subst e2
  obtain ⟨d, k1, k2, k3⟩ := hd
  have own : ∀ d', oi.dst = some d' → d' ∉ oi.looksAt ops := fun d' q => by rw [k1] at q; cases q; exact k2
  have w1 : Region.wanted oi (yielded ops (a.put oj.dst vj).tmps) = Region.wanted oi (yielded ops a.tmps) := wanted_put oi a oj.dst vj p3
  have w2 : Region.wanted oi (yielded ops ((a.put oi.dst u).put oj.dst vj).tmps) = Region.wanted oi (yielded ops a.tmps) := by
    rw [wanted_put oi (a.put oi.dst u) oj.dst vj p3, wanted_put oi a oi.dst u own]
  simp only [stepT]
  unfold stepA
  simp only
  rw [w1]
  cases hw : Region.wanted oi (yielded ops a.tmps) with
  | false =>
    rw [if_neg (by decide), hu hw]
    rw [Act.put_comm a undef vj p2]
  | true =>
    obtain ⟨v, k3, k4⟩ := k3 (by rw [w2]; exact hw)
    have hne : oj.dst ≠ some d := p2 d k1
    have hv : v = u := by
      have : ((a.put oi.dst u).put oj.dst vj).tmps[d]? = some u := by
        have e : (a.put oi.dst u).tmps[d]? = some u := by
          rw [k1, put_get (hsz d k1), if_pos rfl]
        cases q : oj.dst with
        | none => exact e
        | some d' =>
          have hd' : d' ≠ d := fun x => hne (by rw [q, x])
          simp only [Act.put, Array.getElem?_setIfInBounds_ne hd']
          exact e
      rw [this] at k4
      exact (Option.some.inj k4).symm
    subst hv
    have hev : evR P B (evalO (a.put oj.dst vj)) oi = some v := by
      rw [← k3]
      refine evR_congr fun x hx => ?_
      have e1 : evalO ((a.put oi.dst v).put oj.dst vj) x = evalO (a.put oi.dst v) x := evalO_put fun d' hd' hxd => p3 d' hd' (by exact List.mem_append_left _ (List.mem_filterMap.2 ⟨.tmp d', by rw [← hxd]; simpa using hx, rfl⟩))
      have e2 : evalO (a.put oi.dst v) x = evalO a x := evalO_put fun d' hd' hxd => own d' hd' (by exact List.mem_append_left _ (List.mem_filterMap.2 ⟨.tmp d', by rw [← hxd]; simpa using hx, rfl⟩))
      have e3 : evalO (a.put oj.dst vj) x = evalO a x := evalO_put fun d' hd' hxd => p3 d' hd' (by exact List.mem_append_left _ (List.mem_filterMap.2 ⟨.tmp d', by rw [← hxd]; simpa using hx, rfl⟩))
      show evalO (a.put oj.dst vj) x = evalO ((a.put oi.dst v).put oj.dst vj) x
      rw [e1, e2, e3]
    rw [if_pos rfl, evOp_R hR]
    simp only [hev, Option.map_some]
    rw [Act.put_comm a v vj p2]
end
end Go.Proofs.YtgaigfmboomnkaaGreat
