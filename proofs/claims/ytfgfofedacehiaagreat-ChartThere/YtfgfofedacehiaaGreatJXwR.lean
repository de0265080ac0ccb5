/-
 OWN TEXT: an evaluator made for the kernel: regions whose order is drawn: new blocks told ahead; the whole region.
-/
import Derived.Test.YtfgfofedacehiaaGreatJXwPToXwQ
namespace Go.Proofs.YtfgfofedacehiaaGreat
open Go.RowKit
set_option linter.unusedVariables false
set_option linter.unusedSimpArgs false
section
variable {P : Program} {Ks Kp : Caller} {kp : List Nat} {nt : Nat} {ops : Array Oper}
theorem evOp_N {K : Caller} {A : Mem} {e : Operand → Option Value} {o : Oper} (h : isN o.op = true) : evOp K P A e o = (evN P A.length e o).map fun x => (x.1, A ++ [some x.2]) := by
 obtain ⟨dst, op, type, pos, after, guard⟩ := o
 cases op <;> first | rfl | cases h
theorem evR_more {A Y : Mem} {e : Operand → Option Value} {o : Oper} {v : Value} (h : evR P A e o = some v) : evR P (A ++ Y) e o = some v := by
 obtain ⟨dst, op, type, pos, after, guard⟩ := o
 cases op
 case load t x =>
  simp only [evR] at h ⊢
  split at h
  ·
   rename_i b off q
   have key : ∀ z, A[b]? = some z → (A ++ Y)[b]? = some z := fun z hz => by rw [List.getElem?_append_left (some_lt hz)]; exact hz
   cases hb : A[b]? with
   | none => rw [hb] at h; cases h
   | some z => rw [hb] at h; rw [key z hb]; exact h
  · cases h
 all_goals cases h
theorem chain_app {T : Tab} : ∀ (l m : List (Nat × List Nat)) (s F : St), Chain Ks P ops T (l ++ m) s F ↔ ∃ s1, Chain Ks P ops T l s s1 ∧ Chain Ks P ops T m s1 F
 | [], m, s, F => ⟨fun h => ⟨s, rfl, h⟩, fun ⟨s1, h1, h2⟩ => by cases h1; exact h2⟩
 | (i, ws) :: l, m, s, F => by
  constructor
  ·
   rintro ⟨s', h1, h2, h3⟩
   obtain ⟨s1, k1, k2⟩ := (chain_app l m s' F).1 h3
   exact ⟨s1, ⟨s', h1, h2, k1⟩, k2⟩
  ·
   rintro ⟨s1, ⟨s', h1, h2, k1⟩, k2⟩
   exact ⟨s', h1, h2, (chain_app l m s' F).2 ⟨s1, k1, k2⟩⟩
theorem chain_same {T T' : Tab} : ∀ (l : List (Nat × List Nat)) (s F : St), (∀ x ∈ l, tvAt T x.1 = tvAt T' x.1) → Chain Ks P ops T l s F → Chain Ks P ops T' l s F
 | [], s, F, _, h => h
 | (i, ws) :: l, s, F, hx, ⟨s', h1, h2, h3⟩ => ⟨s', by
   have := hx (i, ws) (by simp)
   unfold stI at h1 ⊢
   rw [← this]
   exact h1, h2, chain_same l s' F (fun x hm => hx x (by simp [hm])) h3⟩
/-- the blocks that are told, with their numbers -/
def tabOf : Nat → List (Nat × Value × Blk) → Tab
 | _, [] => []
 | n, (i, v, b) :: l => (i, v, n, b) :: tabOf (n + 1) l
theorem tabOf_none : ∀ (X : List (Nat × Value × Blk)) (n i : Nat), i ∉ X.map (·.1) → tabAt (tabOf n X) i = none
 | [], n, i, _ => rfl
 | (j, v, b) :: X, n, i, h => by
  rw [List.map_cons, List.mem_cons, not_or] at h
  simp only [tabOf, tabAt]
  rw [if_neg (fun e => h.1 e.symm)]
  exact tabOf_none X (n + 1) i h.2
theorem tabOf_at : ∀ (X : List (Nat × Value × Blk)) (n : Nat), (X.map (·.1)).Nodup → ∀ (k i : Nat) (v : Value) (b : Blk), X[k]? = some (i, v, b) → tabAt (tabOf n X) i = some (v, n + k, b)
 | [], n, _, k, i, v, b, h => by cases h
 | (j, u, c) :: X, n, hn, k, i, v, b, h => by
  rw [List.map_cons, List.nodup_cons] at hn
  simp only [tabOf, tabAt]
  cases k with
  | zero => simp at h; obtain ⟨rfl, rfl, rfl⟩ := h; rw [if_pos rfl]; rfl
  | succ k =>
   rw [List.getElem?_cons_succ] at h
   have hne : j ≠ i := fun q => hn.1 (by rw [q]; exact List.mem_map.2 ⟨(i, v, b), List.mem_of_getElem? h, rfl⟩)
   rw [if_neg hne, tabOf_at X (n + 1) hn.2 k i v b h, show n + 1 + k = n + (k + 1) by omega]
theorem tabOf_inv : ∀ (X : List (Nat × Value × Blk)) (n i : Nat) (v : Value) (p : Nat) (b : Blk), tabAt (tabOf n X) i = some (v, p, b) → ∃ k, p = n + k ∧ X[k]? = some (i, v, b)
 | [], n, i, v, p, b, h => by cases h
 | (j, u, c) :: X, n, i, v, p, b, h => by
  simp only [tabOf, tabAt] at h
  split at h
  · rename_i q; cases h; subst q; exact ⟨0, rfl, rfl⟩
  ·
   obtain ⟨k, h1, h2⟩ := tabOf_inv X (n + 1) i v p b h
   exact ⟨k + 1, by omega, h2⟩
/-- what comes first, with its blocks told ahead -/
theorem retell {td : List Nat} : ∀ (l : List Nat) (A : Mem) (ac : Act) (s1 : St), (∀ i ∈ l, okI ops td i = true) → Chain Ks P ops [] (l.map fun i => (i, ([] : List Nat))) (ac, A) s1 →
  ∃ X : List (Nat × Value × Blk), s1.2 = A ++ X.map (fun x => some x.2.2) ∧ X.map (·.1) = l.filter (memN td) ∧
   ∀ (Tf : Tab) (Z : Mem), (∀ (k i : Nat) (v : Value) (b : Blk), X[k]? = some (i, v, b) → tabAt Tf i = some (v, A.length + k, b)) → (∀ i ∈ l, memN td i = false → tabAt Tf i = none) → Chain Ks P ops Tf (l.map fun i => (i, ([] : List Nat))) (ac, s1.2 ++ Z) (s1.1, s1.2 ++ Z)
 | [], A, ac, s1, _, h => by
  cases h
  exact ⟨[], by simp, rfl, fun Tf Z _ _ => rfl⟩
 | i :: l, A, ac, s1, hok, h => by
  obtain ⟨s', hs, _, hch⟩ := h
  have hi := hok i (by simp)
  unfold okI at hi
  rw [opAt_eq] at hi
  unfold stI at hs
  cases ho : ops[i]? with
  | none => rw [ho] at hi; cases hi
  | some o =>
   rw [ho] at hi hs
   simp only at hi hs
   have hs : stepA Ks P ops o (ac, A) = some s' := hs
   cases htd : memN td i with
   | true =>
    rw [htd, cond_true, Bool.and_eq_true] at hi
    have hg : o.guard = none := by simpa using hi.2
    unfold stepA at hs
    have hw : Region.wanted o (yielded ops ac.tmps) = true := by unfold Region.wanted; rw [hg]
    simp only [hw, if_true] at hs
    rw [evOp_N hi.1] at hs
    cases z : evN P A.length (evalO ac) o with
    | none => rw [z] at hs; cases hs
    | some x =>
     obtain ⟨v, b⟩ := x
     rw [z] at hs
     cases hs
     obtain ⟨X, k1, k2, k3⟩ := retell l (A ++ [some b]) (ac.put o.dst v) s1 (fun j hj => hok j (by simp [hj])) hch
     refine ⟨(i, v, b) :: X, by rw [k1]; simp, by rw [List.filter_cons, htd]; simp [k2], fun Tf Z h1 h2 => ?_⟩
     refine ⟨(ac.put o.dst v, s1.2 ++ Z), ?_, fun w hw => (by cases hw), ?_⟩
     ·
      have ht := h1 0 i v b rfl
      unfold stI
      rw [ho]
      show stepT Ks P ops (tabAt Tf i) o _ = _
      rw [ht]
      simp only [stepT, hw, if_true]
      rw [if_pos (by simpa using z)]
     ·
      refine k3 Tf Z (fun k j u c hx => ?_) (fun j hj => h2 j (by simp [hj]))
      rw [h1 (k + 1) j u c (by simpa using hx)]
      simp
      omega
   | false =>
    rw [htd, cond_false] at hi
    obtain ⟨u, hu⟩ : ∃ u, s' = (ac.put o.dst u, A) ∧ ∀ Y : Mem, stepA Ks P ops o (ac, A ++ Y) = some (ac.put o.dst u, A ++ Y) := by
     unfold stepA at hs
     simp only at hs
     cases hw : Region.wanted o (yielded ops ac.tmps) with
     | false =>
      rw [hw, if_neg (by decide)] at hs
      cases hs
      exact ⟨undef, rfl, fun Y => by unfold stepA; simp only [hw]; rfl⟩
     | true =>
      rw [hw, if_pos rfl] at hs
      rw [Bool.or_eq_true] at hi
      rcases hi with hi | hi
      ·
       obtain ⟨u, hu⟩ := evOp_P (K := Ks) (P := P) (A := A) (e := evalO ac) hi
       rw [hu A] at hs
       cases u with
       | none => cases hs
       | some u => cases hs; exact ⟨u, rfl, fun Y => by unfold stepA; simp only [hw, if_true]; rw [hu]; rfl⟩
      ·
       rw [evOp_R hi] at hs
       cases q : evR P A (evalO ac) o with
       | none => rw [q] at hs; cases hs
       | some u => rw [q] at hs; cases hs; exact ⟨u, rfl, fun Y => by unfold stepA; simp only [hw, if_true]; rw [evOp_R hi, evR_more q]; rfl⟩
    obtain ⟨hu1, hu2⟩ := hu
    subst hu1
    obtain ⟨X, k1, k2, k3⟩ := retell l A (ac.put o.dst u) s1 (fun j hj => hok j (by simp [hj])) hch
    refine ⟨X, k1, by rw [List.filter_cons, htd]; simpa using k2, fun Tf Z h1 h2 => ?_⟩
    refine ⟨(ac.put o.dst u, s1.2 ++ Z), ?_, fun w hw => (by cases hw), k3 Tf Z h1 (fun j hj => h2 j (by simp [hj]))⟩
    have ht := h2 i (by simp) htd
    unfold stI
    rw [ho]
    show stepT Ks P ops (tabAt Tf i) o _ = _
    rw [ht]
    show stepA Ks P ops o (ac, s1.2 ++ Z) = _
    rw [k1, List.append_assoc]
    exact hu2 _
/-- blocks are told that the world has not laid yet -/
theorem Rel.tellAll {w0 w : World} : ∀ (X : List (Nat × Value × Blk)) {r : Rho} {A : Mem}, Rel P w0 r A w → Rel P w0 (r ++ List.replicate X.length none) (A ++ X.map (fun x => some x.2.2)) w
 | [], r, A, h => by simpa using h
 | x :: X, r, A, h => by
  have := Rel.tellAll X (h.tell x.2.2)
  simpa [List.replicate_succ, List.append_assoc] using this
theorem chkO_nodup {bl td ix : List Nat} : ∀ (l : List (Nat × List Nat)) (S : Nat) (Rs : List Nat), chkO ops bl td ix l S Rs = true → (∀ x ∈ l, tb S x.1 = false) ∧ (l.map (·.1)).Nodup
 | [], S, Rs, _ => ⟨fun x h => (by cases h), List.nodup_nil⟩
 | (i, ws) :: l, S, Rs, h => by
  have h' : (match opAt ops i with
   | some o => bif tb S i then false else bif allR ix (fun j => bif tb (getN bl i) j then tb S j else true) then
     bif lightI ops td i o then chkO ops bl td ix l (Nat.lor S (Nat.pow 2 i)) Rs
     else bif isR o.op then chkO ops bl td ix l (Nat.lor S (Nat.pow 2 i)) (i :: Rs)
     else bif allR ix (fun j => bif tb S j then true else bif Nat.beq j i then true else tb (getN bl j) i) && allR Rs (fun w => bif tb (getN bl i) w then true else memN ws w) then chkO ops bl td ix l (Nat.lor S (Nat.pow 2 i)) Rs
     else false
    else false
   | none => false) = true := h
  cases ho : opAt ops i with
  | none => rw [ho] at h'; cases h'
  | some o =>
   rw [ho] at h'
   simp only at h'
   cases hS : tb S i with
   | true => rw [hS] at h'; cases h'
   | false =>
    rw [hS, cond_false] at h'
    cases ha : allR ix (fun j => bif tb (getN bl i) j then tb S j else true) with
    | false => rw [ha] at h'; cases h'
    | true =>
     rw [ha, cond_true] at h'
     have fin : ∀ Rs', chkO ops bl td ix l (Nat.lor S (Nat.pow 2 i)) Rs' = true → (∀ x ∈ (i, ws) :: l, tb S x.1 = false) ∧ (((i, ws) :: l).map (·.1)).Nodup := by
      intro Rs' hc
      obtain ⟨k1, k2⟩ := chkO_nodup l _ Rs' hc
      refine ⟨fun x hx => ?_, ?_⟩
      ·
       rcases List.mem_cons.1 hx with e | e
       · subst e; exact hS
       ·
        have := k1 x e
        rw [tb_lor, Bool.or_eq_false_iff] at this
        exact this.1
      ·
       rw [List.map_cons, List.nodup_cons]
       refine ⟨fun hm => ?_, k2⟩
       obtain ⟨x, hx, e⟩ := List.mem_map.1 hm
       have := k1 x hx
       rw [e, tb_lor, tb_pow, decide_eq_true rfl, Bool.or_true] at this
       cases this
     cases hl : lightI ops td i o with
     | true => rw [hl, cond_true] at h'; exact fin _ h'
     | false =>
      rw [hl, cond_false] at h'
      cases hR : isR o.op with
      | true => rw [hR, cond_true] at h'; exact fin _ h'
      | false =>
       rw [hR, cond_false] at h'
       cases hE : (allR ix (fun j => bif tb S j then true else bif Nat.beq j i then true else tb (getN bl j) i) && allR Rs (fun w => bif tb (getN bl i) w then true else memN ws w)) with
       | false => rw [hE] at h'; cases h'
       | true => rw [hE, cond_true] at h'; exact fin _ h'
theorem chainP_app {T : Tab} : ∀ (l m : List (Nat × List Nat)) (s : St) (pv : Value) (A : Mem), ChainP Ks Kp P ops T (l ++ m) s pv A ↔ ChainP Ks Kp P ops T l s pv A ∨ ∃ s1, Chain Ks P ops T l s s1 ∧ ChainP Ks Kp P ops T m s1 pv A
 | [], m, s, pv, A => ⟨fun h => Or.inr ⟨s, rfl, h⟩, fun h => h.elim False.elim fun ⟨s1, e, h⟩ => by cases e; exact h⟩
 | (i, ws) :: l, m, s, pv, A => by
  constructor
  ·
   rintro (h | ⟨s', h1, h2, h3⟩)
   · exact Or.inl (Or.inl h)
   ·
    rcases (chainP_app l m s' pv A).1 h3 with h | ⟨s1, h4, h5⟩
    · exact Or.inl (Or.inr ⟨s', h1, h2, h⟩)
    · exact Or.inr ⟨s1, ⟨s', h1, h2, h4⟩, h5⟩
  ·
   rintro ((h | ⟨s', h1, h2, h3⟩) | ⟨s1, ⟨s', h1, h2, h4⟩, h5⟩)
   · exact Or.inl h
   · exact Or.inr ⟨s', h1, h2, (chainP_app l m s' pv A).2 (Or.inl h3)⟩
   · exact Or.inr ⟨s', h1, h2, (chainP_app l m s' pv A).2 (Or.inr ⟨s1, h4, h5⟩)⟩
theorem chainP_same {T T' : Tab} : ∀ (l : List (Nat × List Nat)) (s : St) (pv : Value) (A : Mem), (∀ x ∈ l, tvAt T x.1 = tvAt T' x.1) → ChainP Ks Kp P ops T l s pv A → ChainP Ks Kp P ops T' l s pv A
 | [], s, pv, A, _, h => h
 | (i, ws) :: l, s, pv, A, he, h => by
  rcases h with h | ⟨s', h1, h2, h3⟩
  · exact Or.inl h
  ·
   refine Or.inr ⟨s', ?_, h2, chainP_same l s' pv A (fun x hx => he x (by simp [hx])) h3⟩
   have := he (i, ws) (by simp)
   unfold stI at h1 ⊢
   simp only at this
   rw [← this]
   exact h1
theorem chainP_quiet {T : Tab} {td : List Nat} : ∀ (l : List Nat) (s : St) (pv : Value) (A : Mem), (∀ i ∈ l, okI ops td i = true) → ¬ ChainP Ks Kp P ops T (l.map fun i => (i, ([] : List Nat))) s pv A
 | [], s, pv, A, _, h => h
 | i :: l, s, pv, A, hl, h => by
  rcases h with ⟨o, ho, hw, hev⟩ | ⟨s', _, _, h3⟩
  ·
   obtain ⟨n1, n2, n3⟩ := pan_loud hev
   have := hl i (by simp)
   unfold okI at this
   rw [opAt_eq, ho] at this
   simp only [n1, n2, n3, Bool.false_and, Bool.or_self] at this
   cases q : memN td i with
   | false => rw [q] at this; cases this
   | true => rw [q] at this; cases this
  · exact chainP_quiet l s' pv A (fun j hj => hl j (by simp [hj])) h3
theorem quiet_ev {A : Mem} {e : Operand → Option Value} {o : Oper} {x : Value × Mem} (hq : quietO o = true) (h : evPan Kp P A e o = some x) : False := by
 unfold quietO at hq
 obtain ⟨dst, op, type, pos, after, guard⟩ := o
 cases op
 case panic y => cases hq
 case call c =>
  obtain ⟨callee, args, ts⟩ := c
  cases callee with
  | value f => cases hq
  | invoke x n => cases hq
  | _ => cases h
 all_goals cases h
theorem chainP_noisy {T : Tab} : ∀ (l : List (Nat × List Nat)) (s : St) (pv : Value) (A : Mem), (∀ o ∈ ops.toList, quietO o = true) → ¬ ChainP Ks Kp P ops T l s pv A
 | [], s, pv, A, _, h => h
 | (i, ws) :: l, s, pv, A, hl, h => by
  rcases h with ⟨o, ho, hw, hev⟩ | ⟨s', _, _, h3⟩
  · exact quiet_ev (hl o (by simpa using Array.mem_of_getElem? ho)) hev
  · exact chainP_noisy l s' pv A hl h3
theorem draw_reg {ex : Xn} (hex : XnOk P ex) (hB : KBody P Ks) (hB2 : KBody P Kp) (hK0 : KOk P Ks) (hK2 : KpOk P Kp) (hP : Plain P) (hm : P.follows .mixedOrders = true) (hkp : kp.length ≤ 64) {rt : List Nat} (hq : quiet ops.toList = true ∨ safeR rt ops.toList = true) {hint : Hint} {xr : XR} {env : Env} {n id : Nat} (h : trDraw P ex kp nt ops hint = some (xr, env, n)) : RegOk P Ks Kp rt kp nt xr env n (.region id ops true) := by
 unfold trDraw at h
 cases hdb : drawB ops nt hint (List.range ops.size) with
 | false => rw [hdb] at h; cases h
 | true =>
  rw [hdb, cond_true] at h
  unfold drawB at hdb
  simp only [Bool.and_eq_true] at hdb
  obtain ⟨⟨⟨⟨⟨⟨⟨⟨hlen, hchkd⟩, hnt⟩, hcb⟩, hca⟩, hcr⟩, hok⟩, htd⟩, hco⟩ := hdb
  have hlen := Nat.eq_of_beq_eq_true hlen
  have df := df_of hcb hca hcr
  intro C H T M k out a hK hM hn hT hk
  have tk0 : TabOk ops [] [] := fun i => ⟨rfl, fun q => by cases q⟩
  have core : ∀ s1 : St, Chain Ks P ops [] (hint.i1.map fun i => (i, ([] : List Nat))) (a, toMem M) s1 → ∃ (X : List (Nat × Value × Blk)) (Tf : Tab), s1.2 = toMem M ++ X.map (fun x => some x.2.2) ∧ TabOk ops Tf hint.td ∧ (∀ i, memN hint.td i = false → tabAt Tf i = none) ∧ Chain Ks P ops Tf (hint.i1.map fun i => (i, ([] : List Nat))) (a, s1.2) (s1.1, s1.2) ∧
    ∀ r : Rho, r.length = (toMem M).length → Inv Tf r (Array.replicate ops.size false) (a, s1.2) (r ++ List.replicate X.length none) := by
   intro s1 c1
   obtain ⟨X, x1, x2, x3⟩ := retell (td := hint.td) hint.i1 (toMem M) a s1 (fun i hi => allR_iff hok i hi) c1
   have hnd : ((itAll hint).map (·.1)).Nodup := (chkO_nodup _ _ _ hco).2
   have e1 : (itAll hint).map (·.1) = hint.i1 ++ hint.it.map (·.1) := by unfold itAll; simp [List.map_map, Function.comp_def]
   rw [e1] at hnd
   have hndX : (X.map (·.1)).Nodup := by rw [x2]; exact (List.nodup_append.1 hnd).1.filter _
   have memX : ∀ i, i ∈ X.map (·.1) ↔ memN hint.td i = true := by
    intro i
    rw [x2, List.mem_filter]
    refine ⟨fun q => q.2, fun q => ⟨?_, q⟩⟩
    have : i ∈ hint.td := by rw [memN_iff, decide_eq_true_eq] at q; exact q
    have := allR_iff htd i this
    rw [memN_iff, decide_eq_true_eq] at this
    exact this
   let Tf : Tab := tabOf (toMem M).length X
   have hnone : ∀ i, memN hint.td i = false → tabAt Tf i = none := fun i q => tabOf_none X _ i (fun z => by rw [(memX i).1 z] at q; cases q)
   have tk : TabOk ops Tf hint.td := by
    intro i
    cases q : memN hint.td i with
    | false => exact ⟨by unfold tvAt; rw [hnone i q]; rfl, fun z => by cases z⟩
    | true =>
     have hm' := (memX i).2 q
     obtain ⟨⟨j, v, b⟩, h1, h2⟩ := List.mem_map.1 hm'
     simp only at h2
     subst h2
     obtain ⟨kk, hkk⟩ := List.getElem?_of_mem h1
     refine ⟨by unfold tvAt; rw [tabOf_at X _ hndX kk j v b hkk]; rfl, fun _ => ?_⟩
     have hi1 : j ∈ hint.i1 := by
      have : j ∈ hint.i1.filter (memN hint.td) := by rw [← x2]; exact hm'
      exact (List.mem_filter.1 this).1
     have := allR_iff hok j hi1
     unfold okI at this
     rw [opAt_eq] at this
     cases ho : ops[j]? with
     | none => rw [ho] at this; cases this
     | some o =>
      rw [ho] at this
      simp only [q, cond_true, Bool.and_eq_true] at this
      exact ⟨o, rfl, this.1⟩
   have hc1 := x3 Tf [] (fun kk i v b hx => tabOf_at X _ hndX kk i v b hx) (fun i _ q => hnone i q)
   rw [List.append_nil] at hc1
   refine ⟨X, Tf, x1, tk, hnone, hc1, fun r hl => ⟨⟨_, rfl⟩, fun i v p b e => ?_, fun i j v u p b c e1 e2 => ?_⟩⟩
   ·
    obtain ⟨kk, rfl, hx⟩ := tabOf_inv X _ i v p b e
    refine ⟨by omega, fun _ => ⟨?_, ?_⟩⟩
    · rw [← hl, List.getElem?_append_right (by omega), Nat.add_sub_cancel_left, List.getElem?_replicate, if_pos (some_lt hx)]
    ·
     show s1.2[_]? = _
     rw [x1, List.getElem?_append_right (by omega), Nat.add_sub_cancel_left, List.getElem?_map, hx]
     rfl
   ·
    obtain ⟨k1', q1, hx1⟩ := tabOf_inv X _ i v p b e1
    obtain ⟨k2', q2, hx2⟩ := tabOf_inv X _ j u p c e2
    have : k1' = k2' := by omega
    subst this
    rw [hx1] at hx2
    cases hx2
    rfl
  have hsz : ∀ A : Mem, SzX ops (a, A) := by
   intro A i o d ho hdd
   have := allR_iff hchkd i (List.mem_range.2 (Array.getElem?_eq_some_iff.1 ho).1)
   simp only [opAt_eq, ho, hdd] at this
   rw [blt_iff, decide_eq_true_eq] at this
   show d < a.tmps.size
   rw [hn]
   exact this
  have dc0 : DC ops hint.bl (Array.replicate ops.size false) := by
   refine ⟨by simp, fun j i hj h1 _ => ?_⟩
   simp [hj] at h1
  have same : ∀ (Tf : Tab), (∀ i, memN hint.td i = false → tabAt Tf i = none) → ∀ x ∈ hint.it, tvAt ([] : Tab) x.1 = tvAt Tf x.1 := by
   intro Tf hnone x hx
   have := allR_iff hnt x hx
   have q : memN hint.td x.1 = false := by simpa using this
   unfold tvAt
   rw [hnone x.1 q]
   rfl
  rcases trDr_ok hex hB hB2 hkp tk0 (itAll hint) [] env 0 n xr h (fun x _ => rfl) C H T M r0 k out a hK hM hn (hT.env r0) hk with ⟨M', L', a', k1, k2, k3, k4, k5, k6⟩ | ⟨pv, M', k1, k2, k3⟩
  ·
   obtain ⟨s1, c1, c2⟩ := (chain_app (hint.i1.map fun i => (i, ([] : List Nat))) hint.it _ _).1 k3
   obtain ⟨X, Tf, x1, tk, hnone, hc1, hinv⟩ := core s1 c1
   have hc2 : Chain Ks P ops Tf hint.it (s1.1, s1.2) (a', toMem M') := chain_same (T := []) hint.it _ _ (same Tf hnone) c2
   have hchain : Chain Ks P ops Tf (itAll hint) (a, s1.2) (a', toMem M') := (chain_app _ _ _ _).2 ⟨(s1.1, s1.2), hc1, hc2⟩
   have habs := absW_any _ _ _ _ _ _ _ _ _ _ (chain_abs df tk _ 0 [] (Array.replicate ops.size false) (a, s1.2) [] hco dc0 (fun j hj => by rw [tb_zero]; simp [hj]) (fun w hw => by cases hw) (fun w hw => by cases hw) (hsz _) hchain)
   rw [hlen] at habs
   refine Or.inl ⟨M', L', a', k1, k2, k4, k5, k6, fun w0 r aw w ha hr => ?_⟩
   have hrel := Rel.tellAll X hr.drew
   rw [← x1] at hrel
   refine wp_region_any hm ?_
   have hle : r.le (r ++ List.replicate X.length none) := ⟨_, rfl⟩
   exact absT_sound hK0 hP _ _ (a, s1.2) habs (r ++ List.replicate X.length none) aw w.drew (ha.mono hle.wk) hrel (hinv r hr.len) (by show Keep r (toMem M) s1.2; rw [x1]; exact (Keep.refl r (toMem M)).push hr.len _) fun r' a2 w' h1 h2 h3 h4 => ⟨rfl, r', h1, h2, h3, h4⟩
  ·
   obtain ⟨s1, c1, c2⟩ := ((chainP_app (hint.i1.map fun i => (i, ([] : List Nat))) hint.it _ _ _).1 k3).resolve_left (chainP_quiet (td := hint.td) hint.i1 _ _ _ (fun i hi => allR_iff hok i hi))
   obtain ⟨X, Tf, x1, tk, hnone, hc1, hinv⟩ := core s1 c1
   have hc2 : ChainP Ks Kp P ops Tf hint.it (s1.1, s1.2) pv (toMem M') := chainP_same (T := []) hint.it _ _ _ (same Tf hnone) c2
   have hchain : ChainP Ks Kp P ops Tf (itAll hint) (a, s1.2) pv (toMem M') := (chainP_app _ _ _ _ _).2 (Or.inr ⟨(s1.1, s1.2), hc1, hc2⟩)
   have habs := chain_absP df tk _ 0 [] (Array.replicate ops.size false) (a, s1.2) [] hco dc0 (fun j hj => by rw [tb_zero]; simp [hj]) (fun w hw => by cases hw) (fun w hw => by cases hw) (hsz _) hchain
   rw [hlen] at habs
   refine Or.inr ⟨pv, M', k1, k2, fun w0 r aw w ha hr => ?_⟩
   have hrel := Rel.tellAll X hr.drew
   rw [← x1] at hrel
   refine wp_region_any hm ?_
   have hle : r.le (r ++ List.replicate X.length none) := ⟨_, rfl⟩
   rcases hq with hq | hq
   ·
    exfalso
    refine chainP_noisy (T := Tf) (itAll hint) _ pv _ (fun o ho => allR_iff hq o ho) hchain
   · exact absP_sound (a0 := a) hK0 hK2 hP (safe_dst hq) _ _ (a, s1.2) [] habs (r ++ List.replicate X.length none) aw w.drew (ha.mono hle.wk) hrel (hinv r hr.len) (by show Keep r (toMem M) s1.2; rw [x1]; exact (Keep.refl r (toMem M)).push hr.len _) rfl (fun _ _ => rfl) fun r' s2 a2 w' h1 h2 h3 h4 h5 h6 => ⟨rfl, r', h1, ⟨s2, h2, h3, h4⟩, h5, h6⟩
end
end Go.Proofs.YtfgfofedacehiaaGreat

