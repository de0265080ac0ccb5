/-
 OWN TEXT: an evaluator made for the kernel: regions whose order is drawn: the order that was looked at stands for all.
-/
import Derived.Test.YtfgfofedacehiaaGreatJXwLToXwO
namespace Go.Proofs.YtfgfofedacehiaaGreat
open Go.RowKit
set_option linter.unusedVariables false
set_option linter.unusedSimpArgs false
section
variable {K : Caller} {P : Program} {ops : Array Oper} {T : Tab} {bl td : List Nat}
/-- all temporaries that are put are there -/
def SzX (ops : Array Oper) (s : St) : Prop := ∀ (i : Nat) (o : Oper) (d : Tmp), ops[i]? = some o → o.dst = some d → d < s.1.tmps.size
theorem SzX.step {i : Nat} {s s' : St} (h : stI K P ops T i s = some s') (k : SzX ops s) : SzX ops s' := by
 intro j oj d h1 h2
 cases q : ops[i]? with
 | none => unfold stI at h; rw [q] at h; cases h
 | some o =>
  obtain ⟨u, hu⟩ := stI_put q h
  rw [hu, put_size]
  exact k j oj d h1 h2
/-- does it write? -/
noncomputable def efF (ops : Array Oper) (td : List Nat) (i : Nat) : Bool := match ops[i]? with | some o => !(lightI ops td i o || isR o.op) | none => true
theorem chain_abs (df : DF ops bl) (tk : TabOk ops T td) {F : St} : ∀ (l : List (Nat × List Nat)) (S : Nat) (Rs : List Nat) (L : Array Bool) (s : St) (W : List Nat), chkO ops bl td (List.range ops.size) l S Rs = true → DC ops bl L → (∀ j, j < ops.size → L.getD j true = tb S j) →
  (∀ w ∈ Rs, tb S w = true ∧ w < ops.size) → (∀ w ∈ W, w ∈ Rs ∧ Hd P ops w s) → SzX ops s → Chain K P ops T l s F → absW P (stI K P ops T) ops bl (efF ops td) F l.length L s W := by
 intro l
 induction l with
 | nil =>
  intro S Rs L s W hc dc hS hRs hW hd hch
  refine ⟨fun w hw => (hW w hw).2, ?_, hch⟩
  have hall : allR (List.range ops.size) (fun j => tb S j) = true := hc
  cases q : Region.ready .any ops L with
  | nil => rfl
  | cons j m =>
   exfalso
   have hj : j ∈ Region.ready .any ops L := by rw [q]; simp
   have h1 := (mem_ready.1 hj).1
   have h2 := ready_lt hj
   rw [hS j h2, allR_iff hall j (List.mem_range.2 h2)] at h1
   cases h1
 | cons x rest ih =>
  obtain ⟨i, ws⟩ := x
  intro S Rs L s W hc dc hS hRs hW hd hch
  obtain ⟨s', hst, hws, hch'⟩ := hch
  have hc' : (match opAt ops i with
   | some o => bif tb S i then false else bif allR (List.range ops.size) (fun j => bif tb (getN bl i) j then tb S j else true) then
     bif lightI ops td i o then chkO ops bl td (List.range ops.size) rest (Nat.lor S (Nat.pow 2 i)) Rs
     else bif isR o.op then chkO ops bl td (List.range ops.size) rest (Nat.lor S (Nat.pow 2 i)) (i :: Rs)
     else bif allR (List.range ops.size) (fun j => bif tb S j then true else bif Nat.beq j i then true else tb (getN bl j) i) && allR Rs (fun w => bif tb (getN bl i) w then true else memN ws w) then chkO ops bl td (List.range ops.size) rest (Nat.lor S (Nat.pow 2 i)) Rs
     else false
    else false
   | none => false) = true := hc
  rw [opAt_eq] at hc'
  cases ho : ops[i]? with
  | none => rw [ho] at hc'; cases hc'
  | some o =>
   rw [ho] at hc'
   simp only at hc'
   have hlt : i < ops.size := (Array.getElem?_eq_some_iff.1 ho).1
   cases hSi : tb S i with
   | true => rw [hSi] at hc'; cases hc'
   | false =>
    rw [hSi, cond_false] at hc'
    cases hall : allR (List.range ops.size) (fun j => bif tb (getN bl i) j then tb S j else true) with
    | false => rw [hall] at hc'; cases hc'
    | true =>
     rw [hall, cond_true] at hc'
     have hun : L.getD i false = false := by rw [getD_lt (by rw [dc.1]; exact hlt) false true, hS i hlt]; exact hSi
     have hrd : i ∈ Region.ready .any ops L := by
      refine mem_ready.2 ⟨by rw [hS i hlt]; exact hSi, o, ho, fun e he hb => ?_⟩
      obtain ⟨k1, k2⟩ := df.fwd i o e ho he hb
      have := allR_iff hall e.on (List.mem_range.2 k2)
      simp only [k1, cond_true] at this
      rw [getD_lt (by rw [dc.1]; exact k2) false true, hS _ k2]
      exact this
     have dc' := dc.set df hrd
     have hS' : ∀ j, j < ops.size → (L.setIfInBounds i true).getD j true = tb (Nat.lor S (Nat.pow 2 i)) j := by
      intro j hj
      rw [getD_set true (by rw [dc.1]; exact hlt), tb_lor, tb_pow]
      by_cases c : i = j
      · rw [if_pos c, decide_eq_true c, Bool.or_true]
      · rw [if_neg c, decide_eq_false c, Bool.or_false]; exact hS j hj
     have hRs' : ∀ w ∈ Rs, tb (Nat.lor S (Nat.pow 2 i)) w = true ∧ w < ops.size := fun w hw => ⟨by rw [tb_lor, (hRs w hw).1]; rfl, (hRs w hw).2⟩
     have hW1 : ∀ w ∈ W, w ≠ i ∧ tb (getN bl w) i = false := by
      intro w hw
      obtain ⟨k1, k2⟩ := hRs w (hW w hw).1
      refine ⟨fun q => (by rw [q, hSi] at k1; cases k1), ?_⟩
      cases z : tb (getN bl w) i with
      | false => rfl
      | true =>
       have := dc.2 w i k2 (by rw [hS w k2]; exact k1) z
       rw [hun] at this; cases this
     have fwd : ∀ (u : Value) (w : Nat), w ≠ i → tb (getN bl w) i = false → (Hd P ops w (s.1.put o.dst u, s.2) ↔ Hd P ops w (s.1, s.2)) := fun u w h1 h2 =>
      Hd.put fun ow d hw hR hdst => df.rd w i ow o d hR hw ho (Ne.symm h1) h2 hdst
     have hd' : SzX ops s' := hd.step hst
     cases hl : lightI ops td i o with
     | true =>
      rw [hl, cond_true] at hc'
      have hlb : lightB (tvAt T i) o.op = true := by
       unfold lightI at hl
       unfold lightB
       rw [(tk i).1, Bool.or_comm]
       exact hl
      have hef : efF ops td i = false := by unfold efF; rw [ho]; simp only [hl]; rfl
      obtain ⟨u, hu⟩ := light_step ho hlb hst
      refine takeW df (SzX ops) (fun _ _ _ => SzX.step) [] hef (fun w hw => by cases hw) ?_ ?_ _ L s s' W dc hd hrd hst hW1 (ih _ Rs _ s' W hc' dc' hS' hRs' (fun w hw => ⟨(hW w hw).1, ?_⟩) hd' hch')
      ·
       intro l j t ti tij dcl hil hjl hne _ h1 h2 _
       obtain ⟨_, oj, hoj, _⟩ := mem_ready.1 hjl
       have hap := ready_apart df dcl hil hjl (Ne.symm hne) ho hoj
       unfold stI at h1 h2 ⊢
       rw [ho] at h1 ⊢
       rw [hoj] at h2 ⊢
       exact swap_P hap (Or.inl hlb) h1 h2
      ·
       intro t ti w h1 h2 h3 h4
       obtain ⟨u', hu'⟩ := light_step ho hlb h1
       subst hu'
       exact (Hd.put fun ow d hw hR hdst => df.rd w i ow o d hR hw ho (Ne.symm h2) h3 hdst).1 h4
      ·
       subst hu
       exact (fwd u w (hW1 w hw).1 (hW1 w hw).2).2 (hW w hw).2
     | false =>
      rw [hl, cond_false] at hc'
      have hT : tvAt T i = none := by
       have := (tk i).1
       unfold lightI at hl
       rw [Bool.or_eq_false_iff] at hl
       rw [hl.2] at this
       simpa using this
      cases hR : isR o.op with
      | true =>
       rw [hR, cond_true] at hc'
       have hef : efF ops td i = false := by unfold efF; rw [ho]; simp only [hl, hR]; rfl
       obtain ⟨u, hu, hu1, hu2⟩ := read_step ho hR hT hst
       obtain ⟨d, hdd, hdl⟩ := df.rg i o hR ho
       have hself : Hd P ops i s' := by
        subst hu
        refine ⟨o, d, ho, hR, hdd, fun hw => ⟨u, ?_, ?_⟩⟩
        ·
         have hw' : Region.wanted o (yielded ops s.1.tmps) = true := by
          rw [wanted_put o s.1 o.dst u (fun d' q => by rw [hdd] at q; cases q; exact hdl)] at hw; exact hw
         rw [← hu1 hw', hdd]
         exact evR_congr (evalO_looks hdl)
        ·
         rw [hdd]
         show (s.1.put (some d) u).tmps[d]? = some u
         rw [put_get (hd i o d ho hdd), if_pos rfl]
       refine takeW df (SzX ops) (fun _ _ _ => SzX.step) [i] hef (fun w hw => by simpa using hw) ?_ ?_ _ L s s' W dc hd hrd hst hW1 (ih _ (i :: Rs) _ s' ([i] ++ W) hc' dc' hS' ?_ ?_ hd' hch')
       ·
        intro l j t ti tij dcl hil hjl hne hJt h1 h2 hh
        obtain ⟨_, oj, hoj, _⟩ := mem_ready.1 hjl
        have hap := ready_apart df dcl hil hjl (Ne.symm hne) ho hoj
        obtain ⟨v, hv, hv1, hv2⟩ := read_step ho hR hT h1
        obtain ⟨o', d', k1, k2, k3, k4⟩ := hh i (by simp)
        rw [ho] at k1
        cases k1
        rw [hdd] at k3
        cases k3
        subst hv
        have h2' : stepT K P ops (tvAt T j) oj (t.1.put o.dst v, t.2) = some tij := by
         unfold stI at h2
         rw [hoj] at h2
         exact h2
        obtain ⟨sj, e1, e2⟩ := swap_R hap hR hv2 h2' ⟨d, hdd, hdl, k4⟩ (fun d' q => hJt i o d' ho q)
        refine ⟨sj, ?_, ?_⟩
        · unfold stI; rw [hoj]; exact e1
        · unfold stI; rw [ho]; simp only [hT]; exact e2
       ·
        intro t ti w h1 h2 h3 h4
        obtain ⟨v, hv, _⟩ := read_step ho hR hT h1
        subst hv
        exact (Hd.put fun ow d hw hR hdst => df.rd w i ow o d hR hw ho (Ne.symm h2) h3 hdst).1 h4
       ·
        intro w hw
        rcases List.mem_cons.1 hw with q | q
        · subst q; exact ⟨by rw [tb_lor, tb_pow]; simp, hlt⟩
        · exact hRs' w q
       ·
        intro w hw
        rcases List.mem_append.1 hw with q | q
        ·
         have : w = i := by simpa using q
         subst this
         exact ⟨by simp, hself⟩
        ·
         refine ⟨by simp [(hW w q).1], ?_⟩
         subst hu
         exact (fwd u w (hW1 w q).1 (hW1 w q).2).2 (hW w q).2
      | false =>
       rw [hR, cond_false] at hc'
       cases hE : (allR (List.range ops.size) (fun j => bif tb S j then true else bif Nat.beq j i then true else tb (getN bl j) i) && allR Rs (fun w => bif tb (getN bl i) w then true else memN ws w)) with
       | false => rw [hE] at hc'; cases hc'
       | true =>
        rw [hE, cond_true] at hc'
        rw [Bool.and_eq_true] at hE
        obtain ⟨hE1, hE2⟩ := hE
        have hef : efF ops td i = true := by unfold efF; rw [ho]; simp only [hl, hR]; rfl
        refine oneW ?_ hrd hst (fun w hw => (hW w hw).2) (ih _ Rs _ s' _ hc' dc' hS' hRs' ?_ hd' hch')
        ·
         intro j hj
         have hjl := ready_lt hj
         by_cases c : j = i
         · exact c
         ·
          exfalso
          have hju : tb S j = false := by rw [← hS j hjl]; exact (mem_ready.1 hj).1
          have k1 := allR_iff hE1 j (List.mem_range.2 hjl)
          simp only [hju, cond_false, beq_iff, decide_eq_false c] at k1
          rw [ready_not df dc hun hj] at k1
          cases k1
        ·
         intro w hw
         have hwW := flt_mem hw
         refine ⟨(hW w hwW).1, ?_⟩
         unfold flt at hw
         rw [hef, if_pos rfl] at hw
         have k1 := (List.mem_filter.1 hw).2
         have k2 := allR_iff hE2 w (hW w hwW).1
         rw [Bool.not_eq_true'] at k1
         rw [k1, cond_false, memN_iff, decide_eq_true_eq] at k2
         exact hws w k2
end
end Go.Proofs.YtfgfofedacehiaaGreat

/-
 OWN TEXT: an evaluator made for the kernel: regions whose order is drawn, and that panic.
-/
namespace Go.Proofs.YtfgfofedacehiaaGreat
open Go.RowKit
set_option linter.unusedVariables false
set_option linter.unusedSimpArgs false
section
variable (P : Program) (st : Nat → St → Option St) (ops : Array Oper) (bl : List Nat) (ef : Nat → Bool) (pa : Nat → St → Prop)
/-- whatever order is picked, it panics, and what was read (W) stays where it may be read later -/
def absWP : Nat → Array Bool → St → List Nat → Prop
 | 0, _, _, _ => False
 | n + 1, l, s, W => (∀ w ∈ W, Hd P ops w s) ∧ Region.ready .any ops l ≠ [] ∧ ∀ j ∈ Region.ready .any ops l, pa j s ∨ ∃ s', st j s = some s' ∧ absWP n (l.setIfInBounds j true) s' (flt ops bl ef j W)
theorem absWP_mono : ∀ (n : Nat) (l : Array Bool) (s : St) (W W' : List Nat), (∀ w ∈ W, w ∈ W') → absWP P st ops bl ef pa n l s W' → absWP P st ops bl ef pa n l s W
 | 0, _, _, _, _, _, h => h
 | n + 1, l, s, W, W', hs, h => ⟨fun w hw => h.1 w (hs w hw), h.2.1, fun j hj => (h.2.2 j hj).imp id fun ⟨s', h1, h2⟩ => ⟨s', h1, absWP_mono n _ s' _ _ (flt_mono hs) h2⟩⟩
theorem absWP_hd {n : Nat} {l : Array Bool} {s : St} {W : List Nat} (h : absWP P st ops bl ef pa n l s W) : ∀ w ∈ W, Hd P ops w s := by
 cases n with
 | zero => exact h.elim
 | succ n => exact h.1
end
section
variable {P : Program} {st : Nat → St → Option St} {ops : Array Oper} {bl : List Nat} {ef : Nat → Bool} {pa : Nat → St → Prop}
/-- one may be taken first that commutes with all others -/
theorem takeWP (df : DF ops bl) (J : St → Prop) (hJ : ∀ j s s', st j s = some s' → J s → J s') {i : Nat} (Wi : List Nat) (hef : ef i = false) (hWi : ∀ w ∈ Wi, w = i)
  (hcomm : ∀ (l : Array Bool) (j : Nat) (s si sij : St), DC ops bl l → i ∈ Region.ready .any ops l → j ∈ Region.ready .any ops l → j ≠ i → J s → st i s = some si → st j si = some sij → (∀ w ∈ Wi, Hd P ops w sij) → ∃ sj, st j s = some sj ∧ st i sj = some sij)
  (hpan : ∀ (l : Array Bool) (j : Nat) (s si : St), DC ops bl l → i ∈ Region.ready .any ops l → j ∈ Region.ready .any ops l → j ≠ i → st i s = some si → pa j si → pa j s)
  (hback : ∀ (s si : St) (w : Nat), st i s = some si → w ≠ i → tb (getN bl w) i = false → Hd P ops w si → Hd P ops w s) :
  ∀ (n : Nat) (l : Array Bool) (s si : St) (W : List Nat), DC ops bl l → J s → i ∈ Region.ready .any ops l → st i s = some si → (∀ w ∈ W, w ≠ i ∧ tb (getN bl w) i = false) → absWP P st ops bl ef pa n (l.setIfInBounds i true) si (Wi ++ W) → absWP P st ops bl ef pa (n + 1) l s W := by
 intro n
 induction n with
 | zero =>
  intro l s si W dc hj0 hr hs hW H
  exact H.elim
 | succ n ih =>
  intro l s si W dc hj0 hr hs hW H
  refine ⟨fun w hw => hback s si w hs (hW w hw).1 (hW w hw).2 (H.1 w (by simp [hw])), fun h => (by rw [h] at hr; cases hr), fun j hj => ?_⟩
  by_cases hji : j = i
  ·
   subst hji
   refine Or.inr ⟨si, hs, ?_⟩
   have : flt ops bl ef j W = W := by unfold flt; rw [hef]; rfl
   rw [this]
   exact absWP_mono P st ops bl ef pa (n + 1) _ _ W (Wi ++ W) (fun w hw => by simp [hw]) H
  ·
   rcases H.2.2 j (ready_mono hj hji) with h0 | ⟨sij, h1, h2⟩
   · exact Or.inl (hpan l j s si dc hr hj hji hs h0)
   have hnb := ready_not df dc (unlisted hr dc.1) hj
   have sub : ∀ w ∈ Wi ++ flt ops bl ef j W, w ∈ flt ops bl ef j (Wi ++ W) := by
    intro w hw
    unfold flt at hw ⊢
    split at hw
    ·
     rename_i c
     rw [if_pos c]
     rcases List.mem_append.1 hw with q | q
     ·
      refine List.mem_filter.2 ⟨by simp [q], ?_⟩
      rw [hWi w q, hnb]; rfl
     ·
      obtain ⟨q1, q2⟩ := List.mem_filter.1 q
      exact List.mem_filter.2 ⟨by simp [q1], q2⟩
    ·
     rename_i c
     rw [if_neg c]
     exact hw
   have h3 := absWP_mono P st ops bl ef pa n _ _ _ _ sub h2
   obtain ⟨sj, k1, k2⟩ := hcomm l j s si sij dc hr hj hji hj0 hs h1 (fun w hw => absWP_hd P st ops bl ef pa h3 w (by simp [hw]))
   refine Or.inr ⟨sj, k1, ih _ sj sij _ (dc.set df hj) (hJ j s sj k1 hj0) (ready_mono hr (Ne.symm hji)) k2 (fun w hw => hW w (flt_mem hw)) ?_⟩
   rw [Array.setIfInBounds_comm _ _ hji]
   exact h3
/-- one alone may come up -/
theorem oneWP {i n : Nat} {l : Array Bool} {s si : St} {W : List Nat} (hone : ∀ j ∈ Region.ready .any ops l, j = i) (hi : i ∈ Region.ready .any ops l) (hs : st i s = some si) (hW : ∀ w ∈ W, Hd P ops w s) (H : absWP P st ops bl ef pa n (l.setIfInBounds i true) si (flt ops bl ef i W)) : absWP P st ops bl ef pa (n + 1) l s W := by
 refine ⟨hW, fun h => (by rw [h] at hi; cases hi), fun j hj => ?_⟩
 rw [hone j hj]
 exact Or.inr ⟨si, hs, H⟩
end
/-- it panics there -/
def PanAt (Kp : Caller) (P : Program) (ops : Array Oper) (pv : Value) (A : Mem) (i : Nat) (s : St) : Prop := ∃ o, ops[i]? = some o ∧ Region.wanted o (yielded ops s.1.tmps) = true ∧ evPan Kp P s.2 (evalO s.1) o = some (pv, A)
/-- steps in an order up to one that panics -/
def ChainP (K Kp : Caller) (P : Program) (ops : Array Oper) (T : Tab) : List (Nat × List Nat) → St → Value → Mem → Prop
 | [], _, _, _ => False
 | (i, ws) :: rest, s, pv, A => PanAt Kp P ops pv A i s ∨ ∃ s', stI K P ops T i s = some s' ∧ (∀ w ∈ ws, Hd P ops w s') ∧ ChainP K Kp P ops T rest s' pv A
theorem pan_loud {Kp : Caller} {P : Program} {A : Mem} {e : Operand → Option Value} {o : Oper} {x : Value × Mem} (h : evPan Kp P A e o = some x) : isP o.op = false ∧ isR o.op = false ∧ isN o.op = false := by
 obtain ⟨dst, op, type, pos, after, guard⟩ := o
 cases op
 case panic x => exact ⟨rfl, rfl, rfl⟩
 case call c =>
  obtain ⟨callee, args, ts⟩ := c
  cases callee with
  | value f => exact ⟨rfl, rfl, rfl⟩
  | invoke x n => exact ⟨rfl, rfl, rfl⟩
  | _ => cases h
 all_goals cases h
theorem argsO_congr2 {e e' : Operand → Option Value} : ∀ (l : List Operand), (∀ x ∈ l, e x = e' x) → argsO e l = argsO e' l
 | [], _ => rfl
 | x :: l, h => by
  simp only [argsO]
  rw [h x (by simp), argsO_congr2 l (fun y hy => h y (by simp [hy]))]
theorem evPan_congr {Kp : Caller} {P : Program} {A : Mem} {e e' : Operand → Option Value} {o : Oper} (h : ∀ x ∈ o.op.operands, e x = e' x) : evPan Kp P A e o = evPan Kp P A e' o := by
 obtain ⟨dst, op, type, pos, after, guard⟩ := o
 cases op
 case panic x =>
  simp only [evPan]
  rw [h x (by simp [Op.operands])]
 case call c =>
  obtain ⟨callee, args, ts⟩ := c
  cases callee with
  | value f =>
   simp only [evPan]
   unfold evCallO
   rw [funcO_congr (P := P) (h f (by simp [Op.operands, Call.operands])), argsO_congr2 args.toList (fun x hx => h x (by simp [Op.operands, Call.operands]; exact Or.inr (by simpa using hx)))]
  | invoke x n =>
   simp only [evPan]
   unfold evInvO
   rw [invO_congr (P := P) (n := n) (h x (by simp [Op.operands, Call.operands])), argsO_congr2 args.toList (fun x hx => h x (by simp [Op.operands, Call.operands]; exact Or.inr (by simpa using hx)))]
  | _ => rfl
 all_goals rfl
theorem PanAt.back {Kp : Caller} {P : Program} {ops : Array Oper} {pv : Value} {A : Mem} {oi oj : Oper} {j : Nat} {s : St} {u : Value} (hap : oi.apart ops oj = true) (hoj : ops[j]? = some oj) (h : PanAt Kp P ops pv A j (s.1.put oi.dst u, s.2)) : PanAt Kp P ops pv A j s := by
 obtain ⟨p1, p2, p3⟩ := Oper.apart_spec hap
 obtain ⟨o, h1, h2, h3⟩ := h
 rw [hoj] at h1
 cases h1
 refine ⟨oj, hoj, ?_, ?_⟩
 · rw [wanted_put oj s.1 oi.dst u p1] at h2; exact h2
 ·
  rw [← h3]
  refine evPan_congr fun x hx => (evalO_put fun d hd hxd => p1 d hd ?_).symm
  subst hxd
  exact List.mem_append_left _ (List.mem_filterMap.2 ⟨.tmp d, by simpa using hx, rfl⟩)
section
variable {K Kp : Caller} {P : Program} {ops : Array Oper} {T : Tab} {bl td : List Nat}
theorem chain_pan (df : DF ops bl) (tk : TabOk ops T td) {pv : Value} {A : Mem} {i : Nat} {ws : List Nat} {rest : List (Nat × List Nat)} {S : Nat} {Rs : List Nat} {L : Array Bool} {s : St} {W : List Nat} {m : Nat} (hc : chkO ops bl td (List.range ops.size) ((i, ws) :: rest) S Rs = true) (dc : DC ops bl L) (hS : ∀ j, j < ops.size → L.getD j true = tb S j)
  (hW : ∀ w ∈ W, Hd P ops w s) (hp : PanAt Kp P ops pv A i s) : absWP P (stI K P ops T) ops bl (efF ops td) (PanAt Kp P ops pv A) (m + 1) L s W := by
 have hp0 := hp
 obtain ⟨o, ho, hw, hev⟩ := hp
 obtain ⟨n1, n2, n3⟩ := pan_loud hev
 have hlt : i < ops.size := (Array.getElem?_eq_some_iff.1 ho).1
 have hl : lightI ops td i o = false := by
  unfold lightI
  rw [n1, Bool.false_or]
  cases q : memN td i with
  | false => rfl
  | true =>
   obtain ⟨o', h1, h2⟩ := (tk i).2 q
   rw [ho] at h1
   cases h1
   rw [n3] at h2
   cases h2
 have hc' : (match opAt ops i with
  | some o => bif tb S i then false else bif allR (List.range ops.size) (fun j => bif tb (getN bl i) j then tb S j else true) then
    bif lightI ops td i o then chkO ops bl td (List.range ops.size) rest (Nat.lor S (Nat.pow 2 i)) Rs
    else bif isR o.op then chkO ops bl td (List.range ops.size) rest (Nat.lor S (Nat.pow 2 i)) (i :: Rs)
    else bif allR (List.range ops.size) (fun j => bif tb S j then true else bif Nat.beq j i then true else tb (getN bl j) i) && allR Rs (fun w => bif tb (getN bl i) w then true else memN ws w) then chkO ops bl td (List.range ops.size) rest (Nat.lor S (Nat.pow 2 i)) Rs
    else false
   else false
  | none => false) = true := hc
 rw [opAt_eq, ho] at hc'
 simp only [hl, n2, cond_false] at hc'
 cases hSi : tb S i with
 | true => rw [hSi] at hc'; cases hc'
 | false =>
  rw [hSi, cond_false] at hc'
  cases hall : allR (List.range ops.size) (fun j => bif tb (getN bl i) j then tb S j else true) with
  | false => rw [hall] at hc'; cases hc'
  | true =>
   rw [hall, cond_true] at hc'
   have hun : L.getD i false = false := by rw [getD_lt (by rw [dc.1]; exact hlt) false true, hS i hlt]; exact hSi
   have hrd : i ∈ Region.ready .any ops L := by
    refine mem_ready.2 ⟨by rw [hS i hlt]; exact hSi, o, ho, fun e he hb => ?_⟩
    obtain ⟨k1, k2⟩ := df.fwd i o e ho he hb
    have := allR_iff hall e.on (List.mem_range.2 k2)
    simp only [k1, cond_true] at this
    rw [getD_lt (by rw [dc.1]; exact k2) false true, hS _ k2]
    exact this
   cases hE : (allR (List.range ops.size) (fun j => bif tb S j then true else bif Nat.beq j i then true else tb (getN bl j) i) && allR Rs (fun w => bif tb (getN bl i) w then true else memN ws w)) with
   | false => rw [hE] at hc'; cases hc'
   | true =>
    rw [Bool.and_eq_true] at hE
    obtain ⟨hE1, hE2⟩ := hE
    refine ⟨hW, fun h => (by rw [h] at hrd; cases hrd), fun j hj => ?_⟩
    have hjl := ready_lt hj
    by_cases c : j = i
    · rw [c]; exact Or.inl hp0
    ·
     exfalso
     have hju : tb S j = false := by rw [← hS j hjl]; exact (mem_ready.1 hj).1
     have k1 := allR_iff hE1 j (List.mem_range.2 hjl)
     simp only [hju, cond_false, beq_iff, decide_eq_false c] at k1
     rw [ready_not df dc hun hj] at k1
     cases k1
theorem chain_absP (df : DF ops bl) (tk : TabOk ops T td) {pv : Value} {A : Mem} : ∀ (l : List (Nat × List Nat)) (S : Nat) (Rs : List Nat) (L : Array Bool) (s : St) (W : List Nat), chkO ops bl td (List.range ops.size) l S Rs = true → DC ops bl L → (∀ j, j < ops.size → L.getD j true = tb S j) →
  (∀ w ∈ Rs, tb S w = true ∧ w < ops.size) → (∀ w ∈ W, w ∈ Rs ∧ Hd P ops w s) → SzX ops s → ChainP K Kp P ops T l s pv A → absWP P (stI K P ops T) ops bl (efF ops td) (PanAt Kp P ops pv A) l.length L s W := by
 intro l
 induction l with
 | nil => intro S Rs L s W hc dc hS hRs hW hd hch; exact hch.elim
 | cons x rest ih =>
  obtain ⟨i, ws⟩ := x
  intro S Rs L s W hc dc hS hRs hW hd hch
  rcases hch with hpan | ⟨s', hst, hws, hch'⟩
  · exact chain_pan df tk hc dc hS (fun w hw => (hW w hw).2) hpan
  have hc' : (match opAt ops i with
   | some o => bif tb S i then false else bif allR (List.range ops.size) (fun j => bif tb (getN bl i) j then tb S j else true) then
     bif lightI ops td i o then chkO ops bl td (List.range ops.size) rest (Nat.lor S (Nat.pow 2 i)) Rs
     else bif isR o.op then chkO ops bl td (List.range ops.size) rest (Nat.lor S (Nat.pow 2 i)) (i :: Rs)
     else bif allR (List.range ops.size) (fun j => bif tb S j then true else bif Nat.beq j i then true else tb (getN bl j) i) && allR Rs (fun w => bif tb (getN bl i) w then true else memN ws w) then chkO ops bl td (List.range ops.size) rest (Nat.lor S (Nat.pow 2 i)) Rs
     else false
    else false
   | none => false) = true := hc
  rw [opAt_eq] at hc'
  cases ho : ops[i]? with
  | none => rw [ho] at hc'; cases hc'
  | some o =>
   rw [ho] at hc'
   simp only at hc'
   have hlt : i < ops.size := (Array.getElem?_eq_some_iff.1 ho).1
   cases hSi : tb S i with
   | true => rw [hSi] at hc'; cases hc'
   | false =>
    rw [hSi, cond_false] at hc'
    cases hall : allR (List.range ops.size) (fun j => bif tb (getN bl i) j then tb S j else true) with
    | false => rw [hall] at hc'; cases hc'
    | true =>
     rw [hall, cond_true] at hc'
     have hun : L.getD i false = false := by rw [getD_lt (by rw [dc.1]; exact hlt) false true, hS i hlt]; exact hSi
     have hrd : i ∈ Region.ready .any ops L := by
      refine mem_ready.2 ⟨by rw [hS i hlt]; exact hSi, o, ho, fun e he hb => ?_⟩
      obtain ⟨k1, k2⟩ := df.fwd i o e ho he hb
      have := allR_iff hall e.on (List.mem_range.2 k2)
      simp only [k1, cond_true] at this
      rw [getD_lt (by rw [dc.1]; exact k2) false true, hS _ k2]
      exact this
     have dc' := dc.set df hrd
     have hS' : ∀ j, j < ops.size → (L.setIfInBounds i true).getD j true = tb (Nat.lor S (Nat.pow 2 i)) j := by
      intro j hj
      rw [getD_set true (by rw [dc.1]; exact hlt), tb_lor, tb_pow]
      by_cases c : i = j
      · rw [if_pos c, decide_eq_true c, Bool.or_true]
      · rw [if_neg c, decide_eq_false c, Bool.or_false]; exact hS j hj
     have hRs' : ∀ w ∈ Rs, tb (Nat.lor S (Nat.pow 2 i)) w = true ∧ w < ops.size := fun w hw => ⟨by rw [tb_lor, (hRs w hw).1]; rfl, (hRs w hw).2⟩
     have hW1 : ∀ w ∈ W, w ≠ i ∧ tb (getN bl w) i = false := by
      intro w hw
      obtain ⟨k1, k2⟩ := hRs w (hW w hw).1
      refine ⟨fun q => (by rw [q, hSi] at k1; cases k1), ?_⟩
      cases z : tb (getN bl w) i with
      | false => rfl
      | true =>
       have := dc.2 w i k2 (by rw [hS w k2]; exact k1) z
       rw [hun] at this; cases this
     have fwd : ∀ (u : Value) (w : Nat), w ≠ i → tb (getN bl w) i = false → (Hd P ops w (s.1.put o.dst u, s.2) ↔ Hd P ops w (s.1, s.2)) := fun u w h1 h2 =>
      Hd.put fun ow d hw hR hdst => df.rd w i ow o d hR hw ho (Ne.symm h1) h2 hdst
     have hd' : SzX ops s' := hd.step hst
     cases hl : lightI ops td i o with
     | true =>
      rw [hl, cond_true] at hc'
      have hlb : lightB (tvAt T i) o.op = true := by
       unfold lightI at hl
       unfold lightB
       rw [(tk i).1, Bool.or_comm]
       exact hl
      have hef : efF ops td i = false := by unfold efF; rw [ho]; simp only [hl]; rfl
      obtain ⟨u, hu⟩ := light_step ho hlb hst
      refine takeWP df (SzX ops) (fun _ _ _ => SzX.step) [] hef (fun w hw => by cases hw) ?_ ?_ ?_ _ L s s' W dc hd hrd hst hW1 (ih _ Rs _ s' W hc' dc' hS' hRs' (fun w hw => ⟨(hW w hw).1, ?_⟩) hd' hch')
      ·
       intro l j t ti tij dcl hil hjl hne _ h1 h2 _
       obtain ⟨_, oj, hoj, _⟩ := mem_ready.1 hjl
       have hap := ready_apart df dcl hil hjl (Ne.symm hne) ho hoj
       unfold stI at h1 h2 ⊢
       rw [ho] at h1 ⊢
       rw [hoj] at h2 ⊢
       exact swap_P hap (Or.inl hlb) h1 h2
      ·
       intro l j t ti dcl hil hjl hne h1 h2
       obtain ⟨_, oj, hoj, _⟩ := mem_ready.1 hjl
       obtain ⟨u', hu'⟩ := light_step ho hlb h1
       subst hu'
       exact PanAt.back (ready_apart df dcl hil hjl (Ne.symm hne) ho hoj) hoj h2
      ·
       intro t ti w h1 h2 h3 h4
       obtain ⟨u', hu'⟩ := light_step ho hlb h1
       subst hu'
       exact (Hd.put fun ow d hw hR hdst => df.rd w i ow o d hR hw ho (Ne.symm h2) h3 hdst).1 h4
      ·
       subst hu
       exact (fwd u w (hW1 w hw).1 (hW1 w hw).2).2 (hW w hw).2
     | false =>
      rw [hl, cond_false] at hc'
      have hT : tvAt T i = none := by
       have := (tk i).1
       unfold lightI at hl
       rw [Bool.or_eq_false_iff] at hl
       rw [hl.2] at this
       simpa using this
      cases hR : isR o.op with
      | true =>
       rw [hR, cond_true] at hc'
       have hef : efF ops td i = false := by unfold efF; rw [ho]; simp only [hl, hR]; rfl
       obtain ⟨u, hu, hu1, hu2⟩ := read_step ho hR hT hst
       obtain ⟨d, hdd, hdl⟩ := df.rg i o hR ho
       have hself : Hd P ops i s' := by
        subst hu
        refine ⟨o, d, ho, hR, hdd, fun hw => ⟨u, ?_, ?_⟩⟩
        ·
         have hw' : Region.wanted o (yielded ops s.1.tmps) = true := by
          rw [wanted_put o s.1 o.dst u (fun d' q => by rw [hdd] at q; cases q; exact hdl)] at hw; exact hw
         rw [← hu1 hw', hdd]
         exact evR_congr (evalO_looks hdl)
        ·
         rw [hdd]
         show (s.1.put (some d) u).tmps[d]? = some u
         rw [put_get (hd i o d ho hdd), if_pos rfl]
       refine takeWP df (SzX ops) (fun _ _ _ => SzX.step) [i] hef (fun w hw => by simpa using hw) ?_ ?_ ?_ _ L s s' W dc hd hrd hst hW1 (ih _ (i :: Rs) _ s' ([i] ++ W) hc' dc' hS' ?_ ?_ hd' hch')
       ·
        intro l j t ti tij dcl hil hjl hne hJt h1 h2 hh
        obtain ⟨_, oj, hoj, _⟩ := mem_ready.1 hjl
        have hap := ready_apart df dcl hil hjl (Ne.symm hne) ho hoj
        obtain ⟨v, hv, hv1, hv2⟩ := read_step ho hR hT h1
        obtain ⟨o', d', k1, k2, k3, k4⟩ := hh i (by simp)
        rw [ho] at k1
        cases k1
        rw [hdd] at k3
        cases k3
        subst hv
        have h2' : stepT K P ops (tvAt T j) oj (t.1.put o.dst v, t.2) = some tij := by
         unfold stI at h2
         rw [hoj] at h2
         exact h2
        obtain ⟨sj, e1, e2⟩ := swap_R hap hR hv2 h2' ⟨d, hdd, hdl, k4⟩ (fun d' q => hJt i o d' ho q)
        refine ⟨sj, ?_, ?_⟩
        · unfold stI; rw [hoj]; exact e1
        · unfold stI; rw [ho]; simp only [hT]; exact e2
       ·
        intro l j t ti dcl hil hjl hne h1 h2
        obtain ⟨_, oj, hoj, _⟩ := mem_ready.1 hjl
        obtain ⟨v, hv, _⟩ := read_step ho hR hT h1
        subst hv
        exact PanAt.back (ready_apart df dcl hil hjl (Ne.symm hne) ho hoj) hoj h2
       ·
        intro t ti w h1 h2 h3 h4
        obtain ⟨v, hv, _⟩ := read_step ho hR hT h1
        subst hv
        exact (Hd.put fun ow d hw hR hdst => df.rd w i ow o d hR hw ho (Ne.symm h2) h3 hdst).1 h4
       ·
        intro w hw
        rcases List.mem_cons.1 hw with q | q
        · subst q; exact ⟨by rw [tb_lor, tb_pow]; simp, hlt⟩
        · exact hRs' w q
       ·
        intro w hw
        rcases List.mem_append.1 hw with q | q
        ·
         have : w = i := by simpa using q
         subst this
         exact ⟨by simp, hself⟩
        ·
         refine ⟨by simp [(hW w q).1], ?_⟩
         subst hu
         exact (fwd u w (hW1 w q).1 (hW1 w q).2).2 (hW w q).2
      | false =>
       rw [hR, cond_false] at hc'
       cases hE : (allR (List.range ops.size) (fun j => bif tb S j then true else bif Nat.beq j i then true else tb (getN bl j) i) && allR Rs (fun w => bif tb (getN bl i) w then true else memN ws w)) with
       | false => rw [hE] at hc'; cases hc'
       | true =>
        rw [hE, cond_true] at hc'
        rw [Bool.and_eq_true] at hE
        obtain ⟨hE1, hE2⟩ := hE
        have hef : efF ops td i = true := by unfold efF; rw [ho]; simp only [hl, hR]; rfl
        refine oneWP ?_ hrd hst (fun w hw => (hW w hw).2) (ih _ Rs _ s' _ hc' dc' hS' hRs' ?_ hd' hch')
        ·
         intro j hj
         have hjl := ready_lt hj
         by_cases c : j = i
         · exact c
         ·
          exfalso
          have hju : tb S j = false := by rw [← hS j hjl]; exact (mem_ready.1 hj).1
          have k1 := allR_iff hE1 j (List.mem_range.2 hjl)
          simp only [hju, cond_false, beq_iff, decide_eq_false c] at k1
          rw [ready_not df dc hun hj] at k1
          cases k1
        ·
         intro w hw
         have hwW := flt_mem hw
         refine ⟨(hW w hwW).1, ?_⟩
         unfold flt at hw
         rw [hef, if_pos rfl] at hw
         have k1 := (List.mem_filter.1 hw).2
         have k2 := allR_iff hE2 w (hW w hwW).1
         rw [Bool.not_eq_true'] at k1
         rw [k1, cond_false, memN_iff, decide_eq_true_eq] at k2
         exact hws w k2
end
/-- whatever order is picked, it panics, in the world too -/
theorem absP_sound {K Kp : Caller} {P : Program} (hK : KOk P K) (hK2 : KpOk P Kp) (hP : Plain P) {ops : Array Oper} {T : Tab} {bl : List Nat} {ef : Nat → Bool} {pv : Value} {A' : Mem} {w0 : World} {r0 : Rho} {A0 : Mem} {a0 : Act} {rt : List Nat} (hrt : ∀ o ∈ ops.toList, ∀ t ∈ rt, o.dst ≠ some t) {Q : Exit → Act → World → Prop} : ∀ (n : Nat) (listed : Array Bool) (s : St) (W : List Nat), absWP P (stI K P ops T) ops bl ef (PanAt Kp P ops pv A') n listed s W → ∀ (r : Rho) (a : Act) (w : World), ActRel r s.1 a → Rel P w0 r s.2 w → Inv T r0 listed s r → Keep r0 A0 s.2 → s.1.defers = a0.defers → (∀ t ∈ rt, s.1.tmps[t]? = a0.tmps[t]?) →
  (∀ r' s1 a' w', r0.le r' → ActRel r' s1 a' → s1.defers = a0.defers → (∀ t ∈ rt, s1.tmps[t]? = a0.tmps[t]?) → Rel P w0 r' A' w' → Keep r0 A0 A' → Q (.panic [{ v := pv, recovered := false }]) a' w') → wpAny P .any ops Q n listed a w
 | 0, listed, s, W, h, r, a, w, ha, hr, hi, hk, hd, ht, hQ => h.elim
 | n + 1, listed, s, W, h, r, a, w, ha, hr, hi, hk, hd, ht, hQ => by
  refine ⟨fun h0 => absurd h0 h.2.1, fun i hmem => ?_⟩
  have hun := (mem_ready.1 hmem).1
  rcases h.2.2 i hmem with ⟨o, ho, hw, hp⟩ | ⟨s', h1, h2⟩
  ·
   unfold wpOp
   rw [ho]
   simp only
   rw [ha.wanted ops o, if_pos hw]
   exact Or.inl (evPan_sound hK2 hP hp (opsRel ha o.op) hr fun r' w' j1 j2 j3 => hQ r' s.1 a w' (hi.ext.trans j1) (ha.mono j1.wk) hd ht j2 (keep_on hi.ext hk j3))
  ·
   have hput : ∀ o, ops[i]? = some o → s'.1.defers = a0.defers ∧ ∀ t ∈ rt, s'.1.tmps[t]? = a0.tmps[t]? := by
    intro o ho
    obtain ⟨u, hu⟩ := stI_put ho h1
    refine ⟨by rw [hu, ← hd]; cases o.dst <;> rfl, fun t hr' => ?_⟩
    rw [hu, ← ht t hr']
    have hne := hrt o (by simpa using Array.mem_of_getElem? ho) t hr'
    cases hdd : o.dst with
    | none => rfl
    | some d =>
     have : d ≠ t := fun e => hne (by rw [hdd, e])
     simp [Act.put, Array.getElem?_setIfInBounds_ne this]
   unfold stI at h1
   unfold wpOp
   cases ho : ops[i]? with
   | none => rw [ho] at h1; cases h1
   | some o =>
    obtain ⟨hd', ht'⟩ := hput o ho
    rw [ho] at h1
    simp only at h1 ⊢
    unfold tvAt at h1
    cases htb : tabAt T i with
    | none =>
     rw [htb] at h1
     simp only [stepT] at h1
     exact stepA_sound hK hP h1 ha hr fun r' a' w' k1 k2 k3 k4 => absP_sound hK hK2 hP hrt n _ s' _ h2 r' a' w' k2 k3 (hi.step (hi.ext.trans k1) (fun _ _ p _ _ _ e => ⟨k1.none e, k4 p e⟩)) (keep_on hi.ext hk k4) hd' ht' hQ
    | some x =>
     obtain ⟨v, p, b⟩ := x
     rw [htb] at h1
     simp only [stepT] at h1
     obtain ⟨hp0, hp1⟩ := hi.tab i v p b htb
     obtain ⟨hp2, hb⟩ := hp1 hun
     rw [ha.wanted ops o]
     split at h1
     ·
      rename_i c
      rw [if_pos c]
      split at h1
      ·
       rename_i hev
       cases h1
       obtain ⟨v', cc, e1, e2, e3⟩ := evN_core (w := w) hev (opsRel ha o.op)
       have hlt := some_lt hp2
       have atp : (r.set p (some (w.heap.size, 0)))[p]? = some (some (w.heap.size, 0)) := by rw [List.getElem?_set_self hlt]
       have hwk : r.wk (r.set p (some (w.heap.size, 0))) := by
        intro k x e
        by_cases q : p = k
        · subst q; rw [hp2] at e; cases e
        · rw [List.getElem?_set_ne q]; exact e
       have hext : r0.le (r.set p (some (w.heap.size, 0))) := by
        obtain ⟨y, rfl⟩ := hi.ext
        exact ⟨y.set (p - r0.length) (some (w.heap.size, 0)), by rw [List.set_append_right _ _ hp0]⟩
       refine Or.inl (wp_of_run e1 (absP_sound hK hK2 hP hrt n _ _ _ h2 _ _ _ ((ha.mono hwk).put (e3 _ atp) o.dst) (hr.laidAt hp2 hb e2) (hi.step hext ?_) hk hd' ht' hQ))
       intro k u q bk e hne hq
       have : p ≠ q := fun x => hne (hi.inj k i u v q bk b e (x ▸ htb))
       exact ⟨by rw [List.getElem?_set_ne this]; exact hq, rfl⟩
      · cases h1
     ·
      rename_i c
      rw [if_neg c]
      cases h1
      exact absP_sound hK hK2 hP hrt n _ _ _ h2 r _ w (ha.put (VRel.undef r) o.dst) hr (hi.step hi.ext (fun _ _ p _ _ _ e => ⟨e, rfl⟩)) hk hd' ht' hQ
end Go.Proofs.YtfgfofedacehiaaGreat

/-
 OWN TEXT: an evaluator made for the kernel: regions whose order is drawn do what they do.
-/
namespace Go.Proofs.YtfgfofedacehiaaGreat
open Go.RowKit
set_option linter.unusedVariables false
set_option linter.unusedSimpArgs false
section
variable {P : Program} {Ks Kp : Caller} {kp : List Nat} {nt : Nat} {ops : Array Oper}
/-- what was read is looked at again -/
theorem trCk_ok {env : Env} {n : Nat} {o : Oper} {w : Nat} {x : XO} (hw : ops[w]? = some o) (h : trCk P kp ops env n o = some x) {K : KC} {T : Tm} {M : Me} {L : Rg} {k : Value → Me → Out} {out : Value × Me} {a : Act} (hr : EnvRel kp env n a T L) (hk : x K T M L k = some out) :
  (∀ K k, x K T M L k = k undef M) ∧ Hd P ops w (a, toMem M) := by
 unfold trCk at h
 split at h
 ·
  rename_i t y d hop hdst
  split at h
  ·
   rename_i D sx sy hD hx hy
   split at h
   ·
    rename_i z hz
    rw [frcN_eq] at h
    have hR : isR o.op = true := by rw [hop]; rfl
    have ex := hr.fits _ _ hx
    have ey := hr.fits _ _ hy
    have ck : ∀ (k : Value → Me → Out) (out : Value × Me), xCk z D.isRow sx sy K T M L k = some out → (∀ K k, xCk z D.isRow sx sy K T M L k = k undef M) ∧ ∃ v, evR P (toMem M) (evalO a) o = some v ∧ a.tmps[d]? = some v := by
     intro k out hk
     have hk' : ldK z D.isRow (sx T L) M (fun u => Bool.rec (motive := fun _ => Out) none (k undef M) (eq3 u (sy T L))) = some out := hk
     obtain ⟨b, off, u, e1, e2, e3⟩ := ldK_some (P := P) hk'
     rw [e2] at hk'
     cases q : eq3 u (sy T L) with
     | false => rw [q] at hk'; cases hk'
     | true =>
      have hu := eq3_ok q
      refine ⟨fun K k => ?_, u, ?_, ?_⟩
      ·
       show ldK z D.isRow (sx T L) M (fun u => Bool.rec (motive := fun _ => Out) none (k undef M) (eq3 u (sy T L))) = _
       rw [e2, q]
      ·
       have ex' : evalO a y = some (.pointer (some ⟨b, off, none⟩)) := by rw [ex, e1]
       obtain ⟨dst, op, type, pos, after, guard⟩ := o
       simp only at hop
       subst hop
       rcases e3 with ⟨blk, hb, ⟨hrow, c1, c2⟩ | ⟨hrow, c1⟩⟩ | ⟨hb, hrow, z', c1, c2⟩
       ·
        rw [hrow, cond_true, Option.map_eq_some_iff] at hz
        obtain ⟨i, hi, rfl⟩ := hz
        simp only [evR, ex', hb, hD, hrow, if_true, hi, c1, c2]
       · simp only [evR, ex', hb, hD, hrow, Bool.false_eq_true, if_false, c1]
       · simp only [evR, ex', hb, hD, hrow, Bool.false_eq_true, if_false, c1, c2]
      · rw [hu]; exact ey
    split at h
    ·
     rename_i hg
     cases h
     obtain ⟨k1, v, k2, k3⟩ := ck k out hk
     exact ⟨k1, o, d, hw, hR, hdst, fun _ => ⟨v, k2, k3⟩⟩
    ·
     rename_i j b hg
     split at h
     ·
      rename_i u hu
      split at h
      ·
       rename_i sg hsg
       cases h
       have hk' : wnK b (sg T L) (fun c => Bool.rec (motive := fun _ => Out) (k undef M) (xCk z D.isRow sx sy K T M L k) c) = some out := hk
       obtain ⟨c, ec, hk1⟩ := wnK_some hk'
       have eg := hr.fits _ _ hsg
       have hwt : Region.wanted o (yielded ops a.tmps) = c := wn_wanted hg hu eg ec
       have key : ∀ K k, xGd sg b (xCk z D.isRow sx sy) K T M L k = Bool.rec (motive := fun _ => Out) (k undef M) (xCk z D.isRow sx sy K T M L k) c := fun K k => by
        show wnK b (sg T L) (fun c => Bool.rec (motive := fun _ => Out) (k undef M) (xCk z D.isRow sx sy K T M L k) c) = _
        rw [wnK_at ec]
       cases hcb : c with
       | true =>
        rw [hcb] at hk1
        obtain ⟨k1, v, k2, k3⟩ := ck k out hk1
        exact ⟨fun K k => by rw [key, hcb]; exact k1 K k, o, d, hw, hR, hdst, fun _ => ⟨v, k2, k3⟩⟩
       | false =>
        refine ⟨fun K k => by rw [key, hcb], o, d, hw, hR, hdst, fun q => ?_⟩
        rw [hwt, hcb] at q; cases q
      · cases h
     · cases h
   · cases h
  · cases h
 · cases h
theorem trCks_ok {env : Env} {K : KC} {T : Tm} {M : Me} {a : Act} : ∀ (ws : List Nat) (l : List Oper) (n n' : Nat) (xr : XR) (L : Rg) (k : Me → Rg → Out) (out : Value × Me), opsAt ops ws = some l → trCks P kp ops env l n = some (xr, n') → EnvRel kp env n a T L → xr K T M L k = some out →
  ∃ L', (∀ K k, xr K T M L k = k M L') ∧ EnvRel kp env n' a T L' ∧ ∀ w ∈ ws, Hd P ops w (a, toMem M)
 | [], l, n, n', xr, L, k, out, ho, h, hr, hk => by
  cases ho
  cases h
  exact ⟨L, fun _ k => rfl, hr, fun w hw => by cases hw⟩
 | w :: ws, l, n, n', xr, L, k, out, ho, h, hr, hk => by
  simp only [opsAt] at ho
  split at ho
  ·
   rename_i o m q1 q2
   cases ho
   rw [opAt_eq] at q1
   simp only [trCks] at h
   split at h
   ·
    rename_i x hx
    rw [frcN_eq] at h
    split at h
    ·
     rename_i r q hq
     cases h
     have hk' : x K T M L (fun v M => r K T M (pushR v L) k) = some out := hk
     obtain ⟨k1, k2⟩ := trCk_ok q1 hx hr hk'
     rw [k1] at hk'
     obtain ⟨L', e1, e2, e3⟩ := trCks_ok ws m (n + 1) n' r (pushR undef L) k out q2 hq (hr.grow undef) hk'
     refine ⟨L', fun K k => ?_, e2, fun w' hw' => ?_⟩
     ·
      show x K T M L (fun v M => r K T M (pushR v L) k) = _
      rw [k1, e1]
     ·
      rcases List.mem_cons.1 hw' with q | q
      · subst q; exact k2
      · exact e3 w' q
    · cases h
   · cases h
  · cases ho
/-- operations in an order -/
theorem trDr_ok {ex : Xn} (hex : XnOk P ex) (hB : KBody P Ks) (hB2 : KBody P Kp) (hkp : kp.length ≤ 64) {T' : Tab} {td : List Nat} (tk : TabOk ops T' td) : ∀ (l : List (Nat × List Nat)) (env env' : Env) (n n' : Nat) (xr : XR), trDr P ex kp nt ops l env n = some (xr, env', n') → (∀ x ∈ l, memN td x.1 = false) →
  ∀ (C : KP) (H : Tm → Value → Me → Out) (T : Tm) (M : Me) (L : Rg) (k : Me → Rg → Out) (out : Value × Me) (a : Act), CGood C Ks Kp → Can M → a.tmps.size = nt → EnvRel kp env n a T L → xr (frK C H) T M L k = some out →
  (∃ M' L' a', Can M' ∧ (∀ H k, xr (frK C H) T M L k = k M' L') ∧ Chain Ks P ops T' l (a, toMem M) (a', toMem M') ∧ a'.tmps.size = nt ∧ a'.defers = a.defers ∧ EnvRel kp env' n' a' T L') ∨
   ∃ pv M', Can M' ∧ (∀ (H : Tm → Value → Me → Out) k, xr (frK C H) T M L k = H T pv M') ∧ ChainP Ks Kp P ops T' l (a, toMem M) pv (toMem M')
 | [], env, env', n, n', xr, h, _, C, H, T, M, L, k, out, a, hK, hM, hn, hr, hk => by
  cases h
  exact Or.inl ⟨M, L, a, hM, fun _ k => rfl, rfl, hn, rfl, hr⟩
 | (i, ws) :: rest, env, env', n, n', xr, h, htd, C, H, T, M, L, k, out, a, hK, hM, hn, hr, hk => by
  simp only [trDr] at h
  split at h
  ·
   rename_i o wo q1 q2
   rw [opAt_eq] at q1
   split at h
   ·
    rename_i r1 env1 n1 hs
    split at h
    ·
     rename_i r2 n2 hc
     split at h
     ·
      rename_i r3 q hd
      cases h
      have hk' : r1 (frK C H) T M L (fun M L => r2 (frK C H) T M L fun M L => r3 (frK C H) T M L k) = some out := hk
      rcases trSeq_ok hex hB hB2 hkp [o] env env1 n n1 r1 hs C H T M L _ out a hK hM hn hr hk' with ⟨M1, L1, a1, c1, c2, c3, c4, c5, c6⟩ | ⟨pv, M1, c1, c2, c3⟩
      ·
       rw [c2] at hk'
       obtain ⟨L2, e1, e2, e3⟩ := trCks_ok ws wo n1 n2 r2 L1 _ out q2 hc c6 hk'
       rw [e1] at hk'
       have hT : tvAt T' i = none := by
        have := (tk i).1
        rw [htd (i, ws) (by simp)] at this
        simpa using this
       have hst : stI Ks P ops T' i (a, toMem M) = some (a1, toMem M1) := by
        unfold stI
        rw [q1]
        simp only [hT, stepT]
        simp only [evSeq] at c3
        split at c3
        ·
         rename_i s' hs'
         cases c3
         exact hs'
        · cases c3
       rcases trDr_ok hex hB hB2 hkp tk rest env1 env' n2 n' r3 hd (fun x hx => htd x (by simp [hx])) C H T M1 L2 k out a1 hK c1 c4 e2 hk' with ⟨M', L', a', k1, k2, k3, k4, k5, k6⟩ | ⟨pv, M', k1, k2, k3⟩
       ·
        refine Or.inl ⟨M', L', a', k1, fun H k => ?_, ⟨(a1, toMem M1), hst, e3, k3⟩, k4, by rw [k5, c5], k6⟩
        show r1 (frK C H) T M L (fun M L => r2 (frK C H) T M L fun M L => r3 (frK C H) T M L k) = _
        rw [c2, e1, k2]
       ·
        refine Or.inr ⟨pv, M', k1, fun H k => ?_, Or.inr ⟨(a1, toMem M1), hst, e3, k3⟩⟩
        show r1 (frK C H) T M L (fun M L => r2 (frK C H) T M L fun M L => r3 (frK C H) T M L k) = _
        rw [c2, e1, k2]
      ·
       refine Or.inr ⟨pv, M1, c1, fun H k => c2 _ _, Or.inl ?_⟩
       rcases c3 with ⟨hw, h3⟩ | ⟨_, _, h3⟩
       · exact ⟨o, q1, hw, h3⟩
       · exact h3.elim
     · cases h
    · cases h
   · cases h
  · cases h
end
end Go.Proofs.YtfgfofedacehiaaGreat

