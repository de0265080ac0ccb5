/-
  OWN TEXT: an evaluator made for the kernel: regions whose order is drawn: the order that was looked at stands for all.
-/
import Derived.Test.YtgaigfmboomnkaaGreatXwO
namespace Go.Proofs.YtgaigfmboomnkaaGreat
open Go.RowKit
set_option linter.unusedVariables false
set_option linter.unusedSimpArgs false
section
variable {K : Caller} {P : Program} {ops : Array Oper} {T : Tab} {bl td : List Nat}
/-- all temporaries that are put are there -/
def SzX (ops : Array Oper) (s : St) : Prop := ∀ (i : Nat) (o : Oper) (d : Tmp), ops[i]? = some o → o.dst = some d → d < s.1.tmps.size
theorem SzX.step {i : Nat} {s s' : St} (h : stI K P ops T i s = some s') (k : SzX ops s) : SzX ops s' := by
  intro j oj d h1 h2
  cases q : ops[i]? with
  | none => unfold stI at h; rw [q] at h; cases h
  | some o =>
    obtain ⟨u, hu⟩ := stI_put q h
    rw [hu, put_size]
    exact k j oj d h1 h2
/-- does it write? -/
noncomputable def efF (ops : Array Oper) (td : List Nat) (i : Nat) : Bool := match ops[i]? with | some o => !(lightI ops td i o || isR o.op) | none => true
theorem chain_abs (df : DF ops bl) (tk : TabOk ops T td) {F : St} : ∀ (l : List (Nat × List Nat)) (S : Nat) (Rs : List Nat) (L : Array Bool) (s : St) (W : List Nat), chkO ops bl td (List.range ops.size) l S Rs = true → DC ops bl L → (∀ j, j < ops.size → L.getD j true = tb S j) →
    (∀ w ∈ Rs, tb S w = true ∧ w < ops.size) → (∀ w ∈ W, w ∈ Rs ∧ Hd P ops w s) → SzX ops s → Chain K P ops T l s F → absW P (stI K P ops T) ops bl (efF ops td) F l.length L s W := by
  intro l
  induction l with
  | nil =>
    intro S Rs L s W hc dc hS hRs hW hd hch
    refine ⟨fun w hw => (hW w hw).2, ?_, hch⟩
    have hall : allR (List.range ops.size) (fun j => tb S j) = true := hc
    cases q : Region.ready .any ops L with
    | nil => rfl
    | cons j m =>
      exfalso
      have hj : j ∈ Region.ready .any ops L := by rw [q]; simp
      have h1 := (mem_ready.1 hj).1
      have h2 := ready_lt hj
      rw [hS j h2, allR_iff hall j (List.mem_range.2 h2)] at h1
      cases h1
  | cons x rest ih =>
    obtain ⟨i, ws⟩ := x
    intro S Rs L s W hc dc hS hRs hW hd hch
    obtain ⟨s', hst, hws, hch'⟩ := hch
    have hc' : (match opAt ops i with
      | some o => bif tb S i then false else bif allR (List.range ops.size) (fun j => bif tb (getN bl i) j then tb S j else true) then
          bif lightI ops td i o then chkO ops bl td (List.range ops.size) rest (Nat.lor S (Nat.pow 2 i)) Rs
          else bif isR o.op then chkO ops bl td (List.range ops.size) rest (Nat.lor S (Nat.pow 2 i)) (i :: Rs)
          else bif allR (List.range ops.size) (fun j => bif tb S j then true else bif Nat.beq j i then true else tb (getN bl j) i) && allR Rs (fun w => bif tb (getN bl i) w then true else memN ws w) then chkO ops bl td (List.range ops.size) rest (Nat.lor S (Nat.pow 2 i)) Rs
          else false
        else false
      | none => false) = true := hc
    rw [opAt_eq] at hc'
    cases ho : ops[i]? with
    | none => rw [ho] at hc'; cases hc'
    | some o =>
      rw [ho] at hc'
      simp only at hc'
      have hlt : i < ops.size := (Array.getElem?_eq_some_iff.1 ho).1
      cases hSi : tb S i with
      | true => rw [hSi] at hc'; cases hc'
      | false =>
        rw [hSi, cond_false] at hc'
        cases hall : allR (List.range ops.size) (fun j => bif tb (getN bl i) j then tb S j else true) with
        | false => rw [hall] at hc'; cases hc'
        | true =>
          rw [hall, cond_true] at hc'
          have hun : L.getD i false = false := by rw [getD_lt (by rw [dc.1]; exact hlt) false true, hS i hlt]; exact hSi
          have hrd : i ∈ Region.ready .any ops L := by
            refine mem_ready.2 ⟨by rw [hS i hlt]; exact hSi, o, ho, fun e he hb => ?_⟩
            obtain ⟨k1, k2⟩ := df.fwd i o e ho he hb
            have := allR_iff hall e.on (List.mem_range.2 k2)
            simp only [k1, cond_true] at this
            rw [getD_lt (by rw [dc.1]; exact k2) false true, hS _ k2]
            exact this
          have dc' := dc.set df hrd
          have hS' : ∀ j, j < ops.size → (L.setIfInBounds i true).getD j true = tb (Nat.lor S (Nat.pow 2 i)) j := by
            intro j hj
            rw [getD_set true (by rw [dc.1]; exact hlt), tb_lor, tb_pow]
            by_cases c : i = j
            · rw [if_pos c, decide_eq_true c, Bool.or_true]
            · rw [if_neg c, decide_eq_false c, Bool.or_false]; exact hS j hj
          have hRs' : ∀ w ∈ Rs, tb (Nat.lor S (Nat.pow 2 i)) w = true ∧ w < ops.size := fun w hw => ⟨by rw [tb_lor, (hRs w hw).1]; rfl, (hRs w hw).2⟩
          have hW1 : ∀ w ∈ W, w ≠ i ∧ tb (getN bl w) i = false := by
            intro w hw
            obtain ⟨k1, k2⟩ := hRs w (hW w hw).1
            refine ⟨fun q => (by rw [q, hSi] at k1; cases k1), ?_⟩
            cases z : tb (getN bl w) i with
            | false => rfl
            | true =>
              have := dc.2 w i k2 (by rw [hS w k2]; exact k1) z
              rw [hun] at this; cases this
          have fwd : ∀ (u : Value) (w : Nat), w ≠ i → tb (getN bl w) i = false → (Hd P ops w (s.1.put o.dst u, s.2) ↔ Hd P ops w (s.1, s.2)) := fun u w h1 h2 =>
            Hd.put fun ow d hw hR hdst => df.rd w i ow o d hR hw ho (Ne.symm h1) h2 hdst
          have hd' : SzX ops s' := hd.step hst
          cases hl : lightI ops td i o with
          | true =>
            rw [hl, cond_true] at hc'
            have hlb : lightB (tvAt T i) o.op = true := by
              unfold lightI at hl
              unfold lightB
              rw [(tk i).1, Bool.or_comm]
              exact hl
            have hef : efF ops td i = false := by unfold efF; rw [ho]; simp only [hl]; rfl
            obtain ⟨u, hu⟩ := light_step ho hlb hst
            refine takeW df (SzX ops) (fun _ _ _ => SzX.step) [] hef (fun w hw => by cases hw) ?_ ?_ _ L s s' W dc hd hrd hst hW1 (ih _ Rs _ s' W hc' dc' hS' hRs' (fun w hw => ⟨(hW w hw).1, ?_⟩) hd' hch')
            · intro l j t ti tij dcl hil hjl hne _ h1 h2 _
              obtain ⟨_, oj, hoj, _⟩ := mem_ready.1 hjl
              have hap := ready_apart df dcl hil hjl (Ne.symm hne) ho hoj
              unfold stI at h1 h2 ⊢
              rw [ho] at h1 ⊢
              rw [hoj] at h2 ⊢
              exact swap_P hap (Or.inl hlb) h1 h2
            · intro t ti w h1 h2 h3 h4
              obtain ⟨u', hu'⟩ := light_step ho hlb h1
              subst hu'
              exact (Hd.put fun ow d hw hR hdst => df.rd w i ow o d hR hw ho (Ne.symm h2) h3 hdst).1 h4
            · subst hu
              exact (fwd u w (hW1 w hw).1 (hW1 w hw).2).2 (hW w hw).2
          | false =>
            rw [hl, cond_false] at hc'
            have hT : tvAt T i = none := by
              have := (tk i).1
              unfold lightI at hl
              rw [Bool.or_eq_false_iff] at hl
              rw [hl.2] at this
              simpa using this
            cases hR : isR o.op with
            | true =>
              rw [hR, cond_true] at hc'
              have hef : efF ops td i = false := by unfold efF; rw [ho]; simp only [hl, hR]; rfl
              obtain ⟨u, hu, hu1, hu2⟩ := read_step ho hR hT hst
              obtain ⟨d, hdd, hdl⟩ := df.rg i o hR ho
              have hself : Hd P ops i s' := by
                subst hu
                refine ⟨o, d, ho, hR, hdd, fun hw => ⟨u, ?_, ?_⟩⟩
                · have hw' : Region.wanted o (yielded ops s.1.tmps) = true := by
                    rw [wanted_put o s.1 o.dst u (fun d' q => by rw [hdd] at q; cases q; exact hdl)] at hw; exact hw
                  rw [← hu1 hw', hdd]
                  exact evR_congr (evalO_looks hdl)
                · rw [hdd]
                  show (s.1.put (some d) u).tmps[d]? = some u
                  rw [put_get (hd i o d ho hdd), if_pos rfl]
              refine takeW df (SzX ops) (fun _ _ _ => SzX.step) [i] hef (fun w hw => by simpa using hw) ?_ ?_ _ L s s' W dc hd hrd hst hW1 (ih _ (i :: Rs) _ s' ([i] ++ W) hc' dc' hS' ?_ ?_ hd' hch')
              · intro l j t ti tij dcl hil hjl hne hJt h1 h2 hh
                obtain ⟨_, oj, hoj, _⟩ := mem_ready.1 hjl
                have hap := ready_apart df dcl hil hjl (Ne.symm hne) ho hoj
                obtain ⟨v, hv, hv1, hv2⟩ := read_step ho hR hT h1
                obtain ⟨o', d', k1, k2, k3, k4⟩ := hh i (by simp)
                rw [ho] at k1
                cases k1
                rw [hdd] at k3
                cases k3
                subst hv
                have h2' : stepT K P ops (tvAt T j) oj (t.1.put o.dst v, t.2) = some tij := by
                  unfold stI at h2
                  rw [hoj] at h2
                  exact h2
                obtain ⟨sj, e1, e2⟩ := swap_R hap hR hv2 h2' ⟨d, hdd, hdl, k4⟩ (fun d' q => hJt i o d' ho q)
                refine ⟨sj, ?_, ?_⟩
                · unfold stI; rw [hoj]; exact e1
                · unfold stI; rw [ho]; simp only [hT]; exact e2
              · intro t ti w h1 h2 h3 h4
                obtain ⟨v, hv, _⟩ := read_step ho hR hT h1
                subst hv
                exact (Hd.put fun ow d hw hR hdst => df.rd w i ow o d hR hw ho (Ne.symm h2) h3 hdst).1 h4
              · intro w hw
                rcases List.mem_cons.1 hw with q | q
                · subst q; exact ⟨by rw [tb_lor, tb_pow]; simp, hlt⟩
                · exact hRs' w q
              · intro w hw
                rcases List.mem_append.1 hw with q | q
                · have : w = i := by simpa using q
                  subst this
                  exact ⟨by simp, hself⟩
                · refine ⟨by simp [(hW w q).1], ?_⟩
                  subst hu
                  exact (fwd u w (hW1 w q).1 (hW1 w q).2).2 (hW w q).2
            | false =>
              rw [hR, cond_false] at hc'
              cases hE : (allR (List.range ops.size) (fun j => bif tb S j then true else bif Nat.beq j i then true else tb (getN bl j) i) && allR Rs (fun w => bif tb (getN bl i) w then true else memN ws w)) with
              | false => rw [hE] at hc'; cases hc'
              | true =>
                rw [hE, cond_true] at hc'
                rw [Bool.and_eq_true] at hE
                obtain ⟨hE1, hE2⟩ := hE
                have hef : efF ops td i = true := by unfold efF; rw [ho]; simp only [hl, hR]; rfl
                refine oneW ?_ hrd hst (fun w hw => (hW w hw).2) (ih _ Rs _ s' _ hc' dc' hS' hRs' ?_ hd' hch')
                · intro j hj
                  have hjl := ready_lt hj
                  by_cases c : j = i
                  · exact c
                  · exfalso
                    have hju : tb S j = false := by rw [← hS j hjl]; exact (mem_ready.1 hj).1
                    have k1 := allR_iff hE1 j (List.mem_range.2 hjl)
                    simp only [hju, cond_false, beq_iff, decide_eq_false c] at k1
                    rw [ready_not df dc hun hj] at k1
                    cases k1
                · intro w hw
                  have hwW := flt_mem hw
                  refine ⟨(hW w hwW).1, ?_⟩
                  unfold flt at hw
                  rw [hef, if_pos rfl] at hw
                  have k1 := (List.mem_filter.1 hw).2
                  have k2 := allR_iff hE2 w (hW w hwW).1
                  rw [Bool.not_eq_true'] at k1
                  rw [k1, cond_false, memN_iff, decide_eq_true_eq] at k2
                  exact hws w k2
end
end Go.Proofs.YtgaigfmboomnkaaGreat
