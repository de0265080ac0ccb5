/-
  OWN TEXT: an evaluator made for the kernel: regions whose order is drawn: the order that was looked at stands for all.
-/
import Derived.Test.YtmbjgakehghdjaaKaj
namespace Go.Proofs.Ytmbjgakehghdjaa
open Go.RowKit
set_option linter.unusedVariables false
set_option linter.unusedSimpArgs false
section
variable {K : Caller} {P : Program} {ops : Array Oper} {T : Tab} {bl td : List Nat}
/-- all temporaries that are put are there -/
def Sz (ops : Array Oper) (s : St) : Prop := ∀ (i : Nat) (o : Oper) (d : Tmp), ops[i]? = some o → o.dst = some d → d < s.1.tmps.size
theorem Sz.step {i : Nat} {s s' : St} (h : stI K P ops T i s = some s') (k : Sz ops s) : Sz ops s' := by
  intro j oj d h1 h2
  cases q : ops[i]? with
  | none => unfold stI at h; rw [q] at h; cases h
  | some o =>
    obtain ⟨u, hu⟩ := stI_put q h
    rw [hu, put_size]
    exact k j oj d h1 h2
/-- does it write? -/
noncomputable def efF (ops : Array Oper) (td : List Nat) (i : Nat) : Bool := match ops[i]? with | some o => !(lightI ops td i o || isR o.op) | none => true
theorem chain_abs (df : DF ops bl) (tk : TabOk ops T td) {F : St} : ∀ (l : List (Nat × List Nat)) (S : Nat) (Rs : List Nat) (L : Array Bool) (s : St) (W : List Nat), chkO ops bl td (List.range ops.size) l S Rs = true → DC ops bl L → (∀ j, j < ops.size → L.getD j true = tb S j) →
    (∀ w ∈ Rs, tb S w = true ∧ w < ops.size) → (∀ w ∈ W, w ∈ Rs ∧ Hd P ops w s) → Sz ops s → Chain K P ops T l s F → absW P (stI K P ops T) ops bl (efF ops td) F l.length L s W := by
  intro l
  induction l with
  | nil =>
    intro S Rs L s W hc dc hS hRs hW hd hch
    refine ⟨fun w hw => (hW w hw).2, ?_, hch⟩
    have hall : allR (List.range ops.size) (fun j => tb S j) = true := hc
    cases q : Region.ready .any ops L with
    | nil => rfl
    | cons j m =>
      exfalso
      have hj : j ∈ Region.ready .any ops L := by rw [q]; simp
      have h1 := (mem_ready.1 hj).1
      have h2 := ready_lt hj
      rw [hS j h2, allR_iff hall j (List.mem_range.2 h2)] at h1
      cases h1
  | cons x rest ih =>
    obtain ⟨i, ws⟩ := x
    intro S Rs L s W hc dc hS hRs hW hd hch
    obtain ⟨s', hst, hws, hch'⟩ := hch
    have hc' : (match opAt ops i with
      | some o => bif tb S i then false else bif allR (List.range ops.size) (fun j => bif tb (getN bl i) j then tb S j else true) then
          bif lightI ops td i o then chkO ops bl td (List.range ops.size) rest (Nat.lor S (Nat.pow 2 i)) Rs
          else bif isR o.op then chkO ops bl td (List.range ops.size) rest (Nat.lor S (Nat.pow 2 i)) (i :: Rs)
          else bif allR (List.range ops.size) (fun j => bif tb S j then true else bif Nat.beq j i then true else tb (getN bl j) i) && allR Rs (fun w => bif tb (getN bl i) w then true else memN ws w) then chkO ops bl td (List.range ops.size) rest (Nat.lor S (Nat.pow 2 i)) Rs
          else false
        else false
      | none => false) = true := hc
    rw [opAt_eq] at hc'
    cases ho : ops[i]? with
    | none => rw [ho] at hc'; cases hc'
    | some o =>
      rw [ho] at hc'
      simp only at hc'
      have hlt : i < ops.size := (Array.getElem?_eq_some_iff.1 ho).1
      cases hSi : tb S i with
      | true => rw [hSi] at hc'; cases hc'
      | false =>
        rw [hSi, cond_false] at hc'
        cases hall : allR (List.range ops.size) (fun j => bif tb (getN bl i) j then tb S j else true) with
        | false => rw [hall] at hc'; cases hc'
        | true =>
          rw [hall, cond_true] at hc'
          have hun : L.getD i false = false := by rw [getD_lt (by rw [dc.1]; exact hlt) false true, hS i hlt]; exact hSi
          have hrd : i ∈ Region.ready .any ops L := by
            refine mem_ready.2 ⟨by rw [hS i hlt]; exact hSi, o, ho, fun e he hb => ?_⟩
            obtain ⟨k1, k2⟩ := df.fwd i o e ho he hb
            have := allR_iff hall e.on (List.mem_range.2 k2)
            simp only [k1, cond_true] at this
            rw [getD_lt (by rw [dc.1]; exact k2) false true, hS _ k2]
            exact this
          have dc' := dc.set df hrd
          have hS' : ∀ j, j < ops.size → (L.setIfInBounds i true).getD j true = tb (Nat.lor S (Nat.pow 2 i)) j := by
            intro j hj
            rw [getD_set true (by rw [dc.1]; exact hlt), tb_lor, tb_pow]
            by_cases c : i = j
            · rw [if_pos c, decide_eq_true c, Bool.or_true]
            · rw [if_neg c, decide_eq_false c, Bool.or_false]; exact hS j hj
          have hRs' : ∀ w ∈ Rs, tb (Nat.lor S (Nat.pow 2 i)) w = true ∧ w < ops.size := fun w hw => ⟨by rw [tb_lor, (hRs w hw).1]; rfl, (hRs w hw).2⟩
          have hW1 : ∀ w ∈ W, w ≠ i ∧ tb (getN bl w) i = false := by
            intro w hw
            obtain ⟨k1, k2⟩ := hRs w (hW w hw).1
            refine ⟨fun q => (by rw [q, hSi] at k1; cases k1), ?_⟩
            cases z : tb (getN bl w) i with
            | false => rfl
            | true =>
              have := dc.2 w i k2 (by rw [hS w k2]; exact k1) z
              rw [hun] at this; cases this
          have fwd : ∀ (u : Value) (w : Nat), w ≠ i → tb (getN bl w) i = false → (Hd P ops w (s.1.put o.dst u, s.2) ↔ Hd P ops w (s.1, s.2)) := fun u w h1 h2 =>
            Hd.put fun ow d hw hR hdst => df.rd w i ow o d hR hw ho (Ne.symm h1) h2 hdst
          have hd' : Sz ops s' := hd.step hst
          cases hl : lightI ops td i o with
          | true =>
            rw [hl, cond_true] at hc'
            have hlb : lightB (tvAt T i) o.op = true := by
              unfold lightI at hl
              unfold lightB
              rw [(tk i).1, Bool.or_comm]
              exact hl
            have hef : efF ops td i = false := by unfold efF; rw [ho]; simp only [hl]; rfl
            obtain ⟨u, hu⟩ := light_step ho hlb hst
            refine takeW df (Sz ops) (fun _ _ _ => Sz.step) [] hef (fun w hw => by cases hw) ?_ ?_ _ L s s' W dc hd hrd hst hW1 (ih _ Rs _ s' W hc' dc' hS' hRs' (fun w hw => ⟨(hW w hw).1, ?_⟩) hd' hch')
            · intro l j t ti tij dcl hil hjl hne _ h1 h2 _
              obtain ⟨_, oj, hoj, _⟩ := mem_ready.1 hjl
              have hap := ready_apart df dcl hil hjl (Ne.symm hne) ho hoj
              unfold stI at h1 h2 ⊢
              rw [ho] at h1 ⊢
              rw [hoj] at h2 ⊢
              exact swap_P hap (Or.inl hlb) h1 h2
            · intro t ti w h1 h2 h3 h4
              obtain ⟨u', hu'⟩ := light_step ho hlb h1
              subst hu'
              exact (Hd.put fun ow d hw hR hdst => df.rd w i ow o d hR hw ho (Ne.symm h2) h3 hdst).1 h4
            · subst hu
              exact (fwd u w (hW1 w hw).1 (hW1 w hw).2).2 (hW w hw).2
          | false =>
            rw [hl, cond_false] at hc'
            have hT : tvAt T i = none := by
              have := (tk i).1
              unfold lightI at hl
              rw [Bool.or_eq_false_iff] at hl
              rw [hl.2] at this
              simpa using this
            cases hR : isR o.op with
            | true =>
              rw [hR, cond_true] at hc'
              have hef : efF ops td i = false := by unfold efF; rw [ho]; simp only [hl, hR]; rfl
              obtain ⟨u, hu, hu1, hu2⟩ := read_step ho hR hT hst
              obtain ⟨d, hdd, hdl⟩ := df.rg i o hR ho
              have hself : Hd P ops i s' := by
                subst hu
                refine ⟨o, d, ho, hR, hdd, fun hw => ⟨u, ?_, ?_⟩⟩
                · have hw' : Region.wanted o (yielded ops s.1.tmps) = true := by
                    rw [wanted_put o s.1 o.dst u (fun d' q => by rw [hdd] at q; cases q; exact hdl)] at hw; exact hw
                  rw [← hu1 hw', hdd]
                  exact evR_congr (evalO_looks hdl)
                · rw [hdd]
                  show (s.1.put (some d) u).tmps[d]? = some u
                  rw [put_get (hd i o d ho hdd), if_pos rfl]
              refine takeW df (Sz ops) (fun _ _ _ => Sz.step) [i] hef (fun w hw => by simpa using hw) ?_ ?_ _ L s s' W dc hd hrd hst hW1 (ih _ (i :: Rs) _ s' ([i] ++ W) hc' dc' hS' ?_ ?_ hd' hch')
              · intro l j t ti tij dcl hil hjl hne hJt h1 h2 hh
                obtain ⟨_, oj, hoj, _⟩ := mem_ready.1 hjl
                have hap := ready_apart df dcl hil hjl (Ne.symm hne) ho hoj
                obtain ⟨v, hv, hv1, hv2⟩ := read_step ho hR hT h1
                obtain ⟨o', d', k1, k2, k3, k4⟩ := hh i (by simp)
                rw [ho] at k1
                cases k1
                rw [hdd] at k3
                cases k3
                subst hv
                have h2' : stepT K P ops (tvAt T j) oj (t.1.put o.dst v, t.2) = some tij := by
                  unfold stI at h2
                  rw [hoj] at h2
                  exact h2
                obtain ⟨sj, e1, e2⟩ := swap_R hap hR hv2 h2' ⟨d, hdd, hdl, k4⟩ (fun d' q => hJt i o d' ho q)
                refine ⟨sj, ?_, ?_⟩
                · unfold stI; rw [hoj]; exact e1
                · unfold stI; rw [ho]; simp only [hT]; exact e2
              · intro t ti w h1 h2 h3 h4
                obtain ⟨v, hv, _⟩ := read_step ho hR hT h1
                subst hv
                exact (Hd.put fun ow d hw hR hdst => df.rd w i ow o d hR hw ho (Ne.symm h2) h3 hdst).1 h4
              · intro w hw
                rcases List.mem_cons.1 hw with q | q
                · subst q; exact ⟨by rw [tb_lor, tb_pow]; simp, hlt⟩
                · exact hRs' w q
              · intro w hw
                rcases List.mem_append.1 hw with q | q
                · have : w = i := by simpa using q
                  subst this
                  exact ⟨by simp, hself⟩
                · refine ⟨by simp [(hW w q).1], ?_⟩
                  subst hu
                  exact (fwd u w (hW1 w q).1 (hW1 w q).2).2 (hW w q).2
            | false =>
              rw [hR, cond_false] at hc'
              cases hE : (allR (List.range ops.size) (fun j => bif tb S j then true else bif Nat.beq j i then true else tb (getN bl j) i) && allR Rs (fun w => bif tb (getN bl i) w then true else memN ws w)) with
              | false => rw [hE] at hc'; cases hc'
              | true =>
                rw [hE, cond_true] at hc'
                rw [Bool.and_eq_true] at hE
                obtain ⟨hE1, hE2⟩ := hE
                have hef : efF ops td i = true := by unfold efF; rw [ho]; simp only [hl, hR]; rfl
                refine oneW ?_ hrd hst (fun w hw => (hW w hw).2) (ih _ Rs _ s' _ hc' dc' hS' hRs' ?_ hd' hch')
                · intro j hj
                  have hjl := ready_lt hj
                  by_cases c : j = i
                  · exact c
                  · exfalso
                    have hju : tb S j = false := by rw [← hS j hjl]; exact (mem_ready.1 hj).1
                    have k1 := allR_iff hE1 j (List.mem_range.2 hjl)
                    simp only [hju, cond_false, beq_iff, decide_eq_false c] at k1
                    rw [ready_not df dc hun hj] at k1
                    cases k1
                · intro w hw
                  have hwW := flt_mem hw
                  refine ⟨(hW w hwW).1, ?_⟩
                  unfold flt at hw
                  rw [hef, if_pos rfl] at hw
                  have k1 := (List.mem_filter.1 hw).2
                  have k2 := allR_iff hE2 w (hW w hwW).1
                  rw [Bool.not_eq_true'] at k1
                  rw [k1, cond_false, memN_iff, decide_eq_true_eq] at k2
                  exact hws w k2
end
end Go.Proofs.Ytmbjgakehghdjaa
/-
  OWN TEXT: an evaluator made for the kernel: regions whose order is drawn do what they do.
-/
namespace Go.Proofs.Ytmbjgakehghdjaa
open Go.RowKit
set_option linter.unusedVariables false
set_option linter.unusedSimpArgs false
section
variable {P : Program} {Ks : Caller} {kp : List Nat} {nt : Nat} {ops : Array Oper}
/-- what was read is looked at again -/
theorem trCk_ok {env : Env} {n : Nat} {o : Oper} {w : Nat} {x : XO} (hw : ops[w]? = some o) (h : trCk P kp ops env n o = some x) {K : KC} {T : Tm} {M : Me} {L : Rg} {k : Value → Me → Out} {out : Value × Me} {a : Act} (hr : EnvRel kp env n a T L) (hk : x K T M L k = some out) :
    (∀ k, x K T M L k = k undef M) ∧ Hd P ops w (a, toMem M) := by
  unfold trCk at h
  split at h
  · rename_i t y d hop hdst
    split at h
    · rename_i D sx sy hD hx hy
      split at h
      · rename_i z hz
        rw [frcN_eq] at h
        have hR : isR o.op = true := by rw [hop]; rfl
        have ex := hr.fits _ _ hx
        have ey := hr.fits _ _ hy
        have ck : ∀ (k : Value → Me → Out) (out : Value × Me), xCk z D.isRow sx sy K T M L k = some out → (∀ k, xCk z D.isRow sx sy K T M L k = k undef M) ∧ ∃ v, evR P (toMem M) (evalO a) o = some v ∧ a.tmps[d]? = some v := by
          intro k out hk
          have hk' : ldK z D.isRow (sx T L) M (fun u => Bool.rec (motive := fun _ => Out) none (k undef M) (eq3 u (sy T L))) = some out := hk
          obtain ⟨b, off, u, e1, e2, e3⟩ := ldK_some (P := P) hk'
          rw [e2] at hk'
          cases q : eq3 u (sy T L) with
          | false => rw [q] at hk'; cases hk'
          | true =>
            have hu := eq3_ok q
            refine ⟨fun k => ?_, u, ?_, ?_⟩
            · show ldK z D.isRow (sx T L) M (fun u => Bool.rec (motive := fun _ => Out) none (k undef M) (eq3 u (sy T L))) = _
              rw [e2, q]
            · have ex' : evalO a y = some (.pointer (some ⟨b, off, none⟩)) := by rw [ex, e1]
              obtain ⟨dst, op, type, pos, after, guard⟩ := o
              simp only at hop
              subst hop
              rcases e3 with ⟨blk, hb, ⟨hrow, c1, c2⟩ | ⟨hrow, c1⟩⟩ | ⟨hb, hrow, z', c1, c2⟩
              · rw [hrow, cond_true, Option.map_eq_some_iff] at hz
                obtain ⟨i, hi, rfl⟩ := hz
                simp only [evR, ex', hb, hD, hrow, if_true, hi, c1, c2]
              · simp only [evR, ex', hb, hD, hrow, Bool.false_eq_true, if_false, c1]
              · simp only [evR, ex', hb, hD, hrow, Bool.false_eq_true, if_false, c1, c2]
            · rw [hu]; exact ey
        split at h
        · rename_i hg
          cases h
          obtain ⟨k1, v, k2, k3⟩ := ck k out hk
          exact ⟨k1, o, d, hw, hR, hdst, fun _ => ⟨v, k2, k3⟩⟩
        · rename_i j b hg
          split at h
          · rename_i u hu
            split at h
            · rename_i sg hsg
              cases h
              have hk' : asB (sg T L) (fun c => Bool.rec (motive := fun _ => Out) (k undef M) (xCk z D.isRow sx sy K T M L k) (c == b)) = some out := hk
              obtain ⟨c, ec, hk1⟩ := asB_some hk'
              have eg := hr.fits _ _ hsg
              rw [ec] at eg
              have hyl : yielded ops a.tmps j = some c := by
                unfold yielded
                rw [hu]
                simp only [evalO] at eg
                simp only [Option.bind_some, eg]
              have hwt : Region.wanted o (yielded ops a.tmps) = (c == b) := by
                unfold Region.wanted
                rw [hg]
                simp only [hyl]
                cases c <;> cases b <;> rfl
              have key : ∀ k, xGd sg b (xCk z D.isRow sx sy) K T M L k = Bool.rec (motive := fun _ => Out) (k undef M) (xCk z D.isRow sx sy K T M L k) (c == b) := fun k => by
                show asB (sg T L) (fun c => Bool.rec (motive := fun _ => Out) (k undef M) (xCk z D.isRow sx sy K T M L k) (c == b)) = _
                rw [ec]; rfl
              cases hcb : (c == b) with
              | true =>
                rw [hcb] at hk1
                obtain ⟨k1, v, k2, k3⟩ := ck k out hk1
                exact ⟨fun k => by rw [key, hcb]; exact k1 k, o, d, hw, hR, hdst, fun _ => ⟨v, k2, k3⟩⟩
              | false =>
                refine ⟨fun k => by rw [key, hcb], o, d, hw, hR, hdst, fun q => ?_⟩
                rw [hwt, hcb] at q; cases q
            · cases h
          · cases h
      · cases h
    · cases h
  · cases h
theorem opsAt_some : ∀ {l : List Nat} {m : List Oper}, opsAt ops l = some m → m.length = l.length ∧ ∀ (i w : Nat), l[i]? = some w → ∃ o, ops[w]? = some o ∧ m[i]? = some o
  | [], m, h => by cases h; exact ⟨rfl, fun i w e => by simp at e⟩
  | i :: l, m, h => by
    simp only [opsAt] at h
    split at h
    · rename_i o m' q1 q2
      cases h
      obtain ⟨h1, h2⟩ := opsAt_some q2
      refine ⟨by simp [h1], fun j w e => ?_⟩
      cases j with
      | zero => simp at e; subst e; rw [opAt_eq] at q1; exact ⟨o, q1, rfl⟩
      | succ j => simpa using h2 j w (by simpa using e)
    · cases h
theorem trCks_ok {env : Env} {K : KC} {T : Tm} {M : Me} {a : Act} : ∀ (ws : List Nat) (l : List Oper) (n n' : Nat) (xr : XR) (L : Rg) (k : Me → Rg → Out) (out : Value × Me), opsAt ops ws = some l → trCks P kp ops env l n = some (xr, n') → EnvRel kp env n a T L → xr K T M L k = some out →
    ∃ L', (∀ k, xr K T M L k = k M L') ∧ EnvRel kp env n' a T L' ∧ ∀ w ∈ ws, Hd P ops w (a, toMem M)
  | [], l, n, n', xr, L, k, out, ho, h, hr, hk => by
    cases ho
    cases h
    exact ⟨L, fun k => rfl, hr, fun w hw => by cases hw⟩
  | w :: ws, l, n, n', xr, L, k, out, ho, h, hr, hk => by
    simp only [opsAt] at ho
    split at ho
    · rename_i o m q1 q2
      cases ho
      rw [opAt_eq] at q1
      simp only [trCks] at h
      split at h
      · rename_i x hx
        rw [frcN_eq] at h
        split at h
        · rename_i r q hq
          cases h
          have hk' : x K T M L (fun v M => r K T M (pushR v L) k) = some out := hk
          obtain ⟨k1, k2⟩ := trCk_ok q1 hx hr hk'
          rw [k1] at hk'
          obtain ⟨L', e1, e2, e3⟩ := trCks_ok ws m (n + 1) n' r (pushR undef L) k out q2 hq (hr.grow undef) hk'
          refine ⟨L', fun k => ?_, e2, fun w' hw' => ?_⟩
          · show x K T M L (fun v M => r K T M (pushR v L) k) = _
            rw [k1, e1]
          · rcases List.mem_cons.1 hw' with q | q
            · subst q; exact k2
            · exact e3 w' q
        · cases h
      · cases h
    · cases ho
theorem trSeq_dst {ex : Xn} : ∀ (l : List Oper) (env env' : Env) (n n' : Nat) (xr : XR), trSeq P ex kp nt ops l env n = some (xr, env', n') → ∀ o ∈ l, ∀ d, o.dst = some d → d < nt
  | [], _, _, _, _, _, _, o, ho, _, _ => by cases ho
  | p :: l, env, env', n, n', xr, h, o, ho, d, hd => by
    simp only [trSeq] at h
    have fin : ∀ s env1, addE nt p.dst s env = some env1 → p.dst = some d → d < nt := by
      intro s env1 he hd
      rcases addE_some he with ⟨q, _⟩ | ⟨d', q, hlt, _⟩
      · rw [q] at hd; cases hd
      · rw [q] at hd; cases hd; exact hlt
    split at h
    · split at h
      · split at h
        · split at h
          · rename_i env1 he
            rcases List.mem_cons.1 ho with q | q
            · subst q; exact fin _ _ he hd
            · exact trSeq_dst l _ _ _ _ _ h o q d hd
          · cases h
        · cases h
      · split at h
        · rename_i he
          rw [frcN_eq] at h
          split at h
          · rename_i hq
            cases h
            rcases List.mem_cons.1 ho with q | q
            · subst q; exact fin _ _ he hd
            · exact trSeq_dst l _ _ _ _ _ hq o q d hd
          · cases h
        · cases h
    · split at h
      · rename_i he
        split at h
        · rw [frcN_eq] at h
          split at h
          · rename_i hq
            cases h
            rcases List.mem_cons.1 ho with q | q
            · subst q; exact fin _ _ he hd
            · exact trSeq_dst l _ _ _ _ _ hq o q d hd
          · cases h
        · cases h
      · cases h
/-- operations in an order -/
theorem trDr_ok {ex : Xn} (hex : XnOk P ex) (hB : KBody P Ks) (hkp : kp.length ≤ 64) {T' : Tab} {td : List Nat} (tk : TabOk ops T' td) : ∀ (l : List (Nat × List Nat)) (env env' : Env) (n n' : Nat) (xr : XR), trDr P ex kp nt ops l env n = some (xr, env', n') → (∀ x ∈ l, memN td x.1 = false) →
    ∀ (K : KC) (T : Tm) (M : Me) (L : Rg) (k : Me → Rg → Out) (out : Value × Me) (a : Act), KGood K Ks → Can M → a.tmps.size = nt → EnvRel kp env n a T L → xr K T M L k = some out →
    ∃ M' L' a', Can M' ∧ (∀ k, xr K T M L k = k M' L') ∧ Chain Ks P ops T' l (a, toMem M) (a', toMem M') ∧ a'.tmps.size = nt ∧ a'.defers = a.defers ∧ EnvRel kp env' n' a' T L'
  | [], env, env', n, n', xr, h, _, K, T, M, L, k, out, a, hK, hM, hn, hr, hk => by
    cases h
    exact ⟨M, L, a, hM, fun k => rfl, rfl, hn, rfl, hr⟩
  | (i, ws) :: rest, env, env', n, n', xr, h, htd, K, T, M, L, k, out, a, hK, hM, hn, hr, hk => by
    simp only [trDr] at h
    split at h
    · rename_i o wo q1 q2
      rw [opAt_eq] at q1
      split at h
      · rename_i r1 env1 n1 hs
        split at h
        · rename_i r2 n2 hc
          split at h
          · rename_i r3 q hd
            cases h
            have hk' : r1 K T M L (fun M L => r2 K T M L fun M L => r3 K T M L k) = some out := hk
            obtain ⟨M1, L1, a1, c1, c2, c3, c4, c5, c6⟩ := trSeq_ok hex hB hkp [o] env env1 n n1 r1 hs K T M L _ out a hK hM hn hr hk'
            rw [c2] at hk'
            obtain ⟨L2, e1, e2, e3⟩ := trCks_ok ws wo n1 n2 r2 L1 _ out q2 hc c6 hk'
            rw [e1] at hk'
            obtain ⟨M', L', a', k1, k2, k3, k4, k5, k6⟩ := trDr_ok hex hB hkp tk rest env1 env' n2 n' r3 hd (fun x hx => htd x (by simp [hx])) K T M1 L2 k out a1 hK c1 c4 e2 hk'
            refine ⟨M', L', a', k1, fun k => ?_, ⟨(a1, toMem M1), ?_, e3, k3⟩, k4, by rw [k5, c5], k6⟩
            · show r1 K T M L (fun M L => r2 K T M L fun M L => r3 K T M L k) = _
              rw [c2, e1, k2]
            · have hT : tvAt T' i = none := by
                have := (tk i).1
                rw [htd (i, ws) (by simp)] at this
                simpa using this
              unfold stI
              rw [q1]
              simp only [hT, stepT]
              simp only [evSeq] at c3
              split at c3
              · rename_i s' hs'
                cases c3
                exact hs'
              · cases c3
          · cases h
        · cases h
      · cases h
    · cases h
end
end Go.Proofs.Ytmbjgakehghdjaa
/-
  OWN TEXT: an evaluator made for the kernel: regions whose order is drawn: new blocks told ahead; the whole region.
-/
namespace Go.Proofs.Ytmbjgakehghdjaa
open Go.RowKit
set_option linter.unusedVariables false
set_option linter.unusedSimpArgs false
section
variable {P : Program} {Ks : Caller} {kp : List Nat} {nt : Nat} {ops : Array Oper}
theorem evOp_N {K : Caller} {A : Mem} {e : Operand → Option Value} {o : Oper} (h : isN o.op = true) : evOp K P A e o = (evN P A.length e o).map fun x => (x.1, A ++ [some x.2]) := by
  obtain ⟨dst, op, type, pos, after, guard⟩ := o
  cases op <;> first | rfl | cases h
theorem evR_more {A Y : Mem} {e : Operand → Option Value} {o : Oper} {v : Value} (h : evR P A e o = some v) : evR P (A ++ Y) e o = some v := by
  obtain ⟨dst, op, type, pos, after, guard⟩ := o
  cases op
  case load t x =>
    simp only [evR] at h ⊢
    split at h
    · rename_i b off q
      have key : ∀ z, A[b]? = some z → (A ++ Y)[b]? = some z := fun z hz => by rw [List.getElem?_append_left (some_lt hz)]; exact hz
      cases hb : A[b]? with
      | none => rw [hb] at h; cases h
      | some z => rw [hb] at h; rw [key z hb]; exact h
    · cases h
  all_goals cases h
theorem chain_app {T : Tab} : ∀ (l m : List (Nat × List Nat)) (s F : St), Chain Ks P ops T (l ++ m) s F ↔ ∃ s1, Chain Ks P ops T l s s1 ∧ Chain Ks P ops T m s1 F
  | [], m, s, F => ⟨fun h => ⟨s, rfl, h⟩, fun ⟨s1, h1, h2⟩ => by cases h1; exact h2⟩
  | (i, ws) :: l, m, s, F => by
    constructor
    · rintro ⟨s', h1, h2, h3⟩
      obtain ⟨s1, k1, k2⟩ := (chain_app l m s' F).1 h3
      exact ⟨s1, ⟨s', h1, h2, k1⟩, k2⟩
    · rintro ⟨s1, ⟨s', h1, h2, k1⟩, k2⟩
      exact ⟨s', h1, h2, (chain_app l m s' F).2 ⟨s1, k1, k2⟩⟩
theorem chain_same {T T' : Tab} : ∀ (l : List (Nat × List Nat)) (s F : St), (∀ x ∈ l, tvAt T x.1 = tvAt T' x.1) → Chain Ks P ops T l s F → Chain Ks P ops T' l s F
  | [], s, F, _, h => h
  | (i, ws) :: l, s, F, hx, ⟨s', h1, h2, h3⟩ => ⟨s', by
      have := hx (i, ws) (by simp)
      unfold stI at h1 ⊢
      rw [← this]
      exact h1, h2, chain_same l s' F (fun x hm => hx x (by simp [hm])) h3⟩
/-- the blocks that are told, with their numbers -/
def tabOf : Nat → List (Nat × Value × Blk) → Tab
  | _, [] => []
  | n, (i, v, b) :: l => (i, v, n, b) :: tabOf (n + 1) l
theorem tabOf_none : ∀ (X : List (Nat × Value × Blk)) (n i : Nat), i ∉ X.map (·.1) → tabAt (tabOf n X) i = none
  | [], n, i, _ => rfl
  | (j, v, b) :: X, n, i, h => by
    rw [List.map_cons, List.mem_cons, not_or] at h
    simp only [tabOf, tabAt]
    rw [if_neg (fun e => h.1 e.symm)]
    exact tabOf_none X (n + 1) i h.2
theorem tabOf_at : ∀ (X : List (Nat × Value × Blk)) (n : Nat), (X.map (·.1)).Nodup → ∀ (k i : Nat) (v : Value) (b : Blk), X[k]? = some (i, v, b) → tabAt (tabOf n X) i = some (v, n + k, b)
  | [], n, _, k, i, v, b, h => by cases h
  | (j, u, c) :: X, n, hn, k, i, v, b, h => by
    rw [List.map_cons, List.nodup_cons] at hn
    simp only [tabOf, tabAt]
    cases k with
    | zero => simp at h; obtain ⟨rfl, rfl, rfl⟩ := h; rw [if_pos rfl]; rfl
    | succ k =>
      rw [List.getElem?_cons_succ] at h
      have hne : j ≠ i := fun q => hn.1 (by rw [q]; exact List.mem_map.2 ⟨(i, v, b), List.mem_of_getElem? h, rfl⟩)
      rw [if_neg hne, tabOf_at X (n + 1) hn.2 k i v b h, show n + 1 + k = n + (k + 1) by omega]
theorem tabOf_inv : ∀ (X : List (Nat × Value × Blk)) (n i : Nat) (v : Value) (p : Nat) (b : Blk), tabAt (tabOf n X) i = some (v, p, b) → ∃ k, p = n + k ∧ X[k]? = some (i, v, b)
  | [], n, i, v, p, b, h => by cases h
  | (j, u, c) :: X, n, i, v, p, b, h => by
    simp only [tabOf, tabAt] at h
    split at h
    · rename_i q; cases h; subst q; exact ⟨0, rfl, rfl⟩
    · obtain ⟨k, h1, h2⟩ := tabOf_inv X (n + 1) i v p b h
      exact ⟨k + 1, by omega, h2⟩
/-- what comes first, with its blocks told ahead -/
theorem retell {td : List Nat} : ∀ (l : List Nat) (A : Mem) (ac : Act) (s1 : St), (∀ i ∈ l, okI ops td i = true) → Chain Ks P ops [] (l.map fun i => (i, ([] : List Nat))) (ac, A) s1 →
    ∃ X : List (Nat × Value × Blk), s1.2 = A ++ X.map (fun x => some x.2.2) ∧ X.map (·.1) = l.filter (memN td) ∧
      ∀ (Tf : Tab) (Z : Mem), (∀ (k i : Nat) (v : Value) (b : Blk), X[k]? = some (i, v, b) → tabAt Tf i = some (v, A.length + k, b)) → (∀ i ∈ l, memN td i = false → tabAt Tf i = none) → Chain Ks P ops Tf (l.map fun i => (i, ([] : List Nat))) (ac, s1.2 ++ Z) (s1.1, s1.2 ++ Z)
  | [], A, ac, s1, _, h => by
    cases h
    exact ⟨[], by simp, rfl, fun Tf Z _ _ => rfl⟩
  | i :: l, A, ac, s1, hok, h => by
    obtain ⟨s', hs, _, hch⟩ := h
    have hi := hok i (by simp)
    unfold okI at hi
    rw [opAt_eq] at hi
    unfold stI at hs
    cases ho : ops[i]? with
    | none => rw [ho] at hi; cases hi
    | some o =>
      rw [ho] at hi hs
      simp only at hi hs
      have hs : stepA Ks P ops o (ac, A) = some s' := hs
      cases htd : memN td i with
      | true =>
        rw [htd, cond_true, Bool.and_eq_true] at hi
        have hg : o.guard = none := by simpa using hi.2
        unfold stepA at hs
        have hw : Region.wanted o (yielded ops ac.tmps) = true := by unfold Region.wanted; rw [hg]
        simp only [hw, if_true] at hs
        rw [evOp_N hi.1] at hs
        cases z : evN P A.length (evalO ac) o with
        | none => rw [z] at hs; cases hs
        | some x =>
          obtain ⟨v, b⟩ := x
          rw [z] at hs
          cases hs
          obtain ⟨X, k1, k2, k3⟩ := retell l (A ++ [some b]) (ac.put o.dst v) s1 (fun j hj => hok j (by simp [hj])) hch
          refine ⟨(i, v, b) :: X, by rw [k1]; simp, by rw [List.filter_cons, htd]; simp [k2], fun Tf Z h1 h2 => ?_⟩
          refine ⟨(ac.put o.dst v, s1.2 ++ Z), ?_, fun w hw => (by cases hw), ?_⟩
          · have ht := h1 0 i v b rfl
            unfold stI
            rw [ho]
            show stepT Ks P ops (tabAt Tf i) o _ = _
            rw [ht]
            simp only [stepT, hw, if_true]
            rw [if_pos (by simpa using z)]
          · refine k3 Tf Z (fun k j u c hx => ?_) (fun j hj => h2 j (by simp [hj]))
            rw [h1 (k + 1) j u c (by simpa using hx)]
            simp
            omega
      | false =>
        rw [htd, cond_false] at hi
        obtain ⟨u, hu⟩ : ∃ u, s' = (ac.put o.dst u, A) ∧ ∀ Y : Mem, stepA Ks P ops o (ac, A ++ Y) = some (ac.put o.dst u, A ++ Y) := by
          unfold stepA at hs
          simp only at hs
          cases hw : Region.wanted o (yielded ops ac.tmps) with
          | false =>
            rw [hw, if_neg (by decide)] at hs
            cases hs
            exact ⟨undef, rfl, fun Y => by unfold stepA; simp only [hw]; rfl⟩
          | true =>
            rw [hw, if_pos rfl] at hs
            rw [Bool.or_eq_true] at hi
            rcases hi with hi | hi
            · obtain ⟨u, hu⟩ := evOp_P (K := Ks) (P := P) (A := A) (e := evalO ac) hi
              rw [hu A] at hs
              cases u with
              | none => cases hs
              | some u => cases hs; exact ⟨u, rfl, fun Y => by unfold stepA; simp only [hw, if_true]; rw [hu]; rfl⟩
            · rw [evOp_R hi] at hs
              cases q : evR P A (evalO ac) o with
              | none => rw [q] at hs; cases hs
              | some u => rw [q] at hs; cases hs; exact ⟨u, rfl, fun Y => by unfold stepA; simp only [hw, if_true]; rw [evOp_R hi, evR_more q]; rfl⟩
        obtain ⟨hu1, hu2⟩ := hu
        subst hu1
        obtain ⟨X, k1, k2, k3⟩ := retell l A (ac.put o.dst u) s1 (fun j hj => hok j (by simp [hj])) hch
        refine ⟨X, k1, by rw [List.filter_cons, htd]; simpa using k2, fun Tf Z h1 h2 => ?_⟩
        refine ⟨(ac.put o.dst u, s1.2 ++ Z), ?_, fun w hw => (by cases hw), k3 Tf Z h1 (fun j hj => h2 j (by simp [hj]))⟩
        have ht := h2 i (by simp) htd
        unfold stI
        rw [ho]
        show stepT Ks P ops (tabAt Tf i) o _ = _
        rw [ht]
        show stepA Ks P ops o (ac, s1.2 ++ Z) = _
        rw [k1, List.append_assoc]
        exact hu2 _
/-- blocks are told that the world has not laid yet -/
theorem Rel.tellAll {w0 w : World} : ∀ (X : List (Nat × Value × Blk)) {r : Rho} {A : Mem}, Rel P w0 r A w → Rel P w0 (r ++ List.replicate X.length none) (A ++ X.map (fun x => some x.2.2)) w
  | [], r, A, h => by simpa using h
  | x :: X, r, A, h => by
    have := Rel.tellAll X (h.tell x.2.2)
    simpa [List.replicate_succ, List.append_assoc] using this
theorem chkO_nodup {bl td ix : List Nat} : ∀ (l : List (Nat × List Nat)) (S : Nat) (Rs : List Nat), chkO ops bl td ix l S Rs = true → (∀ x ∈ l, tb S x.1 = false) ∧ (l.map (·.1)).Nodup
  | [], S, Rs, _ => ⟨fun x h => (by cases h), List.nodup_nil⟩
  | (i, ws) :: l, S, Rs, h => by
    have h' : (match opAt ops i with
      | some o => bif tb S i then false else bif allR ix (fun j => bif tb (getN bl i) j then tb S j else true) then
          bif lightI ops td i o then chkO ops bl td ix l (Nat.lor S (Nat.pow 2 i)) Rs
          else bif isR o.op then chkO ops bl td ix l (Nat.lor S (Nat.pow 2 i)) (i :: Rs)
          else bif allR ix (fun j => bif tb S j then true else bif Nat.beq j i then true else tb (getN bl j) i) && allR Rs (fun w => bif tb (getN bl i) w then true else memN ws w) then chkO ops bl td ix l (Nat.lor S (Nat.pow 2 i)) Rs
          else false
        else false
      | none => false) = true := h
    cases ho : opAt ops i with
    | none => rw [ho] at h'; cases h'
    | some o =>
      rw [ho] at h'
      simp only at h'
      cases hS : tb S i with
      | true => rw [hS] at h'; cases h'
      | false =>
        rw [hS, cond_false] at h'
        cases ha : allR ix (fun j => bif tb (getN bl i) j then tb S j else true) with
        | false => rw [ha] at h'; cases h'
        | true =>
          rw [ha, cond_true] at h'
          have fin : ∀ Rs', chkO ops bl td ix l (Nat.lor S (Nat.pow 2 i)) Rs' = true → (∀ x ∈ (i, ws) :: l, tb S x.1 = false) ∧ (((i, ws) :: l).map (·.1)).Nodup := by
            intro Rs' hc
            obtain ⟨k1, k2⟩ := chkO_nodup l _ Rs' hc
            refine ⟨fun x hx => ?_, ?_⟩
            · rcases List.mem_cons.1 hx with e | e
              · subst e; exact hS
              · have := k1 x e
                rw [tb_lor, Bool.or_eq_false_iff] at this
                exact this.1
            · rw [List.map_cons, List.nodup_cons]
              refine ⟨fun hm => ?_, k2⟩
              obtain ⟨x, hx, e⟩ := List.mem_map.1 hm
              have := k1 x hx
              rw [e, tb_lor, tb_pow, decide_eq_true rfl, Bool.or_true] at this
              cases this
          cases hl : lightI ops td i o with
          | true => rw [hl, cond_true] at h'; exact fin _ h'
          | false =>
            rw [hl, cond_false] at h'
            cases hR : isR o.op with
            | true => rw [hR, cond_true] at h'; exact fin _ h'
            | false =>
              rw [hR, cond_false] at h'
              cases hE : (allR ix (fun j => bif tb S j then true else bif Nat.beq j i then true else tb (getN bl j) i) && allR Rs (fun w => bif tb (getN bl i) w then true else memN ws w)) with
              | false => rw [hE] at h'; cases h'
              | true => rw [hE, cond_true] at h'; exact fin _ h'
theorem draw_reg {ex : Xn} (hex : XnOk P ex) (hB : KBody P Ks) (hK0 : KOk P Ks) (hP : Plain P) (hm : P.follows .mixedOrders = true) (hkp : kp.length ≤ 64) {hint : Hint} {xr : XR} {env : Env} {n id : Nat} (h : trDraw P ex kp nt ops hint = some (xr, env, n)) : RegOk P Ks kp nt xr env n (.region id ops true) := by
  unfold trDraw at h
  cases hdb : drawB ops nt hint (List.range ops.size) with
  | false => rw [hdb] at h; cases h
  | true =>
    rw [hdb, cond_true] at h
    unfold drawB at hdb
    simp only [Bool.and_eq_true] at hdb
    obtain ⟨⟨⟨⟨⟨⟨⟨⟨hlen, hchkd⟩, hnt⟩, hcb⟩, hca⟩, hcr⟩, hok⟩, htd⟩, hco⟩ := hdb
    have hlen := Nat.eq_of_beq_eq_true hlen
    have df := df_of hcb hca hcr
    intro K T M k out a hK hM hn hT hk
    have tk0 : TabOk ops [] [] := fun i => ⟨rfl, fun q => by cases q⟩
    obtain ⟨M', L', a', k1, k2, k3, k4, k5, k6⟩ := trDr_ok hex hB hkp tk0 (itAll hint) [] env 0 n xr h (fun x _ => rfl) K T M r0 k out a hK hM hn (hT.env r0) hk
    obtain ⟨s1, c1, c2⟩ := (chain_app (hint.i1.map fun i => (i, ([] : List Nat))) hint.it _ _).1 k3
    obtain ⟨X, x1, x2, x3⟩ := retell (td := hint.td) hint.i1 (toMem M) a s1 (fun i hi => allR_iff hok i hi) c1
    have hnd : ((itAll hint).map (·.1)).Nodup := (chkO_nodup _ _ _ hco).2
    have e1 : (itAll hint).map (·.1) = hint.i1 ++ hint.it.map (·.1) := by unfold itAll; simp [List.map_map, Function.comp_def]
    rw [e1] at hnd
    have hndX : (X.map (·.1)).Nodup := by rw [x2]; exact (List.nodup_append.1 hnd).1.filter _
    have memX : ∀ i, i ∈ X.map (·.1) ↔ memN hint.td i = true := by
      intro i
      rw [x2, List.mem_filter]
      refine ⟨fun q => q.2, fun q => ⟨?_, q⟩⟩
      have : i ∈ hint.td := by rw [memN_iff, decide_eq_true_eq] at q; exact q
      have := allR_iff htd i this
      rw [memN_iff, decide_eq_true_eq] at this
      exact this
    let Tf : Tab := tabOf (toMem M).length X
    have hnone : ∀ i, memN hint.td i = false → tabAt Tf i = none := fun i q => tabOf_none X _ i (fun z => by rw [(memX i).1 z] at q; cases q)
    have tk : TabOk ops Tf hint.td := by
      intro i
      cases q : memN hint.td i with
      | false => exact ⟨by unfold tvAt; rw [hnone i q]; rfl, fun z => by cases z⟩
      | true =>
        have hm' := (memX i).2 q
        obtain ⟨⟨j, v, b⟩, h1, h2⟩ := List.mem_map.1 hm'
        simp only at h2
        subst h2
        obtain ⟨kk, hkk⟩ := List.getElem?_of_mem h1
        refine ⟨by unfold tvAt; rw [tabOf_at X _ hndX kk j v b hkk]; rfl, fun _ => ?_⟩
        have hi1 : j ∈ hint.i1 := by
          have : j ∈ hint.i1.filter (memN hint.td) := by rw [← x2]; exact hm'
          exact (List.mem_filter.1 this).1
        have := allR_iff hok j hi1
        unfold okI at this
        rw [opAt_eq] at this
        cases ho : ops[j]? with
        | none => rw [ho] at this; cases this
        | some o =>
          rw [ho] at this
          simp only [q, cond_true, Bool.and_eq_true] at this
          exact ⟨o, rfl, this.1⟩
    have hc1 := x3 Tf [] (fun kk i v b hx => tabOf_at X _ hndX kk i v b hx) (fun i _ q => hnone i q)
    rw [List.append_nil] at hc1
    have hc2 : Chain Ks P ops Tf hint.it (s1.1, s1.2) (a', toMem M') := by
      refine chain_same (T := []) hint.it _ _ (fun x hx => ?_) c2
      have := allR_iff hnt x hx
      have q : memN hint.td x.1 = false := by simpa using this
      unfold tvAt
      rw [hnone x.1 q]
      rfl
    have hchain : Chain Ks P ops Tf (itAll hint) (a, s1.2) (a', toMem M') := (chain_app _ _ _ _).2 ⟨(s1.1, s1.2), hc1, hc2⟩
    have hsz : Sz ops (a, s1.2) := by
      intro i o d ho hdd
      have := allR_iff hchkd i (List.mem_range.2 (Array.getElem?_eq_some_iff.1 ho).1)
      simp only [opAt_eq, ho, hdd] at this
      rw [blt_iff, decide_eq_true_eq] at this
      show d < a.tmps.size
      rw [hn]
      exact this
    have dc0 : DC ops hint.bl (Array.replicate ops.size false) := by
      refine ⟨by simp, fun j i hj h1 _ => ?_⟩
      simp [hj] at h1
    have habs := absW_any _ _ _ _ _ _ _ _ _ _ (chain_abs df tk _ 0 [] (Array.replicate ops.size false) (a, s1.2) [] hco dc0 (fun j hj => by rw [tb_zero]; simp [hj]) (fun w hw => by cases hw) (fun w hw => by cases hw) hsz hchain)
    rw [hlen] at habs
    refine ⟨M', L', a', k1, k2, k4, k5, k6, fun w0 r aw w ha hr => ?_⟩
    have hrel := Rel.tellAll X hr.drew
    rw [← x1] at hrel
    refine wp_region_any hm ?_
    have hle : r.le (r ++ List.replicate X.length none) := ⟨_, rfl⟩
    refine absT_sound hK0 hP _ _ (a, s1.2) habs (r ++ List.replicate X.length none) aw w.drew (ha.mono hle.wk) hrel ⟨hle, fun i v p b e => ?_, fun i j v u p b c e1 e2 => ?_⟩ (by show Keep r (toMem M) s1.2; rw [x1]; exact (Keep.refl r (toMem M)).push hr.len _) fun r' a2 w' h1 h2 h3 h4 => ⟨rfl, r', h1, h2, h3, h4⟩
    · obtain ⟨kk, rfl, hx⟩ := tabOf_inv X _ i v p b e
      have hl := hr.len
      refine ⟨by omega, fun _ => ⟨?_, ?_⟩⟩
      · rw [← hl, List.getElem?_append_right (by omega), Nat.add_sub_cancel_left, List.getElem?_replicate, if_pos (some_lt hx)]
      · show s1.2[_]? = _
        rw [x1, List.getElem?_append_right (by omega), Nat.add_sub_cancel_left, List.getElem?_map, hx]
        rfl
    · obtain ⟨k1', q1, hx1⟩ := tabOf_inv X _ i v p b e1
      obtain ⟨k2', q2, hx2⟩ := tabOf_inv X _ j u p c e2
      have : k1' = k2' := by omega
      subst this
      rw [hx1] at hx2
      cases hx2
      rfl
end
end Go.Proofs.Ytmbjgakehghdjaa
