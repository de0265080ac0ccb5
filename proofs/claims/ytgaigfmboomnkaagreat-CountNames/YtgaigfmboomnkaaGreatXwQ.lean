/-
  OWN TEXT: an evaluator made for the kernel: regions whose order is drawn do what they do.
-/
import Derived.Test.YtgaigfmboomnkaaGreatXwU
namespace Go.Proofs.YtgaigfmboomnkaaGreat
open Go.RowKit
set_option linter.unusedVariables false
set_option linter.unusedSimpArgs false
section
variable {P : Program} {Ks Kp : Caller} {kp : List Nat} {nt : Nat} {ops : Array Oper}
/-- what was read is looked at again -/
theorem trCk_ok {env : Env} {n : Nat} {o : Oper} {w : Nat} {x : XO} (hw : ops[w]? = some o) (h : trCk P kp ops env n o = some x) {K : KC} {T : Tm} {M : Me} {L : Rg} {k : Value → Me → Out} {out : Value × Me} {a : Act} (hr : EnvRel kp env n a T L) (hk : x K T M L k = some out) :
    (∀ K k, x K T M L k = k undef M) ∧ Hd P ops w (a, toMem M) := by
  unfold trCk at h
  split at h
  · rename_i t y d hop hdst
    split at h
    · rename_i D sx sy hD hx hy
      split at h
      · rename_i z hz
        rw [frcN_eq] at h
        have hR : isR o.op = true := by rw [hop]; rfl
        have ex := hr.fits _ _ hx
        have ey := hr.fits _ _ hy
        have ck : ∀ (k : Value → Me → Out) (out : Value × Me), xCk z D.isRow sx sy K T M L k = some out → (∀ K k, xCk z D.isRow sx sy K T M L k = k undef M) ∧ ∃ v, evR P (toMem M) (evalO a) o = some v ∧ a.tmps[d]? = some v := by
          intro k out hk
          have hk' : ldK z D.isRow (sx T L) M (fun u => Bool.rec (motive := fun _ => Out) none (k undef M) (eq3 u (sy T L))) = some out := hk
          obtain ⟨b, off, u, e1, e2, e3⟩ := ldK_some (P := P) hk'
          rw [e2] at hk'
          cases q : eq3 u (sy T L) with
          | false => rw [q] at hk'; cases hk'
          | true =>
            have hu := eq3_ok q
            refine ⟨fun K k => ?_, u, ?_, ?_⟩
            · show ldK z D.isRow (sx T L) M (fun u => Bool.rec (motive := fun _ => Out) none (k undef M) (eq3 u (sy T L))) = _
              rw [e2, q]
            · have ex' : evalO a y = some (.pointer (some ⟨b, off, none⟩)) := by rw [ex, e1]
              obtain ⟨dst, op, type, pos, after, guard⟩ := o
              simp only at hop
              subst hop
              rcases e3 with ⟨blk, hb, ⟨hrow, c1, c2⟩ | ⟨hrow, c1⟩⟩ | ⟨hb, hrow, z', c1, c2⟩
              · rw [hrow, cond_true, Option.map_eq_some_iff] at hz
                obtain ⟨i, hi, rfl⟩ := hz
                simp only [evR, ex', hb, hD, hrow, if_true, hi, c1, c2]
              · simp only [evR, ex', hb, hD, hrow, Bool.false_eq_true, if_false, c1]
              · simp only [evR, ex', hb, hD, hrow, Bool.false_eq_true, if_false, c1, c2]
            · rw [hu]; exact ey
        split at h
        · rename_i hg
          cases h
          obtain ⟨k1, v, k2, k3⟩ := ck k out hk
          exact ⟨k1, o, d, hw, hR, hdst, fun _ => ⟨v, k2, k3⟩⟩
        · rename_i j b hg
          split at h
          · rename_i u hu
            split at h
            · rename_i sg hsg
              cases h
              have hk' : wnK b (sg T L) (fun c => Bool.rec (motive := fun _ => Out) (k undef M) (xCk z D.isRow sx sy K T M L k) c) = some out := hk
              obtain ⟨c, ec, hk1⟩ := wnK_some hk'
              have eg := hr.fits _ _ hsg
              have hwt : Region.wanted o (yielded ops a.tmps) = c := wn_wanted hg hu eg ec
              have key : ∀ K k, xGd sg b (xCk z D.isRow sx sy) K T M L k = Bool.rec (motive := fun _ => Out) (k undef M) (xCk z D.isRow sx sy K T M L k) c := fun K k => by
                show wnK b (sg T L) (fun c => Bool.rec (motive := fun _ => Out) (k undef M) (xCk z D.isRow sx sy K T M L k) c) = _
                rw [wnK_at ec]
              cases hcb : c with
              | true =>
                rw [hcb] at hk1
                obtain ⟨k1, v, k2, k3⟩ := ck k out hk1
                exact ⟨fun K k => by rw [key, hcb]; exact k1 K k, o, d, hw, hR, hdst, fun _ => ⟨v, k2, k3⟩⟩
              | false =>
                refine ⟨fun K k => by rw [key, hcb], o, d, hw, hR, hdst, fun q => ?_⟩
                rw [hwt, hcb] at q; cases q
            · cases h
          · cases h
      · cases h
    · cases h
  · cases h
theorem opsAt_some : ∀ {l : List Nat} {m : List Oper}, opsAt ops l = some m → m.length = l.length ∧ ∀ (i w : Nat), l[i]? = some w → ∃ o, ops[w]? = some o ∧ m[i]? = some o
  | [], m, h => by cases h; exact ⟨rfl, fun i w e => by simp at e⟩
  | i :: l, m, h => by
    simp only [opsAt] at h
    split at h
    · rename_i o m' q1 q2
      cases h
      obtain ⟨h1, h2⟩ := opsAt_some q2
      refine ⟨by simp [h1], fun j w e => ?_⟩
      cases j with
      | zero => simp at e; subst e; rw [opAt_eq] at q1; exact ⟨o, q1, rfl⟩
      | succ j => simpa using h2 j w (by simpa using e)
    · cases h
theorem trCks_ok {env : Env} {K : KC} {T : Tm} {M : Me} {a : Act} : ∀ (ws : List Nat) (l : List Oper) (n n' : Nat) (xr : XR) (L : Rg) (k : Me → Rg → Out) (out : Value × Me), opsAt ops ws = some l → trCks P kp ops env l n = some (xr, n') → EnvRel kp env n a T L → xr K T M L k = some out →
    ∃ L', (∀ K k, xr K T M L k = k M L') ∧ EnvRel kp env n' a T L' ∧ ∀ w ∈ ws, Hd P ops w (a, toMem M)
  | [], l, n, n', xr, L, k, out, ho, h, hr, hk => by
    cases ho
    cases h
    exact ⟨L, fun _ k => rfl, hr, fun w hw => by cases hw⟩
  | w :: ws, l, n, n', xr, L, k, out, ho, h, hr, hk => by
    simp only [opsAt] at ho
    split at ho
    · rename_i o m q1 q2
      cases ho
      rw [opAt_eq] at q1
      simp only [trCks] at h
      split at h
      · rename_i x hx
        rw [frcN_eq] at h
        split at h
        · rename_i r q hq
          cases h
          have hk' : x K T M L (fun v M => r K T M (pushR v L) k) = some out := hk
          obtain ⟨k1, k2⟩ := trCk_ok q1 hx hr hk'
          rw [k1] at hk'
          obtain ⟨L', e1, e2, e3⟩ := trCks_ok ws m (n + 1) n' r (pushR undef L) k out q2 hq (hr.grow undef) hk'
          refine ⟨L', fun K k => ?_, e2, fun w' hw' => ?_⟩
          · show x K T M L (fun v M => r K T M (pushR v L) k) = _
            rw [k1, e1]
          · rcases List.mem_cons.1 hw' with q | q
            · subst q; exact k2
            · exact e3 w' q
        · cases h
      · cases h
    · cases ho
theorem trSeq_dst {ex : Xn} : ∀ (l : List Oper) (env env' : Env) (n n' : Nat) (xr : XR), trSeq P ex kp nt ops l env n = some (xr, env', n') → ∀ o ∈ l, ∀ d, o.dst = some d → d < nt
  | [], _, _, _, _, _, _, o, ho, _, _ => by cases ho
  | p :: l, env, env', n, n', xr, h, o, ho, d, hd => by
    simp only [trSeq] at h
    have fin : ∀ s env1, addE nt p.dst s env = some env1 → p.dst = some d → d < nt := by
      intro s env1 he hd
      rcases addE_some he with ⟨q, _⟩ | ⟨d', q, hlt, _⟩
      · rw [q] at hd; cases hd
      · rw [q] at hd; cases hd; exact hlt
    split at h
    · split at h
      · split at h
        · split at h
          · rename_i env1 he
            rcases List.mem_cons.1 ho with q | q
            · subst q; exact fin _ _ he hd
            · exact trSeq_dst l _ _ _ _ _ h o q d hd
          · cases h
        · cases h
      · split at h
        · rename_i he
          rw [frcN_eq] at h
          split at h
          · rename_i hq
            cases h
            rcases List.mem_cons.1 ho with q | q
            · subst q; exact fin _ _ he hd
            · exact trSeq_dst l _ _ _ _ _ hq o q d hd
          · cases h
        · cases h
    · split at h
      · rename_i he
        split at h
        · rw [frcN_eq] at h
          split at h
          · rename_i hq
            cases h
            rcases List.mem_cons.1 ho with q | q
            · subst q; exact fin _ _ he hd
            · exact trSeq_dst l _ _ _ _ _ hq o q d hd
          · cases h
        · cases h
      · cases h
/-- operations in an order -/
theorem trDr_ok {ex : Xn} (hex : XnOk P ex) (hB : KBody P Ks) (hB2 : KBody P Kp) (hkp : kp.length ≤ 64) {T' : Tab} {td : List Nat} (tk : TabOk ops T' td) : ∀ (l : List (Nat × List Nat)) (env env' : Env) (n n' : Nat) (xr : XR), trDr P ex kp nt ops l env n = some (xr, env', n') → (∀ x ∈ l, memN td x.1 = false) →
    ∀ (C : KP) (H : Tm → Value → Me → Out) (T : Tm) (M : Me) (L : Rg) (k : Me → Rg → Out) (out : Value × Me) (a : Act), CGood C Ks Kp → Can M → a.tmps.size = nt → EnvRel kp env n a T L → xr (frK C H) T M L k = some out →
    (∃ M' L' a', Can M' ∧ (∀ H k, xr (frK C H) T M L k = k M' L') ∧ Chain Ks P ops T' l (a, toMem M) (a', toMem M') ∧ a'.tmps.size = nt ∧ a'.defers = a.defers ∧ EnvRel kp env' n' a' T L') ∨
      ∃ pv M', Can M' ∧ (∀ (H : Tm → Value → Me → Out) k, xr (frK C H) T M L k = H T pv M') ∧ ChainP Ks Kp P ops T' l (a, toMem M) pv (toMem M')
  | [], env, env', n, n', xr, h, _, C, H, T, M, L, k, out, a, hK, hM, hn, hr, hk => by
    cases h
    exact Or.inl ⟨M, L, a, hM, fun _ k => rfl, rfl, hn, rfl, hr⟩
  | (i, ws) :: rest, env, env', n, n', xr, h, htd, C, H, T, M, L, k, out, a, hK, hM, hn, hr, hk => by
    simp only [trDr] at h
    split at h
    · rename_i o wo q1 q2
      rw [opAt_eq] at q1
      split at h
      · rename_i r1 env1 n1 hs
        split at h
        · rename_i r2 n2 hc
          split at h
          · rename_i r3 q hd
            cases h
            have hk' : r1 (frK C H) T M L (fun M L => r2 (frK C H) T M L fun M L => r3 (frK C H) T M L k) = some out := hk
            rcases trSeq_ok hex hB hB2 hkp [o] env env1 n n1 r1 hs C H T M L _ out a hK hM hn hr hk' with ⟨M1, L1, a1, c1, c2, c3, c4, c5, c6⟩ | ⟨pv, M1, c1, c2, c3⟩
            · rw [c2] at hk'
              obtain ⟨L2, e1, e2, e3⟩ := trCks_ok ws wo n1 n2 r2 L1 _ out q2 hc c6 hk'
              rw [e1] at hk'
              have hT : tvAt T' i = none := by
                have := (tk i).1
                rw [htd (i, ws) (by simp)] at this
                simpa using this
              have hst : stI Ks P ops T' i (a, toMem M) = some (a1, toMem M1) := by
                unfold stI
                rw [q1]
                simp only [hT, stepT]
                simp only [evSeq] at c3
                split at c3
                · rename_i s' hs'
                  cases c3
                  exact hs'
                · cases c3
              rcases trDr_ok hex hB hB2 hkp tk rest env1 env' n2 n' r3 hd (fun x hx => htd x (by simp [hx])) C H T M1 L2 k out a1 hK c1 c4 e2 hk' with ⟨M', L', a', k1, k2, k3, k4, k5, k6⟩ | ⟨pv, M', k1, k2, k3⟩
              · refine Or.inl ⟨M', L', a', k1, fun H k => ?_, ⟨(a1, toMem M1), hst, e3, k3⟩, k4, by rw [k5, c5], k6⟩
                show r1 (frK C H) T M L (fun M L => r2 (frK C H) T M L fun M L => r3 (frK C H) T M L k) = _
                rw [c2, e1, k2]
              · refine Or.inr ⟨pv, M', k1, fun H k => ?_, Or.inr ⟨(a1, toMem M1), hst, e3, k3⟩⟩
                show r1 (frK C H) T M L (fun M L => r2 (frK C H) T M L fun M L => r3 (frK C H) T M L k) = _
                rw [c2, e1, k2]
            · refine Or.inr ⟨pv, M1, c1, fun H k => c2 _ _, Or.inl ?_⟩
              rcases c3 with ⟨hw, h3⟩ | ⟨_, _, h3⟩
              · exact ⟨o, q1, hw, h3⟩
              · exact h3.elim
          · cases h
        · cases h
      · cases h
    · cases h
end
end Go.Proofs.YtgaigfmboomnkaaGreat
