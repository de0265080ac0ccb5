/-
  OWN TEXT: an evaluator made for the kernel: rows of operations, one behind the other.
-/
import Derived.Test.YtgaigfmboomnkaaGreatXwJ
namespace Go.Proofs.YtgaigfmboomnkaaGreat
open Go.RowKit
set_option linter.unusedVariables false
set_option linter.unusedSimpArgs false
/-- calls that panic -/
def KpOk (P : Program) (K : Caller) : Prop := ∀ (w0 : World) (r : Rho) (A : Mem) (w : World) (f : FuncId) (args args' : List Value) (v : Value) (A' : Mem), K f args A = some (v, A') → Rel P w0 r A w → LR (VRel r) args args' →
  Calls P f ⟨args'⟩ w fun x w' => ∃ r', r.le r' ∧ x = .panicked [{ v := v, recovered := false }] ∧ Rel P w0 r' A' w' ∧ Keep r A A'
/-- what lies there -/
def Sa.val (n : Nat) (T : Tm) (L : Rg) : Sa → Value
  | .t p => gT p T
  | .s m => L (n - (m + 1))
  | .c v => v
theorem slotF_ok {t : Nat} : ∀ {kp : List Nat} {n i : Nat}, slotF t kp n = some i → n ≤ i ∧ kp[i - n]? = some t
  | [], n, i, h => by cases h
  | x :: l, n, i, h => by
    simp only [slotF] at h
    rw [beq_iff] at h
    by_cases c : x = t
    · rw [decide_eq_true c, cond_true] at h
      cases h
      subst c
      exact ⟨Nat.le_refl _, by simp⟩
    · rw [decide_eq_false c, cond_false] at h
      obtain ⟨h1, h2⟩ := slotF_ok h
      have h1' : n + 1 ≤ i := h1
      refine ⟨by omega, ?_⟩
      rw [show i - n = (i - (n + 1)) + 1 by omega, List.getElem?_cons_succ]
      exact h2
/-- temporaries are where they are told -/
structure EnvRel (kp : List Nat) (env : Env) (n : Nat) (a : Act) (T : Tm) (L : Rg) : Prop where
  own : ∀ (t : Nat) (s : Sa), look env t = some s → a.tmps[t]? = some (s.val n T L) ∧ (∀ m, s = .s m → m < n) ∧ ∀ p, s = .t p → p < 64
  kept : ∀ (t i : Nat), look env t = none → slotF t kp 0 = some i → i < 64 → a.tmps[t]? = some (gT i T)
theorem rel_val {γ : Type} {n : Nat} {s : Sa} {k : Sc → Option γ} {r : γ} (h : s.rel n k = some r) : ∃ sc : Sc, k sc = some r ∧ (∀ T L, sc T L = s.val n T L) ∧ ∀ p, s = .t p → p < 64 := by
  unfold Sa.rel at h
  cases s with
  | t p =>
    obtain ⟨h1, g, h2, h3⟩ := mkS_some (k := k) h
    exact ⟨g, h3, h2, fun q e => by cases e; exact h1⟩
  | s m =>
    have h' : frcN (Nat.sub n (Nat.succ m)) (fun m => k fun _ L => L m) = some r := h
    rw [frcN_eq] at h'
    exact ⟨_, h', fun T L => rfl, fun p e => by cases e⟩
  | c v => exact ⟨fun _ _ => v, h, fun T L => rfl, fun p e => by cases e⟩
theorem EnvRel.res {kp : List Nat} {env : Env} {n : Nat} {a : Act} {T : Tm} {L : Rg} (h : EnvRel kp env n a T L) {x : Operand} {s : Sa} (hx : resA kp env x = some s) (hp : ∀ p, s = .t p → p < 64) : evalO a x = some (s.val n T L) := by
  cases x with
  | tmp t =>
    simp only [resA] at hx
    split at hx
    · rename_i s' q
      cases hx
      exact (h.own t s q).1
    · rename_i q
      split at hx
      · rename_i i q2
        cases hx
        exact h.kept t i q q2 (hp i rfl)
      · cases hx
  | const v =>
    simp only [resA] at hx
    split at hx
    · rename_i c; cases hx; simp only [evalO, c, if_true]; rfl
    · cases hx
  | func f => cases hx; rfl
  | global g =>
    simp only [resA, Option.map_eq_some_iff] at hx
    obtain ⟨i, h1, rfl⟩ := hx
    simp only [evalO, h1, Option.map_some]
    rfl
theorem EnvRel.fits {kp : List Nat} {env : Env} {n : Nat} {a : Act} {T : Tm} {L : Rg} (h : EnvRel kp env n a T L) : Fits (relO kp env n) a T L := by
  intro x sc hx
  unfold relO at hx
  split at hx
  · rename_i s q
    obtain ⟨sc', h1, h2, h3⟩ := rel_val hx
    cases h1
    rw [h.res q h3, h2]
  · cases hx
theorem EnvRel.own_res {kp : List Nat} (hkp : kp.length ≤ 64) {env : Env} {n : Nat} {a : Act} {T : Tm} {L : Rg} (h : EnvRel kp env n a T L) {x : Operand} {s : Sa} (hx : resA kp env x = some s) : evalO a x = some (s.val n T L) ∧ (∀ m, s = .s m → m < n) ∧ ∀ p, s = .t p → p < 64 := by
  have key : (∀ m, s = .s m → m < n) ∧ ∀ p, s = .t p → p < 64 := by
    cases x with
    | tmp t =>
      simp only [resA] at hx
      split at hx
      · rename_i s' q
        cases hx
        exact (h.own t s q).2
      · split at hx
        · rename_i i q2
          cases hx
          have h1 := (slotF_ok q2).2
          have h2 := (List.getElem?_eq_some_iff.1 h1).1
          exact ⟨fun m q => (by cases q), fun p q => (by cases q; omega)⟩
        · cases hx
    | const v => simp only [resA] at hx; split at hx <;> cases hx; exact ⟨fun m q => (by cases q), fun p q => (by cases q)⟩
    | func f => cases hx; exact ⟨fun m q => (by cases q), fun p q => (by cases q)⟩
    | global g => simp only [resA, Option.map_eq_some_iff] at hx; obtain ⟨i, _, rfl⟩ := hx; exact ⟨fun m q => (by cases q), fun p q => (by cases q)⟩
  exact ⟨h.res hx key.2, key⟩
theorem look_cons (d : Nat) (s : Sa) (env : Env) (t : Nat) : look ((d, s) :: env) t = if d = t then some s else look env t := by
  simp only [look]
  rw [beq_iff]
  by_cases c : d = t
  · rw [decide_eq_true c, if_pos c]; rfl
  · rw [decide_eq_false c, if_neg c]; rfl
theorem addE_some {nt : Nat} {d : Option Tmp} {s : Sa} {env env' : Env} (h : addE nt d s env = some env') : (d = none ∧ env' = env) ∨ ∃ d', d = some d' ∧ d' < nt ∧ env' = (d', s) :: env := by
  cases d with
  | none => cases h; exact Or.inl ⟨rfl, rfl⟩
  | some d =>
    simp only [addE] at h
    rw [blt_iff] at h
    by_cases c : d < nt
    · rw [decide_eq_true c] at h; cases h; exact Or.inr ⟨d, rfl, c, rfl⟩
    · rw [decide_eq_false c] at h; cases h
theorem put_get {a : Act} {d : Nat} (hd : d < a.tmps.size) (v : Value) (t : Nat) : (a.put (some d) v).tmps[t]? = if d = t then some v else a.tmps[t]? := by
  simp only [Act.put, Array.getElem?_setIfInBounds]
  by_cases c : d = t
  · subst c; simp [hd]
  · simp [c]
theorem put_size (a : Act) (d : Option Tmp) (v : Value) : (a.put d v).tmps.size = a.tmps.size := by
  cases d <;> simp [Act.put]
/-- a value told, without a push -/
theorem EnvRel.name {kp : List Nat} {env env' : Env} {n nt : Nat} {a : Act} {T : Tm} {L : Rg} (h : EnvRel kp env n a T L) (hn : a.tmps.size = nt) {d : Option Tmp} {s : Sa} (he : addE nt d s env = some env') {v : Value} (hv : s.val n T L = v) (hs : ∀ m, s = .s m → m < n) (hp : ∀ p, s = .t p → p < 64) : EnvRel kp env' n (a.put d v) T L := by
  rcases addE_some he with ⟨rfl, rfl⟩ | ⟨d', rfl, hd, rfl⟩
  · exact h
  · subst hv
    refine ⟨fun t s' e => ?_, fun t i e e2 e3 => ?_⟩
    · rw [look_cons] at e
      rw [put_get (a := a) (d := d') (by rw [hn]; exact hd)]
      split at e
      · rename_i c; cases e; rw [if_pos c]; exact ⟨rfl, hs, hp⟩
      · rename_i c; rw [if_neg c]; exact h.own t s' e
    · rw [look_cons] at e
      rw [put_get (a := a) (d := d') (by rw [hn]; exact hd)]
      split at e
      · cases e
      · rename_i c; rw [if_neg c]; exact h.kept t i e e2 e3
/-- one value more -/
theorem EnvRel.grow {kp : List Nat} {env : Env} {n : Nat} {a : Act} {T : Tm} {L : Rg} (h : EnvRel kp env n a T L) (v : Value) : EnvRel kp env (n + 1) a T (pushR v L) := by
  refine ⟨fun t s e => ?_, h.kept⟩
  obtain ⟨h1, h2, h3⟩ := h.own t s e
  refine ⟨?_, fun m q => by have := h2 m q; omega, h3⟩
  rw [h1]
  cases s with
  | t p => rfl
  | c v => rfl
  | s m =>
    have := h2 m rfl
    show some (L (n - (m + 1))) = some (pushR v L (n + 1 - (m + 1)))
    rw [show n + 1 - (m + 1) = (n - (m + 1)) + 1 by omega]
    rfl
theorem EnvRel.push {kp : List Nat} {env env' : Env} {n nt : Nat} {a : Act} {T : Tm} {L : Rg} (h : EnvRel kp env n a T L) (hn : a.tmps.size = nt) {d : Option Tmp} (he : addE nt d (.s n) env = some env') (v : Value) : EnvRel kp env' (n + 1) (a.put d v) T (pushR v L) := by
  refine (h.grow v).name hn he ?_ (fun m q => by cases q; omega) (fun p q => by cases q)
  show pushR v L (n + 1 - (n + 1)) = v
  rw [Nat.sub_self]
  rfl
theorem mv_op {Ks : Caller} {P : Program} {o : Oper} {x : Operand} (h : mvO o.op = some x) {a : Act} {v : Value} (hv : evalO a x = some v) (A : Mem) : evOp Ks P A (evalO a) o = some (v, A) := by
  obtain ⟨dst, op, type, pos, after, guard⟩ := o
  cases op <;> simp only [mvO, reduceCtorEq, Option.some.injEq] at h
  case move y => subst h; simp only [evOp, evS, hv, Option.map_some]
  case assign y => subst h; simp only [evOp, evS, hv, Option.map_some]
/-- a row of operations that panics -/
def PanSeq (Ks Kp : Caller) (P : Program) (ops : Array Oper) : List Oper → St → Value → Mem → Prop
  | [], _, _, _ => False
  | o :: rest, s, pv, A => (Region.wanted o (yielded ops s.1.tmps) = true ∧ evPan Kp P s.2 (evalO s.1) o = some (pv, A)) ∨ ∃ s', stepA Ks P ops o s = some s' ∧ PanSeq Ks Kp P ops rest s' pv A
/-- a row of operations does what they do, or panics as they do -/
theorem trSeq_ok {P : Program} {ex : Xn} (hex : XnOk P ex) {Ks Kp : Caller} (hB : KBody P Ks) (hB2 : KBody P Kp) {kp : List Nat} (hkp : kp.length ≤ 64) {nt : Nat} {ops : Array Oper} : ∀ (l : List Oper) (env env' : Env) (n n' : Nat) (xr : XR), trSeq P ex kp nt ops l env n = some (xr, env', n') →
    ∀ (C : KP) (H : Tm → Value → Me → Out) (T : Tm) (M : Me) (L : Rg) (k : Me → Rg → Out) (out : Value × Me) (a : Act), CGood C Ks Kp → Can M → a.tmps.size = nt → EnvRel kp env n a T L → xr (frK C H) T M L k = some out →
    (∃ M' L' a', Can M' ∧ (∀ H k, xr (frK C H) T M L k = k M' L') ∧ evSeq Ks P ops l (a, toMem M) = some (a', toMem M') ∧ a'.tmps.size = nt ∧ a'.defers = a.defers ∧ EnvRel kp env' n' a' T L') ∨
      ∃ pv M', Can M' ∧ (∀ (H : Tm → Value → Me → Out) k, xr (frK C H) T M L k = H T pv M') ∧ PanSeq Ks Kp P ops l (a, toMem M) pv (toMem M')
  | [], env, env', n, n', xr, h, C, H, T, M, L, k, out, a, hK, hM, hn, hr, hk => by
    cases h
    exact Or.inl ⟨M, L, a, hM, fun _ k => rfl, rfl, hn, rfl, hr⟩
  | o :: rest, env, env', n, n', xr, h, C, H, T, M, L, k, out, a, hK, hM, hn, hr, hk => by
    simp only [trSeq] at h
    split at h
    · rename_i hg
      have hw : Region.wanted o (yielded ops a.tmps) = true := by unfold Region.wanted; rw [hg]
      split at h
      · rename_i x hmv
        split at h
        · rename_i s hs
          split at h
          · rename_i env1 he
            obtain ⟨e1, e2, e3⟩ := hr.own_res hkp hs
            have hr1 := hr.name hn he rfl e2 e3
            have hst : stepA Ks P ops o (a, toMem M) = some (a.put o.dst (s.val n T L), toMem M) := by
              simp only [stepA, hw, if_true, mv_op hmv e1, Option.map_some]
            rcases trSeq_ok hex hB hB2 hkp rest env1 env' n n' xr h C H T M L k out _ hK hM (by rw [put_size]; exact hn) hr1 hk with ⟨M', L', a', k1, k2, k3, k4, k5, k6⟩ | ⟨pv, M', k1, k2, k3⟩
            · refine Or.inl ⟨M', L', a', k1, k2, ?_, k4, by rw [k5]; cases o.dst <;> rfl, k6⟩
              simp only [evSeq, hst]
              exact k3
            · exact Or.inr ⟨pv, M', k1, k2, Or.inr ⟨_, hst, k3⟩⟩
          · cases h
        · cases h
      · rename_i hmv
        split at h
        · rename_i x env1 hx he
          rw [frcN_eq] at h
          split at h
          · rename_i xl r hq
            cases h
            have hk' : x (frK C H) T M L (fun v M => xl (frK C H) T M (pushR v L) k) = some out := hk
            rcases trOp_ok hex hB hB2 hx hmv C H T M L _ out a hK hM hr.fits hk' with ⟨v, M1, c1, c2, c3⟩ | ⟨pv, M1, c1, c2, c3⟩
            · rw [c2] at hk'
              have hr1 := hr.push hn he v
              have hst : stepA Ks P ops o (a, toMem M) = some (a.put o.dst v, toMem M1) := by
                simp only [stepA, hw, if_true, c3, Option.map_some]
              rcases trSeq_ok hex hB hB2 hkp rest env1 env' (n + 1) n' xl hq C H T M1 (pushR v L) k out _ hK c1 (by rw [put_size]; exact hn) hr1 hk' with ⟨M', L', a', k1, k2, k3, k4, k5, k6⟩ | ⟨pv, M', k1, k2, k3⟩
              · refine Or.inl ⟨M', L', a', k1, fun H k => ?_, ?_, k4, by rw [k5]; cases o.dst <;> rfl, k6⟩
                · show x (frK C H) T M L (fun v M => xl (frK C H) T M (pushR v L) k) = _
                  rw [c2, k2]
                · simp only [evSeq, hst]
                  exact k3
              · refine Or.inr ⟨pv, M', k1, fun H k => ?_, Or.inr ⟨_, hst, k3⟩⟩
                show x (frK C H) T M L (fun v M => xl (frK C H) T M (pushR v L) k) = _
                rw [c2, k2]
            · exact Or.inr ⟨pv, M1, c1, fun H k => c2 _ _, Or.inl ⟨hw, c3⟩⟩
          · cases h
        · cases h
    · rename_i j b hg
      split at h
      · rename_i x t env1 hx ht he
        split at h
        · rename_i y hy
          rw [frcN_eq] at h
          split at h
          · rename_i xl r hq
            cases h
            have hk' : wnK b (y T L) (fun c => Bool.rec (motive := fun _ => Out) (xl (frK C H) T M (pushR undef L) k) (x (frK C H) T M L fun v M => xl (frK C H) T M (pushR v L) k) c) = some out := hk
            obtain ⟨c, ey, hk1⟩ := wnK_some hk'
            have ety := hr.fits _ _ hy
            have hw : Region.wanted o (yielded ops a.tmps) = c := wn_wanted hg ht ety ey
            have key : ∀ (H : Tm → Value → Me → Out) k, xThen (xGd y b x) xl (frK C H) T M L k = Bool.rec (motive := fun _ => Out) (xl (frK C H) T M (pushR undef L) k) (x (frK C H) T M L fun v M => xl (frK C H) T M (pushR v L) k) c := fun H k => by
              show wnK b (y T L) (fun c => Bool.rec (motive := fun _ => Out) (xl (frK C H) T M (pushR undef L) k) (x (frK C H) T M L fun v M => xl (frK C H) T M (pushR v L) k) c) = _
              rw [wnK_at ey]
            cases hcb : c with
            | true =>
              rw [hcb] at hk1 hw
              have opok : (∃ v M1, Can M1 ∧ (∀ H k, x (frK C H) T M L k = k v M1) ∧ evOp Ks P (toMem M) (evalO a) o = some (v, toMem M1)) ∨ ∃ pv M1, Can M1 ∧ (∀ (H : Tm → Value → Me → Out) k, x (frK C H) T M L k = H T pv M1) ∧ evPan Kp P (toMem M) (evalO a) o = some (pv, toMem M1) := by
                split at hx
                · rename_i z hmv
                  obtain ⟨sz, h1, rfl⟩ := mk1_some hx
                  exact Or.inl ⟨_, M, hM, fun _ k => rfl, mv_op hmv (hr.fits _ _ h1) _⟩
                · rename_i hmv
                  exact trOp_ok hex hB hB2 hx hmv C H T M L _ out a hK hM hr.fits hk1
              have hk2 : x (frK C H) T M L (fun v M => xl (frK C H) T M (pushR v L) k) = some out := hk1
              rcases opok with ⟨v, M1, c1, c2, c3⟩ | ⟨pv, M1, c1, c2, c3⟩
              · rw [c2] at hk2
                have hr1 := hr.push hn he v
                have hst : stepA Ks P ops o (a, toMem M) = some (a.put o.dst v, toMem M1) := by
                  simp only [stepA, hw, if_true, c3, Option.map_some]
                rcases trSeq_ok hex hB hB2 hkp rest env1 env' (n + 1) n' xl hq C H T M1 (pushR v L) k out _ hK c1 (by rw [put_size]; exact hn) hr1 hk2 with ⟨M', L', a', k1, k2, k3, k4, k5, k6⟩ | ⟨pv, M', k1, k2, k3⟩
                · refine Or.inl ⟨M', L', a', k1, fun H k => ?_, ?_, k4, by rw [k5]; cases o.dst <;> rfl, k6⟩
                  · rw [key, hcb]
                    show x (frK C H) T M L (fun v M => xl (frK C H) T M (pushR v L) k) = _
                    rw [c2, k2]
                  · simp only [evSeq, hst]
                    exact k3
                · refine Or.inr ⟨pv, M', k1, fun H k => ?_, Or.inr ⟨_, hst, k3⟩⟩
                  rw [key, hcb]
                  show x (frK C H) T M L (fun v M => xl (frK C H) T M (pushR v L) k) = _
                  rw [c2, k2]
              · refine Or.inr ⟨pv, M1, c1, fun H k => ?_, Or.inl ⟨hw, c3⟩⟩
                rw [key, hcb]
                exact c2 _ _
            | false =>
              rw [hcb] at hk1 hw
              have hr1 := hr.push hn he undef
              have hst : stepA Ks P ops o (a, toMem M) = some (a.put o.dst undef, toMem M) := by
                simp only [stepA, hw, Bool.false_eq_true, if_false]
              rcases trSeq_ok hex hB hB2 hkp rest env1 env' (n + 1) n' xl hq C H T M (pushR undef L) k out _ hK hM (by rw [put_size]; exact hn) hr1 hk1 with ⟨M', L', a', k1, k2, k3, k4, k5, k6⟩ | ⟨pv, M', k1, k2, k3⟩
              · refine Or.inl ⟨M', L', a', k1, fun H k => ?_, ?_, k4, by rw [k5]; cases o.dst <;> rfl, k6⟩
                · rw [key, hcb]
                  exact k2 H k
                · simp only [evSeq, hst]
                  exact k3
              · refine Or.inr ⟨pv, M', k1, fun H k => ?_, Or.inr ⟨_, hst, k3⟩⟩
                rw [key, hcb]
                exact k2 H k
          · cases h
        · cases h
      · cases h
/-- where an operation panics, it does so in the world -/
theorem evPan_sound {P : Program} {Kp : Caller} (hK : KpOk P Kp) (hP : Plain P) {w0 w : World} {r : Rho} {A A' : Mem} {e : Operand → Option Value} {a : Act} {o : Oper} {v : Value} (h : evPan Kp P A e o = some (v, A')) (k : OpsRel r e a.eval o.op) (hr : Rel P w0 r A w)
    {Kc : Act → World → Prop} {Q : Exit → Act → World → Prop} (next : ∀ r' w', r.le r' → Rel P w0 r' A' w' → Keep r A A' → Q (.panic [{ v := v, recovered := false }]) a w') : o.wp P a w Kc Q := by
  obtain ⟨dst, op, type, pos, after, guard⟩ := o
  cases op
  case panic x =>
    simp only [evPan] at h
    split at h
    · rename_i t u q
      split at h
      · rename_i hf
        cases h
        have hv : a.eval x = .iface t u := (k x (by simp [Op.operands]) _ q).same hf
        have hrun : (execOp a.eval (Oper.mk dst (.panic x) type pos after guard)).run P w = .halt (.panic (.iface t u)) w := by
          simp [execOp, hv, Instr.panic, goPanic, Sem.run]
        unfold Oper.wp
        rw [hrun]
        exact next r w (Rho.le.refl r) hr (Keep.refl r A)
      · cases h
    · cases h
  case call c =>
    obtain ⟨callee, args, ts⟩ := c
    cases callee with
    | builtin b => cases h
    | invoke x m => cases h
    | value f =>
      simp only [evPan] at h
      unfold evCallO at h
      cases qg : funcO P e f with
      | none => rw [qg] at h; cases h
      | some g =>
        rw [qg] at h
        cases q : argsO e args.toList with
        | none => rw [q] at h; cases h
        | some vs =>
          rw [q] at h
          simp only at h
          have hargs := argsO_rel (r := r) (e' := a.eval) args.toList vs q (fun x hx v hv => k x (by simp only [Op.operands, Call.operands]; simp at hx ⊢; exact Or.inr hx) v hv)
          unfold funcO at qg
          split at qg
          · rename_i g' lc qf
            split at qg
            · rename_i fn qn
              split at qg
              · rename_i hb
                cases qg
                obtain ⟨lc', hx, hlc⟩ := (k f (by simp [Op.operands, Call.operands]) _ qf).inv_func
                have hc := hK w0 r A w g' (vs ++ lc) _ v A' h hr (hargs.app hlc)
                have hnm := hP g' fn qn hb
                have hrun : (execOp a.eval (Oper.mk dst (.call ⟨.value f, args, ts⟩) type pos after guard)).run P w = .ok (.enter g' (args.map a.eval ++ ⟨lc'⟩)) w := by
                  have n1 : ¬ fn.name = "runtime.NumGoroutine" := by simpa using hnm
                  have n2 : ¬ fn.body = none := by intro q; rw [q] at hb; cases hb
                  simp [execOp, resolve, hx, Deferred.ofValue, invoke, callFunc, qn, n1, n2]
                unfold Oper.wp
                rw [hrun]
                have e2 : (⟨args.toList.map a.eval ++ lc'⟩ : Array Value) = args.map a.eval ++ ⟨lc'⟩ := by apply Array.ext'; simp
                rw [e2] at hc
                exact hc.mono fun x w' hx => by
                  obtain ⟨r', q1, rfl, q3, q4⟩ := hx
                  exact next r' w' q1 q3 q4
              · cases qg
            · cases qg
          · cases qg
  all_goals cases h
/-- a row that panics does so in the world -/
theorem panSeq_sound {P : Program} {Ks Kp : Caller} (hK : KOk P Ks) (hK2 : KpOk P Kp) (hP : Plain P) {ops : Array Oper} {w0 : World} {Q : Exit → Act → World → Prop} {pv : Value} {A' : Mem} {rt : List Nat} : ∀ (l : List Oper) (s : St), PanSeq Ks Kp P ops l s pv A' → (∀ o ∈ l, ∀ t ∈ rt, o.dst ≠ some t) → ∀ (r : Rho) (a : Act) (w : World), ActRel r s.1 a → Rel P w0 r s.2 w →
    (∀ r' s1 a' w', r.le r' → ActRel r' s1 a' → s1.defers = s.1.defers → (∀ t ∈ rt, s1.tmps[t]? = s.1.tmps[t]?) → Rel P w0 r' A' w' → Keep r s.2 A' → Q (.panic [{ v := pv, recovered := false }]) a' w') → wpList P ops Q l a w
  | [], s, h, hs, r, a, w, ha, hr, hQ => h.elim
  | o :: rest, s, h, hs, r, a, w, ha, hr, hQ => by
    unfold wpList
    rcases h with ⟨hw, h⟩ | ⟨s', h1, h2⟩
    · rw [ha.wanted ops o, if_pos hw]
      exact Or.inl (evPan_sound hK2 hP h (opsRel ha o.op) hr fun r' w' h1 h2 h3 => hQ r' s.1 a w' h1 (ha.mono h1.wk) rfl (fun _ _ => rfl) h2 h3)
    · refine stepA_sound hK hP h1 ha hr fun r' a' w' j1 j2 j3 j4 => panSeq_sound hK hK2 hP rest s' h2 (fun o ho => hs o (by simp [ho])) r' a' w' j2 j3 fun r'' s1 a'' w'' k1 k2 k3 k4 k5 k6 => ?_
      obtain ⟨u, hu⟩ := stepA_put h1
      refine hQ r'' s1 a'' w'' (j1.trans k1) k2 ?_ (fun t ht => ?_) k5 (Keep.trans j1 j4 k6)
      · rw [k3, hu]; cases o.dst <;> rfl
      · rw [k4 t ht, hu]
        have hne := hs o (by simp) t ht
        cases hd : o.dst with
        | none => rfl
        | some d =>
          have : d ≠ t := fun e => hne (by rw [hd, e])
          simp [Act.put, Array.getElem?_setIfInBounds_ne this]
theorem quiet_pan {P : Program} {Ks Kp : Caller} {ops : Array Oper} {pv : Value} {A' : Mem} : ∀ (l : List Oper) (s : St), (∀ o ∈ l, quietO o = true) → ¬ PanSeq Ks Kp P ops l s pv A'
  | [], s, _, h => h
  | o :: rest, s, hq, h => by
    rcases h with ⟨hw0, he⟩ | ⟨s', hs0, h⟩
    · have hz := hq o (by simp)
      unfold quietO at hz
      unfold evPan at he
      obtain ⟨dst, op, type, pos, after, guard⟩ := o
      cases op
      case panic x => cases hz
      case call c =>
        obtain ⟨callee, args, ts⟩ := c
        cases callee with
        | value f => cases hz
        | _ => cases he
      all_goals cases he
    · exact quiet_pan rest s' (fun o ho => hq o (by simp [ho])) h
end Go.Proofs.YtgaigfmboomnkaaGreat
