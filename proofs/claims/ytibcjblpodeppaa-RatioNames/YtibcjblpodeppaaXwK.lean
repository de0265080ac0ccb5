/-
  OWN TEXT: an evaluator made for the kernel: rows of operations, one behind the other.
-/
import Derived.Test.YtibcjblpodeppaaXwJ
namespace Go.Proofs.Ytibcjblpodeppaa
open Go.RowKit
set_option linter.unusedVariables false
set_option linter.unusedSimpArgs false
/-- what lies there -/
def Sa.val (n : Nat) (T : Tm) (L : Rg) : Sa → Value
  | .t p => gT p T
  | .s m => L (n - (m + 1))
  | .c v => v
theorem slotF_ok {t : Nat} : ∀ {kp : List Nat} {n i : Nat}, slotF t kp n = some i → n ≤ i ∧ kp[i - n]? = some t
  | [], n, i, h => by cases h
  | x :: l, n, i, h => by
    simp only [slotF] at h
    rw [beq_iff] at h
    by_cases c : x = t
    · rw [decide_eq_true c, cond_true] at h
      cases h
      subst c
      exact ⟨Nat.le_refl _, by simp⟩
    · rw [decide_eq_false c, cond_false] at h
      obtain ⟨h1, h2⟩ := slotF_ok h
      have h1' : n + 1 ≤ i := h1
      refine ⟨by omega, ?_⟩
      rw [show i - n = (i - (n + 1)) + 1 by omega, List.getElem?_cons_succ]
      exact h2
/-- temporaries are where they are told -/
structure EnvRel (kp : List Nat) (env : Env) (n : Nat) (a : Act) (T : Tm) (L : Rg) : Prop where
  own : ∀ (t : Nat) (s : Sa), look env t = some s → a.tmps[t]? = some (s.val n T L) ∧ (∀ m, s = .s m → m < n) ∧ ∀ p, s = .t p → p < 64
  kept : ∀ (t i : Nat), look env t = none → slotF t kp 0 = some i → i < 64 → a.tmps[t]? = some (gT i T)
theorem rel_val {γ : Type} {n : Nat} {s : Sa} {k : Sc → Option γ} {r : γ} (h : s.rel n k = some r) : ∃ sc : Sc, k sc = some r ∧ (∀ T L, sc T L = s.val n T L) ∧ ∀ p, s = .t p → p < 64 := by
  unfold Sa.rel at h
  cases s with
  | t p =>
    obtain ⟨h1, g, h2, h3⟩ := mkS_some (k := k) h
    exact ⟨g, h3, h2, fun q e => by cases e; exact h1⟩
  | s m =>
    have h' : frcN (Nat.sub n (Nat.succ m)) (fun m => k fun _ L => L m) = some r := h
    rw [frcN_eq] at h'
    exact ⟨_, h', fun T L => rfl, fun p e => by cases e⟩
  | c v => exact ⟨fun _ _ => v, h, fun T L => rfl, fun p e => by cases e⟩
theorem EnvRel.res {kp : List Nat} {env : Env} {n : Nat} {a : Act} {T : Tm} {L : Rg} (h : EnvRel kp env n a T L) {x : Operand} {s : Sa} (hx : resA kp env x = some s) (hp : ∀ p, s = .t p → p < 64) : evalO a x = some (s.val n T L) := by
  cases x with
  | tmp t =>
    simp only [resA] at hx
    split at hx
    · rename_i s' q
      cases hx
      exact (h.own t s q).1
    · rename_i q
      split at hx
      · rename_i i q2
        cases hx
        exact h.kept t i q q2 (hp i rfl)
      · cases hx
  | const v =>
    simp only [resA] at hx
    split at hx
    · rename_i c; cases hx; simp only [evalO, c, if_true]; rfl
    · cases hx
  | func f => cases hx; rfl
  | global g =>
    simp only [resA, Option.map_eq_some_iff] at hx
    obtain ⟨i, h1, rfl⟩ := hx
    simp only [evalO, h1, Option.map_some]
    rfl
theorem EnvRel.fits {kp : List Nat} {env : Env} {n : Nat} {a : Act} {T : Tm} {L : Rg} (h : EnvRel kp env n a T L) : Fits (relO kp env n) a T L := by
  intro x sc hx
  unfold relO at hx
  split at hx
  · rename_i s q
    obtain ⟨sc', h1, h2, h3⟩ := rel_val hx
    cases h1
    rw [h.res q h3, h2]
  · cases hx
theorem EnvRel.own_res {kp : List Nat} (hkp : kp.length ≤ 64) {env : Env} {n : Nat} {a : Act} {T : Tm} {L : Rg} (h : EnvRel kp env n a T L) {x : Operand} {s : Sa} (hx : resA kp env x = some s) : evalO a x = some (s.val n T L) ∧ (∀ m, s = .s m → m < n) ∧ ∀ p, s = .t p → p < 64 := by
  have key : (∀ m, s = .s m → m < n) ∧ ∀ p, s = .t p → p < 64 := by
    cases x with
    | tmp t =>
      simp only [resA] at hx
      split at hx
      · rename_i s' q
        cases hx
        exact (h.own t s q).2
      · split at hx
        · rename_i i q2
          cases hx
          have h1 := (slotF_ok q2).2
          have h2 := (List.getElem?_eq_some_iff.1 h1).1
          exact ⟨fun m q => (by cases q), fun p q => (by cases q; omega)⟩
        · cases hx
    | const v => simp only [resA] at hx; split at hx <;> cases hx; exact ⟨fun m q => (by cases q), fun p q => (by cases q)⟩
    | func f => cases hx; exact ⟨fun m q => (by cases q), fun p q => (by cases q)⟩
    | global g => simp only [resA, Option.map_eq_some_iff] at hx; obtain ⟨i, _, rfl⟩ := hx; exact ⟨fun m q => (by cases q), fun p q => (by cases q)⟩
  exact ⟨h.res hx key.2, key⟩
theorem look_cons (d : Nat) (s : Sa) (env : Env) (t : Nat) : look ((d, s) :: env) t = if d = t then some s else look env t := by
  simp only [look]
  rw [beq_iff]
  by_cases c : d = t
  · rw [decide_eq_true c, if_pos c]; rfl
  · rw [decide_eq_false c, if_neg c]; rfl
theorem addE_some {nt : Nat} {d : Option Tmp} {s : Sa} {env env' : Env} (h : addE nt d s env = some env') : (d = none ∧ env' = env) ∨ ∃ d', d = some d' ∧ d' < nt ∧ env' = (d', s) :: env := by
  cases d with
  | none => cases h; exact Or.inl ⟨rfl, rfl⟩
  | some d =>
    simp only [addE] at h
    rw [blt_iff] at h
    by_cases c : d < nt
    · rw [decide_eq_true c] at h; cases h; exact Or.inr ⟨d, rfl, c, rfl⟩
    · rw [decide_eq_false c] at h; cases h
theorem put_get {a : Act} {d : Nat} (hd : d < a.tmps.size) (v : Value) (t : Nat) : (a.put (some d) v).tmps[t]? = if d = t then some v else a.tmps[t]? := by
  simp only [Act.put, Array.getElem?_setIfInBounds]
  by_cases c : d = t
  · subst c; simp [hd]
  · simp [c]
theorem put_size (a : Act) (d : Option Tmp) (v : Value) : (a.put d v).tmps.size = a.tmps.size := by
  cases d <;> simp [Act.put]
/-- a value told, without a push -/
theorem EnvRel.name {kp : List Nat} {env env' : Env} {n nt : Nat} {a : Act} {T : Tm} {L : Rg} (h : EnvRel kp env n a T L) (hn : a.tmps.size = nt) {d : Option Tmp} {s : Sa} (he : addE nt d s env = some env') {v : Value} (hv : s.val n T L = v) (hs : ∀ m, s = .s m → m < n) (hp : ∀ p, s = .t p → p < 64) : EnvRel kp env' n (a.put d v) T L := by
  rcases addE_some he with ⟨rfl, rfl⟩ | ⟨d', rfl, hd, rfl⟩
  · exact h
  · subst hv
    refine ⟨fun t s' e => ?_, fun t i e e2 e3 => ?_⟩
    · rw [look_cons] at e
      rw [put_get (a := a) (d := d') (by rw [hn]; exact hd)]
      split at e
      · rename_i c; cases e; rw [if_pos c]; exact ⟨rfl, hs, hp⟩
      · rename_i c; rw [if_neg c]; exact h.own t s' e
    · rw [look_cons] at e
      rw [put_get (a := a) (d := d') (by rw [hn]; exact hd)]
      split at e
      · cases e
      · rename_i c; rw [if_neg c]; exact h.kept t i e e2 e3
/-- one value more -/
theorem EnvRel.grow {kp : List Nat} {env : Env} {n : Nat} {a : Act} {T : Tm} {L : Rg} (h : EnvRel kp env n a T L) (v : Value) : EnvRel kp env (n + 1) a T (pushR v L) := by
  refine ⟨fun t s e => ?_, h.kept⟩
  obtain ⟨h1, h2, h3⟩ := h.own t s e
  refine ⟨?_, fun m q => by have := h2 m q; omega, h3⟩
  rw [h1]
  cases s with
  | t p => rfl
  | c v => rfl
  | s m =>
    have := h2 m rfl
    show some (L (n - (m + 1))) = some (pushR v L (n + 1 - (m + 1)))
    rw [show n + 1 - (m + 1) = (n - (m + 1)) + 1 by omega]
    rfl
theorem EnvRel.push {kp : List Nat} {env env' : Env} {n nt : Nat} {a : Act} {T : Tm} {L : Rg} (h : EnvRel kp env n a T L) (hn : a.tmps.size = nt) {d : Option Tmp} (he : addE nt d (.s n) env = some env') (v : Value) : EnvRel kp env' (n + 1) (a.put d v) T (pushR v L) := by
  refine (h.grow v).name hn he ?_ (fun m q => by cases q; omega) (fun p q => by cases q)
  show pushR v L (n + 1 - (n + 1)) = v
  rw [Nat.sub_self]
  rfl
theorem mv_op {Ks : Caller} {P : Program} {o : Oper} {x : Operand} (h : mvO o.op = some x) {a : Act} {v : Value} (hv : evalO a x = some v) (A : Mem) : evOp Ks P A (evalO a) o = some (v, A) := by
  obtain ⟨dst, op, type, pos, after, guard⟩ := o
  cases op <;> simp only [mvO, reduceCtorEq, Option.some.injEq] at h
  case move y => subst h; simp only [evOp, evS, hv, Option.map_some]
  case assign y => subst h; simp only [evOp, evS, hv, Option.map_some]
/-- a row of operations does what they do -/
theorem trSeq_ok {P : Program} {ex : Xn} (hex : XnOk P ex) {Ks : Caller} (hB : KBody P Ks) {kp : List Nat} (hkp : kp.length ≤ 64) {nt : Nat} {ops : Array Oper} : ∀ (l : List Oper) (env env' : Env) (n n' : Nat) (xr : XR), trSeq P ex kp nt ops l env n = some (xr, env', n') →
    ∀ (K : KC) (T : Tm) (M : Me) (L : Rg) (k : Me → Rg → Out) (out : Value × Me) (a : Act), KGood K Ks → Can M → a.tmps.size = nt → EnvRel kp env n a T L → xr K T M L k = some out →
    ∃ M' L' a', Can M' ∧ (∀ k, xr K T M L k = k M' L') ∧ evSeq Ks P ops l (a, toMem M) = some (a', toMem M') ∧ a'.tmps.size = nt ∧ a'.defers = a.defers ∧ EnvRel kp env' n' a' T L'
  | [], env, env', n, n', xr, h, K, T, M, L, k, out, a, hK, hM, hn, hr, hk => by
    cases h
    exact ⟨M, L, a, hM, fun k => rfl, rfl, hn, rfl, hr⟩
  | o :: rest, env, env', n, n', xr, h, K, T, M, L, k, out, a, hK, hM, hn, hr, hk => by
    simp only [trSeq] at h
    split at h
    · rename_i hg
      have hw : Region.wanted o (yielded ops a.tmps) = true := by unfold Region.wanted; rw [hg]
      split at h
      · rename_i x hmv
        split at h
        · rename_i s hs
          split at h
          · rename_i env1 he
            obtain ⟨e1, e2, e3⟩ := hr.own_res hkp hs
            have hr1 := hr.name hn he rfl e2 e3
            obtain ⟨M', L', a', k1, k2, k3, k4, k5, k6⟩ := trSeq_ok hex hB hkp rest env1 env' n n' xr h K T M L k out _ hK hM (by rw [put_size]; exact hn) hr1 hk
            refine ⟨M', L', a', k1, k2, ?_, k4, by rw [k5]; cases o.dst <;> rfl, k6⟩
            simp only [evSeq, stepA, hw, if_true, mv_op hmv e1, Option.map_some]
            exact k3
          · cases h
        · cases h
      · rename_i hmv
        split at h
        · rename_i x env1 hx he
          rw [frcN_eq] at h
          split at h
          · rename_i xl r hq
            cases h
            have hk' : x K T M L (fun v M => xl K T M (pushR v L) k) = some out := hk
            obtain ⟨v, M1, c1, c2, c3⟩ := trOp_ok hex hB hx hmv K T M L _ out a hK hM hr.fits hk'
            rw [c2] at hk'
            have hr1 := hr.push hn he v
            obtain ⟨M', L', a', k1, k2, k3, k4, k5, k6⟩ := trSeq_ok hex hB hkp rest env1 env' (n + 1) n' xl hq K T M1 (pushR v L) k out _ hK c1 (by rw [put_size]; exact hn) hr1 hk'
            refine ⟨M', L', a', k1, fun k => ?_, ?_, k4, by rw [k5]; cases o.dst <;> rfl, k6⟩
            · show x K T M L (fun v M => xl K T M (pushR v L) k) = _
              rw [c2, k2]
            · simp only [evSeq, stepA, hw, if_true, c3, Option.map_some]
              exact k3
          · cases h
        · cases h
    · rename_i j b hg
      split at h
      · rename_i x t env1 hx ht he
        split at h
        · rename_i y hy
          rw [frcN_eq] at h
          split at h
          · rename_i xl r hq
            cases h
            have hk' : asB (y T L) (fun c => Bool.rec (motive := fun _ => Out) (xl K T M (pushR undef L) k) (x K T M L fun v M => xl K T M (pushR v L) k) (c == b)) = some out := hk
            obtain ⟨c, ey, hk1⟩ := asB_some hk'
            have ety := hr.fits _ _ hy
            rw [ey] at ety
            have hyl : yielded ops a.tmps j = some c := by
              unfold yielded
              rw [ht]
              simp only [evalO] at ety
              simp only [Option.bind_some, ety]
            have hw : Region.wanted o (yielded ops a.tmps) = (c == b) := by
              unfold Region.wanted
              rw [hg]
              simp only [hyl]
              cases c <;> cases b <;> rfl
            have key : ∀ k, xThen (xGd y b x) xl K T M L k = Bool.rec (motive := fun _ => Out) (xl K T M (pushR undef L) k) (x K T M L fun v M => xl K T M (pushR v L) k) (c == b) := fun k => by
              show asB (y T L) (fun c => Bool.rec (motive := fun _ => Out) (xl K T M (pushR undef L) k) (x K T M L fun v M => xl K T M (pushR v L) k) (c == b)) = _
              rw [ey]; rfl
            cases hcb : (c == b) with
            | true =>
              rw [hcb] at hk1 hw
              have opok : ∃ v M1, Can M1 ∧ (∀ k, x K T M L k = k v M1) ∧ evOp Ks P (toMem M) (evalO a) o = some (v, toMem M1) := by
                split at hx
                · rename_i z hmv
                  obtain ⟨sz, h1, rfl⟩ := mk1_some hx
                  exact ⟨_, M, hM, fun k => rfl, mv_op hmv (hr.fits _ _ h1) _⟩
                · rename_i hmv
                  exact trOp_ok hex hB hx hmv K T M L _ out a hK hM hr.fits hk1
              obtain ⟨v, M1, c1, c2, c3⟩ := opok
              have hk2 : x K T M L (fun v M => xl K T M (pushR v L) k) = some out := hk1
              rw [c2] at hk2
              have hr1 := hr.push hn he v
              obtain ⟨M', L', a', k1, k2, k3, k4, k5, k6⟩ := trSeq_ok hex hB hkp rest env1 env' (n + 1) n' xl hq K T M1 (pushR v L) k out _ hK c1 (by rw [put_size]; exact hn) hr1 hk2
              refine ⟨M', L', a', k1, fun k => ?_, ?_, k4, by rw [k5]; cases o.dst <;> rfl, k6⟩
              · rw [key, hcb]
                show x K T M L (fun v M => xl K T M (pushR v L) k) = _
                rw [c2, k2]
              · simp only [evSeq, stepA, hw, if_true, c3, Option.map_some]
                exact k3
            | false =>
              rw [hcb] at hk1 hw
              have hr1 := hr.push hn he undef
              obtain ⟨M', L', a', k1, k2, k3, k4, k5, k6⟩ := trSeq_ok hex hB hkp rest env1 env' (n + 1) n' xl hq K T M (pushR undef L) k out _ hK hM (by rw [put_size]; exact hn) hr1 hk1
              refine ⟨M', L', a', k1, fun k => ?_, ?_, k4, by rw [k5]; cases o.dst <;> rfl, k6⟩
              · rw [key, hcb]
                exact k2 k
              · simp only [evSeq, stepA, hw, Bool.false_eq_true, if_false]
                exact k3
          · cases h
        · cases h
      · cases h
end Go.Proofs.Ytibcjblpodeppaa
