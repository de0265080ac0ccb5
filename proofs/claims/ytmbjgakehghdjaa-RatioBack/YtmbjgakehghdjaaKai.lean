/-
  OWN TEXT: an evaluator made for the kernel: calls; every operation that was made ready does what the operation does.
-/
import Derived.Test.YtmbjgakehghdjaaKah
namespace Go.Proofs.Ytmbjgakehghdjaa
open Go.RowKit
set_option linter.unusedVariables false
set_option linter.unusedSimpArgs false
section
variable {P : Program} {Ks : Caller} {res : Rs} {dst : Option Tmp} {type : TypeId} {pos : String} {after : Array Edge} {guard : Option (Nat × Bool)}
theorem argsO_flat {e : Operand → Option Value} : ∀ {l : List Operand} {vs : List Value}, argsO e l = some vs → (∀ u ∈ vs, flat u = true) → ∀ x ∈ l, ∃ u, e x = some u ∧ flat u = true
  | [], vs, h, _, x, hx => by cases hx
  | y :: l, vs, h, hf, x, hx => by
    simp only [argsO] at h
    split at h
    · rename_i v us q1 q2
      cases h
      rcases List.mem_cons.1 hx with e | e
      · subst e; exact ⟨v, q1, hf v (by simp)⟩
      · exact argsO_flat q2 (fun u hu => hf u (by simp [hu])) x e
    · cases h
theorem argsO_map {e : Operand → Option Value} : ∀ {l : List Operand} {vs : List Value}, argsO e l = some vs → l.map (fun x => (e x).getD undef) = vs
  | [], vs, h => by cases h; rfl
  | y :: l, vs, h => by
    simp only [argsO] at h
    split at h
    · rename_i v us q1 q2
      cases h
      rw [List.map_cons, q1, argsO_map q2]
      rfl
    · cases h
/-- a function without a body -/
theorem flat_call {a : Act} {f : FuncId} {args : Array Operand} {ts : Array TypeId} {vs : List Value} {v : Value} (ha : argsO (evalO a) args.toList = some vs) (hf : ∀ u ∈ vs, flat u = true) (hv : flat v = true) (hr : pureRun P (callFunc f ⟨vs⟩) = some (.value v)) :
    flatP P (evalO a) ⟨dst, .call ⟨.value (.func f), args, ts⟩, type, pos, after, guard⟩ = some v := by
  refine flatP_of rfl ?_ ?_ hv
  · intro z hz
    simp [Op.operands, Call.operands] at hz
    rcases hz with rfl | hz
    · exact ⟨_, rfl, rfl⟩
    · exact argsO_flat ha hf z (by simpa using hz)
  · have e1 : args.map (fun x => ((evalO a) x).getD undef) = ⟨vs⟩ := by
      apply Array.ext'
      rw [Array.toList_map]
      exact argsO_map ha
    show pureRun P (do let d ← resolve (fun x => (evalO a x).getD undef) ⟨.value (.func f), args, ts⟩ type; invoke d.target d.args) = _
    unfold resolve
    simp only [e1]
    show pureRun P (callFunc f (#[] ++ ⟨vs⟩ ++ #[])) = _
    simp only [Array.empty_append, Array.append_empty]
    exact hr
theorem trCallF_ok {ex : Xn} (hex : XnOk P ex) {f : FuncId} {args : Array Operand} {ts : Array TypeId} {c : XO} (h : trCallF f args.toList P ex res ⟨dst, .call ⟨.value (.func f), args, ts⟩, type, pos, after, guard⟩ = some c) : OpOk P Ks c ⟨dst, .call ⟨.value (.func f), args, ts⟩, type, pos, after, guard⟩ res := by
  unfold trCallF at h
  split at h
  · rename_i fn qf
    rw [nth_eq, Array.getElem?_toList] at qf
    cases hb : fn.body.isSome with
    | true =>
      rw [hb, cond_true] at h
      split at h
      · rename_i xs qx
        cases h
        intro K T M L k out a hK hM hfit hk
        have hk' : scsK xs T L (fun vs => K f vs M k) = some out := hk
        rw [scsK_eq] at hk'
        obtain ⟨v, M', k1, k2, k3⟩ := hK _ _ _ _ _ hM hk'
        refine ⟨v, M', k1, fun k => ?_, ?_⟩
        · show scsK xs T L (fun vs => K f vs M k) = _
          rw [scsK_eq, k2]
        · have hfo : funcO P (evalO a) (.func f) = some (f, []) := by
            unfold funcO
            simp only [evalO, qf, hb, if_true]
          simp only [evOp, hfo, evCallO, resO2_some qx hfit, List.append_nil, k3]
      · cases h
    | false =>
      rw [hb, cond_false] at h
      have hfo : ∀ a, funcO P (evalO a) (.func f) = none := fun a => by
        unfold funcO
        simp only [evalO, qf, hb, Bool.false_eq_true, if_false]
      have hp : ∀ a A, evOp Ks P A (evalO a) ⟨dst, .call ⟨.value (.func f), args, ts⟩, type, pos, after, guard⟩ = (flatP P (evalO a) ⟨dst, .call ⟨.value (.func f), args, ts⟩, type, pos, after, guard⟩).map (·, A) := fun a A => by
        simp only [evOp, hfo]
      split at h
      · rename_i g qg
        split at h
        · rename_i xs qx
          cases h
          intro K T M L k out a hK hM hfit hk
          have hk' : scsK xs T L (fun vs => g vs fun u => k u M) = some out := hk
          rw [scsK_eq] at hk'
          obtain ⟨v, k1, k2, k3, k4⟩ := hex f g qg _ _ _ hk'
          refine ⟨v, M, hM, fun k => ?_, ?_⟩
          · show scsK xs T L (fun vs => g vs fun u => k u M) = _
            rw [scsK_eq, k1]
          · rw [hp, flat_call (resO2_some qx hfit) k3 k2 k4]
            rfl
        · cases h
      · exact genF_ok h hp
  · cases h
theorem funK_some {v : Value} {k : FuncId → List Value → Out} {out : Value × Me} (h : funK v k = some out) : ∃ f l, v = .func (.func f) ⟨[]⟩ ⟨l⟩ := by
  unfold funK at h
  split at h
  · exact ⟨_, _, rfl⟩
  · cases h
theorem trCallV_ok {ex : Xn} (hB : KBody P Ks) {f : Operand} {args : Array Operand} {ts : Array TypeId} {c : XO} (h : trCallV f args.toList P ex res ⟨dst, .call ⟨.value f, args, ts⟩, type, pos, after, guard⟩ = some c) : OpOk P Ks c ⟨dst, .call ⟨.value f, args, ts⟩, type, pos, after, guard⟩ res := by
  unfold trCallV at h
  split at h
  · rename_i sx xs q1 q2
    cases h
    intro K T M L k out a hK hM hfit hk
    have hk' : funK (sx T L) (fun f l => scsK xs T L fun vs => catK vs l fun vs => K f vs M k) = some out := hk
    obtain ⟨g, l, e⟩ := funK_some hk'
    have ef := hfit f sx q1
    rw [e] at hk' ef
    have key : ∀ k : Value → Me → Out, xCv sx xs K T M L k = K g (xs.map (fun x => x T L) ++ l) M k := fun k => by
      show funK (sx T L) (fun f l => scsK xs T L fun vs => catK vs l fun vs => K f vs M k) = _
      rw [e]
      show scsK xs T L (fun vs => catK vs l fun vs => K g vs M k) = _
      rw [scsK_eq, catK_eq]
    rw [key] at hk
    obtain ⟨v, M', k1, k2, k3⟩ := hK _ _ _ _ _ hM hk
    obtain ⟨fn, hfn, hbd⟩ := hB _ _ _ _ k3
    refine ⟨v, M', k1, fun k => by rw [key, k2], ?_⟩
    have hfo : funcO P (evalO a) f = some (g, l) := by
      unfold funcO
      simp only [ef, hfn, hbd, if_true]
    simp only [evOp, hfo, evCallO, resO2_some q2 hfit, k3]
  · cases h
theorem fastCall_flat {a : Act} {b : Builtin} {args : Array Operand} {ts : Array TypeId} {vs : List Value} {u : Value} (hb : b ≠ .append) (hc : b ≠ .copy) (ha : argsO (evalO a) args.toList = some vs) (h : fastCall b vs = some u) (A : Mem) : evOp Ks P A (evalO a) ⟨dst, .call ⟨.builtin b, args, ts⟩, type, pos, after, guard⟩ = some (u, A) := by
  refine evOp_flat ?_ (fastP_ok ?_) (fun _ q => by cases q) (fun _ q => by cases q) (fun _ _ q => by cases q) A
  · cases b <;> first | rfl | exact absurd rfl hb | exact absurd rfl hc
  · unfold fastP
    simp only [ha, h]
theorem asC_some {α : Type} {v : Value} {k : Nat → Nat → Option α} {r : α} (h : asC v k = some r) : ∃ n m, v = .complex .f64 n m ∧ k n m = some r := by
  unfold asC at h
  split at h
  · exact ⟨_, _, rfl, h⟩
  · cases h
theorem args1 {a : Act} {x : Operand} {v : Value} (h : evalO a x = some v) : argsO (evalO a) [x] = some [v] := by simp only [argsO, h]
theorem args2 {a : Act} {x y : Operand} {v w : Value} (h : evalO a x = some v) (k : evalO a y = some w) : argsO (evalO a) [x, y] = some [v, w] := by simp only [argsO, h, k]
theorem trBu_ok {ex : Xn} {b : Builtin} {args : Array Operand} {ts : Array TypeId} {c : XO} (h : trBu b args.toList ts.toList P ex res ⟨dst, .call ⟨.builtin b, args, ts⟩, type, pos, after, guard⟩ = some c) : OpOk P Ks c ⟨dst, .call ⟨.builtin b, args, ts⟩, type, pos, after, guard⟩ res := by
  unfold trBu at h
  split at h
  · exact genA_ok h fun a A => rfl
  · exact genC_ok h fun a A => rfl
  · split at h
    · rename_i x t qa qt
      obtain rfl : args = #[x] := by apply Array.ext'; simpa using qa
      obtain rfl : ts = #[t] := by apply Array.ext'; simpa using qt
      cases hs : isSliceT P t with
      | false => rw [hs, cond_false] at h; exact gen_ok h fun a A => rfl
      | true =>
        rw [hs, cond_true] at h
        obtain ⟨el, qu⟩ : ∃ el, P.underlying t = some (.slice el) := by
          unfold isSliceT at hs
          split at hs
          · exact ⟨_, by assumption⟩
          · cases hs
        obtain ⟨sx, h1, rfl⟩ := mk1_some h
        refine ok_p1 h1 fun a v k out e1 hk => ?_
        unfold lenK at hk
        split at hk
        · rename_i ad n cp
          refine ⟨.int .i64 (n : Int), fun k => rfl, fun A => ?_⟩
          cases ad with
          | none =>
            refine evOp_flat rfl (flatP_of rfl ?_ ?_ rfl) (fun _ q => by cases q) (fun _ q => by cases q) (fun _ _ q => by cases q) A
            · intro z hz
              simp [Op.operands, Call.operands] at hz
              subst hz
              exact ⟨_, e1, rfl⟩
            · have hu := pureRun_underlying qu
              show pureRun P (do let d ← resolve (fun x => (evalO a x).getD undef) ⟨.builtin .len, #[x], #[t]⟩ type; invoke d.target d.args) = _
              have er : ((evalO a x).getD undef) = .slice none n cp := by rw [e1]; rfl
              simp [resolve, invoke, builtin, er, Builtin.len_, pureRun_bind, pureRun_pure, pureRun_map, hu, goInt]
          | some ad =>
            have : evS P (evalO a) ⟨dst, .call ⟨.builtin .len, #[x], #[t]⟩, type, pos, after, guard⟩ = some (.int .i64 (n : Int)) := by
              simp only [evS, e1, qu]
            simp only [evOp, evP_S (flatP_none (x := x) (by simp [Op.operands, Call.operands]) e1 rfl) this, Option.map_some]
        · cases hk
    · cases h
  · split at h
    · rename_i x qa
      obtain rfl : args = #[x] := by apply Array.ext'; simpa using qa
      obtain ⟨sx, h1, rfl⟩ := mk1_some h
      refine ok_p1 h1 fun a v k out e1 hk => ?_
      unfold reK at hk
      obtain ⟨n, m, rfl, _⟩ := asC_some hk
      exact ⟨.float .f64 n, fun k => rfl, fastCall_flat (by decide) (by decide) (args1 e1) rfl⟩
    · cases h
  · split at h
    · rename_i x qa
      obtain rfl : args = #[x] := by apply Array.ext'; simpa using qa
      obtain ⟨sx, h1, rfl⟩ := mk1_some h
      refine ok_p1 h1 fun a v k out e1 hk => ?_
      unfold imK at hk
      obtain ⟨n, m, rfl, _⟩ := asC_some hk
      exact ⟨.float .f64 m, fun k => rfl, fastCall_flat (by decide) (by decide) (args1 e1) rfl⟩
    · cases h
  · split at h
    · rename_i x y qa
      obtain rfl : args = #[x, y] := by apply Array.ext'; simpa using qa
      obtain ⟨sx, sy, h1, h2, rfl⟩ := mk2_some h
      refine ok_p2 h1 h2 fun a v w k out e1 e2 hk => ?_
      unfold cxK at hk
      obtain ⟨n, rfl, h3⟩ := asF_some hk
      obtain ⟨m, rfl, _⟩ := asF_some h3
      exact ⟨.complex .f64 n m, fun k => rfl, fastCall_flat (by decide) (by decide) (args2 e1 e2) rfl⟩
    · cases h
  · rename_i n1 n2 n3 n4 n5 n6
    refine gen_ok h fun a A => ?_
    cases b <;> first | rfl | (exfalso; first | exact n1 rfl | exact n2 rfl)
theorem trOp_ok {ex : Xn} (hex : XnOk P ex) (hB : KBody P Ks) {o : Oper} {c : XO} (h : trOp P ex res o = some c) (hm : mvO o.op = none) : OpOk P Ks c o res := by
  obtain ⟨dst, op, type, pos, after, guard⟩ := o
  unfold trOp trD at h
  cases op
  case binOp op t x y yt => exact trBin_ok h
  case pick x y z => exact trPick_ok h
  case unOp op t x => exact trUn_ok h
  case convert s d x => exact trConv_ok h
  case load t x => exact trLoad_ok h
  case store t x y => exact trStore_ok h
  case alloc el => exact trAlloc_ok h
  case box el x => exact trBox_ok h
  case makeSlice t l c => exact genN_ok h fun a A => rfl
  case buildSlice t l c => exact genN_ok h fun a A => rfl
  case extract x i => exact trExt_ok h
  case fieldAddr s x f => exact trFld_ok h
  case indexAddr t x ix => exact trIdx_ok h
  case move x => cases hm
  case assign x => cases hm
  case call c =>
    obtain ⟨callee, args, ts⟩ := c
    cases callee with
    | value f =>
      cases f with
      | func f => exact trCallF_ok hex h
      | tmp t => exact trCallV_ok (ex := ex) hB h
      | const v => exact trCallV_ok (ex := ex) hB h
      | global g => exact trCallV_ok (ex := ex) hB h
    | builtin b => exact trBu_ok h
    | invoke r m => exact gen_ok h fun a A => rfl
  all_goals exact gen_ok h fun a A => rfl
end
end Go.Proofs.Ytmbjgakehghdjaa
/-
  OWN TEXT: an evaluator made for the kernel: rows of operations, one behind the other.
-/
namespace Go.Proofs.Ytmbjgakehghdjaa
open Go.RowKit
set_option linter.unusedVariables false
set_option linter.unusedSimpArgs false
/-- what lies there -/
def Sa.val (n : Nat) (T : Tm) (L : Rg) : Sa → Value
  | .t p => gT p T
  | .s m => L (n - (m + 1))
  | .c v => v
theorem slotF_ok {t : Nat} : ∀ {kp : List Nat} {n i : Nat}, slotF t kp n = some i → n ≤ i ∧ kp[i - n]? = some t
  | [], n, i, h => by cases h
  | x :: l, n, i, h => by
    simp only [slotF] at h
    rw [beq_iff] at h
    by_cases c : x = t
    · rw [decide_eq_true c, cond_true] at h
      cases h
      subst c
      exact ⟨Nat.le_refl _, by simp⟩
    · rw [decide_eq_false c, cond_false] at h
      obtain ⟨h1, h2⟩ := slotF_ok h
      have h1' : n + 1 ≤ i := h1
      refine ⟨by omega, ?_⟩
      rw [show i - n = (i - (n + 1)) + 1 by omega, List.getElem?_cons_succ]
      exact h2
/-- temporaries are where they are told -/
structure EnvRel (kp : List Nat) (env : Env) (n : Nat) (a : Act) (T : Tm) (L : Rg) : Prop where
  own : ∀ (t : Nat) (s : Sa), look env t = some s → a.tmps[t]? = some (s.val n T L) ∧ (∀ m, s = .s m → m < n) ∧ ∀ p, s = .t p → p < 64
  kept : ∀ (t i : Nat), look env t = none → slotF t kp 0 = some i → i < 64 → a.tmps[t]? = some (gT i T)
theorem rel_val {γ : Type} {n : Nat} {s : Sa} {k : Sc → Option γ} {r : γ} (h : s.rel n k = some r) : ∃ sc : Sc, k sc = some r ∧ (∀ T L, sc T L = s.val n T L) ∧ ∀ p, s = .t p → p < 64 := by
  unfold Sa.rel at h
  cases s with
  | t p =>
    obtain ⟨h1, g, h2, h3⟩ := mkS_some (k := k) h
    exact ⟨g, h3, h2, fun q e => by cases e; exact h1⟩
  | s m =>
    have h' : frcN (Nat.sub n (Nat.succ m)) (fun m => k fun _ L => L m) = some r := h
    rw [frcN_eq] at h'
    exact ⟨_, h', fun T L => rfl, fun p e => by cases e⟩
  | c v => exact ⟨fun _ _ => v, h, fun T L => rfl, fun p e => by cases e⟩
theorem EnvRel.res {kp : List Nat} {env : Env} {n : Nat} {a : Act} {T : Tm} {L : Rg} (h : EnvRel kp env n a T L) {x : Operand} {s : Sa} (hx : resA kp env x = some s) (hp : ∀ p, s = .t p → p < 64) : evalO a x = some (s.val n T L) := by
  cases x with
  | tmp t =>
    simp only [resA] at hx
    split at hx
    · rename_i s' q
      cases hx
      exact (h.own t s q).1
    · rename_i q
      split at hx
      · rename_i i q2
        cases hx
        exact h.kept t i q q2 (hp i rfl)
      · cases hx
  | const v =>
    simp only [resA] at hx
    split at hx
    · rename_i c; cases hx; simp only [evalO, c, if_true]; rfl
    · cases hx
  | func f => cases hx; rfl
  | global g =>
    simp only [resA, Option.map_eq_some_iff] at hx
    obtain ⟨i, h1, rfl⟩ := hx
    simp only [evalO, h1, Option.map_some]
    rfl
theorem EnvRel.fits {kp : List Nat} {env : Env} {n : Nat} {a : Act} {T : Tm} {L : Rg} (h : EnvRel kp env n a T L) : Fits (relO kp env n) a T L := by
  intro x sc hx
  unfold relO at hx
  split at hx
  · rename_i s q
    obtain ⟨sc', h1, h2, h3⟩ := rel_val hx
    cases h1
    rw [h.res q h3, h2]
  · cases hx
theorem EnvRel.own_res {kp : List Nat} (hkp : kp.length ≤ 64) {env : Env} {n : Nat} {a : Act} {T : Tm} {L : Rg} (h : EnvRel kp env n a T L) {x : Operand} {s : Sa} (hx : resA kp env x = some s) : evalO a x = some (s.val n T L) ∧ (∀ m, s = .s m → m < n) ∧ ∀ p, s = .t p → p < 64 := by
  have key : (∀ m, s = .s m → m < n) ∧ ∀ p, s = .t p → p < 64 := by
    cases x with
    | tmp t =>
      simp only [resA] at hx
      split at hx
      · rename_i s' q
        cases hx
        exact (h.own t s q).2
      · split at hx
        · rename_i i q2
          cases hx
          have h1 := (slotF_ok q2).2
          have h2 := (List.getElem?_eq_some_iff.1 h1).1
          exact ⟨fun m q => (by cases q), fun p q => (by cases q; omega)⟩
        · cases hx
    | const v => simp only [resA] at hx; split at hx <;> cases hx; exact ⟨fun m q => (by cases q), fun p q => (by cases q)⟩
    | func f => cases hx; exact ⟨fun m q => (by cases q), fun p q => (by cases q)⟩
    | global g => simp only [resA, Option.map_eq_some_iff] at hx; obtain ⟨i, _, rfl⟩ := hx; exact ⟨fun m q => (by cases q), fun p q => (by cases q)⟩
  exact ⟨h.res hx key.2, key⟩
theorem look_cons (d : Nat) (s : Sa) (env : Env) (t : Nat) : look ((d, s) :: env) t = if d = t then some s else look env t := by
  simp only [look]
  rw [beq_iff]
  by_cases c : d = t
  · rw [decide_eq_true c, if_pos c]; rfl
  · rw [decide_eq_false c, if_neg c]; rfl
theorem addE_some {nt : Nat} {d : Option Tmp} {s : Sa} {env env' : Env} (h : addE nt d s env = some env') : (d = none ∧ env' = env) ∨ ∃ d', d = some d' ∧ d' < nt ∧ env' = (d', s) :: env := by
  cases d with
  | none => cases h; exact Or.inl ⟨rfl, rfl⟩
  | some d =>
    simp only [addE] at h
    rw [blt_iff] at h
    by_cases c : d < nt
    · rw [decide_eq_true c] at h; cases h; exact Or.inr ⟨d, rfl, c, rfl⟩
    · rw [decide_eq_false c] at h; cases h
theorem put_get {a : Act} {d : Nat} (hd : d < a.tmps.size) (v : Value) (t : Nat) : (a.put (some d) v).tmps[t]? = if d = t then some v else a.tmps[t]? := by
  simp only [Act.put, Array.getElem?_setIfInBounds]
  by_cases c : d = t
  · subst c; simp [hd]
  · simp [c]
theorem put_size (a : Act) (d : Option Tmp) (v : Value) : (a.put d v).tmps.size = a.tmps.size := by
  cases d <;> simp [Act.put]
/-- a value told, without a push -/
theorem EnvRel.name {kp : List Nat} {env env' : Env} {n nt : Nat} {a : Act} {T : Tm} {L : Rg} (h : EnvRel kp env n a T L) (hn : a.tmps.size = nt) {d : Option Tmp} {s : Sa} (he : addE nt d s env = some env') {v : Value} (hv : s.val n T L = v) (hs : ∀ m, s = .s m → m < n) (hp : ∀ p, s = .t p → p < 64) : EnvRel kp env' n (a.put d v) T L := by
  rcases addE_some he with ⟨rfl, rfl⟩ | ⟨d', rfl, hd, rfl⟩
  · exact h
  · subst hv
    refine ⟨fun t s' e => ?_, fun t i e e2 e3 => ?_⟩
    · rw [look_cons] at e
      rw [put_get (a := a) (d := d') (by rw [hn]; exact hd)]
      split at e
      · rename_i c; cases e; rw [if_pos c]; exact ⟨rfl, hs, hp⟩
      · rename_i c; rw [if_neg c]; exact h.own t s' e
    · rw [look_cons] at e
      rw [put_get (a := a) (d := d') (by rw [hn]; exact hd)]
      split at e
      · cases e
      · rename_i c; rw [if_neg c]; exact h.kept t i e e2 e3
/-- one value more -/
theorem EnvRel.grow {kp : List Nat} {env : Env} {n : Nat} {a : Act} {T : Tm} {L : Rg} (h : EnvRel kp env n a T L) (v : Value) : EnvRel kp env (n + 1) a T (pushR v L) := by
  refine ⟨fun t s e => ?_, h.kept⟩
  obtain ⟨h1, h2, h3⟩ := h.own t s e
  refine ⟨?_, fun m q => by have := h2 m q; omega, h3⟩
  rw [h1]
  cases s with
  | t p => rfl
  | c v => rfl
  | s m =>
    have := h2 m rfl
    show some (L (n - (m + 1))) = some (pushR v L (n + 1 - (m + 1)))
    rw [show n + 1 - (m + 1) = (n - (m + 1)) + 1 by omega]
    rfl
theorem EnvRel.push {kp : List Nat} {env env' : Env} {n nt : Nat} {a : Act} {T : Tm} {L : Rg} (h : EnvRel kp env n a T L) (hn : a.tmps.size = nt) {d : Option Tmp} (he : addE nt d (.s n) env = some env') (v : Value) : EnvRel kp env' (n + 1) (a.put d v) T (pushR v L) := by
  refine (h.grow v).name hn he ?_ (fun m q => by cases q; omega) (fun p q => by cases q)
  show pushR v L (n + 1 - (n + 1)) = v
  rw [Nat.sub_self]
  rfl
theorem mv_op {Ks : Caller} {P : Program} {o : Oper} {x : Operand} (h : mvO o.op = some x) {a : Act} {v : Value} (hv : evalO a x = some v) (A : Mem) : evOp Ks P A (evalO a) o = some (v, A) := by
  obtain ⟨dst, op, type, pos, after, guard⟩ := o
  cases op <;> simp only [mvO, reduceCtorEq, Option.some.injEq] at h
  case move y => subst h; simp only [evOp, evS, hv, Option.map_some]
  case assign y => subst h; simp only [evOp, evS, hv, Option.map_some]
/-- a row of operations does what they do -/
theorem trSeq_ok {P : Program} {ex : Xn} (hex : XnOk P ex) {Ks : Caller} (hB : KBody P Ks) {kp : List Nat} (hkp : kp.length ≤ 64) {nt : Nat} {ops : Array Oper} : ∀ (l : List Oper) (env env' : Env) (n n' : Nat) (xr : XR), trSeq P ex kp nt ops l env n = some (xr, env', n') →
    ∀ (K : KC) (T : Tm) (M : Me) (L : Rg) (k : Me → Rg → Out) (out : Value × Me) (a : Act), KGood K Ks → Can M → a.tmps.size = nt → EnvRel kp env n a T L → xr K T M L k = some out →
    ∃ M' L' a', Can M' ∧ (∀ k, xr K T M L k = k M' L') ∧ evSeq Ks P ops l (a, toMem M) = some (a', toMem M') ∧ a'.tmps.size = nt ∧ a'.defers = a.defers ∧ EnvRel kp env' n' a' T L'
  | [], env, env', n, n', xr, h, K, T, M, L, k, out, a, hK, hM, hn, hr, hk => by
    cases h
    exact ⟨M, L, a, hM, fun k => rfl, rfl, hn, rfl, hr⟩
  | o :: rest, env, env', n, n', xr, h, K, T, M, L, k, out, a, hK, hM, hn, hr, hk => by
    simp only [trSeq] at h
    split at h
    · rename_i hg
      have hw : Region.wanted o (yielded ops a.tmps) = true := by unfold Region.wanted; rw [hg]
      split at h
      · rename_i x hmv
        split at h
        · rename_i s hs
          split at h
          · rename_i env1 he
            obtain ⟨e1, e2, e3⟩ := hr.own_res hkp hs
            have hr1 := hr.name hn he rfl e2 e3
            obtain ⟨M', L', a', k1, k2, k3, k4, k5, k6⟩ := trSeq_ok hex hB hkp rest env1 env' n n' xr h K T M L k out _ hK hM (by rw [put_size]; exact hn) hr1 hk
            refine ⟨M', L', a', k1, k2, ?_, k4, by rw [k5]; cases o.dst <;> rfl, k6⟩
            simp only [evSeq, stepA, hw, if_true, mv_op hmv e1, Option.map_some]
            exact k3
          · cases h
        · cases h
      · rename_i hmv
        split at h
        · rename_i x env1 hx he
          rw [frcN_eq] at h
          split at h
          · rename_i xl r hq
            cases h
            have hk' : x K T M L (fun v M => xl K T M (pushR v L) k) = some out := hk
            obtain ⟨v, M1, c1, c2, c3⟩ := trOp_ok hex hB hx hmv K T M L _ out a hK hM hr.fits hk'
            rw [c2] at hk'
            have hr1 := hr.push hn he v
            obtain ⟨M', L', a', k1, k2, k3, k4, k5, k6⟩ := trSeq_ok hex hB hkp rest env1 env' (n + 1) n' xl hq K T M1 (pushR v L) k out _ hK c1 (by rw [put_size]; exact hn) hr1 hk'
            refine ⟨M', L', a', k1, fun k => ?_, ?_, k4, by rw [k5]; cases o.dst <;> rfl, k6⟩
            · show x K T M L (fun v M => xl K T M (pushR v L) k) = _
              rw [c2, k2]
            · simp only [evSeq, stepA, hw, if_true, c3, Option.map_some]
              exact k3
          · cases h
        · cases h
    · rename_i j b hg
      split at h
      · rename_i x t env1 hx ht he
        split at h
        · rename_i y hy
          rw [frcN_eq] at h
          split at h
          · rename_i xl r hq
            cases h
            have hk' : asB (y T L) (fun c => Bool.rec (motive := fun _ => Out) (xl K T M (pushR undef L) k) (x K T M L fun v M => xl K T M (pushR v L) k) (c == b)) = some out := hk
            obtain ⟨c, ey, hk1⟩ := asB_some hk'
            have ety := hr.fits _ _ hy
            rw [ey] at ety
            have hyl : yielded ops a.tmps j = some c := by
              unfold yielded
              rw [ht]
              simp only [evalO] at ety
              simp only [Option.bind_some, ety]
            have hw : Region.wanted o (yielded ops a.tmps) = (c == b) := by
              unfold Region.wanted
              rw [hg]
              simp only [hyl]
              cases c <;> cases b <;> rfl
            have key : ∀ k, xThen (xGd y b x) xl K T M L k = Bool.rec (motive := fun _ => Out) (xl K T M (pushR undef L) k) (x K T M L fun v M => xl K T M (pushR v L) k) (c == b) := fun k => by
              show asB (y T L) (fun c => Bool.rec (motive := fun _ => Out) (xl K T M (pushR undef L) k) (x K T M L fun v M => xl K T M (pushR v L) k) (c == b)) = _
              rw [ey]; rfl
            cases hcb : (c == b) with
            | true =>
              rw [hcb] at hk1 hw
              have opok : ∃ v M1, Can M1 ∧ (∀ k, x K T M L k = k v M1) ∧ evOp Ks P (toMem M) (evalO a) o = some (v, toMem M1) := by
                split at hx
                · rename_i z hmv
                  obtain ⟨sz, h1, rfl⟩ := mk1_some hx
                  exact ⟨_, M, hM, fun k => rfl, mv_op hmv (hr.fits _ _ h1) _⟩
                · rename_i hmv
                  exact trOp_ok hex hB hx hmv K T M L _ out a hK hM hr.fits hk1
              obtain ⟨v, M1, c1, c2, c3⟩ := opok
              have hk2 : x K T M L (fun v M => xl K T M (pushR v L) k) = some out := hk1
              rw [c2] at hk2
              have hr1 := hr.push hn he v
              obtain ⟨M', L', a', k1, k2, k3, k4, k5, k6⟩ := trSeq_ok hex hB hkp rest env1 env' (n + 1) n' xl hq K T M1 (pushR v L) k out _ hK c1 (by rw [put_size]; exact hn) hr1 hk2
              refine ⟨M', L', a', k1, fun k => ?_, ?_, k4, by rw [k5]; cases o.dst <;> rfl, k6⟩
              · rw [key, hcb]
                show x K T M L (fun v M => xl K T M (pushR v L) k) = _
                rw [c2, k2]
              · simp only [evSeq, stepA, hw, if_true, c3, Option.map_some]
                exact k3
            | false =>
              rw [hcb] at hk1 hw
              have hr1 := hr.push hn he undef
              obtain ⟨M', L', a', k1, k2, k3, k4, k5, k6⟩ := trSeq_ok hex hB hkp rest env1 env' (n + 1) n' xl hq K T M (pushR undef L) k out _ hK hM (by rw [put_size]; exact hn) hr1 hk1
              refine ⟨M', L', a', k1, fun k => ?_, ?_, k4, by rw [k5]; cases o.dst <;> rfl, k6⟩
              · rw [key, hcb]
                exact k2 k
              · simp only [evSeq, stepA, hw, Bool.false_eq_true, if_false]
                exact k3
          · cases h
        · cases h
      · cases h
end Go.Proofs.Ytmbjgakehghdjaa
/-
  OWN TEXT: an evaluator made for the kernel: what is put when a region ends; code.
-/
namespace Go.Proofs.Ytmbjgakehghdjaa
open Go.RowKit
set_option linter.unusedVariables false
set_option linter.unusedSimpArgs false
theorem memN_iff : ∀ (l : List Nat) (t : Nat), memN l t = decide (t ∈ l)
  | [], t => by simp [memN]
  | x :: l, t => by
    simp only [memN]
    rw [beq_iff]
    by_cases c : x = t
    · subst c; simp
    · rw [decide_eq_false c, cond_false, memN_iff l t]
      have : (t ∈ x :: l) = (t ∈ l) := by
        rw [List.mem_cons]
        exact propext ⟨fun h => h.elim (fun e => absurd e.symm c) id, Or.inr⟩
      exact decide_eq_decide.2 (iff_of_eq this.symm)
theorem slotF_inj {kp : List Nat} {t t' i : Nat} (h : slotF t kp 0 = some i) (k : slotF t' kp 0 = some i) : t = t' := by
  have h1 := (slotF_ok h).2
  have h2 := (slotF_ok k).2
  rw [h1] at h2
  exact Option.some.inj h2
theorem putsOf_ok {kp : List Nat} {n : Nat} : ∀ (env : Env) (seen : List Nat) (k : XP → Option XC) (c : XC), putsOf kp n env seen k = some c →
    ∃ xp : XP, k xp = some c ∧ ∀ (T0 : Tm) (L : Rg) (T1 : Tm), ∃ T2, (∀ c, xp T0 L T1 c = c T2) ∧ (∀ (t i : Nat), slotF t kp 0 = some i → i < 64 → gT i T2 = if t ∈ seen then gT i T1 else match look env t with | some s => s.val n T0 L | none => gT i T1) ∧ ∀ i, i < 64 → (∀ t, slotF t kp 0 ≠ some i) → gT i T2 = gT i T1
  | [], seen, k, c, h => ⟨xPut0, h, fun T0 L T1 => ⟨T1, fun c => rfl, fun t i _ _ => by simp [look], fun _ _ _ => rfl⟩⟩
  | (t, s) :: l, seen, k, c, h => by
    simp only [putsOf] at h
    rw [memN_iff] at h
    by_cases hs : t ∈ seen
    · rw [decide_eq_true hs, cond_true] at h
      obtain ⟨xp, h1, h2⟩ := putsOf_ok l seen k c h
      refine ⟨xp, h1, fun T0 L T1 => ?_⟩
      obtain ⟨T2, k1, k2, k3⟩ := h2 T0 L T1
      refine ⟨T2, k1, fun t' i e1 e2 => ?_, k3⟩
      rw [k2 t' i e1 e2, look_cons]
      by_cases c : t = t'
      · subst c; rw [if_pos hs, if_pos hs]
      · rw [if_neg c]
    · rw [decide_eq_false hs, cond_false] at h
      split at h
      · rename_i m hm
        obtain ⟨hm64, p, hp, h1⟩ := mkP_some h
        obtain ⟨x, h2, hx, _⟩ := rel_val h1
        obtain ⟨xp, h3, h4⟩ := putsOf_ok l (t :: seen) _ c h2
        refine ⟨xPut p x xp, h3, fun T0 L T1 => ?_⟩
        obtain ⟨T2, k1, k2, k3⟩ := h4 T0 L (pT m (x T0 L) T1)
        refine ⟨T2, fun c => ?_, fun t' i e1 e2 => ?_, fun i hi hn => by rw [k3 i hi hn, gT_pT hm64 hi, if_neg (fun e => hn t (by rw [hm, e]))]⟩
        · show p (x T0 L) T1 (fun T => xp T0 L T c) = _
          rw [hp, k1]
        · rw [k2 t' i e1 e2, look_cons]
          by_cases c : t = t'
          · subst c
            rw [hm] at e1
            cases e1
            rw [if_pos (by simp), if_neg hs, if_pos rfl, gT_pT hm64 e2, if_pos rfl, hx]
          · have hne : m ≠ i := fun e => c (slotF_inj hm (e ▸ e1))
            have : (t' ∈ t :: seen) = (t' ∈ seen) := by
              rw [List.mem_cons]
              exact propext ⟨fun h => h.elim (fun e => absurd e.symm c) id, Or.inr⟩
            rw [if_neg c, gT_pT hm64 e2, if_neg hne]
            by_cases d : t' ∈ seen
            · rw [if_pos (this ▸ d), if_pos d]
            · rw [if_neg (fun q => d (this ▸ q)), if_neg d]
      · rename_i hm
        obtain ⟨xp, h1, h2⟩ := putsOf_ok l seen k c h
        refine ⟨xp, h1, fun T0 L T1 => ?_⟩
        obtain ⟨T2, k1, k2, k3⟩ := h2 T0 L T1
        refine ⟨T2, k1, fun t' i e1 e2 => ?_, k3⟩
        rw [k2 t' i e1 e2, look_cons]
        by_cases c : t = t'
        · subst c; rw [hm] at e1; cases e1
        · rw [if_neg c]
/-- kept temporaries are where they are told -/
def TRel (kp : List Nat) (T : Tm) (a : Act) : Prop := ∀ (t i : Nat), slotF t kp 0 = some i → i < 64 → a.tmps[t]? = some (gT i T)
theorem TRel.env {kp : List Nat} {T : Tm} {a : Act} (h : TRel kp T a) (L : Rg) : EnvRel kp [] 0 a T L := ⟨fun t s e => (by cases e), fun t i _ e1 e2 => h t i e1 e2⟩
theorem EnvRel.put {kp : List Nat} {env : Env} {n : Nat} {a : Act} {T T2 : Tm} {L : Rg} (h : EnvRel kp env n a T L) (k : ∀ (t i : Nat), slotF t kp 0 = some i → i < 64 → gT i T2 = if t ∈ ([] : List Nat) then gT i T else match look env t with | some s => s.val n T L | none => gT i T) : TRel kp T2 a := by
  intro t i e1 e2
  rw [k t i e1 e2, if_neg (by simp)]
  cases q : look env t with
  | none => exact h.kept t i q e1 e2
  | some s => exact (h.own t s q).1
/-- a call that was put off, as a value -/
def encD (d : Deferred) : Value := match d.target with | .fn g c => .func g d.args c | _ => undef
/-- the calls that were put off lie in the last place -/
def DT (T : Tm) (a : Act) : Prop := gT 63 T = .tuple ⟨a.defers.map encD⟩
/-- how it ends, whatever goes on from there -/
def Ends (c : XC) (K : KC) (n : Nat) (T : Tm) (M : Me) (x : Ex) (T' : Tm) (M' : Me) : Prop := ∀ (kn : KS) (ke : Nat → KS) (kr : KS), c K n T M kn ke kr = match x with | .normal => kn T' M' | .exit id => ke id T' M' | .ret => kr T' M'
structure Step (P : Program) (kp : List Nat) (nt : Nat) (K : KC) (n : Nat) (c : XC) (code : Code) (T : Tm) (M : Me) (a : Act) (x : Ex) (T' : Tm) (M' : Me) (a' : Act) : Prop where
  can : Can M'
  ends : Ends c K n T M x T' M'
  size : a'.tmps.size = nt
  no : DT T' a'
  rel : TRel kp T' a'
  wp : ∀ (w0 : World) (r : Rho) (aw : Act) (w : World), ActRel r a aw → Rel P w0 r (toMem M) w → code.wp P (Post P w0 r (toMem M) x (a', toMem M')) aw w
def CodeOk (P : Program) (Ks : Caller) (kp : List Nat) (nt : Nat) (c : XC) (code : Code) : Prop := ∀ (K : KC) (n : Nat) (T : Tm) (M : Me) (kn : KS) (ke : Nat → KS) (kr : KS) (out : Value × Me) (a : Act), KGood K Ks → Can M → a.tmps.size = nt → DT T a → TRel kp T a → c K n T M kn ke kr = some out →
  ∃ x T' M' a', Step P kp nt K n c code T M a x T' M' a'
def RegOk (P : Program) (Ks : Caller) (kp : List Nat) (nt : Nat) (xr : XR) (env : Env) (n : Nat) (code : Code) : Prop := ∀ (K : KC) (T : Tm) (M : Me) (k : Me → Rg → Out) (out : Value × Me) (a : Act), KGood K Ks → Can M → a.tmps.size = nt → TRel kp T a → xr K T M r0 k = some out →
  ∃ M' L' a', Can M' ∧ (∀ k, xr K T M r0 k = k M' L') ∧ a'.tmps.size = nt ∧ a'.defers = a.defers ∧ EnvRel kp env n a' T L' ∧
    ∀ (w0 : World) (r : Rho) (aw : Act) (w : World), ActRel r a aw → Rel P w0 r (toMem M) w → code.wp P (Post P w0 r (toMem M) .normal (a', toMem M')) aw w
section
variable {P : Program} {Ks : Caller} {kp : List Nat} {nt : Nat}
theorem seq_reg {ex : Xn} (hex : XnOk P ex) (hB : KBody P Ks) (hK0 : KOk P Ks) (hP : Plain P) (hkp : kp.length ≤ 64) {ops : Array Oper} {xr : XR} {env : Env} {n id : Nat} (h : trSeq P ex kp nt ops ops.toList [] 0 = some (xr, env, n)) : RegOk P Ks kp nt xr env n (.region id ops false) := by
  intro K T M k out a hK hM hn hT hk
  obtain ⟨M', L', a', k1, k2, k3, k4, k5, k6⟩ := trSeq_ok hex hB hkp _ _ _ _ _ _ h K T M r0 k out a hK hM hn (hT.env r0) hk
  refine ⟨M', L', a', k1, k2, k4, k5, k6, fun w0 r aw w ha hr => ?_⟩
  exact wp_region_list (evSeq_sound hK0 hP _ _ k3 r aw w ha hr fun r' a2 w' h1 h2 h3 h4 => ⟨rfl, r', h1, h2, h3, h4⟩)
theorem slot63 (hkp : kp.length ≤ 63) (t : Nat) : slotF t kp 0 ≠ some 63 := fun h => by
  have := (slotF_ok h).2
  rw [List.getElem?_eq_none (by omega)] at this
  cases this
theorem reg_code (hkp : kp.length ≤ 63) {xr : XR} {env : Env} {n : Nat} {code : Code} {c : XC} (h : RegOk P Ks kp nt xr env n code) (hp : putsOf kp n env [] (fun r => some (cReg xr r)) = some c) : CodeOk P Ks kp nt c code := by
  obtain ⟨xp, h1, h2⟩ := putsOf_ok env [] _ c hp
  cases h1
  intro K m T M kn ke kr out a hK hM hn hd hT hk
  have hk' : xr K T M r0 (fun M L => xp T L T fun T => kn T M) = some out := hk
  obtain ⟨M', L', a', k1, k2, k4, k5, k6, k7⟩ := h K T M _ out a hK hM hn hT hk'
  obtain ⟨T2, e1, e2, e3⟩ := h2 T L' T
  refine ⟨.normal, T2, M', a', k1, fun kn ke kr => ?_, k4, ?_, k6.put e2, k7⟩
  · show xr K T M r0 (fun M L => xp T L T fun T => kn T M) = _
    rw [k2, e1]
  · unfold DT at hd ⊢
    rw [k5, e3 63 (by decide) (slot63 hkp)]
    exact hd
theorem evSeq_more (hK : KOk P Ks) (hP : Plain P) {ops : Array Oper} {w0 : World} {Q : Exit → Act → World → Prop} {F : St} (more : List Oper) : ∀ (l : List Oper) (s : St), evSeq Ks P ops l s = some F → ∀ (r : Rho) (a : Act) (w : World), ActRel r s.1 a → Rel P w0 r s.2 w →
    (∀ r' a' w', r.le r' → ActRel r' F.1 a' → Rel P w0 r' F.2 w' → Keep r s.2 F.2 → wpList P ops Q more a' w') → wpList P ops Q (l ++ more) a w
  | [], s, h, r, a, w, ha, hr, hQ => by cases h; exact hQ r a w (Rho.le.refl r) ha hr (Keep.refl r _)
  | o :: rest, s, h, r, a, w, ha, hr, hQ => by
    simp only [evSeq] at h
    split at h
    · rename_i s' q
      rw [List.cons_append]
      unfold wpList
      exact stepA_sound hK hP q ha hr fun r' a' w' h1 h2 h3 h4 => evSeq_more hK hP more rest s' h r' a' w' h2 h3 fun r'' a'' w'' k1 k2 k3 k4 => hQ r'' a'' w'' (h1.trans k1) k2 k3 (Keep.trans h1 h4 k4)
    · cases h
theorem splitD_ok : ∀ {l p : List Oper} {d : Oper}, splitD l = some (p, d) → l = p ++ [d]
  | [], p, d, h => by cases h
  | o :: l, p, d, h => by
    simp only [splitD] at h
    split at h
    · rename_i p' d' q
      cases h
      rw [splitD_ok q]; rfl
    · split at h
      · cases h; rfl
      · cases h
theorem pushD_some {f : Value} {args : List Value} {T : Tm} {k : Tm → Out} {out : Value × Me} (h : pushD f args T k = some out) : ∃ g c l, f = .func (.func g) #[] ⟨c⟩ ∧ gT 63 T = .tuple ⟨l⟩ ∧ ∀ k, pushD f args T k = k (pT 63 (.tuple ⟨.func (.func g) ⟨args⟩ ⟨c⟩ :: l⟩) T) := by
  unfold pushD at h
  split at h
  · rename_i g c
    split at h
    · rename_i l q
      obtain ⟨c⟩ := c
      refine ⟨g, c, l, rfl, q, fun k => ?_⟩
      unfold pushD
      rw [q]
      rfl
    · cases h
  · cases h
theorem VRel.inv_fn {r : Rho} {g : FuncId} {c : List Value} {v' : Value} (h : VRel r (.func (.func g) #[] ⟨c⟩) v') : ∃ c', v' = .func (.func g) #[] ⟨c'⟩ ∧ LR (VRel r) c c' := by
  cases h with
  | one h => cases h with
    | one h => cases h with
      | fn e => exact ⟨_, rfl, e.mono fun v v' k => by
          cases k with
          | flat f => exact .one (.one (.flat f))
          | ptr f => exact .one (.one (.ptr f))⟩
      | flat f =>
        simp [flat1] at f
        subst f
        exact ⟨[], rfl, rfl, fun i v e => by simp at e⟩
theorem def_code {ex : Xn} (hex : XnOk P ex) (hB : KBody P Ks) (hK0 : KOk P Ks) (hP : Plain P) (hkp : kp.length ≤ 63) {ops : Array Oper} {l : List Oper} {o : Oper} {c : XC} {id : Nat} (hs : splitD ops.toList = some (l, o)) (h : trDef P ex kp nt ops l o = some c) : CodeOk P Ks kp nt c (.region id ops false) := by
  unfold trDef at h
  split at h
  · rename_i xr env n q
    split at h
    · rename_i f args ts hop hg hdst
      split at h
      · rename_i x xs hx hxs
        obtain ⟨xp, h1, h2⟩ := putsOf_ok env [] _ c h
        cases h1
        intro K m T M kn ke kr out a hK hM hn hd hT hk
        have hk' : xr K T M r0 (fun M L => xp T L T fun T' => pushD (x T L) (xs.map fun y => y T L) T' fun T' => kn T' M) = some out := hk
        obtain ⟨M', L', a', k1, k2, k3, k4, k5, k6⟩ := trSeq_ok hex hB (by omega) _ _ _ _ _ _ q K T M r0 _ out a hK hM hn (hT.env r0) hk'
        rw [k2] at hk'
        obtain ⟨T2, e1, e2, e3⟩ := h2 T L' T
        rw [e1] at hk'
        obtain ⟨g, cc, ll, p1, p2, p3⟩ := pushD_some hk'
        have hf := k6.fits _ _ hx
        have hargs := resO2_some hxs k6.fits
        have h63 : gT 63 T2 = gT 63 T := e3 63 (by decide) (slot63 hkp)
        have hll : ll = a.defers.map encD := by
          unfold DT at hd
          rw [h63, hd] at p2
          injection p2 with p2
          injection p2 with p2
          exact p2.symm
        let dd : Deferred := ⟨.fn (.func g) ⟨cc⟩, ⟨xs.map fun y => y T L'⟩⟩
        refine ⟨.normal, pT 63 (.tuple ⟨.func (.func g) ⟨xs.map fun y => y T L'⟩ ⟨cc⟩ :: ll⟩) T2, M', { a' with defers := dd :: a'.defers }, k1, fun kn ke kr => ?_, k4, ?_, ?_, fun w0 r aw w ha hr => ?_⟩
        · show xr K T M r0 (fun M L => xp T L T fun T' => pushD (x T L) (xs.map fun y => y T L) T' fun T' => kn T' M) = _
          rw [k2, e1, p3]
        · unfold DT
          rw [gT_pT (by decide) (by decide), if_pos rfl, hll]
          show _ = Value.tuple ⟨(dd :: a'.defers).map encD⟩
          rw [k5]
          rfl
        · have := k6.put e2
          intro t i s1 s2
          rw [gT_pT (by decide) s2, if_neg (fun (e : 63 = i) => slot63 hkp t (by rw [e]; exact s1))]
          exact this t i s1 s2
        · have hol := splitD_ok hs
          refine wp_region_list ?_
          rw [hol]
          refine evSeq_more hK0 hP [o] l _ k3 r aw w ha hr fun r' a2 w' j1 j2 j3 j4 => ?_
          unfold wpList
          have hw : Region.wanted o (yielded ops a2.tmps) = true := by unfold Region.wanted; rw [hg]
          rw [if_pos hw]
          obtain ⟨c', v1, v2⟩ := VRel.inv_fn (p1 ▸ j2.eval hf)
          refine Or.inl ?_
          have hrun : (execOp a2.eval o).run P w' = .ok (.defer ⟨.fn (.func g) ⟨c'⟩, #[] ++ args.map a2.eval⟩) w' := by
            simp [execOp, hop, resolve, v1, Deferred.ofValue]
          have hu : o.wp P a2 w' (wpList P ops (Post P w0 r (toMem M) .normal ({ a' with defers := dd :: a'.defers }, toMem M')) []) (Post P w0 r (toMem M) .normal ({ a' with defers := dd :: a'.defers }, toMem M')) = (wpList P ops (Post P w0 r (toMem M) .normal ({ a' with defers := dd :: a'.defers }, toMem M')) []) ({ a2 with defers := ⟨.fn (.func g) ⟨c'⟩, #[] ++ args.map a2.eval⟩ :: a2.defers }.put o.dst undef) w' := by
            unfold Oper.wp
            rw [hrun]
            exact Oper.upon_defer P o a2 _ _ w' _
          rw [hu, hdst]
          have hl : LR (VRel r') (xs.map fun y => y T L') (args.toList.map a2.eval) := argsO_rel _ _ hargs fun y _ v hv => j2.eval hv
          have hd2 : DR r' (dd :: a'.defers) (⟨.fn (.func g) ⟨c'⟩, #[] ++ args.map a2.eval⟩ :: a2.defers) := by
            have e : (#[] ++ args.map a2.eval : Array Value) = ⟨args.toList.map a2.eval⟩ := by apply Array.ext'; simp
            rw [e]
            exact .cons hl v2 j2.no
          exact ⟨rfl, r', j1, ⟨j2.ro, hd2, j2.size, j2.tmp⟩, j3, j4⟩
      · cases h
    · cases h
  · cases h
theorem skip_ok : CodeOk P Ks kp nt cSkip .skip := fun K n T M kn ke kr out a hK hM hn hd hT hk => ⟨.normal, T, M, a, hM, fun _ _ _ => rfl, hn, hd, hT, fun w0 r aw w ha hr => wp_skip ⟨rfl, r, Rho.le.refl r, ha, hr, Keep.refl r _⟩⟩
theorem label_ok (l : Nat) : CodeOk P Ks kp nt cSkip (.label l) := fun K n T M kn ke kr out a hK hM hn hd hT hk => ⟨.normal, T, M, a, hM, fun _ _ _ => rfl, hn, hd, hT, fun w0 r aw w ha hr => wp_label ⟨rfl, r, Rho.le.refl r, ha, hr, Keep.refl r _⟩⟩
theorem exit_ok (id : Nat) : CodeOk P Ks kp nt (cExit id) (.exit id) := fun K n T M kn ke kr out a hK hM hn hd hT hk => ⟨.exit id, T, M, a, hM, fun _ _ _ => rfl, hn, hd, hT, fun w0 r aw w ha hr => wp_exit ⟨rfl, r, Rho.le.refl r, ha, hr, Keep.refl r _⟩⟩
theorem ret_ok : CodeOk P Ks kp nt cRet .ret := fun K n T M kn ke kr out a hK hM hn hd hT hk => ⟨.ret, T, M, a, hM, fun _ _ _ => rfl, hn, hd, hT, fun w0 r aw w ha hr => wp_ret ⟨rfl, r, Rho.le.refl r, ha, hr, Keep.refl r _⟩⟩
theorem seq_ok {x y : XC} {a b : Code} (hx : CodeOk P Ks kp nt x a) (hy : CodeOk P Ks kp nt y b) : CodeOk P Ks kp nt (cSeq x y) (.seq a b) := by
  intro K n T M kn ke kr out ac hK hM hn hd hT hk
  have hk' : x K n T M (fun T M => y K n T M kn ke kr) ke kr = some out := hk
  obtain ⟨e, T1, M1, a1, s1⟩ := hx K n T M _ _ _ out ac hK hM hn hd hT hk'
  rw [s1.ends] at hk'
  cases e with
  | normal =>
    obtain ⟨e2, T2, M2, a2, s2⟩ := hy K n T1 M1 _ _ _ out a1 hK s1.can s1.size s1.no s1.rel hk'
    refine ⟨e2, T2, M2, a2, s2.can, fun kn ke kr => ?_, s2.size, s2.no, s2.rel, fun w0 r aw w ha hr => ?_⟩
    · show x K n T M (fun T M => y K n T M kn ke kr) ke kr = _
      rw [s1.ends]
      exact s2.ends kn ke kr
    · refine wp_seq (wp_mono (s1.wp w0 r aw w ha hr) ?_)
      rintro e' a' w' ⟨rfl, r', k1, k2, k3, k4⟩
      exact wp_mono (s2.wp w0 r' a' w' k2 k3) fun _ _ _ p => Post.mono k1 k4 p
  | exit id =>
    refine ⟨.exit id, T1, M1, a1, s1.can, fun kn ke kr => s1.ends _ ke kr, s1.size, s1.no, s1.rel, fun w0 r aw w ha hr => ?_⟩
    refine wp_seq (wp_mono (s1.wp w0 r aw w ha hr) ?_)
    rintro e' a' w' ⟨rfl, p⟩
    exact ⟨rfl, p⟩
  | ret =>
    refine ⟨.ret, T1, M1, a1, s1.can, fun kn ke kr => s1.ends _ ke kr, s1.size, s1.no, s1.rel, fun w0 r aw w ha hr => ?_⟩
    refine wp_seq (wp_mono (s1.wp w0 r aw w ha hr) ?_)
    rintro e' a' w' ⟨rfl, p⟩
    exact ⟨rfl, p⟩
theorem if_ok {x : Operand} {sc : Sc} (hs : relO kp [] 0 x = some sc) {y z : XC} {a b : Code} (hy : CodeOk P Ks kp nt y a) (hz : CodeOk P Ks kp nt z b) : CodeOk P Ks kp nt (cIf sc y z) (.cond x a b) := by
  intro K n T M kn ke kr out ac hK hM hn hd hT hk
  have hk' : asB (sc T r0) (fun t => Bool.rec (motive := fun _ => Out) (z K n T M kn ke kr) (y K n T M kn ke kr) t) = some out := hk
  obtain ⟨t, et, hk1⟩ := asB_some hk'
  have ev := (hT.env r0).fits _ _ hs
  rw [et] at ev
  have key : ∀ kn ke kr, cIf sc y z K n T M kn ke kr = Bool.rec (motive := fun _ => Out) (z K n T M kn ke kr) (y K n T M kn ke kr) t := fun kn ke kr => by
    show asB (sc T r0) (fun t => Bool.rec (motive := fun _ => Out) (z K n T M kn ke kr) (y K n T M kn ke kr) t) = _
    rw [et]; rfl
  cases t with
  | true =>
    obtain ⟨e, T1, M1, a1, s1⟩ := hy K n T M _ _ _ out ac hK hM hn hd hT hk1
    refine ⟨e, T1, M1, a1, s1.can, fun kn ke kr => by rw [key]; exact s1.ends kn ke kr, s1.size, s1.no, s1.rel, fun w0 r aw w ha hr => ?_⟩
    refine wp_cond (ha.eval ev).bool ?_
    rw [if_pos rfl]
    exact s1.wp w0 r aw w ha hr
  | false =>
    obtain ⟨e, T1, M1, a1, s1⟩ := hz K n T M _ _ _ out ac hK hM hn hd hT hk1
    refine ⟨e, T1, M1, a1, s1.can, fun kn ke kr => by rw [key]; exact s1.ends kn ke kr, s1.size, s1.no, s1.rel, fun w0 r aw w ha hr => ?_⟩
    refine wp_cond (ha.eval ev).bool ?_
    rw [if_neg (by decide)]
    exact s1.wp w0 r aw w ha hr
theorem block_ok (id : Nat) {x : XC} {a : Code} (hx : CodeOk P Ks kp nt x a) : CodeOk P Ks kp nt (cBlock id x) (.block id a) := by
  intro K n T M kn ke kr out ac hK hM hn hd hT hk
  have hk' : x K n T M kn (fun i T M => Bool.rec (motive := fun _ => Out) (ke i T M) (kn T M) (Nat.beq i id)) kr = some out := hk
  obtain ⟨e, T1, M1, a1, s1⟩ := hx K n T M _ _ _ out ac hK hM hn hd hT hk'
  have key : ∀ kn ke kr, cBlock id x K n T M kn ke kr = _ := fun kn ke kr => s1.ends kn (fun i T M => Bool.rec (motive := fun _ => Out) (ke i T M) (kn T M) (Nat.beq i id)) kr
  cases e with
  | normal =>
    refine ⟨.normal, T1, M1, a1, s1.can, key, s1.size, s1.no, s1.rel, fun w0 r aw w ha hr => ?_⟩
    refine wp_block (wp_mono (s1.wp w0 r aw w ha hr) ?_)
    rintro e' a' w' ⟨rfl, p⟩
    exact ⟨rfl, p⟩
  | exit i =>
    by_cases c : i = id
    · refine ⟨.normal, T1, M1, a1, s1.can, fun kn ke kr => by rw [key]; show Bool.rec (motive := fun _ => Out) (ke i T1 M1) (kn T1 M1) (Nat.beq i id) = _; rw [beq_iff, decide_eq_true c], s1.size, s1.no, s1.rel, fun w0 r aw w ha hr => ?_⟩
      refine wp_block (wp_mono (s1.wp w0 r aw w ha hr) ?_)
      rintro e' a' w' ⟨rfl, p⟩
      simp only [Ex.out, Exit.inBlock]
      rw [if_pos c]
      exact ⟨rfl, p⟩
    · refine ⟨.exit i, T1, M1, a1, s1.can, fun kn ke kr => by rw [key]; show Bool.rec (motive := fun _ => Out) (ke i T1 M1) (kn T1 M1) (Nat.beq i id) = _; rw [beq_iff, decide_eq_false c], s1.size, s1.no, s1.rel, fun w0 r aw w ha hr => ?_⟩
      refine wp_block (wp_mono (s1.wp w0 r aw w ha hr) ?_)
      rintro e' a' w' ⟨rfl, p⟩
      simp only [Ex.out, Exit.inBlock]
      rw [if_neg c]
      exact ⟨rfl, p⟩
  | ret =>
    refine ⟨.ret, T1, M1, a1, s1.can, key, s1.size, s1.no, s1.rel, fun w0 r aw w ha hr => ?_⟩
    refine wp_block (wp_mono (s1.wp w0 r aw w ha hr) ?_)
    rintro e' a' w' ⟨rfl, p⟩
    exact ⟨rfl, p⟩
theorem scope_ok {x : XC} {a : Code} (hx : CodeOk P Ks kp nt x a) : CodeOk P Ks kp nt x (.scope a) := by
  intro K n T M kn ke kr out ac hK hM hn hd hT hk
  obtain ⟨e, T1, M1, a1, s1⟩ := hx K n T M _ _ _ out ac hK hM hn hd hT hk
  refine ⟨e, T1, M1, a1, s1.can, s1.ends, s1.size, s1.no, s1.rel, fun w0 r aw w ha hr => ?_⟩
  refine wp_scope_straight (wp_mono (s1.wp w0 r aw w ha hr) ?_)
  rintro e' a' w' ⟨rfl, p⟩
  cases e <;> exact ⟨rfl, p⟩
/-- so many rounds of a loop -/
def Rounds (P : Program) (kp : List Nat) (nt : Nat) (K : KC) (n : Nat) (c : XC) (code : Code) (x : Ex) (T' : Tm) (M' : Me) (a' : Act) : Nat → Tm → Me → Act → Prop
  | 0, _, _, _ => False
  | m + 1, T, M, a => (∃ T1 M1 a1, Step P kp nt K n c code T M a .normal T1 M1 a1 ∧ Rounds P kp nt K n c code x T' M' a' m T1 M1 a1) ∨ (x ≠ .normal ∧ Step P kp nt K n c code T M a x T' M' a')
theorem rounds_of {c : XC} {code : Code} (hc : CodeOk P Ks kp nt c code) {K : KC} {n : Nat} (hK : KGood K Ks) : ∀ (m : Nat) (T : Tm) (M : Me) (ke : Nat → KS) (kr : KS) (out : Value × Me) (a : Act), Can M → a.tmps.size = nt → DT T a → TRel kp T a → xloop m (fun T M kn => c K n T M kn ke kr) T M = some out →
    ∃ x T' M' a', x ≠ .normal ∧ Rounds P kp nt K n c code x T' M' a' m T M a ∧ Can M' ∧ a'.tmps.size = nt ∧ DT T' a' ∧ TRel kp T' a' ∧ ∀ ke kr, xloop m (fun T M kn => c K n T M kn ke kr) T M = match x with | .normal => none | .exit id => ke id T' M' | .ret => kr T' M'
  | 0, T, M, ke, kr, out, a, _, _, _, _, h => by cases h
  | m + 1, T, M, ke, kr, out, a, hM, hn, hd, hT, h => by
    have h' : c K n T M (xloop m fun T M kn => c K n T M kn ke kr) ke kr = some out := h
    obtain ⟨e, T1, M1, a1, s1⟩ := hc K n T M _ _ _ out a hK hM hn hd hT h'
    rw [s1.ends] at h'
    have key : ∀ ke kr, xloop (m + 1) (fun T M kn => c K n T M kn ke kr) T M = _ := fun ke kr => s1.ends (xloop m fun T M kn => c K n T M kn ke kr) ke kr
    cases e with
    | normal =>
      obtain ⟨x, T', M', a', k1, k2, k3, k4, k5, k6, k7⟩ := rounds_of hc hK m T1 M1 ke kr out a1 s1.can s1.size s1.no s1.rel h'
      exact ⟨x, T', M', a', k1, Or.inl ⟨T1, M1, a1, s1, k2⟩, k3, k4, k5, k6, fun ke kr => by rw [key]; exact k7 ke kr⟩
    | exit id => exact ⟨.exit id, T1, M1, a1, (fun q => by cases q), Or.inr ⟨(fun q => by cases q), s1⟩, s1.can, s1.size, s1.no, s1.rel, fun ke kr => by rw [key]⟩
    | ret => exact ⟨.ret, T1, M1, a1, (fun q => by cases q), Or.inr ⟨(fun q => by cases q), s1⟩, s1.can, s1.size, s1.no, s1.rel, fun ke kr => by rw [key]⟩
theorem loop_ok {x : XC} {a : Code} (hx : CodeOk P Ks kp nt x a) : CodeOk P Ks kp nt (cLoop x) (.loop a) := by
  intro K n T M kn ke kr out ac hK hM hn hd hT hk
  obtain ⟨e, T', M', a', k1, k2, k3, k4, k5, k6, k7⟩ := rounds_of hx hK n T M ke kr out ac hM hn hd hT hk
  refine ⟨e, T', M', a', k3, fun kn ke kr => ?_, k4, k5, k6, fun w0 r aw w ha hr => ?_⟩
  · have := k7 ke kr
    cases e with
    | normal => exact absurd rfl k1
    | exit id => exact this
    | ret => exact this
  · refine wp_loop_n (fun m a w => ∃ r' T1 M1 a1, r.le r' ∧ Keep r (toMem M) (toMem M1) ∧ ActRel r' a1 a ∧ Rel P w0 r' (toMem M1) w ∧ Rounds P kp nt K n x _ e T' M' a' m T1 M1 a1) ?_ ⟨r, T, M, ac, Rho.le.refl r, Keep.refl r _, ha, hr, k2⟩
    rintro m a2 w2 ⟨r', T1, M1, a1, j1, j2, j3, j4, j5⟩
    cases m with
    | zero => exact j5.elim
    | succ m =>
      rcases j5 with ⟨T3, M3, a3, s, j5⟩ | ⟨_, s⟩
      · refine wp_mono (s.wp w0 r' a2 w2 j3 j4) ?_
        rintro e' a4 w4 ⟨rfl, r'', p1, p2, p3, p4⟩
        exact ⟨m, Nat.lt_succ_self m, r'', T3, M3, a3, j1.trans p1, Keep.trans j1 j2 p4, p2, p3, j5⟩
      · refine wp_mono (s.wp w0 r' a2 w2 j3 j4) ?_
        rintro e' a4 w4 p
        cases e with
        | normal => exact absurd rfl k1
        | exit id => obtain ⟨rfl, p⟩ := p; exact Post.mono j1 j2 ⟨rfl, p⟩
        | ret => obtain ⟨rfl, p⟩ := p; exact Post.mono j1 j2 ⟨rfl, p⟩
end
end Go.Proofs.Ytmbjgakehghdjaa
