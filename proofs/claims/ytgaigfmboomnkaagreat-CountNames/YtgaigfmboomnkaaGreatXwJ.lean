/-
  OWN TEXT: an evaluator made for the kernel: calls; every operation that was made ready does what the operation does.
-/
import Derived.Test.YtgaigfmboomnkaaGreatXwI
namespace Go.Proofs.YtgaigfmboomnkaaGreat
open Go.RowKit
set_option linter.unusedVariables false
set_option linter.unusedSimpArgs false
section
variable {P : Program} {Ks Kp : Caller} {res : Rs} {dst : Option Tmp} {type : TypeId} {pos : String} {after : Array Edge} {guard : Option (Nat × Bool)}
theorem argsO_flat {e : Operand → Option Value} : ∀ {l : List Operand} {vs : List Value}, argsO e l = some vs → (∀ u ∈ vs, flat u = true) → ∀ x ∈ l, ∃ u, e x = some u ∧ flat u = true
  | [], vs, h, _, x, hx => by cases hx
  | y :: l, vs, h, hf, x, hx => by
    simp only [argsO] at h
    split at h
    · rename_i v us q1 q2
      cases h
      rcases List.mem_cons.1 hx with e | e
      · subst e; exact ⟨v, q1, hf v (by simp)⟩
      · exact argsO_flat q2 (fun u hu => hf u (by simp [hu])) x e
    · cases h
theorem argsO_map {e : Operand → Option Value} : ∀ {l : List Operand} {vs : List Value}, argsO e l = some vs → l.map (fun x => (e x).getD undef) = vs
  | [], vs, h => by cases h; rfl
  | y :: l, vs, h => by
    simp only [argsO] at h
    split at h
    · rename_i v us q1 q2
      cases h
      rw [List.map_cons, q1, argsO_map q2]
      rfl
    · cases h
/-- a function without a body -/
theorem flat_call {a : Act} {f : FuncId} {args : Array Operand} {ts : Array TypeId} {vs : List Value} {v : Value} (ha : argsO (evalO a) args.toList = some vs) (hf : ∀ u ∈ vs, flat u = true) (hv : flat v = true) (hr : pureRun P (callFunc f ⟨vs⟩) = some (.value v)) :
    flatP P (evalO a) ⟨dst, .call ⟨.value (.func f), args, ts⟩, type, pos, after, guard⟩ = some v := by
  refine flatP_of rfl ?_ ?_ hv
  · intro z hz
    simp [Op.operands, Call.operands] at hz
    rcases hz with rfl | hz
    · exact ⟨_, rfl, rfl⟩
    · exact argsO_flat ha hf z (by simpa using hz)
  · have e1 : args.map (fun x => ((evalO a) x).getD undef) = ⟨vs⟩ := by
      apply Array.ext'
      rw [Array.toList_map]
      exact argsO_map ha
    show pureRun P (do let d ← resolve (fun x => (evalO a x).getD undef) ⟨.value (.func f), args, ts⟩ type; invoke d.target d.args) = _
    unfold resolve
    simp only [e1]
    show pureRun P (callFunc f (#[] ++ ⟨vs⟩ ++ #[])) = _
    simp only [Array.empty_append, Array.append_empty]
    exact hr
theorem frK_at {C : KP} {H : Tm → Value → Me → Out} {T : Tm} {f : FuncId} {vs : List Value} {M : Me} {k : Value → Me → Out} (h : f ≠ panF) : frK C H T f vs M k = C f vs M k (H T) := by
  show Bool.rec (motive := fun _ => Out) (C f vs M k (H T)) (List.casesOn vs none fun v _ => H T v M) (Nat.beq f panF) = _
  rw [beq_iff, decide_eq_false h]
theorem frK_pan {C : KP} {H : Tm → Value → Me → Out} {T : Tm} {v : Value} {M : Me} {k : Value → Me → Out} : frK C H T panF [v] M k = H T v M := by
  show Bool.rec (motive := fun _ => Out) (C panF [v] M k (H T)) (H T v M) (Nat.beq panF panF) = _
  rw [beq_iff, decide_eq_true rfl]
theorem trCallF_ok {ex : Xn} (hex : XnOk P ex) {f : FuncId} {args : Array Operand} {ts : Array TypeId} {c : XO} (h : trCallF f args.toList P ex res ⟨dst, .call ⟨.value (.func f), args, ts⟩, type, pos, after, guard⟩ = some c) : OpOk2 P Ks Kp c ⟨dst, .call ⟨.value (.func f), args, ts⟩, type, pos, after, guard⟩ res := by
  unfold trCallF at h
  split at h
  · rename_i fn qf
    rw [nth_eq, Array.getElem?_toList] at qf
    have hpf : f ≠ panF := by
      intro e
      rw [beq_iff, decide_eq_true e] at h
      cases h
    rw [beq_iff, decide_eq_false hpf, cond_false] at h
    cases hb : fn.body.isSome with
    | true =>
      rw [hb, cond_true] at h
      split at h
      · rename_i xs qx
        cases h
        intro C H T M L k out a hK hM hfit hk
        have key : ∀ H k, xCl f xs (frK C H) T M L k = C f (xs.map fun x => x T L) M k (H T) := fun H k => by
          show scsK xs T L (fun vs => frK C H T f vs M k) = _
          rw [scsK_eq, frK_at hpf]
        rw [key] at hk
        have hfo : funcO P (evalO a) (.func f) = some (f, []) := by
          unfold funcO
          simp only [evalO, qf, hb, if_true]
        rcases hK _ _ _ _ _ _ hM hk with ⟨v, M', k1, k2, k3⟩ | ⟨v, M', k1, k2, k3⟩
        · refine Or.inl ⟨v, M', k1, fun H k => ?_, ?_⟩
          · rw [key, k2]
          · simp only [evOp, hfo, evCallO, resO2_some qx hfit, List.append_nil, k3]
        · refine Or.inr ⟨v, M', k1, fun H k => ?_, ?_⟩
          · rw [key, k2]
          · simp only [evPan, hfo, evCallO, resO2_some qx hfit, List.append_nil, k3]
      · cases h
    | false =>
      rw [hb, cond_false] at h
      have hfo : ∀ a, funcO P (evalO a) (.func f) = none := fun a => by
        unfold funcO
        simp only [evalO, qf, hb, Bool.false_eq_true, if_false]
      have hp : ∀ a A, evOp Ks P A (evalO a) ⟨dst, .call ⟨.value (.func f), args, ts⟩, type, pos, after, guard⟩ = (flatP P (evalO a) ⟨dst, .call ⟨.value (.func f), args, ts⟩, type, pos, after, guard⟩).map (·, A) := fun a A => by
        simp only [evOp, hfo]
      split at h
      · rename_i g qg
        split at h
        · rename_i xs qx
          cases h
          refine OpOk.two ?_
          intro K T M L k out a hK hM hfit hk
          have hk' : scsK xs T L (fun vs => g vs fun u => k u M) = some out := hk
          rw [scsK_eq] at hk'
          obtain ⟨v, k1, k2, k3, k4⟩ := hex f g qg _ _ _ hk'
          refine ⟨v, M, hM, fun K k => ?_, ?_⟩
          · show scsK xs T L (fun vs => g vs fun u => k u M) = _
            rw [scsK_eq, k1]
          · rw [hp, flat_call (resO2_some qx hfit) k3 k2 k4]
            rfl
        · cases h
      · exact (genF_ok h hp).two
  · cases h
theorem funK_some {v : Value} {k : FuncId → List Value → Out} {out : Value × Me} (h : funK v k = some out) : ∃ f l, v = .func (.func f) ⟨[]⟩ ⟨l⟩ := by
  unfold funK at h
  split at h
  · exact ⟨_, _, rfl⟩
  · cases h
theorem trCallV_ok {ex : Xn} (hB : KBody P Ks) (hB2 : KBody P Kp) {f : Operand} {args : Array Operand} {ts : Array TypeId} {c : XO} (h : trCallV f args.toList P ex res ⟨dst, .call ⟨.value f, args, ts⟩, type, pos, after, guard⟩ = some c) : OpOk2 P Ks Kp c ⟨dst, .call ⟨.value f, args, ts⟩, type, pos, after, guard⟩ res := by
  unfold trCallV at h
  split at h
  · rename_i sx xs q1 q2
    cases h
    intro C H T M L k out a hK hM hfit hk
    have hk' : funK (sx T L) (fun f l => Bool.rec (motive := fun _ => Out) (scsK xs T L fun vs => catK vs l fun vs => frK C H T f vs M k) none (Nat.beq f panF)) = some out := hk
    obtain ⟨g, l, e⟩ := funK_some hk'
    have ef := hfit f sx q1
    rw [e] at hk' ef
    have hk1 : Bool.rec (motive := fun _ => Out) (scsK xs T L fun vs => catK vs l fun vs => frK C H T g vs M k) none (Nat.beq g panF) = some out := hk'
    have hpf : g ≠ panF := by
      intro e
      rw [beq_iff, decide_eq_true e] at hk1
      cases hk1
    have key : ∀ (H : Tm → Value → Me → Out) (k : Value → Me → Out), xCv sx xs (frK C H) T M L k = C g (xs.map (fun x => x T L) ++ l) M k (H T) := fun H k => by
      show funK (sx T L) (fun f l => Bool.rec (motive := fun _ => Out) (scsK xs T L fun vs => catK vs l fun vs => frK C H T f vs M k) none (Nat.beq f panF)) = _
      rw [e]
      show Bool.rec (motive := fun _ => Out) (scsK xs T L fun vs => catK vs l fun vs => frK C H T g vs M k) none (Nat.beq g panF) = _
      rw [beq_iff, decide_eq_false hpf]
      show scsK xs T L (fun vs => catK vs l fun vs => frK C H T g vs M k) = _
      rw [scsK_eq, catK_eq, frK_at hpf]
    rw [key] at hk
    have hfo : ∀ fn, P.funcs[g]? = some fn → fn.body.isSome = true → funcO P (evalO a) f = some (g, l) := by
      intro fn hfn hbd
      unfold funcO
      simp only [ef, hfn, hbd, if_true]
    rcases hK _ _ _ _ _ _ hM hk with ⟨v, M', k1, k2, k3⟩ | ⟨v, M', k1, k2, k3⟩
    · obtain ⟨fn, hfn, hbd⟩ := hB _ _ _ _ k3
      refine Or.inl ⟨v, M', k1, fun H k => by rw [key, k2], ?_⟩
      simp only [evOp, hfo fn hfn hbd, evCallO, resO2_some q2 hfit, k3]
    · obtain ⟨fn, hfn, hbd⟩ := hB2 _ _ _ _ k3
      refine Or.inr ⟨v, M', k1, fun H k => by rw [key, k2], ?_⟩
      simp only [evPan, hfo fn hfn hbd, evCallO, resO2_some q2 hfit, k3]
  · cases h
theorem fastCall_flat {a : Act} {b : Builtin} {args : Array Operand} {ts : Array TypeId} {vs : List Value} {u : Value} (hb : b ≠ .append) (hc : b ≠ .copy) (ha : argsO (evalO a) args.toList = some vs) (h : fastCall b vs = some u) (A : Mem) : evOp Ks P A (evalO a) ⟨dst, .call ⟨.builtin b, args, ts⟩, type, pos, after, guard⟩ = some (u, A) := by
  refine evOp_flat ?_ (fastP_ok ?_) (fun _ q => by cases q) (fun _ q => by cases q) (fun _ _ q => by cases q) A
  · cases b <;> first | rfl | exact absurd rfl hb | exact absurd rfl hc
  · unfold fastP
    simp only [ha, h]
theorem asC_some {α : Type} {v : Value} {k : Nat → Nat → Option α} {r : α} (h : asC v k = some r) : ∃ n m, v = .complex .f64 n m ∧ k n m = some r := by
  unfold asC at h
  split at h
  · exact ⟨_, _, rfl, h⟩
  · cases h
theorem args1 {a : Act} {x : Operand} {v : Value} (h : evalO a x = some v) : argsO (evalO a) [x] = some [v] := by simp only [argsO, h]
theorem args2 {a : Act} {x y : Operand} {v w : Value} (h : evalO a x = some v) (k : evalO a y = some w) : argsO (evalO a) [x, y] = some [v, w] := by simp only [argsO, h, k]
theorem trBu_ok {ex : Xn} {b : Builtin} {args : Array Operand} {ts : Array TypeId} {c : XO} (h : trBu b args.toList ts.toList P ex res ⟨dst, .call ⟨.builtin b, args, ts⟩, type, pos, after, guard⟩ = some c) : OpOk P Ks c ⟨dst, .call ⟨.builtin b, args, ts⟩, type, pos, after, guard⟩ res := by
  unfold trBu at h
  split at h
  · exact genA_ok h fun a A => rfl
  · exact genC_ok h fun a A => rfl
  · split at h
    · rename_i x t qa qt
      obtain rfl : args = #[x] := by apply Array.ext'; simpa using qa
      obtain rfl : ts = #[t] := by apply Array.ext'; simpa using qt
      cases hs : isSliceT P t with
      | false => rw [hs, cond_false] at h; exact gen_ok h fun a A => rfl
      | true =>
        rw [hs, cond_true] at h
        obtain ⟨el, qu⟩ : ∃ el, P.underlying t = some (.slice el) := by
          unfold isSliceT at hs
          split at hs
          · exact ⟨_, by assumption⟩
          · cases hs
        obtain ⟨sx, h1, rfl⟩ := mk1_some h
        refine ok_p1 h1 fun a v k out e1 hk => ?_
        unfold lenK at hk
        split at hk
        · rename_i ad n cp
          refine ⟨.int .i64 (n : Int), fun k => rfl, fun A => ?_⟩
          cases ad with
          | none =>
            refine evOp_flat rfl (flatP_of rfl ?_ ?_ rfl) (fun _ q => by cases q) (fun _ q => by cases q) (fun _ _ q => by cases q) A
            · intro z hz
              simp [Op.operands, Call.operands] at hz
              subst hz
              exact ⟨_, e1, rfl⟩
            · have hu := pureRun_underlying qu
              show pureRun P (do let d ← resolve (fun x => (evalO a x).getD undef) ⟨.builtin .len, #[x], #[t]⟩ type; invoke d.target d.args) = _
              have er : ((evalO a x).getD undef) = .slice none n cp := by rw [e1]; rfl
              simp [resolve, invoke, builtin, er, Builtin.len_, pureRun_bind, pureRun_pure, pureRun_map, hu, goInt]
          | some ad =>
            have : evS P (evalO a) ⟨dst, .call ⟨.builtin .len, #[x], #[t]⟩, type, pos, after, guard⟩ = some (.int .i64 (n : Int)) := by
              simp only [evS, e1, qu]
            simp only [evOp, evP_S (flatP_none (x := x) (by simp [Op.operands, Call.operands]) e1 rfl) this, Option.map_some]
        · cases hk
    · cases h
  · split at h
    · rename_i x qa
      obtain rfl : args = #[x] := by apply Array.ext'; simpa using qa
      obtain ⟨sx, h1, rfl⟩ := mk1_some h
      refine ok_p1 h1 fun a v k out e1 hk => ?_
      unfold reK at hk
      obtain ⟨n, m, rfl, _⟩ := asC_some hk
      exact ⟨.float .f64 n, fun k => rfl, fastCall_flat (by decide) (by decide) (args1 e1) rfl⟩
    · cases h
  · split at h
    · rename_i x qa
      obtain rfl : args = #[x] := by apply Array.ext'; simpa using qa
      obtain ⟨sx, h1, rfl⟩ := mk1_some h
      refine ok_p1 h1 fun a v k out e1 hk => ?_
      unfold imK at hk
      obtain ⟨n, m, rfl, _⟩ := asC_some hk
      exact ⟨.float .f64 m, fun k => rfl, fastCall_flat (by decide) (by decide) (args1 e1) rfl⟩
    · cases h
  · split at h
    · rename_i x y qa
      obtain rfl : args = #[x, y] := by apply Array.ext'; simpa using qa
      obtain ⟨sx, sy, h1, h2, rfl⟩ := mk2_some h
      refine ok_p2 h1 h2 fun a v w k out e1 e2 hk => ?_
      unfold cxK at hk
      obtain ⟨n, rfl, h3⟩ := asF_some hk
      obtain ⟨m, rfl, _⟩ := asF_some h3
      exact ⟨.complex .f64 n m, fun k => rfl, fastCall_flat (by decide) (by decide) (args2 e1 e2) rfl⟩
    · cases h
  · rename_i n1 n2 n3 n4 n5 n6
    refine gen_ok h fun a A => ?_
    cases b <;> first | rfl | (exfalso; first | exact n1 rfl | exact n2 rfl)
theorem trPan_ok {ex : Xn} {x : Operand} {c : XO} (h : trPan x P ex res ⟨dst, .panic x, type, pos, after, guard⟩ = some c) : OpOk2 P Ks Kp c ⟨dst, .panic x, type, pos, after, guard⟩ res := by
  obtain ⟨sx, h1, rfl⟩ := mk1_some h
  intro C H T M L k out a hK hM hfit hk
  have ef := hfit x sx h1
  have hk' : panK (sx T L) (fun v => frK C H T panF [v] M k) = some out := hk
  unfold panK at hk'
  split at hk'
  · rename_i t u e
    cases hf : flat1 u with
    | false => rw [hf] at hk'; cases hk'
    | true =>
      refine Or.inr ⟨.iface t u, M, hM, fun H k => ?_, ?_⟩
      · show panK (sx T L) (fun v => frK C H T panF [v] M k) = _
        rw [e]
        show cond (flat1 u) (frK C H T panF [.iface t u] M k) none = _
        rw [hf]
        exact frK_pan (C := C) (k := k)
      · simp only [evPan, ef, e, hf, if_true]
  · cases hk'
theorem trOp_ok {ex : Xn} (hex : XnOk P ex) (hB : KBody P Ks) (hB2 : KBody P Kp) {o : Oper} {c : XO} (h : trOp P ex res o = some c) (hm : mvO o.op = none) : OpOk2 P Ks Kp c o res := by
  obtain ⟨dst, op, type, pos, after, guard⟩ := o
  unfold trOp trD at h
  cases op
  case binOp op t x y yt => exact (trBin_ok h).two
  case pick x y z => exact (trPick_ok h).two
  case unOp op t x => exact (trUn_ok h).two
  case convert s d x => exact (trConv_ok h).two
  case load t x => exact (trLoad_ok h).two
  case store t x y => exact (trStore_ok h).two
  case alloc el => exact (trAlloc_ok h).two
  case box el x => exact (trBox_ok h).two
  case makeSlice t l c => exact (genN_ok h fun a A => rfl).two
  case buildSlice t l c => exact (genN_ok h fun a A => rfl).two
  case extract x i => exact (trExt_ok h).two
  case fieldAddr s x f => exact (trFld_ok h).two
  case indexAddr t x ix => exact (trIdx_ok h).two
  case move x => cases hm
  case assign x => cases hm
  case call c =>
    obtain ⟨callee, args, ts⟩ := c
    cases callee with
    | value f =>
      cases f with
      | func f => exact trCallF_ok hex h
      | tmp t => exact trCallV_ok (ex := ex) hB hB2 h
      | const v => exact trCallV_ok (ex := ex) hB hB2 h
      | global g => exact trCallV_ok (ex := ex) hB hB2 h
    | builtin b => exact (trBu_ok h).two
    | invoke r m => exact (gen_ok h fun a A => rfl).two
  case panic x => exact trPan_ok h
  all_goals exact (gen_ok h fun a A => rfl).two
end
end Go.Proofs.YtgaigfmboomnkaaGreat
