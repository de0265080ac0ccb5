/-
 OWN TEXT: an evaluator made for the kernel: calls; every operation that was made ready does what the operation does.
-/
import Derived.Test.YtfgfofedacehiaaGreatJXwFToXwI
namespace Go.Proofs.YtfgfofedacehiaaGreat
open Go.RowKit
set_option linter.unusedVariables false
set_option linter.unusedSimpArgs false
section
variable {P : Program} {Ks Kp : Caller} {res : Rs} {dst : Option Tmp} {type : TypeId} {pos : String} {after : Array Edge} {guard : Option (Nat × Bool)}
theorem argsO_flat {e : Operand → Option Value} : ∀ {l : List Operand} {vs : List Value}, argsO e l = some vs → (∀ u ∈ vs, flat u = true) → ∀ x ∈ l, ∃ u, e x = some u ∧ flat u = true
 | [], vs, h, _, x, hx => by cases hx
 | y :: l, vs, h, hf, x, hx => by
  simp only [argsO] at h
  split at h
  ·
   rename_i v us q1 q2
   cases h
   rcases List.mem_cons.1 hx with e | e
   · subst e; exact ⟨v, q1, hf v (by simp)⟩
   · exact argsO_flat q2 (fun u hu => hf u (by simp [hu])) x e
  · cases h
theorem argsO_map {e : Operand → Option Value} : ∀ {l : List Operand} {vs : List Value}, argsO e l = some vs → l.map (fun x => (e x).getD undef) = vs
 | [], vs, h => by cases h; rfl
 | y :: l, vs, h => by
  simp only [argsO] at h
  split at h
  ·
   rename_i v us q1 q2
   cases h
   rw [List.map_cons, q1, argsO_map q2]
   rfl
  · cases h
/-- a function without a body -/
theorem flat_call {a : Act} {f : FuncId} {args : Array Operand} {ts : Array TypeId} {vs : List Value} {v : Value} (ha : argsO (evalO a) args.toList = some vs) (hf : ∀ u ∈ vs, flat u = true) (hv : flat v = true) (hr : pureRun P (callFunc f ⟨vs⟩) = some (.value v)) :
  flatP P (evalO a) ⟨dst, .call ⟨.value (.func f), args, ts⟩, type, pos, after, guard⟩ = some v := by
 refine flatP_of rfl ?_ ?_ hv
 ·
  intro z hz
  simp [Op.operands, Call.operands] at hz
  rcases hz with rfl | hz
  · exact ⟨_, rfl, rfl⟩
  · exact argsO_flat ha hf z (by simpa using hz)
 ·
  have e1 : args.map (fun x => ((evalO a) x).getD undef) = ⟨vs⟩ := by
   apply Array.ext'
   rw [Array.toList_map]
   exact argsO_map ha
  show pureRun P (do let d ← resolve (fun x => (evalO a x).getD undef) ⟨.value (.func f), args, ts⟩ type; invoke d.target d.args) = _
  unfold resolve
  simp only [e1]
  show pureRun P (callFunc f (#[] ++ ⟨vs⟩ ++ #[])) = _
  simp only [Array.empty_append, Array.append_empty]
  exact hr
theorem frK_at {C : KP} {H : Tm → Value → Me → Out} {T : Tm} {f : FuncId} {vs : List Value} {M : Me} {k : Value → Me → Out} (h : f ≠ panF) : frK C H T f vs M k = C f vs M k (H T) := by
 show Bool.rec (motive := fun _ => Out) (C f vs M k (H T)) (List.casesOn vs none fun v _ => H T v M) (Nat.beq f panF) = _
 rw [beq_iff, decide_eq_false h]
theorem frK_pan {C : KP} {H : Tm → Value → Me → Out} {T : Tm} {v : Value} {M : Me} {k : Value → Me → Out} : frK C H T panF [v] M k = H T v M := by
 show Bool.rec (motive := fun _ => Out) (C panF [v] M k (H T)) (H T v M) (Nat.beq panF panF) = _
 rw [beq_iff, decide_eq_true rfl]
theorem trCallF_ok {ex : Xn} (hex : XnOk P ex) {f : FuncId} {args : Array Operand} {ts : Array TypeId} {c : XO} (h : trCallF f args.toList P ex res ⟨dst, .call ⟨.value (.func f), args, ts⟩, type, pos, after, guard⟩ = some c) : OpOk2 P Ks Kp c ⟨dst, .call ⟨.value (.func f), args, ts⟩, type, pos, after, guard⟩ res := by
 unfold trCallF at h
 split at h
 ·
  rename_i fn qf
  rw [nth_eq, Array.getElem?_toList] at qf
  have hpf : f ≠ panF := by
   intro e
   rw [beq_iff, decide_eq_true e] at h
   cases h
  rw [beq_iff, decide_eq_false hpf, cond_false] at h
  cases hb : fn.body.isSome with
  | true =>
   rw [hb, cond_true] at h
   split at h
   ·
    rename_i xs qx
    cases h
    intro C H T M L k out a hK hM hfit hk
    have key : ∀ H k, xCl f xs (frK C H) T M L k = C f (xs.map fun x => x T L) M k (H T) := fun H k => by
     show scsK xs T L (fun vs => frK C H T f vs M k) = _
     rw [scsK_eq, frK_at hpf]
    rw [key] at hk
    have hfo : funcO P (evalO a) (.func f) = some (f, [], []) := by
     unfold funcO
     simp only [evalO, qf, hb, if_true]
    rcases hK _ _ _ _ _ _ hM hk with ⟨v, M', k1, k2, k3⟩ | ⟨v, M', k1, k2, k3⟩
    ·
     refine Or.inl ⟨v, M', k1, fun H k => ?_, ?_⟩
     · rw [key, k2]
     · simp only [evOp, hfo, evCallO, resO2_some qx hfit, List.append_nil, List.nil_append, k3]
    ·
     refine Or.inr ⟨v, M', k1, fun H k => ?_, ?_⟩
     · rw [key, k2]
     · simp only [evPan, hfo, evCallO, resO2_some qx hfit, List.append_nil, List.nil_append, k3]
   · cases h
  | false =>
   rw [hb, cond_false] at h
   have hfo : ∀ a, funcO P (evalO a) (.func f) = none := fun a => by
    unfold funcO
    simp only [evalO, qf, hb, Bool.false_eq_true, if_false]
   have hp : ∀ a A, evOp Ks P A (evalO a) ⟨dst, .call ⟨.value (.func f), args, ts⟩, type, pos, after, guard⟩ = (flatP P (evalO a) ⟨dst, .call ⟨.value (.func f), args, ts⟩, type, pos, after, guard⟩).map (·, A) := fun a A => by
    simp only [evOp, hfo]
   split at h
   ·
    rename_i g qg
    split at h
    ·
     rename_i xs qx
     cases h
     refine OpOk.two ?_
     intro K T M L k out a hK hM hfit hk
     have hk' : scsK xs T L (fun vs => g vs fun u => k u M) = some out := hk
     rw [scsK_eq] at hk'
     obtain ⟨v, k1, k2, k3, k4⟩ := hex f g qg _ _ _ hk'
     refine ⟨v, M, hM, fun K k => ?_, ?_⟩
     ·
      show scsK xs T L (fun vs => g vs fun u => k u M) = _
      rw [scsK_eq, k1]
     ·
      rw [hp, flat_call (resO2_some qx hfit) k3 k2 k4]
      rfl
    · cases h
   · exact (genF_ok h hp).two
 · cases h
theorem funK_some {v : Value} {k : FuncId → List Value → List Value → Out} {out : Value × Me} (h : funK v k = some out) : ∃ f m l, v = .func (.func f) ⟨m⟩ ⟨l⟩ := by
 unfold funK at h
 split at h
 · exact ⟨_, _, _, rfl⟩
 · cases h
theorem trCallV_ok {ex : Xn} (hB : KBody P Ks) (hB2 : KBody P Kp) {f : Operand} {args : Array Operand} {ts : Array TypeId} {c : XO} (h : trCallV f args.toList P ex res ⟨dst, .call ⟨.value f, args, ts⟩, type, pos, after, guard⟩ = some c) : OpOk2 P Ks Kp c ⟨dst, .call ⟨.value f, args, ts⟩, type, pos, after, guard⟩ res := by
 unfold trCallV at h
 split at h
 ·
  rename_i sx xs q1 q2
  cases h
  intro C H T M L k out a hK hM hfit hk
  have hk' : funK (sx T L) (fun f m l => Bool.rec (motive := fun _ => Out) (scsK xs T L fun vs => catK vs l fun vs => catK m vs fun vs => frK C H T f vs M k) none (Nat.beq f panF)) = some out := hk
  obtain ⟨g, m, l, e⟩ := funK_some hk'
  have ef := hfit f sx q1
  rw [e] at hk' ef
  have hk1 : Bool.rec (motive := fun _ => Out) (scsK xs T L fun vs => catK vs l fun vs => catK m vs fun vs => frK C H T g vs M k) none (Nat.beq g panF) = some out := hk'
  have hpf : g ≠ panF := by
   intro e
   rw [beq_iff, decide_eq_true e] at hk1
   cases hk1
  have key : ∀ (H : Tm → Value → Me → Out) (k : Value → Me → Out), xCv sx xs (frK C H) T M L k = C g (m ++ (xs.map (fun x => x T L) ++ l)) M k (H T) := fun H k => by
   show funK (sx T L) (fun f m l => Bool.rec (motive := fun _ => Out) (scsK xs T L fun vs => catK vs l fun vs => catK m vs fun vs => frK C H T f vs M k) none (Nat.beq f panF)) = _
   rw [e]
   show Bool.rec (motive := fun _ => Out) (scsK xs T L fun vs => catK vs l fun vs => catK m vs fun vs => frK C H T g vs M k) none (Nat.beq g panF) = _
   rw [beq_iff, decide_eq_false hpf]
   show scsK xs T L (fun vs => catK vs l fun vs => catK m vs fun vs => frK C H T g vs M k) = _
   rw [scsK_eq, catK_eq, catK_eq, frK_at hpf]
  rw [key] at hk
  have hfo : ∀ fn, P.funcs[g]? = some fn → fn.body.isSome = true → funcO P (evalO a) f = some (g, m, l) := by
   intro fn hfn hbd
   unfold funcO
   simp only [ef, hfn, hbd, if_true]
  rcases hK _ _ _ _ _ _ hM hk with ⟨v, M', k1, k2, k3⟩ | ⟨v, M', k1, k2, k3⟩
  ·
   obtain ⟨fn, hfn, hbd⟩ := hB _ _ _ _ k3
   refine Or.inl ⟨v, M', k1, fun H k => by rw [key, k2], ?_⟩
   simp only [evOp, hfo fn hfn hbd, evCallO, resO2_some q2 hfit, k3]
  ·
   obtain ⟨fn, hfn, hbd⟩ := hB2 _ _ _ _ k3
   refine Or.inr ⟨v, M', k1, fun H k => by rw [key, k2], ?_⟩
   simp only [evPan, hfo fn hfn hbd, evCallO, resO2_some q2 hfit, k3]
 · cases h
theorem trInv_ok {ex : Xn} (hB : KBody P Ks) (hB2 : KBody P Kp) {x : Operand} {name : String} {args : Array Operand} {ts : Array TypeId} {c : XO} (h : trInv x name args.toList P ex res ⟨dst, .call ⟨.invoke x name, args, ts⟩, type, pos, after, guard⟩ = some c) : OpOk2 P Ks Kp c ⟨dst, .call ⟨.invoke x name, args, ts⟩, type, pos, after, guard⟩ res := by
 unfold trInv at h
 split at h
 ·
  rename_i sx xs q1 q2
  cases h
  intro C H T M L k out a hK hM hfit hk
  have ef := hfit x sx q1
  unfold xInv at hk
  cases qi : invF P (sx T L) name with
  | none => rw [qi] at hk; cases hk
  | some g =>
   obtain ⟨g, u⟩ := g
   rw [qi] at hk
   cases hu : flat u with
   | false => simp only [hu, cond_false] at hk; cases hk
   | true =>
    simp only [hu, cond_true] at hk
    have hpf : g ≠ panF := by
     intro e
     rw [beq_iff, decide_eq_true e] at hk
     cases hk
    have key : ∀ (H : Tm → Value → Me → Out) (k : Value → Me → Out), xInv P name sx xs (frK C H) T M L k = C g (u :: xs.map (fun x => x T L)) M k (H T) := fun H k => by
     unfold xInv
     rw [qi]
     simp only [hu, cond_true]
     rw [beq_iff, decide_eq_false hpf]
     show scsK xs T L (fun vs => frK C H T g (u :: vs) M k) = _
     rw [scsK_eq, frK_at hpf]
    have hk2 : xInv P name sx xs (frK C H) T M L k = some out := by
     unfold xInv
     rw [qi]
     simp only [hu, cond_true]
     exact hk
    rw [key] at hk2
    have hfo : ∀ fn, P.funcs[g]? = some fn → fn.body.isSome = true → invO P (evalO a) x name = some (g, u) := by
     intro fn hfn hbd
     unfold invO
     simp only [ef, qi, hu, hfn, hbd, if_true]
    rcases hK _ _ _ _ _ _ hM hk2 with ⟨v, M', k1, k2, k3⟩ | ⟨v, M', k1, k2, k3⟩
    ·
     obtain ⟨fn, hfn, hbd⟩ := hB _ _ _ _ k3
     refine Or.inl ⟨v, M', k1, fun H k => by rw [key, k2], ?_⟩
     simp only [evOp, evInvO, hfo fn hfn hbd, resO2_some q2 hfit, k3]
    ·
     obtain ⟨fn, hfn, hbd⟩ := hB2 _ _ _ _ k3
     refine Or.inr ⟨v, M', k1, fun H k => by rw [key, k2], ?_⟩
     simp only [evPan, evInvO, hfo fn hfn hbd, resO2_some q2 hfit, k3]
 · cases h
theorem fastCall_flat {a : Act} {b : Builtin} {args : Array Operand} {ts : Array TypeId} {vs : List Value} {u : Value} (hb : b ≠ .append) (hc : b ≠ .copy) (ha : argsO (evalO a) args.toList = some vs) (h : fastCall b vs = some u) (A : Mem) : evOp Ks P A (evalO a) ⟨dst, .call ⟨.builtin b, args, ts⟩, type, pos, after, guard⟩ = some (u, A) := by
 refine evOp_flat ?_ (fastP_ok ?_) (fun _ q => by cases q) (fun _ q => by cases q) (fun _ _ q => by cases q) A
 · cases b <;> first | rfl | exact absurd rfl hb | exact absurd rfl hc
 ·
  unfold fastP
  simp only [ha, h]
theorem evPN_call {a : Act} {b : Builtin} {xs : Array Operand} {ts : Array TypeId} {x : Operand} {v : Value} (hb : b ≠ .len) (hx : x ∈ xs) (h : evalO a x = some v) (hf : flat v = false) : evPN P (evalO a) ⟨dst, .call ⟨.builtin b, xs, ts⟩, type, pos, after, guard⟩ = evNaN P (evalO a) ⟨dst, .call ⟨.builtin b, xs, ts⟩, type, pos, after, guard⟩ := by
 refine evPN_nan ?_
 unfold evP
 rw [flatP_none (x := x) (by simp [Op.operands, Call.operands, hx]) h hf]
 have e2 : evS P (evalO a) ⟨dst, .call ⟨.builtin b, xs, ts⟩, type, pos, after, guard⟩ = none := by
  unfold evS
  simp only
  split
  · rename_i q1 q2 q3; first | exact absurd q1 hb | (cases q1; exact absurd rfl hb) | (cases q3; exact absurd rfl hb)
  · rfl
 rw [e2]
 rfl
theorem cxK_some {x y : Value} {k : Value → Out} {out : Value × Me} (h : cxK x y k = some out) : (∃ n m, x = .float .f64 n ∧ y = .float .f64 m ∧ ∀ k : Value → Out, cxK x y k = k (.complex .f64 n m)) ∨ ∃ a b, flO x = some a ∧ flO y = some b ∧ (x = nanV ∨ y = nanV) ∧ ∀ k : Value → Out, cxK x y k = k (cxV a b) := by
 have e0 : ∀ k : Value → Out, cxK x y k = asFE x (slowC x y k) fun n => asFE y (slowC x y k) fun m => k (.complex .f64 n m) := fun _ => rfl
 have slow : ∀ {x y : Value}, slowC x y k = some out → ∃ a b, flO x = some a ∧ flO y = some b ∧ ∀ k : Value → Out, slowC x y k = k (cxV a b) := by
  intro x y h
  unfold slowC at h
  split at h
  ·
   rename_i a b q1 q2
   exact ⟨a, b, q1, q2, fun k => by unfold slowC; rw [q1, q2]; exact frc_eq _ _⟩
  · cases h
 have mark : ∀ {x : Value} {a : Nat}, flO x = some a → (∀ n, x ≠ .float .f64 n) → x = nanV := by
  intro x a h n
  rcases flO_shape h with ⟨m, q⟩ | q
  · exact absurd q (n m)
  · exact q
 rcases asFE_cases x (slowC x y k) (fun n => asFE y (slowC x y k) fun m => k (.complex .f64 n m)) with ⟨n, rfl, e1⟩ | ⟨n1, e1⟩
 ·
  rw [e0, e1] at h
  rcases asFE_cases y (slowC (.float .f64 n) y k) (fun m => k (.complex .f64 n m)) with ⟨m, rfl, e2⟩ | ⟨n2, e2⟩
  · exact Or.inl ⟨n, m, rfl, rfl, fun k => rfl⟩
  ·
   rw [e2] at h
   obtain ⟨p, q, q1, q2, q4⟩ := slow h
   refine Or.inr ⟨p, q, q1, q2, Or.inr (mark q2 n2), fun k => ?_⟩
   show asFE y (slowC (.float .f64 n) y k) (fun m => k (.complex .f64 n m)) = _
   rcases asFE_cases y (slowC (.float .f64 n) y k) (fun m => k (.complex .f64 n m)) with ⟨b, rfl, _⟩ | ⟨_, e3⟩
   · exact absurd rfl (n2 b)
   · rw [e3]; exact q4 k
 ·
  rw [e0, e1] at h
  obtain ⟨p, q, q1, q2, q4⟩ := slow h
  refine Or.inr ⟨p, q, q1, q2, Or.inl (mark q1 n1), fun k => ?_⟩
  rw [e0]
  rcases asFE_cases x (slowC x y k) (fun n => asFE y (slowC x y k) fun m => k (.complex .f64 n m)) with ⟨b, rfl, _⟩ | ⟨_, e3⟩
  · exact absurd rfl (n1 b)
  · rw [e3]; exact q4 k
theorem args1 {a : Act} {x : Operand} {v : Value} (h : evalO a x = some v) : argsO (evalO a) [x] = some [v] := by simp only [argsO, h]
theorem args2 {a : Act} {x y : Operand} {v w : Value} (h : evalO a x = some v) (k : evalO a y = some w) : argsO (evalO a) [x, y] = some [v, w] := by simp only [argsO, h, k]
theorem trBu_ok {ex : Xn} {b : Builtin} {args : Array Operand} {ts : Array TypeId} {c : XO} (h : trBu b args.toList ts.toList P ex res ⟨dst, .call ⟨.builtin b, args, ts⟩, type, pos, after, guard⟩ = some c) : OpOk P Ks c ⟨dst, .call ⟨.builtin b, args, ts⟩, type, pos, after, guard⟩ res := by
 unfold trBu at h
 split at h
 · exact genA_ok h fun a A => rfl
 · exact genC_ok h fun a A => rfl
 ·
  split at h
  ·
   rename_i x t qa qt
   obtain rfl : args = #[x] := by apply Array.ext'; simpa using qa
   obtain rfl : ts = #[t] := by apply Array.ext'; simpa using qt
   cases hs : isSliceT P t with
   | false => rw [hs, cond_false] at h; exact gen_ok h fun a A => rfl
   | true =>
    rw [hs, cond_true] at h
    obtain ⟨el, qu⟩ : ∃ el, P.underlying t = some (.slice el) := by
     unfold isSliceT at hs
     split at hs
     · exact ⟨_, by assumption⟩
     · cases hs
    obtain ⟨sx, h1, rfl⟩ := mk1_some h
    refine ok_p1 h1 fun a v k out e1 hk => ?_
    unfold lenK at hk
    split at hk
    ·
     rename_i ad n cp
     refine ⟨.int .i64 (n : Int), fun k => rfl, fun A => ?_⟩
     cases ad with
     | none =>
      refine evOp_flat rfl (flatP_of rfl ?_ ?_ rfl) (fun _ q => by cases q) (fun _ q => by cases q) (fun _ _ q => by cases q) A
      ·
       intro z hz
       simp [Op.operands, Call.operands] at hz
       subst hz
       exact ⟨_, e1, rfl⟩
      ·
       have hu := pureRun_underlying qu
       show pureRun P (do let d ← resolve (fun x => (evalO a x).getD undef) ⟨.builtin .len, #[x], #[t]⟩ type; invoke d.target d.args) = _
       have er : ((evalO a x).getD undef) = .slice none n cp := by rw [e1]; rfl
       simp [resolve, invoke, builtin, er, Builtin.len_, pureRun_bind, pureRun_pure, pureRun_map, hu, goInt]
     | some ad =>
      have : evS P (evalO a) ⟨dst, .call ⟨.builtin .len, #[x], #[t]⟩, type, pos, after, guard⟩ = some (.int .i64 (n : Int)) := by
       simp only [evS, e1, qu]
      simp only [evOp, evP_S (flatP_none (x := x) (by simp [Op.operands, Call.operands]) e1 rfl) this, Option.map_some]
    · cases hk
  · cases h
 ·
  split at h
  ·
   rename_i x qa
   obtain rfl : args = #[x] := by apply Array.ext'; simpa using qa
   obtain ⟨sx, h1, rfl⟩ := mk1_some h
   refine ok_p1 h1 fun a v k out e1 hk => ?_
   unfold reK at hk
   split at hk
   ·
    rename_i n m
    exact ⟨.float .f64 n, fun k => rfl, fastCall_flat (by decide) (by decide) (args1 e1) rfl⟩
   ·
    rename_i p q
    refine ⟨flV p, fun k => frc_eq _ _, fun A => ?_⟩
    have e2 := evPN_call (P := P) (dst := dst) (type := type) (pos := pos) (after := after) (guard := guard) (ts := ts) (b := .real) (xs := #[x]) (x := x) (by decide) (by simp) e1 rfl
    simp only [evOp, e2, evNaN, e1]
    rfl
   · cases hk
  · cases h
 ·
  split at h
  ·
   rename_i x qa
   obtain rfl : args = #[x] := by apply Array.ext'; simpa using qa
   obtain ⟨sx, h1, rfl⟩ := mk1_some h
   refine ok_p1 h1 fun a v k out e1 hk => ?_
   unfold imK at hk
   split at hk
   ·
    rename_i n m
    exact ⟨.float .f64 m, fun k => rfl, fastCall_flat (by decide) (by decide) (args1 e1) rfl⟩
   ·
    rename_i p q
    refine ⟨flV q, fun k => frc_eq _ _, fun A => ?_⟩
    have e2 := evPN_call (P := P) (dst := dst) (type := type) (pos := pos) (after := after) (guard := guard) (ts := ts) (b := .imag) (xs := #[x]) (x := x) (by decide) (by simp) e1 rfl
    simp only [evOp, e2, evNaN, e1]
    rfl
   · cases hk
  · cases h
 ·
  split at h
  ·
   rename_i x y qa
   obtain rfl : args = #[x, y] := by apply Array.ext'; simpa using qa
   obtain ⟨sx, sy, h1, h2, rfl⟩ := mk2_some h
   refine ok_p2 h1 h2 fun a v w k out e1 e2 hk => ?_
   rcases cxK_some hk with ⟨n, m, rfl, rfl, e⟩ | ⟨p, q, q1, q2, q3, e⟩
   · exact ⟨.complex .f64 n m, e, fastCall_flat (by decide) (by decide) (args2 e1 e2) rfl⟩
   ·
    refine ⟨cxV p q, e, fun A => ?_⟩
    have e3 : evPN P (evalO a) ⟨dst, .call ⟨.builtin .complex, #[x, y], ts⟩, type, pos, after, guard⟩ = evNaN P (evalO a) ⟨dst, .call ⟨.builtin .complex, #[x, y], ts⟩, type, pos, after, guard⟩ := by
     rcases q3 with rfl | rfl
     · exact evPN_call (by decide) (x := x) (by simp) e1 rfl
     · exact evPN_call (by decide) (x := y) (by simp) e2 rfl
    simp only [evOp, e3, evNaN, e1, e2, q1, q2]
    rfl
  · cases h
 ·
  rename_i n1 n2 n3 n4 n5 n6
  refine gen_ok h fun a A => ?_
  cases b <;> first | rfl | (exfalso; first | exact n1 rfl | exact n2 rfl)
theorem trPan_ok {ex : Xn} {x : Operand} {c : XO} (h : trPan x P ex res ⟨dst, .panic x, type, pos, after, guard⟩ = some c) : OpOk2 P Ks Kp c ⟨dst, .panic x, type, pos, after, guard⟩ res := by
 obtain ⟨sx, h1, rfl⟩ := mk1_some h
 intro C H T M L k out a hK hM hfit hk
 have ef := hfit x sx h1
 have hk' : panK (sx T L) (fun v => frK C H T panF [v] M k) = some out := hk
 unfold panK at hk'
 split at hk'
 ·
  rename_i t u e
  cases hf : flat1 u with
  | false => rw [hf] at hk'; cases hk'
  | true =>
   refine Or.inr ⟨.iface t u, M, hM, fun H k => ?_, ?_⟩
   ·
    show panK (sx T L) (fun v => frK C H T panF [v] M k) = _
    rw [e]
    show cond (flat1 u) (frK C H T panF [.iface t u] M k) none = _
    rw [hf]
    exact frK_pan (C := C) (k := k)
   · simp only [evPan, ef, e, hf, if_true]
 · cases hk'
theorem trOp_ok {ex : Xn} (hex : XnOk P ex) (hB : KBody P Ks) (hB2 : KBody P Kp) {o : Oper} {c : XO} (h : trOp P ex res o = some c) (hm : mvO o.op = none) : OpOk2 P Ks Kp c o res := by
 obtain ⟨dst, op, type, pos, after, guard⟩ := o
 unfold trOp trD at h
 cases op
 case binOp op t x y yt => exact (trBin_ok h).two
 case pick x y z => exact (trPick_ok h).two
 case unOp op t x => exact (trUn_ok h).two
 case convert s d x => exact (trConv_ok h).two
 case load t x => exact (trLoad_ok h).two
 case store t x y => exact (trStore_ok h).two
 case alloc el => exact (trAlloc_ok h).two
 case box el x => exact (trBox_ok h).two
 case makeSlice t l c => exact (genN_ok h fun a A => rfl).two
 case buildSlice t l c => exact (genN_ok h fun a A => rfl).two
 case extract x i => exact (trExt_ok h).two
 case fieldAddr s x f => exact (trFld_ok h).two
 case indexAddr t x ix => exact (trIdx_ok h).two
 case move x => cases hm
 case assign x => cases hm
 case call c =>
  obtain ⟨callee, args, ts⟩ := c
  cases callee with
  | value f =>
   cases f with
   | func f => exact trCallF_ok hex h
   | tmp t => exact trCallV_ok (ex := ex) hB hB2 h
   | const v => exact trCallV_ok (ex := ex) hB hB2 h
   | global g => exact trCallV_ok (ex := ex) hB hB2 h
  | builtin b => exact (trBu_ok h).two
  | invoke r m => exact trInv_ok (ex := ex) hB hB2 h
 case panic x => exact trPan_ok h
 all_goals exact (gen_ok h fun a A => rfl).two
end
end Go.Proofs.YtfgfofedacehiaaGreat

/-
 OWN TEXT: an evaluator made for the kernel: rows of operations, one behind the other.
-/
namespace Go.Proofs.YtfgfofedacehiaaGreat
open Go.RowKit
set_option linter.unusedVariables false
set_option linter.unusedSimpArgs false
/-- calls that panic -/
def KpOk (P : Program) (K : Caller) : Prop := ∀ (w0 : World) (r : Rho) (A : Mem) (w : World) (f : FuncId) (args args' : List Value) (v : Value) (A' : Mem), K f args A = some (v, A') → Rel P w0 r A w → LR (VRel r) args args' →
 Calls P f ⟨args'⟩ w fun x w' => ∃ r', r.le r' ∧ x = .panicked [{ v := v, recovered := false }] ∧ Rel P w0 r' A' w' ∧ Keep r A A'
/-- what lies there -/
def Sa.val (n : Nat) (T : Tm) (L : Rg) : Sa → Value
 | .t p => gT p T
 | .s m => L (n - (m + 1))
 | .c v => v
theorem slotF_ok {t : Nat} : ∀ {kp : List Nat} {n i : Nat}, slotF t kp n = some i → n ≤ i ∧ kp[i - n]? = some t
 | [], n, i, h => by cases h
 | x :: l, n, i, h => by
  simp only [slotF] at h
  rw [beq_iff] at h
  by_cases c : x = t
  ·
   rw [decide_eq_true c, cond_true] at h
   cases h
   subst c
   exact ⟨Nat.le_refl _, by simp⟩
  ·
   rw [decide_eq_false c, cond_false] at h
   obtain ⟨h1, h2⟩ := slotF_ok h
   have h1' : n + 1 ≤ i := h1
   refine ⟨by omega, ?_⟩
   rw [show i - n = (i - (n + 1)) + 1 by omega, List.getElem?_cons_succ]
   exact h2
/-- temporaries are where they are told -/
structure EnvRel (kp : List Nat) (env : Env) (n : Nat) (a : Act) (T : Tm) (L : Rg) : Prop where
 own : ∀ (t : Nat) (s : Sa), look env t = some s → a.tmps[t]? = some (s.val n T L) ∧ (∀ m, s = .s m → m < n) ∧ ∀ p, s = .t p → p < 64
 kept : ∀ (t i : Nat), look env t = none → slotF t kp 0 = some i → i < 64 → a.tmps[t]? = some (gT i T)
theorem rel_val {γ : Type} {n : Nat} {s : Sa} {k : Sc → Option γ} {r : γ} (h : s.rel n k = some r) : ∃ sc : Sc, k sc = some r ∧ (∀ T L, sc T L = s.val n T L) ∧ ∀ p, s = .t p → p < 64 := by
 unfold Sa.rel at h
 cases s with
 | t p =>
  obtain ⟨h1, g, h2, h3⟩ := mkS_some (k := k) h
  exact ⟨g, h3, h2, fun q e => by cases e; exact h1⟩
 | s m =>
  have h' : frcN (Nat.sub n (Nat.succ m)) (fun m => k fun _ L => L m) = some r := h
  rw [frcN_eq] at h'
  exact ⟨_, h', fun T L => rfl, fun p e => by cases e⟩
 | c v => exact ⟨fun _ _ => v, h, fun T L => rfl, fun p e => by cases e⟩
theorem EnvRel.res {kp : List Nat} {env : Env} {n : Nat} {a : Act} {T : Tm} {L : Rg} (h : EnvRel kp env n a T L) {x : Operand} {s : Sa} (hx : resA kp env x = some s) (hp : ∀ p, s = .t p → p < 64) : evalO a x = some (s.val n T L) := by
 cases x with
 | tmp t =>
  simp only [resA] at hx
  split at hx
  ·
   rename_i s' q
   cases hx
   exact (h.own t s q).1
  ·
   rename_i q
   split at hx
   ·
    rename_i i q2
    cases hx
    exact h.kept t i q q2 (hp i rfl)
   · cases hx
 | const v =>
  simp only [resA] at hx
  split at hx
  · rename_i c; cases hx; simp only [evalO, c, if_true]; rfl
  · cases hx
 | func f => cases hx; rfl
 | global g =>
  simp only [resA, Option.map_eq_some_iff] at hx
  obtain ⟨i, h1, rfl⟩ := hx
  simp only [evalO, h1, Option.map_some]
  rfl
theorem EnvRel.fits {kp : List Nat} {env : Env} {n : Nat} {a : Act} {T : Tm} {L : Rg} (h : EnvRel kp env n a T L) : Fits (relO kp env n) a T L := by
 intro x sc hx
 unfold relO at hx
 split at hx
 ·
  rename_i s q
  obtain ⟨sc', h1, h2, h3⟩ := rel_val hx
  cases h1
  rw [h.res q h3, h2]
 · cases hx
theorem EnvRel.own_res {kp : List Nat} (hkp : kp.length ≤ 64) {env : Env} {n : Nat} {a : Act} {T : Tm} {L : Rg} (h : EnvRel kp env n a T L) {x : Operand} {s : Sa} (hx : resA kp env x = some s) : evalO a x = some (s.val n T L) ∧ (∀ m, s = .s m → m < n) ∧ ∀ p, s = .t p → p < 64 := by
 have key : (∀ m, s = .s m → m < n) ∧ ∀ p, s = .t p → p < 64 := by
  cases x with
  | tmp t =>
   simp only [resA] at hx
   split at hx
   ·
    rename_i s' q
    cases hx
    exact (h.own t s q).2
   ·
    split at hx
    ·
     rename_i i q2
     cases hx
     have h1 := (slotF_ok q2).2
     have h2 := (List.getElem?_eq_some_iff.1 h1).1
     exact ⟨fun m q => (by cases q), fun p q => (by cases q; omega)⟩
    · cases hx
  | const v => simp only [resA] at hx; split at hx <;> cases hx; exact ⟨fun m q => (by cases q), fun p q => (by cases q)⟩
  | func f => cases hx; exact ⟨fun m q => (by cases q), fun p q => (by cases q)⟩
  | global g => simp only [resA, Option.map_eq_some_iff] at hx; obtain ⟨i, _, rfl⟩ := hx; exact ⟨fun m q => (by cases q), fun p q => (by cases q)⟩
 exact ⟨h.res hx key.2, key⟩
theorem look_cons (d : Nat) (s : Sa) (env : Env) (t : Nat) : look ((d, s) :: env) t = if d = t then some s else look env t := by
 simp only [look]
 rw [beq_iff]
 by_cases c : d = t
 · rw [decide_eq_true c, if_pos c]; rfl
 · rw [decide_eq_false c, if_neg c]; rfl
theorem addE_some {nt : Nat} {d : Option Tmp} {s : Sa} {env env' : Env} (h : addE nt d s env = some env') : (d = none ∧ env' = env) ∨ ∃ d', d = some d' ∧ d' < nt ∧ env' = (d', s) :: env := by
 cases d with
 | none => cases h; exact Or.inl ⟨rfl, rfl⟩
 | some d =>
  simp only [addE] at h
  rw [blt_iff] at h
  by_cases c : d < nt
  · rw [decide_eq_true c] at h; cases h; exact Or.inr ⟨d, rfl, c, rfl⟩
  · rw [decide_eq_false c] at h; cases h
theorem put_get {a : Act} {d : Nat} (hd : d < a.tmps.size) (v : Value) (t : Nat) : (a.put (some d) v).tmps[t]? = if d = t then some v else a.tmps[t]? := by
 simp only [Act.put, Array.getElem?_setIfInBounds]
 by_cases c : d = t
 · subst c; simp [hd]
 · simp [c]
theorem put_size (a : Act) (d : Option Tmp) (v : Value) : (a.put d v).tmps.size = a.tmps.size := by
 cases d <;> simp [Act.put]
/-- a value told, without a push -/
theorem EnvRel.name {kp : List Nat} {env env' : Env} {n nt : Nat} {a : Act} {T : Tm} {L : Rg} (h : EnvRel kp env n a T L) (hn : a.tmps.size = nt) {d : Option Tmp} {s : Sa} (he : addE nt d s env = some env') {v : Value} (hv : s.val n T L = v) (hs : ∀ m, s = .s m → m < n) (hp : ∀ p, s = .t p → p < 64) : EnvRel kp env' n (a.put d v) T L := by
 rcases addE_some he with ⟨rfl, rfl⟩ | ⟨d', rfl, hd, rfl⟩
 · exact h
 ·
  subst hv
  refine ⟨fun t s' e => ?_, fun t i e e2 e3 => ?_⟩
  ·
   rw [look_cons] at e
   rw [put_get (a := a) (d := d') (by rw [hn]; exact hd)]
   split at e
   · rename_i c; cases e; rw [if_pos c]; exact ⟨rfl, hs, hp⟩
   · rename_i c; rw [if_neg c]; exact h.own t s' e
  ·
   rw [look_cons] at e
   rw [put_get (a := a) (d := d') (by rw [hn]; exact hd)]
   split at e
   · cases e
   · rename_i c; rw [if_neg c]; exact h.kept t i e e2 e3
/-- one value more -/
theorem EnvRel.grow {kp : List Nat} {env : Env} {n : Nat} {a : Act} {T : Tm} {L : Rg} (h : EnvRel kp env n a T L) (v : Value) : EnvRel kp env (n + 1) a T (pushR v L) := by
 refine ⟨fun t s e => ?_, h.kept⟩
 obtain ⟨h1, h2, h3⟩ := h.own t s e
 refine ⟨?_, fun m q => by have := h2 m q; omega, h3⟩
 rw [h1]
 cases s with
 | t p => rfl
 | c v => rfl
 | s m =>
  have := h2 m rfl
  show some (L (n - (m + 1))) = some (pushR v L (n + 1 - (m + 1)))
  rw [show n + 1 - (m + 1) = (n - (m + 1)) + 1 by omega]
  rfl
theorem EnvRel.push {kp : List Nat} {env env' : Env} {n nt : Nat} {a : Act} {T : Tm} {L : Rg} (h : EnvRel kp env n a T L) (hn : a.tmps.size = nt) {d : Option Tmp} (he : addE nt d (.s n) env = some env') (v : Value) : EnvRel kp env' (n + 1) (a.put d v) T (pushR v L) := by
 refine (h.grow v).name hn he ?_ (fun m q => by cases q; omega) (fun p q => by cases q)
 show pushR v L (n + 1 - (n + 1)) = v
 rw [Nat.sub_self]
 rfl
theorem mv_op {Ks : Caller} {P : Program} {o : Oper} {x : Operand} (h : mvO o.op = some x) {a : Act} {v : Value} (hv : evalO a x = some v) (A : Mem) : evOp Ks P A (evalO a) o = some (v, A) := by
 obtain ⟨dst, op, type, pos, after, guard⟩ := o
 cases op <;> simp only [mvO, reduceCtorEq, Option.some.injEq] at h
 case move y => subst h; simp only [evOp, evS, hv, Option.map_some]
 case assign y => subst h; simp only [evOp, evS, hv, Option.map_some]
/-- a row of operations that panics -/
def PanSeq (Ks Kp : Caller) (P : Program) (ops : Array Oper) : List Oper → St → Value → Mem → Prop
 | [], _, _, _ => False
 | o :: rest, s, pv, A => (Region.wanted o (yielded ops s.1.tmps) = true ∧ evPan Kp P s.2 (evalO s.1) o = some (pv, A)) ∨ ∃ s', stepA Ks P ops o s = some s' ∧ PanSeq Ks Kp P ops rest s' pv A
/-- a row of operations does what they do, or panics as they do -/
theorem trSeq_ok {P : Program} {ex : Xn} (hex : XnOk P ex) {Ks Kp : Caller} (hB : KBody P Ks) (hB2 : KBody P Kp) {kp : List Nat} (hkp : kp.length ≤ 64) {nt : Nat} {ops : Array Oper} : ∀ (l : List Oper) (env env' : Env) (n n' : Nat) (xr : XR), trSeq P ex kp nt ops l env n = some (xr, env', n') →
  ∀ (C : KP) (H : Tm → Value → Me → Out) (T : Tm) (M : Me) (L : Rg) (k : Me → Rg → Out) (out : Value × Me) (a : Act), CGood C Ks Kp → Can M → a.tmps.size = nt → EnvRel kp env n a T L → xr (frK C H) T M L k = some out →
  (∃ M' L' a', Can M' ∧ (∀ H k, xr (frK C H) T M L k = k M' L') ∧ evSeq Ks P ops l (a, toMem M) = some (a', toMem M') ∧ a'.tmps.size = nt ∧ a'.defers = a.defers ∧ EnvRel kp env' n' a' T L') ∨
   ∃ pv M', Can M' ∧ (∀ (H : Tm → Value → Me → Out) k, xr (frK C H) T M L k = H T pv M') ∧ PanSeq Ks Kp P ops l (a, toMem M) pv (toMem M')
 | [], env, env', n, n', xr, h, C, H, T, M, L, k, out, a, hK, hM, hn, hr, hk => by
  cases h
  exact Or.inl ⟨M, L, a, hM, fun _ k => rfl, rfl, hn, rfl, hr⟩
 | o :: rest, env, env', n, n', xr, h, C, H, T, M, L, k, out, a, hK, hM, hn, hr, hk => by
  simp only [trSeq] at h
  split at h
  ·
   rename_i hg
   have hw : Region.wanted o (yielded ops a.tmps) = true := by unfold Region.wanted; rw [hg]
   split at h
   ·
    rename_i x hmv
    split at h
    ·
     rename_i s hs
     split at h
     ·
      rename_i env1 he
      obtain ⟨e1, e2, e3⟩ := hr.own_res hkp hs
      have hr1 := hr.name hn he rfl e2 e3
      have hst : stepA Ks P ops o (a, toMem M) = some (a.put o.dst (s.val n T L), toMem M) := by
       simp only [stepA, hw, if_true, mv_op hmv e1, Option.map_some]
      rcases trSeq_ok hex hB hB2 hkp rest env1 env' n n' xr h C H T M L k out _ hK hM (by rw [put_size]; exact hn) hr1 hk with ⟨M', L', a', k1, k2, k3, k4, k5, k6⟩ | ⟨pv, M', k1, k2, k3⟩
      ·
       refine Or.inl ⟨M', L', a', k1, k2, ?_, k4, by rw [k5]; cases o.dst <;> rfl, k6⟩
       simp only [evSeq, hst]
       exact k3
      · exact Or.inr ⟨pv, M', k1, k2, Or.inr ⟨_, hst, k3⟩⟩
     · cases h
    · cases h
   ·
    rename_i hmv
    split at h
    ·
     rename_i x env1 hx he
     rw [frcN_eq] at h
     split at h
     ·
      rename_i xl r hq
      cases h
      have hk' : x (frK C H) T M L (fun v M => xl (frK C H) T M (pushR v L) k) = some out := hk
      rcases trOp_ok hex hB hB2 hx hmv C H T M L _ out a hK hM hr.fits hk' with ⟨v, M1, c1, c2, c3⟩ | ⟨pv, M1, c1, c2, c3⟩
      ·
       rw [c2] at hk'
       have hr1 := hr.push hn he v
       have hst : stepA Ks P ops o (a, toMem M) = some (a.put o.dst v, toMem M1) := by
        simp only [stepA, hw, if_true, c3, Option.map_some]
       rcases trSeq_ok hex hB hB2 hkp rest env1 env' (n + 1) n' xl hq C H T M1 (pushR v L) k out _ hK c1 (by rw [put_size]; exact hn) hr1 hk' with ⟨M', L', a', k1, k2, k3, k4, k5, k6⟩ | ⟨pv, M', k1, k2, k3⟩
       ·
        refine Or.inl ⟨M', L', a', k1, fun H k => ?_, ?_, k4, by rw [k5]; cases o.dst <;> rfl, k6⟩
        ·
         show x (frK C H) T M L (fun v M => xl (frK C H) T M (pushR v L) k) = _
         rw [c2, k2]
        ·
         simp only [evSeq, hst]
         exact k3
       ·
        refine Or.inr ⟨pv, M', k1, fun H k => ?_, Or.inr ⟨_, hst, k3⟩⟩
        show x (frK C H) T M L (fun v M => xl (frK C H) T M (pushR v L) k) = _
        rw [c2, k2]
      · exact Or.inr ⟨pv, M1, c1, fun H k => c2 _ _, Or.inl ⟨hw, c3⟩⟩
     · cases h
    · cases h
  ·
   rename_i j b hg
   split at h
   ·
    rename_i x t env1 hx ht he
    split at h
    ·
     rename_i y hy
     rw [frcN_eq] at h
     split at h
     ·
      rename_i xl r hq
      cases h
      have hk' : wnK b (y T L) (fun c => Bool.rec (motive := fun _ => Out) (xl (frK C H) T M (pushR undef L) k) (x (frK C H) T M L fun v M => xl (frK C H) T M (pushR v L) k) c) = some out := hk
      obtain ⟨c, ey, hk1⟩ := wnK_some hk'
      have ety := hr.fits _ _ hy
      have hw : Region.wanted o (yielded ops a.tmps) = c := wn_wanted hg ht ety ey
      have key : ∀ (H : Tm → Value → Me → Out) k, xThen (xGd y b x) xl (frK C H) T M L k = Bool.rec (motive := fun _ => Out) (xl (frK C H) T M (pushR undef L) k) (x (frK C H) T M L fun v M => xl (frK C H) T M (pushR v L) k) c := fun H k => by
       show wnK b (y T L) (fun c => Bool.rec (motive := fun _ => Out) (xl (frK C H) T M (pushR undef L) k) (x (frK C H) T M L fun v M => xl (frK C H) T M (pushR v L) k) c) = _
       rw [wnK_at ey]
      cases hcb : c with
      | true =>
       rw [hcb] at hk1 hw
       have opok : (∃ v M1, Can M1 ∧ (∀ H k, x (frK C H) T M L k = k v M1) ∧ evOp Ks P (toMem M) (evalO a) o = some (v, toMem M1)) ∨ ∃ pv M1, Can M1 ∧ (∀ (H : Tm → Value → Me → Out) k, x (frK C H) T M L k = H T pv M1) ∧ evPan Kp P (toMem M) (evalO a) o = some (pv, toMem M1) := by
        split at hx
        ·
         rename_i z hmv
         obtain ⟨sz, h1, rfl⟩ := mk1_some hx
         exact Or.inl ⟨_, M, hM, fun _ k => rfl, mv_op hmv (hr.fits _ _ h1) _⟩
        ·
         rename_i hmv
         exact trOp_ok hex hB hB2 hx hmv C H T M L _ out a hK hM hr.fits hk1
       have hk2 : x (frK C H) T M L (fun v M => xl (frK C H) T M (pushR v L) k) = some out := hk1
       rcases opok with ⟨v, M1, c1, c2, c3⟩ | ⟨pv, M1, c1, c2, c3⟩
       ·
        rw [c2] at hk2
        have hr1 := hr.push hn he v
        have hst : stepA Ks P ops o (a, toMem M) = some (a.put o.dst v, toMem M1) := by
         simp only [stepA, hw, if_true, c3, Option.map_some]
        rcases trSeq_ok hex hB hB2 hkp rest env1 env' (n + 1) n' xl hq C H T M1 (pushR v L) k out _ hK c1 (by rw [put_size]; exact hn) hr1 hk2 with ⟨M', L', a', k1, k2, k3, k4, k5, k6⟩ | ⟨pv, M', k1, k2, k3⟩
        ·
         refine Or.inl ⟨M', L', a', k1, fun H k => ?_, ?_, k4, by rw [k5]; cases o.dst <;> rfl, k6⟩
         ·
          rw [key, hcb]
          show x (frK C H) T M L (fun v M => xl (frK C H) T M (pushR v L) k) = _
          rw [c2, k2]
         ·
          simp only [evSeq, hst]
          exact k3
        ·
         refine Or.inr ⟨pv, M', k1, fun H k => ?_, Or.inr ⟨_, hst, k3⟩⟩
         rw [key, hcb]
         show x (frK C H) T M L (fun v M => xl (frK C H) T M (pushR v L) k) = _
         rw [c2, k2]
       ·
        refine Or.inr ⟨pv, M1, c1, fun H k => ?_, Or.inl ⟨hw, c3⟩⟩
        rw [key, hcb]
        exact c2 _ _
      | false =>
       rw [hcb] at hk1 hw
       have hr1 := hr.push hn he undef
       have hst : stepA Ks P ops o (a, toMem M) = some (a.put o.dst undef, toMem M) := by
        simp only [stepA, hw, Bool.false_eq_true, if_false]
       rcases trSeq_ok hex hB hB2 hkp rest env1 env' (n + 1) n' xl hq C H T M (pushR undef L) k out _ hK hM (by rw [put_size]; exact hn) hr1 hk1 with ⟨M', L', a', k1, k2, k3, k4, k5, k6⟩ | ⟨pv, M', k1, k2, k3⟩
       ·
        refine Or.inl ⟨M', L', a', k1, fun H k => ?_, ?_, k4, by rw [k5]; cases o.dst <;> rfl, k6⟩
        ·
         rw [key, hcb]
         exact k2 H k
        ·
         simp only [evSeq, hst]
         exact k3
       ·
        refine Or.inr ⟨pv, M', k1, fun H k => ?_, Or.inr ⟨_, hst, k3⟩⟩
        rw [key, hcb]
        exact k2 H k
     · cases h
    · cases h
   · cases h
/-- where an operation panics, it does so in the world -/
theorem evPan_sound {P : Program} {Kp : Caller} (hK : KpOk P Kp) (hP : Plain P) {w0 w : World} {r : Rho} {A A' : Mem} {e : Operand → Option Value} {a : Act} {o : Oper} {v : Value} (h : evPan Kp P A e o = some (v, A')) (k : OpsRel r e a.eval o.op) (hr : Rel P w0 r A w)
  {Kc : Act → World → Prop} {Q : Exit → Act → World → Prop} (next : ∀ r' w', r.le r' → Rel P w0 r' A' w' → Keep r A A' → Q (.panic [{ v := v, recovered := false }]) a w') : o.wp P a w Kc Q := by
 obtain ⟨dst, op, type, pos, after, guard⟩ := o
 cases op
 case panic x =>
  simp only [evPan] at h
  split at h
  ·
   rename_i t u q
   split at h
   ·
    rename_i hf
    cases h
    have hfi : flatI u = true := by cases u <;> first | exact hf | cases hf
    have hv : a.eval x = .iface t u := (k x (by simp [Op.operands]) _ q).same hfi
    have hrun : (execOp a.eval (Oper.mk dst (.panic x) type pos after guard)).run P w = .halt (.panic (.iface t u)) w := by
     simp [execOp, hv, Instr.panic, goPanic, Sem.run]
    unfold Oper.wp
    rw [hrun]
    exact next r w (Rho.le.refl r) hr (Keep.refl r A)
   · cases h
  · cases h
 case call c =>
  obtain ⟨callee, args, ts⟩ := c
  cases callee with
  | builtin b => cases h
  | invoke x m =>
   simp only [evPan] at h
   unfold evInvO at h
   cases qg : invO P e x m with
   | none => rw [qg] at h; cases h
   | some g =>
    rw [qg] at h
    cases q : argsO e args.toList with
    | none => rw [q] at h; cases h
    | some vs =>
     rw [q] at h
     simp only at h
     have hargs := argsO_rel (r := r) (e' := a.eval) args.toList vs q (fun x hx v hv => k x (by simp only [Op.operands, Call.operands]; simp at hx ⊢; exact Or.inr hx) v hv)
     obtain ⟨hu, hrun⟩ := invO_run (dst := dst) (type := type) (pos := pos) (after := after) (guard := guard) (args := args) (ts := ts) hP qg (fun v hv => k x (by simp [Op.operands, Call.operands]) v hv)
     have hc := hK w0 r A w g.1 (g.2 :: vs) _ v A' h hr (LR.cons (VRel.of_flat r hu) hargs)
     unfold Oper.wp
     rw [hrun w]
     have e2 : (⟨g.2 :: args.toList.map a.eval⟩ : Array Value) = #[g.2] ++ args.map a.eval := by apply Array.ext'; simp
     rw [e2] at hc
     exact hc.mono fun x w' hx => by
      obtain ⟨r', q1, rfl, q3, q4⟩ := hx
      exact next r' w' q1 q3 q4
  | value f =>
   simp only [evPan] at h
   unfold evCallO at h
   cases qg : funcO P e f with
   | none => rw [qg] at h; cases h
   | some g =>
    rw [qg] at h
    cases q : argsO e args.toList with
    | none => rw [q] at h; cases h
    | some vs =>
     rw [q] at h
     simp only at h
     have hargs := argsO_rel (r := r) (e' := a.eval) args.toList vs q (fun x hx v hv => k x (by simp only [Op.operands, Call.operands]; simp at hx ⊢; exact Or.inr hx) v hv)
     unfold funcO at qg
     split at qg
     ·
      rename_i g' lm lc qf
      split at qg
      ·
       rename_i fn qn
       split at qg
       ·
        rename_i hb
        cases qg
        obtain ⟨lm', lc', hx, hlm, hlc⟩ := (k f (by simp [Op.operands, Call.operands]) _ qf).inv_func
        have hc := hK w0 r A w g' (lm ++ (vs ++ lc)) _ v A' h hr (hlm.app (hargs.app hlc))
        have hnm := hP g' fn qn hb
        have hrun : (execOp a.eval (Oper.mk dst (.call ⟨.value f, args, ts⟩) type pos after guard)).run P w = .ok (.enter g' (⟨lm'⟩ ++ args.map a.eval ++ ⟨lc'⟩)) w := by
         have n1 : ¬ fn.name = "runtime.NumGoroutine" := by simpa using hnm
         have n2 : ¬ fn.body = none := by intro q; rw [q] at hb; cases hb
         simp [execOp, resolve, hx, Deferred.ofValue, invoke, callFunc, qn, n1, n2]
        unfold Oper.wp
        rw [hrun]
        have e2 : (⟨lm' ++ (args.toList.map a.eval ++ lc')⟩ : Array Value) = ⟨lm'⟩ ++ args.map a.eval ++ ⟨lc'⟩ := by apply Array.ext'; simp
        rw [e2] at hc
        exact hc.mono fun x w' hx => by
         obtain ⟨r', q1, rfl, q3, q4⟩ := hx
         exact next r' w' q1 q3 q4
       · cases qg
      · cases qg
     · cases qg
 all_goals cases h
/-- a row that panics does so in the world -/
theorem panSeq_sound {P : Program} {Ks Kp : Caller} (hK : KOk P Ks) (hK2 : KpOk P Kp) (hP : Plain P) {ops : Array Oper} {w0 : World} {Q : Exit → Act → World → Prop} {pv : Value} {A' : Mem} {rt : List Nat} : ∀ (l : List Oper) (s : St), PanSeq Ks Kp P ops l s pv A' → (∀ o ∈ l, ∀ t ∈ rt, o.dst ≠ some t) → ∀ (r : Rho) (a : Act) (w : World), ActRel r s.1 a → Rel P w0 r s.2 w →
  (∀ r' s1 a' w', r.le r' → ActRel r' s1 a' → s1.defers = s.1.defers → (∀ t ∈ rt, s1.tmps[t]? = s.1.tmps[t]?) → Rel P w0 r' A' w' → Keep r s.2 A' → Q (.panic [{ v := pv, recovered := false }]) a' w') → wpList P ops Q l a w
 | [], s, h, hs, r, a, w, ha, hr, hQ => h.elim
 | o :: rest, s, h, hs, r, a, w, ha, hr, hQ => by
  unfold wpList
  rcases h with ⟨hw, h⟩ | ⟨s', h1, h2⟩
  ·
   rw [ha.wanted ops o, if_pos hw]
   exact Or.inl (evPan_sound hK2 hP h (opsRel ha o.op) hr fun r' w' h1 h2 h3 => hQ r' s.1 a w' h1 (ha.mono h1.wk) rfl (fun _ _ => rfl) h2 h3)
  ·
   refine stepA_sound hK hP h1 ha hr fun r' a' w' j1 j2 j3 j4 => panSeq_sound hK hK2 hP rest s' h2 (fun o ho => hs o (by simp [ho])) r' a' w' j2 j3 fun r'' s1 a'' w'' k1 k2 k3 k4 k5 k6 => ?_
   obtain ⟨u, hu⟩ := stepA_put h1
   refine hQ r'' s1 a'' w'' (j1.trans k1) k2 ?_ (fun t ht => ?_) k5 (Keep.trans j1 j4 k6)
   · rw [k3, hu]; cases o.dst <;> rfl
   ·
    rw [k4 t ht, hu]
    have hne := hs o (by simp) t ht
    cases hd : o.dst with
    | none => rfl
    | some d =>
     have : d ≠ t := fun e => hne (by rw [hd, e])
     simp [Act.put, Array.getElem?_setIfInBounds_ne this]
theorem quiet_pan {P : Program} {Ks Kp : Caller} {ops : Array Oper} {pv : Value} {A' : Mem} : ∀ (l : List Oper) (s : St), (∀ o ∈ l, quietO o = true) → ¬ PanSeq Ks Kp P ops l s pv A'
 | [], s, _, h => h
 | o :: rest, s, hq, h => by
  rcases h with ⟨hw0, he⟩ | ⟨s', hs0, h⟩
  ·
   have hz := hq o (by simp)
   unfold quietO at hz
   unfold evPan at he
   obtain ⟨dst, op, type, pos, after, guard⟩ := o
   cases op
   case panic x => cases hz
   case call c =>
    obtain ⟨callee, args, ts⟩ := c
    cases callee with
    | value f => cases hz
    | invoke x n => cases hz
    | _ => cases he
   all_goals cases he
  · exact quiet_pan rest s' (fun o ho => hq o (by simp [ho])) h
end Go.Proofs.YtfgfofedacehiaaGreat

