/-
  OWN TEXT: calls of package box without addresses, known by a table whose rows are evaluated one by one.
-/
import Derived.Test.YtgaigfmboomnkaaGreatXxA
import Derived.Test.YtgaigfmboomnkaaGreatXxH
namespace Go.Proofs.YtgaigfmboomnkaaGreat
open Go.RowKit
set_option linter.unusedVariables false
set_option maxRecDepth 1000000
structure Rw where
  c : Nat
  k : List Nat
  v : List Nat
def boxV (a b c d : Nat) : Value := .agg ⟨[.complex .f64 a b, .complex .f64 c d]⟩
def spV (a b : Nat) : Value := .agg ⟨[.float .f64 a, .float .f64 b]⟩
def rwF (c : Nat) : FuncId := bif Nat.beq c 0 then 95 else bif Nat.beq c 1 then 96 else bif Nat.beq c 2 then 31 else bif Nat.beq c 3 then 57 else bif Nat.beq c 4 then 62 else bif Nat.beq c 5 then 78 else bif Nat.beq c 6 then 61 else 99
def rwA (k : List Nat) (c : Nat) : List Value := match k with
  | [a, b, c, d, e, f, g, h] => [boxV a b c d, boxV e f g h]
  | [a, b, u, d] => bif Nat.beq c 2 then [boxV a b u d] else bif Nat.beq c 7 then [spV a b, spV u d] else [.complex .f64 a b, .complex .f64 u d]
  | [a, b] => bif Nat.beq c 6 then [spV a b] else [.complex .f64 a b]
  | _ => [undef]
def rwV (v : List Nat) (c : Nat) : Value := match v with
  | [a, b, c, d] => .tuple ⟨[boxV a b c d, .int .i64 0]⟩
  | [a, b] => spV a b
  | [a] => bif Nat.beq c 2 then .int .i64 (.ofNat a) else .bool true
  | _ => undef
/-- a row that is as it is told -/
noncomputable def rowB (kn : Kn) (x : Rw) : Bool := (xcallN kn Tryz.prog exF kpF hsF 100000 40 (rwF x.c) (rwA x.k x.c) ⟨roTab.length, m0⟩ (fun v M => some (v, M)) (fun _ _ => none)).any fun y => eq3 (rwV x.v x.c) y.1
theorem row_calls {kn : Kn} (hkn : KnOk Tryz.prog kn) {x : Rw} (h : rowB kn x = true) (hf : (rwA x.k x.c).all flat = true) (hv : flat (rwV x.v x.c) = true) (w : World) (hw : RoOk w) (hx : RoX w) : Calls Tryz.prog (rwF x.c) ⟨rwA x.k x.c⟩ w fun e w' => e = .returned (rwV x.v x.c) ∧ Below w.heap.size w w' :=
  xevaluatedN hkn exF_ok plainX mixedX (by decide) kpF hsF 100000 40 hf hv h w hw hx
noncomputable def knOr (k1 k2 : Kn) : Kn := fun f args M => Option.rec (motive := fun _ => Option Value) (k2 f args M) (fun v => some v) (k1 f args M)
theorem knOr_ok {P : Program} {k1 k2 : Kn} (h1 : KnOk P k1) (h2 : KnOk P k2) : KnOk P (knOr k1 k2) := by
  intro f args M v hM hk
  have hk' : Option.rec (motive := fun _ => Option Value) (k2 f args M) (fun v => some v) (k1 f args M) = some v := hk
  cases q : k1 f args M with
  | none => rw [q] at hk'; exact h2 f args M v hM hk'
  | some u => rw [q] at hk'; cases hk'; exact h1 f args M v hM q
/-- what is known without a look at memory -/
theorem kn_of_known {P : Program} {kn : Known} (h : KnownOk P kn) (hb : ∀ f args v, kn f args = some v → ∃ fn, P.funcs[f]? = some fn ∧ fn.body.isSome = true) : KnOk P (fun f args _ => kn f args) := by
  intro f args M v hM hk
  obtain ⟨h1, h2, h3⟩ := h f args v hk
  refine ⟨hb f args v hk, fun w0 r w args' hr hl => ?_⟩
  have e : args' = args := hl.same (f := flat) (fun _ _ k hf => k.same hf) (List.all_eq_true.2 h2)
  subst e
  refine (h3 w).mono fun x w' hx => ?_
  obtain ⟨rfl, hx⟩ := hx
  exact ⟨r, v, Rho.le.refl r, rfl, VRel.of_flat r h1, hr.below_step hx, Keep.refl r _⟩
/-- the key of a call -/
def keyB (v : Value) (k : Nat → Nat → Nat → Nat → Option Value) : Option Value := match v with
  | .agg ⟨[.complex .f64 a b, .complex .f64 c d]⟩ => k a b c d
  | _ => none
def keyC (v : Value) (k : Nat → Nat → Option Value) : Option Value := match v with
  | .complex .f64 a b => k a b
  | _ => none
def keyS (v : Value) (k : Nat → Nat → Option Value) : Option Value := match v with
  | .agg ⟨[.float .f64 a, .float .f64 b]⟩ => k a b
  | _ => none
theorem keyS_some {v : Value} {k : Nat → Nat → Option Value} {u : Value} (h : keyS v k = some u) : ∃ a b, v = spV a b ∧ k a b = some u := by
  unfold keyS at h
  split at h
  · exact ⟨_, _, rfl, h⟩
  · cases h
theorem keyB_some {v : Value} {k : Nat → Nat → Nat → Nat → Option Value} {u : Value} (h : keyB v k = some u) : ∃ a b c d, v = boxV a b c d ∧ k a b c d = some u := by
  unfold keyB at h
  split at h
  · exact ⟨_, _, _, _, rfl, h⟩
  · cases h
theorem keyC_some {v : Value} {k : Nat → Nat → Option Value} {u : Value} (h : keyC v k = some u) : ∃ a b, v = .complex .f64 a b ∧ k a b = some u := by
  unfold keyC at h
  split at h
  · exact ⟨_, _, rfl, h⟩
  · cases h
noncomputable def findR (c : Nat) (k : List Nat) (l : List Rw) : Option Value := List.rec (motive := fun _ => Option Value) none (fun x _ ih => Bool.rec (motive := fun _ => Option Value) ih (some (rwV x.v x.c)) (Nat.beq x.c c && eqNL x.k k)) l
theorem eqNL_ok : ∀ {l m : List Nat}, eqNL l m = true → l = m
  | [], [], _ => rfl
  | [], _ :: _, h => by cases h
  | _ :: _, [], h => by cases h
  | x :: l, y :: m, h => by
    simp only [eqNL] at h
    rw [beq_iff] at h
    by_cases c : x = y
    · rw [decide_eq_true c, cond_true] at h
      rw [c, eqNL_ok h]
    · rw [decide_eq_false c] at h; cases h
theorem findR_some {c : Nat} {k : List Nat} {u : Value} : ∀ {l : List Rw}, findR c k l = some u → ∃ x ∈ l, x.c = c ∧ x.k = k ∧ u = rwV x.v x.c
  | [], h => by cases h
  | x :: l, h => by
    have h' : Bool.rec (motive := fun _ => Option Value) (findR c k l) (some (rwV x.v x.c)) (Nat.beq x.c c && eqNL x.k k) = some u := h
    cases q : (Nat.beq x.c c && eqNL x.k k) with
    | false =>
      rw [q] at h'
      obtain ⟨y, h1, h2⟩ := findR_some h'
      exact ⟨y, by simp [h1], h2⟩
    | true =>
      rw [q] at h'
      rw [Bool.and_eq_true] at q
      cases h'
      exact ⟨x, by simp, Nat.eq_of_beq_eq_true q.1, eqNL_ok q.2, rfl⟩
noncomputable def findB (T : List (List (List Rw))) (c : Nat) (k : List Nat) (s : Nat) : Option Value := frcN (Nat.mod s 251) fun h => match nth T (Nat.div h 11) with | some q => (match nth q (Nat.mod h 11) with | some b => findR c k b | none => none) | none => none
theorem findB_some {T : List (List (List Rw))} {c : Nat} {k : List Nat} {s : Nat} {u : Value} (h : findB T c k s = some u) : ∃ q ∈ T, ∃ b ∈ q, ∃ x ∈ b, x.c = c ∧ x.k = k ∧ u = rwV x.v x.c := by
  unfold findB at h
  rw [frcN_eq] at h
  split at h
  · rename_i q hq
    rw [nth_eq] at hq
    split at h
    · rename_i b hb
      rw [nth_eq] at hb
      exact ⟨q, List.mem_of_getElem? hq, b, List.mem_of_getElem? hb, findR_some h⟩
    · cases h
  · cases h
noncomputable def kn8 (T : List (List (List Rw))) (n : Nat) (args : List Value) : Option Value := match args with
  | [x, y] => keyB x fun a b c d => keyB y fun e f g h => frcN (Nat.add (Nat.add (Nat.add a b) (Nat.add c d)) (Nat.add (Nat.add e f) (Nat.add g h))) fun s => findB T n [a, b, c, d, e, f, g, h] s
  | _ => none
noncomputable def kn4 (T : List (List (List Rw))) (args : List Value) : Option Value := match args with
  | [x] => keyB x fun a b c d => frcN (Nat.add (Nat.add a b) (Nat.add c d)) fun s => findB T 2 [a, b, c, d] s
  | _ => none
noncomputable def kn22 (T : List (List (List Rw))) (args : List Value) : Option Value := match args with
  | [x, y] => keyC x fun a b => keyC y fun c d => frcN (Nat.add (Nat.add a b) (Nat.add c d)) fun s => findB T 3 [a, b, c, d] s
  | _ => none
noncomputable def knC (T : List (List (List Rw))) (n : Nat) (args : List Value) : Option Value := match args with
  | [x] => keyC x fun a b => frcN (Nat.add a b) fun s => findB T n [a, b] s
  | _ => none
noncomputable def knS (T : List (List (List Rw))) (args : List Value) : Option Value := match args with
  | [x] => keyS x fun a b => frcN (Nat.add a b) fun s => findB T 6 [a, b] s
  | _ => none
noncomputable def knSS (T : List (List (List Rw))) (args : List Value) : Option Value := match args with
  | [x, y] => keyS x fun a b => keyS y fun c d => frcN (Nat.add (Nat.add a b) (Nat.add c d)) fun s => findB T 7 [a, b, c, d] s
  | _ => none
noncomputable def knT (T : List (List (List Rw))) : Known := fun f args =>
  bif Nat.beq f 95 then kn8 T 0 args else bif Nat.beq f 96 then kn8 T 1 args else bif Nat.beq f 31 then kn4 T args
  else bif Nat.beq f 57 then kn22 T args else bif Nat.beq f 62 then knC T 4 args else bif Nat.beq f 78 then knC T 5 args else bif Nat.beq f 61 then knS T args else bif Nat.beq f 99 then knSS T args else none
theorem flat_box (a b c d : Nat) : flat (boxV a b c d) = true := rfl
theorem bif_eq {α : Type} {m n : Nat} {x y : α} : (bif Nat.beq m n then x else y) = if m = n then x else y := by
  rw [beq_iff]
  by_cases c : m = n
  · rw [decide_eq_true c, if_pos c]; rfl
  · rw [decide_eq_false c, if_neg c]; rfl
theorem knT_some {T : List (List (List Rw))} {f : FuncId} {args : List Value} {v : Value} (h : knT T f args = some v) : ∃ q ∈ T, ∃ b ∈ q, ∃ x ∈ b, f = rwF x.c ∧ args = rwA x.k x.c ∧ v = rwV x.v x.c ∧ (rwA x.k x.c).all flat = true := by
  have h8 : ∀ n, n < 2 → kn8 T n args = some v → ∃ q ∈ T, ∃ b ∈ q, ∃ x ∈ b, x.c = n ∧ args = rwA x.k x.c ∧ v = rwV x.v x.c ∧ (rwA x.k x.c).all flat = true := by
    intro n hn h
    unfold kn8 at h
    split at h
    · obtain ⟨a, b, c, d, rfl, g1⟩ := keyB_some h
      obtain ⟨e, f, g, i, rfl, g2⟩ := keyB_some g1
      rw [frcN_eq] at g2
      obtain ⟨qq, h0, bb, h1, x, h2, h3, h4, h5⟩ := findB_some g2
      refine ⟨qq, h0, bb, h1, x, h2, h3, ?_, h5, ?_⟩
      · rw [h4]; rfl
      · rw [h4]; rfl
    · cases h
  have h2 : ∀ n, n = 4 ∨ n = 5 → knC T n args = some v → ∃ q ∈ T, ∃ b ∈ q, ∃ x ∈ b, x.c = n ∧ args = rwA x.k x.c ∧ v = rwV x.v x.c ∧ (rwA x.k x.c).all flat = true := by
    intro n hn h
    unfold knC at h
    split at h
    · obtain ⟨a, b, rfl, g1⟩ := keyC_some h
      rw [frcN_eq] at g1
      obtain ⟨qq, h0, bb, h1, x, h2, h3, h4, h5⟩ := findB_some g1
      refine ⟨qq, h0, bb, h1, x, h2, h3, ?_, h5, ?_⟩
      · rw [h4, h3]; rcases hn with rfl | rfl <;> rfl
      · rw [h4, h3]; rcases hn with rfl | rfl <;> rfl
    · cases h
  unfold knT at h
  simp only [bif_eq] at h
  by_cases c0 : f = 95
  · rw [if_pos c0] at h
    obtain ⟨q, h0, b, h1, x, h3, h4, h5⟩ := h8 0 (by decide) h
    exact ⟨q, h0, b, h1, x, h3, by rw [h4, c0]; rfl, h5⟩
  rw [if_neg c0] at h
  by_cases c1 : f = 96
  · rw [if_pos c1] at h
    obtain ⟨q, h0, b, h1, x, h3, h4, h5⟩ := h8 1 (by decide) h
    exact ⟨q, h0, b, h1, x, h3, by rw [h4, c1]; rfl, h5⟩
  rw [if_neg c1] at h
  by_cases c2 : f = 31
  · rw [if_pos c2] at h
    unfold kn4 at h
    split at h
    · obtain ⟨a, b, c, d, rfl, g1⟩ := keyB_some h
      rw [frcN_eq] at g1
      obtain ⟨qq, h0, bb, h1, x, h2, h3, h4, h5⟩ := findB_some g1
      refine ⟨qq, h0, bb, h1, x, h2, by rw [h3, c2]; rfl, ?_, h5, ?_⟩
      · rw [h4, h3]; rfl
      · rw [h4, h3]; rfl
    · cases h
  rw [if_neg c2] at h
  by_cases c3 : f = 57
  · rw [if_pos c3] at h
    unfold kn22 at h
    split at h
    · obtain ⟨a, b, rfl, g1⟩ := keyC_some h
      obtain ⟨c, d, rfl, g2⟩ := keyC_some g1
      rw [frcN_eq] at g2
      obtain ⟨qq, h0, bb, h1, x, h2, h3, h4, h5⟩ := findB_some g2
      refine ⟨qq, h0, bb, h1, x, h2, by rw [h3, c3]; rfl, ?_, h5, ?_⟩
      · rw [h4, h3]; rfl
      · rw [h4, h3]; rfl
    · cases h
  rw [if_neg c3] at h
  by_cases c4 : f = 62
  · rw [if_pos c4] at h
    obtain ⟨q, h0, b, h1, x, h3, h4, h5⟩ := h2 4 (Or.inl rfl) h
    exact ⟨q, h0, b, h1, x, h3, by rw [h4, c4]; rfl, h5⟩
  rw [if_neg c4] at h
  by_cases c5 : f = 78
  · rw [if_pos c5] at h
    obtain ⟨q, h0, b, h1, x, h3, h4, h5⟩ := h2 5 (Or.inr rfl) h
    exact ⟨q, h0, b, h1, x, h3, by rw [h4, c5]; rfl, h5⟩
  rw [if_neg c5] at h
  by_cases c6 : f = 61
  · rw [if_pos c6] at h
    unfold knS at h
    split at h
    · obtain ⟨a, b, rfl, g1⟩ := keyS_some h
      rw [frcN_eq] at g1
      obtain ⟨qq, h0, bb, h1, x, h2, h3, h4, h5⟩ := findB_some g1
      refine ⟨qq, h0, bb, h1, x, h2, by rw [h3, c6]; rfl, ?_, h5, ?_⟩
      · rw [h4, h3]; rfl
      · rw [h4, h3]; rfl
    · cases h
  rw [if_neg c6] at h
  by_cases c7 : f = 99
  · rw [if_pos c7] at h
    unfold knSS at h
    split at h
    · obtain ⟨a, b, rfl, g1⟩ := keyS_some h
      obtain ⟨c, d, rfl, g2⟩ := keyS_some g1
      rw [frcN_eq] at g2
      obtain ⟨qq, h0, bb, h1, x, h2, h3, h4, h5⟩ := findB_some g2
      refine ⟨qq, h0, bb, h1, x, h2, by rw [h3, c7]; rfl, ?_, h5, ?_⟩
      · rw [h4, h3]; rfl
      · rw [h4, h3]; rfl
    · cases h
  rw [if_neg c7] at h
  cases h
theorem flat_rwV (v : List Nat) (c : Nat) : flat (rwV v c) = true := by
  unfold rwV
  split
  · rfl
  · rfl
  · cases Nat.beq c 2 <;> rfl
  · rfl
theorem rwF_body (c : Nat) : ∃ fn, Tryz.prog.funcs[rwF c]? = some fn ∧ fn.body.isSome = true := by
  have key : ∀ f ∈ [95, 96, 31, 57, 62, 78, 61, 99], ((Tryz.prog.funcs[f]?).any fun fn => fn.body.isSome) = true := by decide +kernel
  have h : rwF c ∈ [95, 96, 31, 57, 62, 78, 61, 99] := by
    unfold rwF
    cases Nat.beq c 0 <;> cases Nat.beq c 1 <;> cases Nat.beq c 2 <;> cases Nat.beq c 3 <;> cases Nat.beq c 4 <;> cases Nat.beq c 5 <;> cases Nat.beq c 6 <;> simp
  have := key _ h
  cases q : Tryz.prog.funcs[rwF c]? with
  | none => rw [q] at this; cases this
  | some fn => rw [q] at this; exact ⟨fn, rfl, by simpa using this⟩
theorem knT_ok {kn : Kn} (hkn : KnOk Tryz.prog kn) {T : List (List (List Rw))} (hT : ∀ q ∈ T, allR q (fun b => allR b (rowB kn)) = true) (hro : roTab = []) : KnOk Tryz.prog (fun f args _ => knT T f args) := by
  refine kn_of_known (fun f args v h => ?_) fun f args v h => ?_
  · obtain ⟨q, h0, b, h1, x, h2, rfl, rfl, rfl, h6⟩ := knT_some h
    refine ⟨flat_rwV _ _, fun y hy => List.all_eq_true.1 h6 y hy, fun w => ?_⟩
    exact row_calls hkn (allR_iff (allR_iff (hT q h0) b h1) x h2) h6 (flat_rwV _ _) w (fun g l hg => by rw [hro] at hg; cases hg) (fun g l hg => by rw [hro] at hg; cases hg)
  · obtain ⟨q, h0, b, h1, x, h2, rfl, _⟩ := knT_some h
    exact rwF_body x.c
end Go.Proofs.YtgaigfmboomnkaaGreat
