/-
 OWN TEXT: package solve, of floats: the steps.
-/
import Derived.Test.YtjfkdmddfeeheaaJSvGToSvH
namespace Go.Proofs.Ytjfkdmddfeeheaa
open Go.ChangeShapes Go.WideShapes Go.ChangeAt Go.RowKit
set_option linter.unusedVariables false
attribute [local go_sem] frombits_call tobits_call run_neg

attribute [local go_sem] stof14
section
variable {P : Program} {ops : Array Oper} {Q : Exit → Act → World → Prop} {md : Region.Mode} {S : World → Prop} {k : Nat}
/-- behind number k any other condition will do -/
theorem wpAnyK_anew (S' : World → Prop) (k' : Nat) : ∀ {fuel : Nat} {listed : Array Bool} {a : Act} {w : World}, listed.getD k false = true → wpAnyK P md ops Q S' k' fuel listed a w → wpAnyK P md ops Q S k fuel listed a w
 | 0, _, _, _, _, h => h
 | fuel + 1, listed, a, w, hk, h => by
  refine ⟨h.1, fun i hi => wpOp_mono (fun a' w' h' => ⟨fun _ hf => ?_, wpAnyK_anew S' k' ?_ h'.2⟩) (h.2 i hi)⟩
  ·
   rcases Nat.lt_or_ge k listed.size with z | z
   · simp [z] at hk hf; rw [hk] at hf; cases hf
   · simp [Array.getElem?_eq_none z] at hk
  ·
   rcases Nat.lt_or_ge k listed.size with z | z
   ·
    simp [z] at hk
    by_cases e : i = k
    · subst e; simp [z]
    · simp [z, e, hk]
   · simp [Array.getElem?_eq_none z] at hk
theorem wpAnyK_first' {i : Nat} {oi : Oper} {v : Value} (hi : ops[i]? = some oi) (hsel : ∀ (j : Nat) (o : Oper) cs b, ops[j]? = some o → o.op ≠ .select cs b)
  (hQ : ∀ c a w, Q (.panic c) (a.put oi.dst v) w → Q (.panic c) a w) (hik : i ≠ k) :
  ∀ (fuel : Nat) (listed : Array Bool) (a : Act) (w : World),
   (∀ j oj, ops[j]? = some oj → j ≠ i → listed.getD j true = false → (∀ e ∈ oj.after, Region.binds md e = true → e.on ≠ i) → oi.apart ops oj = true) →
   i ∈ Region.ready md ops listed → YieldsIf P ops (fun _ => True) oi v a → (listed.getD k true = false → S w) →
   wpAnyK P md ops Q S k fuel (listed.setIfInBounds i true) (a.put oi.dst v) w → wpAnyK P md ops Q S k (fuel + 1) listed a w := by
 intro fuel
 induction fuel with
 | zero =>
  intro listed a w _ hr hy hS H
  refine ⟨fun h => (by rw [h] at hr; cases hr), fun j hj => ?_⟩
  by_cases hji : j = i
  · subst hji; exact hy.wpOp hi trivial ⟨fun _ => hS, H⟩
  ·
   have := ready_mono hj hji
   rw [H.1] at this
   cases this
 | succ fuel ih =>
  intro listed a w hfree hr hy hS H
  refine ⟨fun h => (by rw [h] at hr; cases hr), fun j hj => ?_⟩
  by_cases hji : j = i
  · subst hji; exact hy.wpOp hi trivial ⟨fun _ => hS, H⟩
  ·
   have h1 := H.2 j (ready_mono hj hji)
   obtain ⟨hjun, oj, hoj, hall⟩ := mem_ready.1 hj
   have hnot : ∀ e ∈ oj.after, Region.binds md e = true → e.on ≠ i := fun e he hb heq => by
    have h1 := hall e he hb
    have h0 := (mem_ready.1 hr).1
    rw [heq] at h1
    rcases Nat.lt_or_ge i listed.size with h' | h'
    · simp [h'] at h0 h1; rw [h0] at h1; cases h1
    · simp [Array.getElem?_eq_none h'] at h1
   have h2 := wpOp_putIf hoj (hfree j oj hoj hji hjun hnot) (fun cs b => hsel i oi cs b hi) (fun cs b => hsel j oj cs b hoj) hQ hy h1
   have hfree' : ∀ k ok, ops[k]? = some ok → k ≠ i → (listed.setIfInBounds j true).getD k true = false →
     (∀ e ∈ ok.after, Region.binds md e = true → e.on ≠ i) → oi.apart ops ok = true := fun k ok hk hki hun hno => by
    refine hfree k ok hk hki ?_ hno
    by_cases hjk : j = k
    · subst hjk; exact hjun
    · rw [getD_set_ne true hjk] at hun; exact hun
   refine wpOp_mono (fun a' w' h3 => ⟨fun hjk hun => h3.2.1 hjk (by rw [getD_set_ne true hik]; exact hun), ih (listed.setIfInBounds j true) a' w' hfree' (ready_mono hr (Ne.symm hji)) h3.1 (fun hun => ?_) ?_⟩) h2
   ·
    by_cases hjk : j = k
    ·
     subst hjk
     rcases Nat.lt_or_ge j listed.size with h' | h'
     · simp [h'] at hun
     · simp at hun
    ·
     rw [getD_set_ne true hjk] at hun
     exact h3.2.1 hjk (by rw [getD_set_ne true hik]; exact hun)
   ·
    rw [Array.setIfInBounds_comm _ _ hji]
    exact h3.2.2
/-- an operation that looks at no world may be taken first -/
theorem wpAnyK_pure (i d : Nat) {oi : Oper} {v : Value} {fuel : Nat} {listed : Array Bool} {a : Act} {w : World} (hi : ops[i]? = some oi)
  (hs : Region.noSelect ops = true) (hf : Region.free md ops listed i = true) (hr : (Region.ready md ops listed).contains i = true) (hik : i ≠ k)
  (hQ : ∀ c a w, Q (.panic c) (a.put oi.dst v) w → Q (.panic c) a w) (hd : oi.dst = some d) (hy : YieldsIf P ops (fun _ => True) oi v a) (hS : S w)
  (h : wpAnyK P md ops Q S k fuel (listed.setIfInBounds i true) (a.put (some d) v) w) : wpAnyK P md ops Q S k (fuel + 1) listed a w := by
 rw [← hd] at h
 exact wpAnyK_first' hi (Region.noSelect_spec hs) hQ hik fuel listed a w (Region.free_spec hi hf) (by simpa using hr) hy (fun _ => hS) h
end
namespace Sv
/-- the rows that were taken, as values -/
def tks (n : Nat) (A : M) (k : Nat) : List Value := (List.range k).map fun j => .int .i64 (tk n A j)
theorem tks_len (n : Nat) (A : M) (k : Nat) : (tks n A k).length = k := by simp [tks]
theorem tks_succ (n : Nat) (A : M) (k : Nat) : tks n A (k + 1) = tks n A k ++ [.int .i64 (tk n A k)] := by unfold tks; rw [List.range_succ, List.map_append]; rfl
theorem info_i : (Try.prog.info? 3).map (fun i => (i.zero, i.size, i.bytes)) = some (some (.int .i64 0), 1, 8) := by kernel_rfl
theorem und_i : Try.prog.underlying 29 = some (.slice 3) := by kernel_rfl
end Sv
set_option maxHeartbeats 8000000 in
theorem steps14 {w : World} {base R n m : Nat} {f : Nat → Nat} {A : Sv.M} (h : Sv.Mt w base R n m (n + 1) f A) (hn0 : 0 < n) (hn : n ≤ 128) (hm : n ≤ m) (hm2 : m ≤ n + 1) :
  Calls Try.prog 42 #[(.agg #[.func (.func 70) #[] #[], .func (.func 71) #[] #[], .func (.func 31) #[] #[], .func (.func 72) #[] #[], .func (.func 73) #[] #[]]), .slice (some ⟨R, 0, none⟩) n n] w fun e w' => ∃ (tv : Value) (f' : Nat → Nat), Below base w w' ∧
   ((e = .returned (.tuple #[tv, .bool false]) ∧ Sv.good n A n ∧ w'.ownsRow (w.heap.size + 1) 3 1 tv n (Sv.tks n A n) ∧ Sv.Mt w' base R n m (n + 1) f' (Sv.st n A n)) ∨
    ∃ K, K < n ∧ e = .returned (.tuple #[tv, .bool true]) ∧ Sv.good n A K ∧ Sv.bad (Sv.piv n A K) = true ∧ w'.ownsRow (w.heap.size + 1) 3 1 tv (K + 1) (Sv.tks n A (K + 1)) ∧ Sv.Mt w' base R n m (n + 1) f' (Sv.swap (Sv.st n A K) K (Sv.tk n A K))) := by
 obtain ⟨i0, hi0, hz⟩ := Option.map_eq_some_iff.1 Sv.info_i
 simp only [Prod.mk.injEq] at hz
 have hlt := h.lt
 have b0 := Sv.bw_new w (.cells #[.func (.func 70) #[] #[], .func (.func 71) #[] #[], .func (.func 31) #[] #[], .func (.func 72) #[] #[], .func (.func 73) #[] #[]] 73)
 have HX := Sv.hid (And.intro (Sv.Bx.made w) (And.intro (h.bw b0) (And.intro (Below.mono b0 (by omega : base ≤ w.heap.size)) (show w.heap.size < (w.alloc (.cells #[.func (.func 70) #[] #[], .func (.func 71) #[] #[], .func (.func 31) #[] #[], .func (.func 72) #[] #[], .func (.func 73) #[] #[]] 73)).heap.size by simp))))
 have HF : Hid (R < w.heap.size ∧ ∀ i, i < n → f i < w.heap.size) := ⟨hlt.2, fun i hi => (h.row i hi).lt.2⟩
 have HBR := Sv.hid hlt.1
 clear h b0 hlt
 go_enter Try.func42, Try.ntmps42
 go_wp2
 generalize w.alloc (.cells #[.func (.func 70) #[] #[], .func (.func 71) #[] #[], .func (.func 31) #[] #[], .func (.func 72) #[] #[], .func (.func 73) #[] #[]] 73) = W0 at *
 obtain ⟨C, eC⟩ : ∃ C, w.heap.size = C := ⟨_, rfl⟩
 have EC := Sv.hid eC
 rw [eC] at HX HF ⊢
 clear eC
 go_loopw [4, 13] (fun v i wr => ∃ (k : Nat) (f' : Nat → Nat), k ≤ n ∧ i = .int .i64 k ∧ Sv.good n A k ∧ wr.ownsRow (C + 1) 3 1 v k (Sv.tks n A k) ∧ Sv.Mt wr base R n m (n + 1) f' (Sv.st n A k) ∧ (∀ i, i < n → f' i < C) ∧ Sv.Bx wr C ∧ Below base w wr) (fun _ i _ => n - (intOf i).toNat)
 case atStart => exact ⟨0, f, Nat.zero_le _, rfl, fun j hj => absurd hj (by omega), World.ownsRow_nil _ _ _ _, HX.out.2.1, HF.out.2, HX.out.1, HX.out.2.2.1⟩
 case round =>
  clear HX
  obtain ⟨k, f', hk, rfl, hgd, hown, hMt, hfC, hbx, hbl⟩ := hrel
  by_cases hk1 : k < n
  ·
   have hk2 : (k : Int) < n := by omega
   have G := Sv.hid (greatest14 hMt hk1 (by omega) (by omega) (by omega))
   obtain ⟨i, hi⟩ : ∃ i, Sv.tk n A k = i := ⟨_, rfl⟩
   have hi1 : i < n := by rw [← hi]; exact Sv.tk_lt A hk1
   have hi2 : k ≤ i := by rw [← hi]; exact Sv.tk_ge n k A
   have HI := Sv.hid hi
   rw [show Sv.best (Sv.st n A k) k (n - k) = i from hi] at G
   obtain ⟨c0, c1, c2, c3, c4, c5⟩ := hbx
   have K0 := Sv.hid (And.intro hgd (And.intro hown (And.intro hMt (And.intro hfC (And.intro (show Sv.Bx wr C from ⟨c0, c1, c2, c3, c4, c5⟩) hbl)))))
   clear hgd hown hMt hfC hbl hi
   go_wp2_with fail
   refine G.out.mono ?_
   rintro e' w1 ⟨rfl, b1⟩
   clear G c0 c1 c2 c3 c4 c5
   go_wp2_with fail
   obtain ⟨hgd, hown, hMt, hfC, hbx, hbl⟩ := K0.out
   replace b1 := b1.drew
   replace hMt := hMt.bw b1
   have e1 := hMt.cell hk1
   have e2 := hMt.cell hi1
   have e3 := hMt.frozen k
   have e4 := hMt.frozen i
   obtain ⟨hMs, g1⟩ := hMt.swap hk1 hi1
   have hRl := hMt.lt
   have KS := Sv.hid (And.intro hgd (And.intro (hown.kept (Sv.gb_bw b1 none) (by cases (Value.ownBlock _) <;> simp)) (And.intro hMs (And.intro hfC (And.intro (hbx.bw b1) (And.intro (Below.trans hbl (Below.mono b1 (by have := hRl; have := hbl.size; have := EC.out; have := HF.out; omega))) g1))))))
   clear hgd hown hMt hfC hbx hbl K0 hMs g1 b1
   have S0 : w1.drew.cell? ⟨R, k, none⟩ = some (.slice (some ⟨f' k, 0, none⟩) m (n + 1)) ∧ w1.drew.cell? ⟨R, i, none⟩ = some (.slice (some ⟨f' i, 0, none⟩) m (n + 1)) ∧ w1.drew.frozen? ⟨R, k, none⟩ = false := ⟨e1, e2, e3⟩
   obtain ⟨u, hu⟩ : ∃ u, (w1.drew.setCell ⟨R, k, none⟩ (.slice (some ⟨f' i, 0, none⟩) m (n + 1))).cell? ⟨R, i, none⟩ = some u := by
    by_cases z : i = k
    · subst z; exact ⟨_, World.cell?_setCell_same _ _ _ e1⟩
    · exact ⟨_, (World.cell?_setCell_other _ _ _ _ (by intro q; cases q; exact z rfl)).trans e2⟩
   have hfz : (w1.drew.setCell ⟨R, k, none⟩ (.slice (some ⟨f' i, 0, none⟩) m (n + 1))).frozen? ⟨R, i, none⟩ = false := (World.frozen?_setCell _ _ _ _).trans e4
   have hi3 : (i : Int) < n := by omega
   clear e1 e2 e3 e4
   refine wp_region_K (fun w' => w'.cell? ⟨R, k, none⟩ = some (.slice (some ⟨f' k, 0, none⟩) m (n + 1)) ∧ w'.cell? ⟨R, i, none⟩ = some (.slice (some ⟨f' i, 0, none⟩) m (n + 1)) ∧ w'.frozen? ⟨R, k, none⟩ = false) 13 16 #[false, false, false, false, false, false, false, false, false, false, false, false, false, false, false, false] (by kernel_rfl) (by kernel_rfl) (by kernel_rfl) ?_
   generalize w1.drew = W1 at *
   refine wpAnyK_take 0 20 (v := ?v0) rfl (by kernel_rfl) (by kernel_rfl) (by kernel_rfl) (by kernel_rfl) (by kernel_rfl) (fun _ _ _ h => h) rfl (Or.inl ⟨by rfl, ?h0⟩) (by assumption) ?r0
   case h0 => (intro w hSw; go_simp; with_reducible rfl)
   simp only [Act.put, List.setIfInBounds_toArray, List.set_cons_zero, List.set_cons_succ]
   refine wpAnyK_take 1 21 (v := ?v1) rfl (by kernel_rfl) (by kernel_rfl) (by kernel_rfl) (by kernel_rfl) (by kernel_rfl) (fun _ _ _ h => h) rfl (Or.inl ⟨by rfl, ?h1⟩) (by assumption) ?r1
   case h1 => (intro w hSw; go_simp; with_reducible rfl)
   simp only [Act.put, List.setIfInBounds_toArray, List.set_cons_zero, List.set_cons_succ]
   refine wpAnyK_take 4 24 (v := ?v4) rfl (by kernel_rfl) (by kernel_rfl) (by kernel_rfl) (by kernel_rfl) (by kernel_rfl) (fun _ _ _ h => h) rfl (Or.inl ⟨by rfl, ?h4⟩) (by assumption) ?r4
   case h4 => (intro w hSw; go_simp; with_reducible rfl)
   simp only [Act.put, List.setIfInBounds_toArray, List.set_cons_zero, List.set_cons_succ]
   refine wpAnyK_take 5 25 (v := ?v5) rfl (by kernel_rfl) (by kernel_rfl) (by kernel_rfl) (by kernel_rfl) (by kernel_rfl) (fun _ _ _ h => h) rfl (Or.inl ⟨by rfl, ?h5⟩) (by assumption) ?r5
   case h5 => (intro w hSw; go_simp; with_reducible rfl)
   simp only [Act.put, List.setIfInBounds_toArray, List.set_cons_zero, List.set_cons_succ]
   refine wpAnyK_take 6 26 (v := ?v6) rfl (by kernel_rfl) (by kernel_rfl) (by kernel_rfl) (by kernel_rfl) (by kernel_rfl) (fun _ _ _ h => h) rfl (Or.inl ⟨by rfl, ?h6⟩) (by assumption) ?r6
   case h6 => (intro w hSw; go_simp; with_reducible rfl)
   simp only [Act.put, List.setIfInBounds_toArray, List.set_cons_zero, List.set_cons_succ]
   refine wpAnyK_take 7 27 (v := ?v7) rfl (by kernel_rfl) (by kernel_rfl) (by kernel_rfl) (by kernel_rfl) (by kernel_rfl) (fun _ _ _ h => h) rfl (Or.inl ⟨by rfl, ?h7⟩) (by assumption) ?r7
   case h7 => (intro w hSw; go_simp; with_reducible rfl)
   simp only [Act.put, List.setIfInBounds_toArray, List.set_cons_zero, List.set_cons_succ]
   refine wpAnyK_take 8 28 (v := ?v8) rfl (by kernel_rfl) (by kernel_rfl) (by kernel_rfl) (by kernel_rfl) (by kernel_rfl) (fun _ _ _ h => h) rfl (Or.inl ⟨by rfl, ?h8⟩) (by assumption) ?r8
   case h8 => (intro w hSw; go_simp; with_reducible rfl)
   simp only [Act.put, List.setIfInBounds_toArray, List.set_cons_zero, List.set_cons_succ]
   refine wpAnyK_take 9 29 (v := ?v9) rfl (by kernel_rfl) (by kernel_rfl) (by kernel_rfl) (by kernel_rfl) (by kernel_rfl) (fun _ _ _ h => h) rfl (Or.inl ⟨by rfl, ?h9⟩) (by assumption) ?r9
   case h9 => (intro w hSw; go_simp; with_reducible rfl)
   simp only [Act.put, List.setIfInBounds_toArray, List.set_cons_zero, List.set_cons_succ]
   refine wpAnyK_take 10 30 (v := ?v10) rfl (by kernel_rfl) (by kernel_rfl) (by kernel_rfl) (by kernel_rfl) (by kernel_rfl) (fun _ _ _ h => h) rfl (Or.inl ⟨by rfl, ?h10⟩) (by assumption) ?r10
   case h10 => (intro w hSw; go_simp; with_reducible rfl)
   simp only [Act.put, List.setIfInBounds_toArray, List.set_cons_zero, List.set_cons_succ]
   refine wpAnyK_take 11 31 (v := ?v11) rfl (by kernel_rfl) (by kernel_rfl) (by kernel_rfl) (by kernel_rfl) (by kernel_rfl) (fun _ _ _ h => h) rfl (Or.inl ⟨by rfl, ?h11⟩) (by assumption) ?r11
   case h11 => (intro w hSw; go_simp; with_reducible rfl)
   simp only [Act.put, List.setIfInBounds_toArray, List.set_cons_zero, List.set_cons_succ]
   refine wpAnyK_take 12 32 (v := ?v12) rfl (by kernel_rfl) (by kernel_rfl) (by kernel_rfl) (by kernel_rfl) (by kernel_rfl) (fun _ _ _ h => h) rfl (Or.inl ⟨by rfl, ?h12⟩) (by assumption) ?r12
   case h12 => (intro w hSw; go_simp; with_reducible rfl)
   simp only [Act.put, List.setIfInBounds_toArray, List.set_cons_zero, List.set_cons_succ]
   refine wpAnyK_pure 2 22 (v := ?v2) rfl (by kernel_rfl) (by kernel_rfl) (by kernel_rfl) (by decide) (fun _ _ _ h => h) rfl (Or.inl ⟨by rfl, ?h2⟩) (by assumption) ?r2
   case h2 => (intro w hSw; go_simp; with_reducible rfl)
   simp only [Act.put, List.setIfInBounds_toArray, List.set_cons_zero, List.set_cons_succ]
   refine wpAnyK_pure 3 23 (v := ?v3) rfl (by kernel_rfl) (by kernel_rfl) (by kernel_rfl) (by decide) (fun _ _ _ h => h) rfl (Or.inl ⟨by rfl, ?h3⟩) (by assumption) ?r3
   case h3 => (intro w hSw; go_simp; with_reducible rfl)
   simp only [Act.put, List.setIfInBounds_toArray, List.set_cons_zero, List.set_cons_succ]
   refine wpAnyK_one 13 (by kernel_rfl) rfl (fun K hK => ?_)
   go_simp
   refine hK.out _ _ (fun h => absurd rfl h) ?_
   clear hK K
   simp only [List.setIfInBounds_toArray, List.set_cons_zero, List.set_cons_succ]
   refine wpAnyK_anew (fun _ => True) 15 (by kernel_rfl) ?_
   have S1 : True := trivial
   refine wpAnyK_take 14 33 (v := ?v14) rfl (by kernel_rfl) (by kernel_rfl) (by kernel_rfl) (by kernel_rfl) (by kernel_rfl) (fun _ _ _ h => h) rfl (Or.inl ⟨by rfl, ?h14⟩) (by assumption) ?r14
   case h14 => (intro w hSw; go_simp; with_reducible rfl)
   simp only [Act.put, List.setIfInBounds_toArray, List.set_cons_zero, List.set_cons_succ]
   refine wpAnyK_one 15 (by kernel_rfl) rfl (fun K hK => ?_)
   go_simp
   refine hK.out _ _ (fun h => absurd rfl h) ?_
   clear hK K
   simp only [List.setIfInBounds_toArray, List.set_cons_zero, List.set_cons_succ]
   refine wpAnyK_done (by kernel_rfl) ?_ _
   clear S0 hu hfz S1
   generalize (W1.setCell ⟨R, k, none⟩ (.slice (some ⟨f' i, 0, none⟩) m (n + 1))).setCell ⟨R, i, none⟩ (.slice (some ⟨f' k, 0, none⟩) m (n + 1)) = W2 at *
   obtain ⟨hgd, hown, hMt, hfC, hbx, hbl, g1⟩ := KS.out
   clear KS
   have hRC := HF.out.1
   have hlo : ∀ x, x < C + 1 → some x ≠ u4.ownBlock := fun x hx e => by have := hown.lt x e.symm; omega
   replace hown := hown.kept g1 (Or.inr (fun e => hlo R (by omega) e.symm))
   replace hbx := hbx.gb g1 (by simp only [ne_eq, Option.some.injEq]; omega)
   replace hbl := Sv.gb_below hbl g1 (by have := hbl.size; have := HBR.out; have := EC.out; omega) HBR.out
   have hWs : C + 1 ≤ W2.heap.size := hbx.1
   replace hMt := hMt.bw (Sv.bw_new W2 (.cells #[.int .i64 i] 3))
   replace hbx := hbx.bw (Sv.bw_new W2 (.cells #[.int .i64 i] 3))
   replace hbl := Below.alloc hbl (by have := HBR.out; omega) (.cells #[.int .i64 i] 3)
   have KA := Sv.hid (And.intro hgd (And.intro (hown.alloc (.cells #[.int .i64 i] 3)) (And.intro hMt (And.intro hfC (And.intro hbx (And.intro hbl (And.intro hlo hWs)))))))
   have HSZ : Hid (C + 1 ≤ (W2.alloc (.cells #[.int .i64 i] 3)).heap.size) := by
    show C + 1 ≤ (W2.alloc (.cells #[.int .i64 i] 3)).heap.size
    have : (W2.alloc (.cells #[.int .i64 i] 3)).heap.size = W2.heap.size + 1 := by simp
    omega
   clear hgd hown hMt hfC hbx hbl g1 hlo hWs hRC hRl
   go_wp2_with (first
    | (at_builtin; refine wpList_append_lies _ (by rfl) _ _ 29 (by rfl) (C + 1) 3 i0 (.int .i64 0) 1 8 Sv.und_i hi0 hz.1 hz.2.1 hz.2.2 rfl (by decide) _ k (Sv.tks n A k) (by rfl) KA.out.2.1 ⟨W2.heap.size, 0, none⟩ 1 1 [.int .i64 i] (by rfl) rfl (cell_one_new _ _ _) (fun u hu => by simp only [List.mem_singleton] at hu; subst hu; rfl) (by decide) (by unfold maxLen; omega) (by omega) HSZ.out (W2.heap.size + 1) (by simp) ?_)
    | go_in)
   intro g cap w3 hown hgrow hat hlt
   obtain ⟨hgd, _, hMt, hfC, hbx, hbl, hlo, hWs⟩ := KA.out
   have hRC := HF.out.1
   obtain ⟨f2, hf2⟩ : ∃ f2 : Nat → Nat, f2 = fun t => f' (Sv.sw k i t) := ⟨_, rfl⟩
   have hf2C : ∀ t, t < n → f2 t < C := fun t ht => by rw [hf2]; exact hfC _ (Sv.sw_lt hk1 hi1 ht)
   rw [← hf2] at hMt
   replace hMt := hMt.gb hgrow (hlo R (by omega)) (fun t ht => hlo _ (by have := hf2C t ht; omega))
   replace hbx := hbx.gb hgrow (hlo C (by omega))
   replace hbl := Below.grown hbl hgrow (by have := HBR.out; have := HSZ.out; omega) (fun x e => by have := HBR.out; have : ¬ x < C + 1 := fun z => hlo x z e.symm; omega)
   have hI := HI.out
   rw [← hI, ← Sv.tks_succ] at hown
   rw [← hI] at hMt
   obtain ⟨x, e2, hx, q⟩ := (hMt.row k hk1).cell (j := k) (by omega)
   rw [Sv.swap_piv] at q
   have e1 := hMt.cell hk1
   obtain ⟨c0, c1, c2, c3, c4, c5⟩ := hbx
   have hkm : (k : Int) < m := by omega
   have KB := Sv.hid (And.intro hgd (And.intro hown (And.intro hMt (And.intro hf2C (And.intro (show Sv.Bx w3 C from ⟨c0, c1, c2, c3, c4, c5⟩) hbl)))))
   have HQ := Sv.hid q
   clear hgd hown hMt hfC hbl hlo hWs KA hgrow hat hlt hRC hf2 hf2C HSZ q c0 c1 c2 c3 hI
   generalize f2 k = b2 at e1 e2
   cases zn : Sv.nought x
   ·
    cases zf : Fl.finB x
    ·
     have HBD : Hid (Sv.bad (Sv.piv n A k) = true) := by show _ = _; rw [← HQ.out, Sv.bad_c]; unfold Sv.bad; rw [zn, zf]; rfl
     go_wp2_with fail
     refine (nought14 x _).mono ?_
     rintro e' w4 ⟨rfl, hw4⟩
     subst hw4
     rw [zn]
     go_wp2_with fail
     refine (isfin14 x _ hx).mono ?_
     rintro e' w4 ⟨rfl, hw4⟩
     subst hw4
     rw [zf]
     go_wp2
     go_ret2
     obtain ⟨hgd, hown, hMt, hf2C, hbx, hbl⟩ := KB.out
     exact ⟨_, f2, hbl, Or.inr ⟨k, hk1, rfl, hgd, HBD.out, by rw [EC.out]; exact hown, hMt⟩⟩
    ·
     have HBD : Hid (Sv.bad (Sv.piv n A k) = false) := by show _ = _; rw [← HQ.out, Sv.bad_c]; unfold Sv.bad; rw [zn, zf]; rfl
     by_cases hlast : k + 1 < n
     ·
      obtain ⟨k1, hk3⟩ : ∃ k1, k1 = k + 1 := ⟨_, rfl⟩
      have hs : (k : Int) + 1 = (k1 : Int) := by omega
      have hk4 : (k1 : Int) < n := by omega
      have HK1 := Sv.hid hk3
      clear hk3
      go_wp2_with fail
      refine (nought14 x _).mono ?_
      rintro e' w4 ⟨rfl, hw4⟩
      subst hw4
      rw [zn]
      go_wp2_with fail
      refine (isfin14 x _ hx).mono ?_
      rintro e' w4 ⟨rfl, hw4⟩
      subst hw4
      rw [zf]
      clear e1 e2 c4 c5
      go_wp2
      generalize hA1 : Sv.swap (Sv.st n A k) k (Sv.tk n A k) = A1 at KB
      have HA1 := Sv.hid hA1
      clear hA1
      go_loopw [62] (fun v wr => ∃ t : Nat, t ≤ n - k1 ∧ v = .int .i64 t ∧ Sv.Mt wr base R n m (n + 1) f2 (Sv.elimT A1 k t) ∧ wr.ownsRow (C + 1) 3 1 (.slice (some ⟨g, 0, none⟩) (k + 1) cap) (k + 1) (Sv.tks n A (k + 1)) ∧ Sv.Bx wr C ∧ Below base w wr) (fun v _ => n - k1 - (intOf v).toNat)
      case atStart =>
       obtain ⟨hgd, hown, hMt, hf2C, hbx, hbl⟩ := KB.out
       exact ⟨0, Nat.zero_le _, rfl, hMt.ext (fun r j hr hj => by unfold Sv.elimT; rw [if_neg (by omega)]), hown, hbx, hbl⟩
      case round =>
       obtain ⟨t, ht, rfl, hMt, hown, hbx, hbl⟩ := hrel
       by_cases ht1 : t < n - k1
       ·
        have ht2 : (t : Int) < ((n - k1 : Nat) : Int) := by omega
        have hkk := HK1.out
        obtain ⟨kt, hkt⟩ : ∃ kt, kt = k1 + t := ⟨_, rfl⟩
        have e1 := hMt.cell (i := kt) (by omega)
        rw [hkt] at e1
        have e2 := hMt.cell hk1
        have hfC := KB.out.2.2.2.1
        obtain ⟨L, hL⟩ : ∃ L, m = k + L + 1 := ⟨m - k - 1, by omega⟩
        obtain ⟨D, hD⟩ : ∃ D, n + 1 = k + D + 2 := ⟨n - 1 - k, by omega⟩
        have r1 := (hMt.row kt (by omega)).ext (G := A1 kt) (fun j hj => by unfold Sv.elimT; rw [if_neg (by omega)])
        have r2 := (hMt.row k hk1).ext (G := A1 k) (fun j hj => by unfold Sv.elimT; rw [if_neg (by omega)])
        have hne : f2 kt ≠ f2 k := fun z => by have := hMt.inj kt k (by omega) hk1 z; omega
        rw [hL, hD] at r1 r2
        have TA := Sv.hid (fun wz (hz : Bw wr wz) => takeAway14 (r1.bw hz) (r2.bw hz) hne (by omega) (by omega))
        have e5 : L + 1 = m - k := by omega
        have e6 : D + 2 = n + 1 - k := by omega
        rw [← hL, ← hD, e5, e6] at TA
        clear r1 r2
        have KC := Sv.hid (And.intro hMt (And.intro hown (And.intro hbx hbl)))
        obtain ⟨c0, c1, c2, c3, c4, c5⟩ := hbx
        have HL := Sv.hid (And.intro hL (And.intro hD (And.intro hkt (And.intro hkk hfC))))
        have hkm2 : ¬ (k : Int) = (n : Int) + 1 := by omega
        rw [hkt] at TA
        clear hMt hown hbl hL hD hkt e5 e6 hkk hne hfC
        go_wp2_with fail
        have S0 : wr.drew.cell? ⟨C, 0, none⟩ = some (.func (.func 70) #[] #[]) ∧ wr.drew.cell? ⟨C, 1, none⟩ = some (.func (.func 71) #[] #[]) ∧ wr.drew.cell? ⟨C, 2, none⟩ = some (.func (.func 31) #[] #[]) ∧ wr.drew.cell? ⟨C, 3, none⟩ = some (.func (.func 72) #[] #[]) ∧ wr.drew.cell? ⟨C, 4, none⟩ = some (.func (.func 73) #[] #[]) ∧ wr.drew.cell? ⟨R, k, none⟩ = some (.slice (some ⟨f2 k, 0, none⟩) m (n + 1)) := ⟨c1, c2, c3, c4, c5, e2⟩
        clear c1 c2 c3 c4 c5 e1 e2
        have BD := Sv.hid ((Bw.refl wr).drew)
        have q1 : k ≤ m := by omega
        have q2 : ¬ n + 1 = k := by omega
        refine wp_region_K (fun w' => w'.cell? ⟨C, 0, none⟩ = some (.func (.func 70) #[] #[]) ∧ w'.cell? ⟨C, 1, none⟩ = some (.func (.func 71) #[] #[]) ∧ w'.cell? ⟨C, 2, none⟩ = some (.func (.func 31) #[] #[]) ∧ w'.cell? ⟨C, 3, none⟩ = some (.func (.func 72) #[] #[]) ∧ w'.cell? ⟨C, 4, none⟩ = some (.func (.func 73) #[] #[]) ∧ w'.cell? ⟨R, k, none⟩ = some (.slice (some ⟨f2 k, 0, none⟩) m (n + 1))) 10 11 #[false, false, false, false, false, false, false, false, false, false, false] (by kernel_rfl) (by kernel_rfl) (by kernel_rfl) ?_
        generalize wr.drew = W at *
        refine wpAnyK_take 0 66 (v := ?vb0) rfl (by kernel_rfl) (by kernel_rfl) (by kernel_rfl) (by kernel_rfl) (by kernel_rfl) (fun _ _ _ h => h) rfl (Or.inl ⟨by rfl, ?hb0⟩) (by assumption) ?rb0
        case hb0 => (intro w hSw; go_simp; with_reducible rfl)
        simp only [Act.put, List.setIfInBounds_toArray, List.set_cons_zero, List.set_cons_succ]
        refine wpAnyK_take 1 67 (v := ?vb1) rfl (by kernel_rfl) (by kernel_rfl) (by kernel_rfl) (by kernel_rfl) (by kernel_rfl) (fun _ _ _ h => h) rfl (Or.inl ⟨by rfl, ?hb1⟩) (by assumption) ?rb1
        case hb1 => (intro w hSw; go_simp; with_reducible rfl)
        simp only [Act.put, List.setIfInBounds_toArray, List.set_cons_zero, List.set_cons_succ]
        refine wpAnyK_take 2 68 (v := ?vb2) rfl (by kernel_rfl) (by kernel_rfl) (by kernel_rfl) (by kernel_rfl) (by kernel_rfl) (fun _ _ _ h => h) rfl (Or.inl ⟨by rfl, ?hb2⟩) (by assumption) ?rb2
        case hb2 => (intro w hSw; go_simp; with_reducible rfl)
        simp only [Act.put, List.setIfInBounds_toArray, List.set_cons_zero, List.set_cons_succ]
        refine wpAnyK_take 3 69 (v := ?vb3) rfl (by kernel_rfl) (by kernel_rfl) (by kernel_rfl) (by kernel_rfl) (by kernel_rfl) (fun _ _ _ h => h) rfl (Or.inl ⟨by rfl, ?hb3⟩) (by assumption) ?rb3
        case hb3 => (intro w hSw; go_simp; with_reducible rfl)
        simp only [Act.put, List.setIfInBounds_toArray, List.set_cons_zero, List.set_cons_succ]
        refine wpAnyK_take 4 70 (v := ?vb4) rfl (by kernel_rfl) (by kernel_rfl) (by kernel_rfl) (by kernel_rfl) (by kernel_rfl) (fun _ _ _ h => h) rfl (Or.inl ⟨by rfl, ?hb4⟩) (by assumption) ?rb4
        case hb4 => (intro w hSw; go_simp; with_reducible rfl)
        simp only [Act.put, List.setIfInBounds_toArray, List.set_cons_zero, List.set_cons_succ]
        refine wpAnyK_take 5 71 (v := ?vb5) rfl (by kernel_rfl) (by kernel_rfl) (by kernel_rfl) (by kernel_rfl) (by kernel_rfl) (fun _ _ _ h => h) rfl (Or.inl ⟨by rfl, ?hb5⟩) (by assumption) ?rb5
        case hb5 => (intro w hSw; go_simp; with_reducible rfl)
        simp only [Act.put, List.setIfInBounds_toArray, List.set_cons_zero, List.set_cons_succ]
        refine wpAnyK_take 6 72 (v := ?vb6) rfl (by kernel_rfl) (by kernel_rfl) (by kernel_rfl) (by kernel_rfl) (by kernel_rfl) (fun _ _ _ h => h) rfl (Or.inl ⟨by rfl, ?hb6⟩) (by assumption) ?rb6
        case hb6 => (intro w hSw; go_simp; with_reducible rfl)
        simp only [Act.put, List.setIfInBounds_toArray, List.set_cons_zero, List.set_cons_succ]
        refine wpAnyK_take 7 73 (v := ?vb7) rfl (by kernel_rfl) (by kernel_rfl) (by kernel_rfl) (by kernel_rfl) (by kernel_rfl) (fun _ _ _ h => h) rfl (Or.inl ⟨by rfl, ?hb7⟩) (by assumption) ?rb7
        case hb7 => (intro w hSw; go_simp; with_reducible rfl)
        simp only [Act.put, List.setIfInBounds_toArray, List.set_cons_zero, List.set_cons_succ]
        refine wpAnyK_take 8 74 (v := ?vb8) rfl (by kernel_rfl) (by kernel_rfl) (by kernel_rfl) (by kernel_rfl) (by kernel_rfl) (fun _ _ _ h => h) rfl (Or.inl ⟨by rfl, ?hb8⟩) (by assumption) ?rb8
        case hb8 => (intro w hSw; go_simp; with_reducible rfl)
        simp only [Act.put, List.setIfInBounds_toArray, List.set_cons_zero, List.set_cons_succ]
        refine wpAnyK_take 9 75 (v := ?vb9) rfl (by kernel_rfl) (by kernel_rfl) (by kernel_rfl) (by kernel_rfl) (by kernel_rfl) (fun _ _ _ h => h) rfl (Or.inl ⟨by rfl, ?hb9⟩) (by assumption) ?rb9
        case hb9 => (intro w hSw; go_simp; with_reducible rfl)
        simp only [Act.put, List.setIfInBounds_toArray, List.set_cons_zero, List.set_cons_succ]
        refine wpAnyK_one 10 (by kernel_rfl) rfl (fun K hK => ?_)
        go_simp
        go_wp2_with (go_at_call 76; refine (TA.out _ BD.out).mono ?_; rintro e' w7 ⟨rfl, hrw, hgr⟩)
        refine hK.out _ _ (fun h => absurd rfl h) ?_
        clear hK K
        simp only [List.setIfInBounds_toArray, List.set_cons_zero, List.set_cons_succ]
        refine wpAnyK_done (by kernel_rfl) ?_ _
        clear S0
        obtain ⟨hMt, hown, hbx, hbl⟩ := KC.out
        obtain ⟨hL, hD, hkt, hkk, hfC⟩ := HL.out
        have hktn : kt < n := by omega
        replace hMt := hMt.bw BD.out
        rw [← hkt] at hrw hgr
        have hnf := hfC kt hktn
        have hMn := (hMt.turn hktn hgr hrw).ext (A' := Sv.elimT A1 k (t + 1)) (fun r j hr hj => by
         by_cases z : r = kt
         ·
          subst z
          simp only [if_true]
          unfold Sv.elimT Sv.less
          by_cases y : k < j
          · rw [if_pos y, if_pos (by omega)]
          · rw [if_neg y, if_neg (by omega)]
         ·
          simp only [if_neg z]
          unfold Sv.elimT
          by_cases y : k < r ∧ r ≤ k + t ∧ k < j
          · rw [if_pos y, if_pos (by omega)]
          · rw [if_neg y, if_neg (by omega)])
        have hon := (hown.kept (Sv.gb_bw BD.out none) (by simp [Value.ownBlock])).kept hgr (Or.inr (fun e => by have := hown.lt g rfl; simp only [Value.ownBlock, Option.some.injEq] at e; omega))
        have hbn := (hbx.bw BD.out).gb hgr (by simp only [ne_eq, Option.some.injEq]; omega)
        have hb0 := (hMt.row kt hktn).lt
        have hln := Sv.gb_below (Below.trans hbl (Below.mono BD.out (by have := hbl.size; have := EC.out; have := HBR.out; have := HF.out.1; omega))) hgr (by omega) hb0.1
        have KD := Sv.hid (And.intro hMn (And.intro hon (And.intro hbn hln)))
        clear hMt hown hbx hbl hL hD hkt hkk hfC hMn hon hbn hln hrw hgr hb0 KC HL hnf TA BD
        go_wp2
        go_roundw
        case rel => exact ⟨t + 1, by omega, by simp, KD.out.1, KD.out.2.1, KD.out.2.2.1, KD.out.2.2.2⟩
        case measure => simp [intOf]; omega
       ·
        have ht3 : t = n - k1 := by omega
        subst ht3
        have hkk := HK1.out
        have KD := Sv.hid (And.intro (hMt.ext (A' := Sv.st n A (k + 1)) (fun r j hr hj => by
         show _ = Sv.elim (Sv.swap (Sv.st n A k) k (Sv.tk n A k)) k r j
         rw [HA1.out]
         unfold Sv.elimT Sv.elim
         by_cases y : k < r ∧ k < j
         · rw [if_pos (by omega), if_pos y]
         · rw [if_neg (by omega), if_neg y])) (And.intro hown (And.intro hbx hbl)))
        have HG : Hid (Sv.good n A (k + 1)) := fun j hj => by
         by_cases z : j = k
         · subst z; exact HBD.out
         · exact KB.out.1 j (by omega)
        clear hMt hown hbx hbl hkk
        go_wp2
        go_roundw
        case rel => exact ⟨k + 1, f2, by omega, by simp; omega, HG.out, KD.out.2.1, KD.out.1, KB.out.2.2.2.1, KD.out.2.2.1, KD.out.2.2.2⟩
        case measure => simp [intOf]; omega
     ·
      have hlast2 : k + 1 = n := by omega
      have hs : (k : Int) + 1 = (n : Int) := by omega
      go_wp2_with fail
      refine (nought14 x _).mono ?_
      rintro e' w4 ⟨rfl, hw4⟩
      subst hw4
      rw [zn]
      go_wp2_with fail
      refine (isfin14 x _ hx).mono ?_
      rintro e' w4 ⟨rfl, hw4⟩
      subst hw4
      rw [zf]
      clear e1 e2 c4 c5
      obtain ⟨hgd, hown, hMt, hf2C, hbx, hbl⟩ := KB.out
      have KD := Sv.hid (And.intro (hMt.ext (A' := Sv.st n A (k + 1)) (fun r j hr hj => by
       show _ = Sv.elim (Sv.swap (Sv.st n A k) k (Sv.tk n A k)) k r j
       unfold Sv.elim
       rw [if_neg (by omega)])) (And.intro hown (And.intro hbx hbl)))
      have HG : Hid (Sv.good n A (k + 1)) := fun j hj => by
       by_cases z : j = k
       · subst z; exact HBD.out
       · exact hgd j (by omega)
      have HC2 := Sv.hid hf2C
      clear hgd hown hMt hf2C hbx hbl KB
      go_wp2
      go_loopw [62] (fun v wr => v = .int .i64 0 ∧ wr = w4) (fun v _ => 0)
      case atStart => exact ⟨rfl, rfl⟩
      case round =>
       obtain ⟨rfl, rfl⟩ := hrel
       go_wp2
       go_roundw
       case rel => exact ⟨k + 1, f2, by omega, by simp; omega, HG.out, by have z := KD.out.2.1; rw [hlast2] at z ⊢; exact z, KD.out.1, HC2.out, KD.out.2.2.1, KD.out.2.2.2⟩
       case measure => simp [intOf]; omega
   ·
    have HBD : Hid (Sv.bad (Sv.piv n A k) = true) := by show _ = _; rw [← HQ.out, Sv.bad_c]; unfold Sv.bad; rw [zn]; rfl
    go_wp2_with fail
    refine (nought14 x _).mono ?_
    rintro e' w4 ⟨rfl, hw4⟩
    subst hw4
    rw [zn]
    go_wp2
    go_ret2
    obtain ⟨hgd, hown, hMt, hf2C, hbx, hbl⟩ := KB.out
    exact ⟨_, f2, hbl, Or.inr ⟨k, hk1, rfl, hgd, HBD.out, by rw [EC.out]; exact hown, hMt⟩⟩
  ·
   have hk3 : k = n := by omega
   subst hk3
   have KB := Sv.hid (And.intro hgd (And.intro hown (And.intro hMt hbl)))
   clear hgd hown hMt hfC hbx hbl
   go_wp2
   go_ret2
   obtain ⟨hgd, hown, hMt, hbl⟩ := KB.out
   exact ⟨_, f', hbl, Or.inl ⟨rfl, hgd, by rw [EC.out]; exact hown, hMt⟩⟩
end Go.Proofs.Ytjfkdmddfeeheaa
/-
 OWN TEXT: package solve, of floats: the way back.
-/
namespace Go.Proofs.Ytjfkdmddfeeheaa
open Go.ChangeShapes Go.WideShapes Go.ChangeAt Go.RowKit
set_option linter.unusedVariables false
attribute [local go_sem] frombits_call tobits_call run_neg

attribute [local go_sem] stof14
set_option maxHeartbeats 8000000 in
theorem wayBack14 {w : World} {base R n : Nat} {f : Nat → Nat} {A : Sv.M} (h : Sv.Mt w base R n (n + 1) (n + 1) f A) (hn : n ≤ 128) :
  Calls Try.prog 68 #[(.agg #[.func (.func 70) #[] #[], .func (.func 71) #[] #[], .func (.func 31) #[] #[], .func (.func 72) #[] #[], .func (.func 73) #[] #[]]), .slice (some ⟨R, 0, none⟩) n n] w fun e w' => ∃ B, e = .returned (.slice (some ⟨B, 0, none⟩) n n) ∧ Sv.Rw w' w.heap.size B n n (Sv.bx A n n) ∧ Bw w w' := by
 have b0 := Sv.bw_new w (.cells #[.func (.func 70) #[] #[], .func (.func 71) #[] #[], .func (.func 31) #[] #[], .func (.func 72) #[] #[], .func (.func 73) #[] #[]] 73)
 have hmk := Sv.makeF (n : Int) (n : Int) n n rfl rfl (by omega) (by omega)
 have z0 : ∀ (w : World) (o : Obj), (w.alloc o).heap.size = w.heap.size + 1 := fun w o => by simp
 have b1 := Sv.bw_new (w.alloc (.cells #[.func (.func 70) #[] #[], .func (.func 71) #[] #[], .func (.func 31) #[] #[], .func (.func 72) #[] #[], .func (.func 73) #[] #[]] 73)) (.cells (Sv.zf n) 25)
 have hw1 := Sv.Rw.made (w.alloc (.cells #[.func (.func 70) #[] #[], .func (.func 71) #[] #[], .func (.func 31) #[] #[], .func (.func 72) #[] #[], .func (.func 73) #[] #[]] 73)) (base := w.heap.size) b0.size n n (by omega) (by omega)
 have HX := Sv.hid (And.intro ((Sv.Bx.made w).bw b1) (And.intro hw1 (bw_trans b0 b1)))
 have H := Sv.hid h
 rw [z0] at HX
 clear b0 b1 hw1 h z0
 go_enter Try.func68, Try.ntmps68
 go_wp2
 clear hmk
 generalize (w.alloc (.cells #[.func (.func 70) #[] #[], .func (.func 71) #[] #[], .func (.func 31) #[] #[], .func (.func 72) #[] #[], .func (.func 73) #[] #[]] 73)).alloc (.cells (Sv.zf n) 25) = W0 at *
 obtain ⟨C, eC⟩ : ∃ C, w.heap.size = C := ⟨_, rfl⟩
 have EC := Sv.hid eC
 rw [eC] at HX ⊢
 clear eC
 obtain ⟨B, eB⟩ : ∃ B, C + 1 = B := ⟨_, rfl⟩
 have EB := Sv.hid eB
 rw [eB] at HX ⊢
 clear eB
 go_loopw [16] (fun v wr => ∃ c : Nat, c ≤ n ∧ v = .int .i64 c ∧ Sv.Rw wr C B n n (Sv.bx A n c) ∧ Sv.Bx wr C ∧ Bw w wr) (fun v _ => n - (intOf v).toNat)
 case atStart => exact ⟨0, Nat.zero_le _, rfl, HX.out.2.1, HX.out.1, HX.out.2.2⟩
 case round =>
  clear HX
  obtain ⟨c, hc, rfl, hX, hbx, hbw⟩ := hrel
  by_cases hc1 : c < n
  ·
   have hc2 : (c : Int) < n := by omega
   obtain ⟨i, hi⟩ : ∃ i, i = n - 1 - c := ⟨_, rfl⟩
   have hs : (n : Int) - 1 - (c : Int) = (i : Int) := by omega
   have hi2 : (i : Int) < n := by omega
   have hin : i < n := by omega
   have HI := Sv.hid hi
   have hMt := H.out.bw hbw
   have e1 := hMt.cell hin
   obtain ⟨bi, ebi⟩ : ∃ bi, f i = bi := ⟨_, rfl⟩
   have EBI := Sv.hid ebi
   rw [ebi] at e1
   have hr := hMt.row i hin
   rw [ebi] at hr
   obtain ⟨x0, e2, hx0, q0⟩ := hr.cell (j := n) (by omega)
   have Q0 := Sv.hid q0
   have KX := Sv.hid (And.intro hX (And.intro hbx hbw))
   clear hX hbx hbw hMt hr ebi q0 hi
   go_wp2
   clear e1 e2
   go_loopw [9, 10] (fun s v wr => ∃ (u sx : Nat), u ≤ n - 1 - i ∧ v = .int .i64 ((i + 1 + u : Nat) : Int) ∧ s = .float .f64 sx ∧ sx < 18446744073709551616 ∧ Fl.bitsF sx = Sv.bsum A n i (Sv.bx A n c) u ∧ Sv.Rw wr C B n n (Sv.bx A n c) ∧ Sv.Bx wr C ∧ Bw w wr) (fun _ v _ => n - (intOf v).toNat)
   case atStart => exact ⟨0, x0, Nat.zero_le _, by simp, rfl, hx0, Q0.out, KX.out.1, KX.out.2.1, KX.out.2.2⟩
   case round =>
    clear KX
    obtain ⟨u, sx, hu, rfl, rfl, hsx, hq, hX, hbx, hbw⟩ := hrel
    obtain ⟨j, hj⟩ : ∃ j, j = i + 1 + u := ⟨_, rfl⟩
    rw [← hj]
    have HJ := Sv.hid hj
    have HQ := Sv.hid hq
    have hMt := (H.out.bw hbw).bw (Bw.refl wr).drew
    have e1 := hMt.cell hin
    have hr := hMt.row i hin
    rw [EBI.out] at e1 hr
    have hX2 := hX.bw (Bw.refl wr).drew
    have hbx2 := hbx.bw (Bw.refl wr).drew
    have LT : Hid (C < wr.drew.heap.size ∧ R < wr.drew.heap.size ∧ bi < wr.drew.heap.size ∧ B < wr.drew.heap.size) := ⟨hbx2.1, hMt.lt.2, hr.lt.2, hX2.lt.2⟩
    have KX := Sv.hid (And.intro hX2 (And.intro hbx2 (bw_trans hbw (Bw.refl wr).drew)))
    by_cases hu1 : u < n - 1 - i
    ·
     have hj2 : (j : Int) < n := by omega
     have hj3 : (j : Int) < (n : Int) + 1 := by omega
     obtain ⟨x, e2, hx, q1⟩ := hr.cell (j := j) (by omega)
     obtain ⟨y, e3, hy, q2⟩ := hX2.cell (j := j) (by omega)
     have S0 : wr.drew.cell? ⟨C, 0, none⟩ = some (.func (.func 70) #[] #[]) ∧ wr.drew.cell? ⟨R, i, none⟩ = some (.slice (some ⟨bi, 0, none⟩) (n + 1) (n + 1)) ∧ wr.drew.cell? ⟨bi, j, none⟩ = some (.float .f64 x) ∧ wr.drew.cell? ⟨B, j, none⟩ = some (.float .f64 y) := ⟨hbx2.2.1, e1, e2, e3⟩
     have Q12 := Sv.hid (And.intro q1 q2)
     clear hq hX hbx hbw hMt hr hX2 hbx2 e1 e2 e3 q1 q2 hj
     go_wp2_with fail
     refine wp_region_K (fun w' => w'.cell? ⟨C, 0, none⟩ = some (.func (.func 70) #[] #[]) ∧ w'.cell? ⟨R, i, none⟩ = some (.slice (some ⟨bi, 0, none⟩) (n + 1) (n + 1)) ∧ w'.cell? ⟨bi, j, none⟩ = some (.float .f64 x) ∧ w'.cell? ⟨B, j, none⟩ = some (.float .f64 y)) 16 17 #[false, false, false, false, false, false, false, false, false, false, false, false, false, false, false, false, false] (by kernel_rfl) (by kernel_rfl) (by kernel_rfl) ?_
     generalize wr.drew = W at *
     refine wpAnyK_take 0 37 (v := ?v0) rfl (by kernel_rfl) (by kernel_rfl) (by kernel_rfl) (by kernel_rfl) (by kernel_rfl) (fun _ _ _ h => h) rfl (Or.inl ⟨by rfl, ?h0⟩) (by assumption) ?r0
     case h0 => (intro w hSw; go_simp; with_reducible rfl)
     simp only [Act.put, List.setIfInBounds_toArray, List.set_cons_zero, List.set_cons_succ]
     refine wpAnyK_take 1 38 (v := ?v1) rfl (by kernel_rfl) (by kernel_rfl) (by kernel_rfl) (by kernel_rfl) (by kernel_rfl) (fun _ _ _ h => h) rfl (Or.inl ⟨by rfl, ?h1⟩) (by assumption) ?r1
     case h1 => (intro w hSw; go_simp; with_reducible rfl)
     simp only [Act.put, List.setIfInBounds_toArray, List.set_cons_zero, List.set_cons_succ]
     refine wpAnyK_take 2 39 (v := ?v2) rfl (by kernel_rfl) (by kernel_rfl) (by kernel_rfl) (by kernel_rfl) (by kernel_rfl) (fun _ _ _ h => h) rfl (Or.inl ⟨by rfl, ?h2⟩) (by assumption) ?r2
     case h2 => (intro w hSw; go_simp; with_reducible rfl)
     simp only [Act.put, List.setIfInBounds_toArray, List.set_cons_zero, List.set_cons_succ]
     refine wpAnyK_take 3 40 (v := ?v3) rfl (by kernel_rfl) (by kernel_rfl) (by kernel_rfl) (by kernel_rfl) (by kernel_rfl) (fun _ _ _ h => h) rfl (Or.inl ⟨by rfl, ?h3⟩) (by assumption) ?r3
     case h3 => (intro w hSw; go_simp; with_reducible rfl)
     simp only [Act.put, List.setIfInBounds_toArray, List.set_cons_zero, List.set_cons_succ]
     refine wpAnyK_take 4 41 (v := ?v4) rfl (by kernel_rfl) (by kernel_rfl) (by kernel_rfl) (by kernel_rfl) (by kernel_rfl) (fun _ _ _ h => h) rfl (Or.inl ⟨by rfl, ?h4⟩) (by assumption) ?r4
     case h4 => (intro w hSw; go_simp; with_reducible rfl)
     simp only [Act.put, List.setIfInBounds_toArray, List.set_cons_zero, List.set_cons_succ]
     refine wpAnyK_take 5 42 (v := ?v5) rfl (by kernel_rfl) (by kernel_rfl) (by kernel_rfl) (by kernel_rfl) (by kernel_rfl) (fun _ _ _ h => h) rfl (Or.inl ⟨by rfl, ?h5⟩) (by assumption) ?r5
     case h5 => (intro w hSw; go_simp; with_reducible rfl)
     simp only [Act.put, List.setIfInBounds_toArray, List.set_cons_zero, List.set_cons_succ]
     refine wpAnyK_take 6 43 (v := ?v6) rfl (by kernel_rfl) (by kernel_rfl) (by kernel_rfl) (by kernel_rfl) (by kernel_rfl) (fun _ _ _ h => h) rfl (Or.inl ⟨by rfl, ?h6⟩) (by assumption) ?r6
     case h6 => (intro w hSw; go_simp; with_reducible rfl)
     simp only [Act.put, List.setIfInBounds_toArray, List.set_cons_zero, List.set_cons_succ]
     refine wpAnyK_take 7 44 (v := ?v7) rfl (by kernel_rfl) (by kernel_rfl) (by kernel_rfl) (by kernel_rfl) (by kernel_rfl) (fun _ _ _ h => h) rfl (Or.inl ⟨by rfl, ?h7⟩) (by assumption) ?r7
     case h7 => (intro w hSw; go_simp; with_reducible rfl)
     simp only [Act.put, List.setIfInBounds_toArray, List.set_cons_zero, List.set_cons_succ]
     refine wpAnyK_take 8 45 (v := ?v8) rfl (by kernel_rfl) (by kernel_rfl) (by kernel_rfl) (by kernel_rfl) (by kernel_rfl) (fun _ _ _ h => h) rfl (Or.inl ⟨by rfl, ?h8⟩) (by assumption) ?r8
     case h8 => (intro w hSw; go_simp; with_reducible rfl)
     simp only [Act.put, List.setIfInBounds_toArray, List.set_cons_zero, List.set_cons_succ]
     refine wpAnyK_take 9 46 (v := ?v9) rfl (by kernel_rfl) (by kernel_rfl) (by kernel_rfl) (by kernel_rfl) (by kernel_rfl) (fun _ _ _ h => h) rfl (Or.inl ⟨by rfl, ?h9⟩) (by assumption) ?r9
     case h9 => (intro w hSw; go_simp; with_reducible rfl)
     simp only [Act.put, List.setIfInBounds_toArray, List.set_cons_zero, List.set_cons_succ]
     refine wpAnyK_take 10 47 (v := ?v10) rfl (by kernel_rfl) (by kernel_rfl) (by kernel_rfl) (by kernel_rfl) (by kernel_rfl) (fun _ _ _ h => h) rfl (Or.inl ⟨by rfl, ?h10⟩) (by assumption) ?r10
     case h10 => (intro w hSw; go_simp; with_reducible rfl)
     simp only [Act.put, List.setIfInBounds_toArray, List.set_cons_zero, List.set_cons_succ]
     refine wpAnyK_take 11 48 (v := ?v11) rfl (by kernel_rfl) (by kernel_rfl) (by kernel_rfl) (by kernel_rfl) (by kernel_rfl) (fun _ _ _ h => h) rfl (Or.inl ⟨by rfl, ?h11⟩) (by assumption) ?r11
     case h11 => (intro w hSw; go_simp; with_reducible rfl)
     simp only [Act.put, List.setIfInBounds_toArray, List.set_cons_zero, List.set_cons_succ]
     refine wpAnyK_take 12 49 (v := ?v12) rfl (by kernel_rfl) (by kernel_rfl) (by kernel_rfl) (by kernel_rfl) (by kernel_rfl) (fun _ _ _ h => h) rfl (Or.inl ⟨by rfl, ?h12⟩) (by assumption) ?r12
     case h12 => (intro w hSw; go_simp; with_reducible rfl)
     simp only [Act.put, List.setIfInBounds_toArray, List.set_cons_zero, List.set_cons_succ]
     refine wpAnyK_take 13 50 (v := ?v13) rfl (by kernel_rfl) (by kernel_rfl) (by kernel_rfl) (by kernel_rfl) (by kernel_rfl) (fun _ _ _ h => h) rfl (Or.inl ⟨by rfl, ?h13⟩) (by assumption) ?r13
     case h13 => (intro w hSw; go_simp; with_reducible rfl)
     simp only [Act.put, List.setIfInBounds_toArray, List.set_cons_zero, List.set_cons_succ]
     refine wpAnyK_one 14 (by kernel_rfl) rfl (fun K hK => ?_)
     go_simp
     go_wp2_with (go_at_call 70; refine (times14 _ _ _).mono ?_; rintro e' w7 ⟨p, rfl, hp, b7⟩)
     have S7 : w7.cell? ⟨C, 0, none⟩ = some (.func (.func 70) #[] #[]) ∧ w7.cell? ⟨R, i, none⟩ = some (.slice (some ⟨bi, 0, none⟩) (n + 1) (n + 1)) ∧ w7.cell? ⟨bi, j, none⟩ = some (.float .f64 x) ∧ w7.cell? ⟨B, j, none⟩ = some (.float .f64 y) := ⟨(Below.cell b7 (p := ⟨C, 0, none⟩) LT.out.1).trans S0.1, (Below.cell b7 (p := ⟨R, i, none⟩) LT.out.2.1).trans S0.2.1, (Below.cell b7 (p := ⟨bi, j, none⟩) LT.out.2.2.1).trans S0.2.2.1, (Below.cell b7 (p := ⟨B, j, none⟩) LT.out.2.2.2).trans S0.2.2.2⟩
     obtain ⟨r, w8, hr1, hr2, E8, b8⟩ := Sv.run Sv.iSub sx p w7
     have S8 : w8.cell? ⟨C, 0, none⟩ = some (.func (.func 70) #[] #[]) ∧ w8.cell? ⟨R, i, none⟩ = some (.slice (some ⟨bi, 0, none⟩) (n + 1) (n + 1)) ∧ w8.cell? ⟨bi, j, none⟩ = some (.float .f64 x) ∧ w8.cell? ⟨B, j, none⟩ = some (.float .f64 y) := ⟨(Below.cell b8 (p := ⟨C, 0, none⟩) (Nat.lt_of_lt_of_le LT.out.1 b7.size)).trans S7.1, (Below.cell b8 (p := ⟨R, i, none⟩) (Nat.lt_of_lt_of_le LT.out.2.1 b7.size)).trans S7.2.1, (Below.cell b8 (p := ⟨bi, j, none⟩) (Nat.lt_of_lt_of_le LT.out.2.2.1 b7.size)).trans S7.2.2.1, (Below.cell b8 (p := ⟨B, j, none⟩) (Nat.lt_of_lt_of_le LT.out.2.2.2 b7.size)).trans S7.2.2.2⟩
     have HR2 := Sv.hid hr2
     have HP2 := Sv.hid hp
     clear hr2 hp
     refine hK.out _ _ (fun _ _ => S7) ?_
     clear hK K
     simp only [List.setIfInBounds_toArray, List.set_cons_zero, List.set_cons_succ]
     refine wpAnyK_one 15 (by kernel_rfl) rfl (fun K hK => ?_)
     go_simp
     refine hK.out _ _ (fun _ _ => S8) ?_
     clear hK K
     simp only [List.setIfInBounds_toArray, List.set_cons_zero, List.set_cons_succ]
     refine wpAnyK_one 16 (by kernel_rfl) rfl (fun K hK => ?_)
     go_simp
     refine hK.out _ _ (fun h => absurd rfl h) ?_
     clear hK K
     simp only [List.setIfInBounds_toArray, List.set_cons_zero, List.set_cons_succ]
     refine wpAnyK_done (by kernel_rfl) ?_ _
     obtain ⟨hX, hbx, hbw⟩ := KX.out
     have KN := Sv.hid (And.intro ((hX.bw b7).bw b8) (And.intro ((hbx.bw b7).bw b8) (bw_trans (bw_trans hbw b7) b8)))
     have HN : Hid (Fl.bitsF r = Sv.bsum A n i (Sv.bx A n c) (u + 1)) := by
      show Fl.bitsF r = Sv.op .sub (Sv.bsum A n i (Sv.bx A n c) u) (Sv.op .mul (A i (i + 1 + u)) (Sv.bx A n c (i + 1 + u)))
      rw [HR2.out, HP2.out.2, HQ.out, Q12.out.1, Q12.out.2, ← HJ.out]
     clear hX hbx hbw b7 b8 S0 S7 S8 E8 KX LT W
     go_wp2
     go_roundw
     case rel => exact ⟨u + 1, r, by omega, by have := HJ.out; simp; omega, rfl, hr1, HN.out, KN.out.1, KN.out.2.1, KN.out.2.2⟩
     case measure => simp [intOf]; omega
    ·
     have hu3 : u = n - 1 - i := by omega
     have hj4 : j = n := by omega
     have hj5 : (j : Int) = n := by omega
     obtain ⟨x, e2, hx, q1⟩ := hr.cell (j := i) (by omega)
     obtain ⟨y, e3, hy, q2⟩ := hX2.cell (j := i) (by omega)
     have hi3 : (i : Int) < (n : Int) + 1 := by omega
     have S0 : wr.drew.cell? ⟨C, 1, none⟩ = some (.func (.func 71) #[] #[]) ∧ wr.drew.cell? ⟨R, i, none⟩ = some (.slice (some ⟨bi, 0, none⟩) (n + 1) (n + 1)) ∧ wr.drew.cell? ⟨bi, i, none⟩ = some (.float .f64 x) ∧ wr.drew.cell? ⟨B, i, none⟩ = some (.float .f64 y) ∧ wr.drew.frozen? ⟨B, i, none⟩ = false := ⟨hbx2.2.2.1, e1, e2, e3, hX2.frozen i⟩
     have Q1 := Sv.hid q1
     subst hu3
     clear hq hX hbx hbw hMt hr hX2 hbx2 e1 e2 e3 q1 q2 hj
     go_wp2_with fail
     refine wp_region_K (fun w' => w'.cell? ⟨C, 1, none⟩ = some (.func (.func 71) #[] #[]) ∧ w'.cell? ⟨R, i, none⟩ = some (.slice (some ⟨bi, 0, none⟩) (n + 1) (n + 1)) ∧ w'.cell? ⟨bi, i, none⟩ = some (.float .f64 x) ∧ w'.cell? ⟨B, i, none⟩ = some (.float .f64 y) ∧ w'.frozen? ⟨B, i, none⟩ = false) 14 15 #[false, false, false, false, false, false, false, false, false, false, false, false, false, false, false] (by kernel_rfl) (by kernel_rfl) (by kernel_rfl) ?_
     generalize wr.drew = W at *
     refine wpAnyK_take 0 53 (v := ?vb0) rfl (by kernel_rfl) (by kernel_rfl) (by kernel_rfl) (by kernel_rfl) (by kernel_rfl) (fun _ _ _ h => h) rfl (Or.inl ⟨by rfl, ?hb0⟩) (by assumption) ?rb0
     case hb0 => (intro w hSw; go_simp; with_reducible rfl)
     simp only [Act.put, List.setIfInBounds_toArray, List.set_cons_zero, List.set_cons_succ]
     refine wpAnyK_take 1 54 (v := ?vb1) rfl (by kernel_rfl) (by kernel_rfl) (by kernel_rfl) (by kernel_rfl) (by kernel_rfl) (fun _ _ _ h => h) rfl (Or.inl ⟨by rfl, ?hb1⟩) (by assumption) ?rb1
     case hb1 => (intro w hSw; go_simp; with_reducible rfl)
     simp only [Act.put, List.setIfInBounds_toArray, List.set_cons_zero, List.set_cons_succ]
     refine wpAnyK_take 2 55 (v := ?vb2) rfl (by kernel_rfl) (by kernel_rfl) (by kernel_rfl) (by kernel_rfl) (by kernel_rfl) (fun _ _ _ h => h) rfl (Or.inl ⟨by rfl, ?hb2⟩) (by assumption) ?rb2
     case hb2 => (intro w hSw; go_simp; with_reducible rfl)
     simp only [Act.put, List.setIfInBounds_toArray, List.set_cons_zero, List.set_cons_succ]
     refine wpAnyK_take 3 56 (v := ?vb3) rfl (by kernel_rfl) (by kernel_rfl) (by kernel_rfl) (by kernel_rfl) (by kernel_rfl) (fun _ _ _ h => h) rfl (Or.inl ⟨by rfl, ?hb3⟩) (by assumption) ?rb3
     case hb3 => (intro w hSw; go_simp; with_reducible rfl)
     simp only [Act.put, List.setIfInBounds_toArray, List.set_cons_zero, List.set_cons_succ]
     refine wpAnyK_take 4 57 (v := ?vb4) rfl (by kernel_rfl) (by kernel_rfl) (by kernel_rfl) (by kernel_rfl) (by kernel_rfl) (fun _ _ _ h => h) rfl (Or.inl ⟨by rfl, ?hb4⟩) (by assumption) ?rb4
     case hb4 => (intro w hSw; go_simp; with_reducible rfl)
     simp only [Act.put, List.setIfInBounds_toArray, List.set_cons_zero, List.set_cons_succ]
     refine wpAnyK_take 5 58 (v := ?vb5) rfl (by kernel_rfl) (by kernel_rfl) (by kernel_rfl) (by kernel_rfl) (by kernel_rfl) (fun _ _ _ h => h) rfl (Or.inl ⟨by rfl, ?hb5⟩) (by assumption) ?rb5
     case hb5 => (intro w hSw; go_simp; with_reducible rfl)
     simp only [Act.put, List.setIfInBounds_toArray, List.set_cons_zero, List.set_cons_succ]
     refine wpAnyK_take 6 59 (v := ?vb6) rfl (by kernel_rfl) (by kernel_rfl) (by kernel_rfl) (by kernel_rfl) (by kernel_rfl) (fun _ _ _ h => h) rfl (Or.inl ⟨by rfl, ?hb6⟩) (by assumption) ?rb6
     case hb6 => (intro w hSw; go_simp; with_reducible rfl)
     simp only [Act.put, List.setIfInBounds_toArray, List.set_cons_zero, List.set_cons_succ]
     refine wpAnyK_take 7 60 (v := ?vb7) rfl (by kernel_rfl) (by kernel_rfl) (by kernel_rfl) (by kernel_rfl) (by kernel_rfl) (fun _ _ _ h => h) rfl (Or.inl ⟨by rfl, ?hb7⟩) (by assumption) ?rb7
     case hb7 => (intro w hSw; go_simp; with_reducible rfl)
     simp only [Act.put, List.setIfInBounds_toArray, List.set_cons_zero, List.set_cons_succ]
     refine wpAnyK_take 8 61 (v := ?vb8) rfl (by kernel_rfl) (by kernel_rfl) (by kernel_rfl) (by kernel_rfl) (by kernel_rfl) (fun _ _ _ h => h) rfl (Or.inl ⟨by rfl, ?hb8⟩) (by assumption) ?rb8
     case hb8 => (intro w hSw; go_simp; with_reducible rfl)
     simp only [Act.put, List.setIfInBounds_toArray, List.set_cons_zero, List.set_cons_succ]
     refine wpAnyK_take 9 62 (v := ?vb9) rfl (by kernel_rfl) (by kernel_rfl) (by kernel_rfl) (by kernel_rfl) (by kernel_rfl) (fun _ _ _ h => h) rfl (Or.inl ⟨by rfl, ?hb9⟩) (by assumption) ?rb9
     case hb9 => (intro w hSw; go_simp; with_reducible rfl)
     simp only [Act.put, List.setIfInBounds_toArray, List.set_cons_zero, List.set_cons_succ]
     refine wpAnyK_take 10 63 (v := ?vb10) rfl (by kernel_rfl) (by kernel_rfl) (by kernel_rfl) (by kernel_rfl) (by kernel_rfl) (fun _ _ _ h => h) rfl (Or.inl ⟨by rfl, ?hb10⟩) (by assumption) ?rb10
     case hb10 => (intro w hSw; go_simp; with_reducible rfl)
     simp only [Act.put, List.setIfInBounds_toArray, List.set_cons_zero, List.set_cons_succ]
     refine wpAnyK_take 11 64 (v := ?vb11) rfl (by kernel_rfl) (by kernel_rfl) (by kernel_rfl) (by kernel_rfl) (by kernel_rfl) (fun _ _ _ h => h) rfl (Or.inl ⟨by rfl, ?hb11⟩) (by assumption) ?rb11
     case hb11 => (intro w hSw; go_simp; with_reducible rfl)
     simp only [Act.put, List.setIfInBounds_toArray, List.set_cons_zero, List.set_cons_succ]
     refine wpAnyK_one 12 (by kernel_rfl) rfl (fun K hK => ?_)
     go_simp
     go_wp2_with (go_at_call 71; refine (over14 _ _ _).mono ?_; rintro e' w7 ⟨p, rfl, hp, b7⟩)
     have S7 : w7.cell? ⟨C, 1, none⟩ = some (.func (.func 71) #[] #[]) ∧ w7.cell? ⟨R, i, none⟩ = some (.slice (some ⟨bi, 0, none⟩) (n + 1) (n + 1)) ∧ w7.cell? ⟨bi, i, none⟩ = some (.float .f64 x) ∧ w7.cell? ⟨B, i, none⟩ = some (.float .f64 y) ∧ w7.frozen? ⟨B, i, none⟩ = false := ⟨(Below.cell b7 (p := ⟨C, 1, none⟩) LT.out.1).trans S0.1, (Below.cell b7 (p := ⟨R, i, none⟩) LT.out.2.1).trans S0.2.1, (Below.cell b7 (p := ⟨bi, i, none⟩) LT.out.2.2.1).trans S0.2.2.1, (Below.cell b7 (p := ⟨B, i, none⟩) LT.out.2.2.2).trans S0.2.2.2.1, (Below.frozen b7 (p := ⟨B, i, none⟩) LT.out.2.2.2).trans S0.2.2.2.2⟩
     have HP2 := Sv.hid hp.2
     have hp1 := hp.1
     clear hp
     refine hK.out _ _ (fun _ _ => S7) ?_
     clear hK K
     simp only [List.setIfInBounds_toArray, List.set_cons_zero, List.set_cons_succ]
     refine wpAnyK_take 13 66 (v := ?vb13) rfl (by kernel_rfl) (by kernel_rfl) (by kernel_rfl) (by kernel_rfl) (by kernel_rfl) (fun _ _ _ h => h) rfl (Or.inl ⟨by rfl, ?hb13⟩) (by assumption) ?rb13
     case hb13 => (intro w hSw; go_simp; with_reducible rfl)
     simp only [Act.put, List.setIfInBounds_toArray, List.set_cons_zero, List.set_cons_succ]
     refine wpAnyK_one 14 (by kernel_rfl) rfl (fun K hK => ?_)
     go_simp
     refine hK.out _ _ (fun h => absurd rfl h) ?_
     clear hK K
     simp only [List.setIfInBounds_toArray, List.set_cons_zero, List.set_cons_succ]
     refine wpAnyK_done (by kernel_rfl) ?_ _
     have HN : Hid (Sv.Rw (w7.setCell ⟨B, i, none⟩ (.float .f64 p)) C B n n (Sv.bx A n (c + 1)) ∧ Sv.Bx (w7.setCell ⟨B, i, none⟩ (.float .f64 p)) C ∧ Bw w (w7.setCell ⟨B, i, none⟩ (.float .f64 p))) := by
      obtain ⟨hX, hbx, hbw⟩ := KX.out
      obtain ⟨z1, z2⟩ := (hX.bw b7).set i p hp1
      have hB := EB.out
      have hC := EC.out
      refine ⟨z1.ext (fun t ht => ?_), (hbx.bw b7).gb z2 (by simp only [ne_eq, Option.some.injEq]; omega), Sv.gb_below (bw_trans hbw b7) z2 (bw_trans hbw b7).size (by omega)⟩
      have hi := HI.out
      show _ = if t = n - 1 - c then _ else _
      rw [← hi]
      by_cases z : t = i
      ·
       subst z
       rw [if_pos rfl, if_pos rfl, HP2.out, HQ.out, Q1.out]
      · rw [if_neg z, if_neg z]
     clear S0 S7 KX LT b7 HP2 W
     go_wp2
     go_roundw
     case rel => exact ⟨c + 1, by omega, by simp, HN.out.1, HN.out.2.1, HN.out.2.2⟩
     case measure => simp [intOf]; omega
  ·
   have hc3 : c = n := by omega
   subst hc3
   have KX := Sv.hid (And.intro hX hbw)
   clear hX hbx hbw
   go_wp2
   go_ret
   exact ⟨B, rfl, by rw [EC.out]; exact KX.out.1, KX.out.2⟩
end Go.Proofs.Ytjfkdmddfeeheaa
