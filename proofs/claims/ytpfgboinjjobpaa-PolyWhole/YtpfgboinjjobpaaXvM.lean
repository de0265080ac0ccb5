/-
  OWN TEXT: an evaluator for calls without open arguments. The same, with each state written out before it is gone on from: they agree.
-/
import Derived.Test.YtpfgboinjjobpaaXvN
namespace Go.Proofs.Ytpfgboinjjobpaa
open Go.RowKit
set_option linter.unusedVariables false
set_option linter.unusedSimpArgs false
noncomputable def nth {β : Type} (l : List β) (n : Nat) : Option β := List.rec (motive := fun _ => Nat → Option β) (fun _ => none) (fun x _ ih n => Nat.rec (motive := fun _ => Option β) (some x) (fun m _ => ih m) n) l n
theorem nth_eq {β : Type} : ∀ (l : List β) (n : Nat), nth l n = l[n]?
  | [], n => by cases n <;> rfl
  | x :: l, 0 => rfl
  | x :: l, n + 1 => (nth_eq l n).trans (by simp)
noncomputable def evalF (a : Act) : Operand → Option Value
  | .tmp t => nth a.tmps.toList t
  | .const v => if flat v then some v else none
  | .func f => some (.func (.func f) #[] #[])
  | .global _ => none
theorem evalF_eq (a : Act) : evalF a = evalO a := by
  funext x
  cases x <;> first | rfl | simp only [evalF, evalO, nth_eq, Array.getElem?_toList]
noncomputable def opD (K : Caller) (P : Program) (A : Mem) (e : Operand → Option Value) (o : Oper) : Option (Value × Dl) :=
  match o.op with
  | .load _ _ => (evR P A e o).map (·, .same)
  | .store _ _ _ => (storeD P A e o).map (undef, ·)
  | .alloc _ | .box _ _ | .makeSlice _ _ _ | .buildSlice _ _ _ => (evN P A.length e o).map fun x => (x.1, .push x.2)
  | .move _ | .assign _ | .extract _ _ => (evS P e o).map (·, .same)
  | .call c =>
    match c.callee with
    | .builtin .append => appendD P A e o
    | .builtin .copy => copyD P A e o
    | .value f => match funcO P e f with | some _ => (evCallO K P A e f c.args.toList).map fun x => (x.1, .whole x.2) | none => (flatP P e o).map (·, .same)
    | _ => (evPF P e o).map (·, .same)
  | _ => (evPF P e o).map (·, .same)
theorem opD_eq (K : Caller) (P : Program) (A : Mem) (e : Operand → Option Value) (o : Oper) : evOp K P A e o = (opD K P A e o).map fun x => (x.1, x.2.app A) := by
  have hF := evPF_eq P e o
  obtain ⟨dst, op, type, pos, after, guard⟩ := o
  have pure : ∀ u : Option Value, u.map (·, A) = (u.map (·, Dl.same)).map fun x => (x.1, x.2.app A) := by intro u; cases u <;> rfl
  cases op
  case call c =>
    obtain ⟨callee, args, argTypes⟩ := c
    cases callee with
    | value f =>
      simp only [evOp, opD]
      cases funcO P e f with
      | none => exact pure _
      | some g => simp only; cases evCallO K P A e f args.toList <;> rfl
    | invoke r m => simp only [evOp, opD, hF]; exact pure _
    | builtin b => cases b <;> first | rfl | (simp only [evOp, opD, hF]; exact pure _)
  case store t x y => simp only [evOp, opD, evStore]; cases storeD P A e { dst := dst, op := .store t x y, type := type, pos := pos, after := after, guard := guard } <;> rfl
  case alloc => simp only [evOp, opD]; cases evN P A.length e _ <;> rfl
  case box => simp only [evOp, opD]; cases evN P A.length e _ <;> rfl
  case makeSlice => simp only [evOp, opD]; cases evN P A.length e _ <;> rfl
  case buildSlice => simp only [evOp, opD]; cases evN P A.length e _ <;> rfl
  all_goals (simp only [evOp, opD, hF]; exact pure _)
section
variable {β : Type}
noncomputable def stepF (K : Caller) (P : Program) (ops : Array Oper) (o : Oper) (s : St) (k : St → Option β) : Option β :=
  match s with
  | (a, A) =>
    if Region.wanted o (yielded ops a.tmps) then
      match opD K P A (evalF a) o with
      | some (v, d) => putK a o.dst v fun a => d.appK A fun A => k (a, A)
      | none => none
    else putK a o.dst undef fun a => k (a, A)
theorem stepF_eq (K : Caller) (P : Program) (ops : Array Oper) (o : Oper) (s : St) (k : St → Option β) : stepF K P ops o s k = (stepA K P ops o s).bind k := by
  obtain ⟨a, A⟩ := s
  simp only [stepF, stepA, evalF_eq, opD_eq]
  split
  · cases opD K P A (evalO a) o with
    | none => rfl
    | some x => simp only [putK_eq, Dl.appK_eq, Option.map_some, Option.bind_some]
  · simp only [putK_eq, Option.bind_some]
end
noncomputable def evSeqF (K : Caller) (P : Program) (ops : Array Oper) (l : List Oper) (s : St) : Option St := List.rec (motive := fun _ => St → Option St) (fun s => some s) (fun o _ ih s => stepF K P ops o s ih) l s
theorem evSeqF_eq (K : Caller) (P : Program) (ops : Array Oper) : ∀ (l : List Oper) (s : St), evSeqF K P ops l s = evSeq K P ops l s
  | [], s => rfl
  | o :: rest, s => by
    show stepF K P ops o s (evSeqF K P ops rest) = _
    rw [stepF_eq]
    simp only [evSeq]
    cases stepA K P ops o s with
    | none => rfl
    | some s' => exact evSeqF_eq K P ops rest s'
noncomputable def tvF (T : Tab) (i : Nat) : Option Value := List.rec (motive := fun _ => Option Value) none (fun x _ ih => bif Nat.beq x.1 i then some x.2.1 else ih) T
theorem tvF_eq (i : Nat) : ∀ T : Tab, tvF T i = tvAt T i
  | [] => rfl
  | (j, v, p) :: T => by
    show (bif Nat.beq j i then some v else tvF T i) = tvAt ((j, v, p) :: T) i
    unfold tvAt
    simp only [tabAt]
    by_cases h : j = i
    · rw [if_pos h, h, Nat.beq_refl]; rfl
    · rw [if_neg h, show Nat.beq j i = false from Bool.eq_false_iff.2 fun q => h (Nat.eq_of_beq_eq_true q), cond_false, tvF_eq i T]; rfl
noncomputable def stK (K : Caller) (P : Program) (ops : Array Oper) (T : Tab) (i : Nat) (s : St) (k : St → Option St) : Option St := match nth ops.toList i with
  | some o => match tvF T i with
    | none => stepF K P ops o s k
    | some v => match s with | (a, A) => if Region.wanted o (yielded ops a.tmps) then putK a o.dst v fun a => k (a, A) else putK a o.dst undef fun a => k (a, A)
  | none => none
theorem stK_eq (K : Caller) (P : Program) (ops : Array Oper) (T : Tab) (i : Nat) (s : St) (k : St → Option St) : stK K P ops T i s k = (stI K P ops T i s).bind k := by
  unfold stK stI
  rw [nth_eq, Array.getElem?_toList]
  cases ops[i]? with
  | none => rfl
  | some o =>
    simp only [tvF_eq]
    cases tvAt T i with
    | none => simp only [stepF_eq, stepT]
    | some v =>
      obtain ⟨a, A⟩ := s
      simp only [stepT, putK_eq]
      split <;> rfl
noncomputable def exAnyF (st : Nat → St → (St → Option St) → Option St) (ops : Array Oper) (T : Tab) : Nat → Array Bool → St → Option St
  | 0, listed, s => if (Region.ready .any ops listed).isEmpty then some s else none
  | n + 1, listed, s =>
    match Region.ready .any ops listed with
    | [] => some s
    | i :: rest =>
      match (i :: rest).find? (takes ops T listed) with
      | some j => st j s (exAnyF st ops T n (listed.setIfInBounds j true))
      | none =>
        match st i s (exAnyF st ops T n (listed.setIfInBounds i true)) with
        | some F => if rest.all (fun j => match st j s (exAnyF st ops T n (listed.setIfInBounds j true)) with | some G => eqS G F | none => false) then some F else none
        | none => none
theorem exAnyF_ok {K : Caller} {P : Program} {ops : Array Oper} {T : Tab} {F : St} : ∀ (n : Nat) (listed : Array Bool) (s : St), exAnyF (stK K P ops T) ops T n listed s = some F → absAny (stI K P ops T) ops F n listed s
  | 0, listed, s, h => by
    simp only [exAnyF] at h
    split at h
    · rename_i c
      cases h
      exact ⟨by simpa using c, rfl⟩
    · cases h
  | n + 1, listed, s, h => by
    have one : ∀ j G, stK K P ops T j s (exAnyF (stK K P ops T) ops T n (listed.setIfInBounds j true)) = some G → ∃ s', stI K P ops T j s = some s' ∧ exAnyF (stK K P ops T) ops T n (listed.setIfInBounds j true) s' = some G := by
      intro j G hG
      rw [stK_eq] at hG
      cases q : stI K P ops T j s with
      | none => rw [q] at hG; cases hG
      | some s' => rw [q] at hG; exact ⟨s', rfl, hG⟩
    simp only [exAnyF] at h
    split at h
    · rename_i q
      cases h
      exact ⟨fun _ => rfl, fun i hi => by rw [q] at hi; cases hi⟩
    · rename_i i rest q
      split at h
      · rename_i j qj
        have hj : j ∈ Region.ready .any ops listed := by rw [q]; exact List.mem_of_find?_eq_some qj
        have ht : takes ops T listed j = true := by have := List.find?_some qj; exact this
        obtain ⟨s', h1, h2⟩ := one j F h
        exact take_ok ht hj h1 (exAnyF_ok n _ s' h2)
      · rename_i qn
        split at h
        · rename_i F' qF
          split at h
          · rename_i call
            cases h
            refine ⟨fun h0 => (by rw [q] at h0; cases h0), fun k hk => ?_⟩
            rw [q, List.mem_cons] at hk
            rcases hk with rfl | hk
            · obtain ⟨s', h1, h2⟩ := one k F qF; exact ⟨s', h1, exAnyF_ok n _ s' h2⟩
            · have := List.all_eq_true.1 call k hk
              split at this
              · rename_i G qG
                rw [eqS_ok this] at qG
                obtain ⟨s', h1, h2⟩ := one k F qG
                exact ⟨s', h1, exAnyF_ok n _ s' h2⟩
              · cases this
          · cases h
        · cases h
/-- new blocks told ahead, written out -/
noncomputable def preK {α : Type} (P : Program) (ops : Array Oper) (e0 : Operand → Option Value) : List Nat → Tab → Mem → (Tab → Mem → α) → α
  | [], T, A, k => k T A
  | i :: l, T, A, k =>
    match ops[i]? with
    | some o =>
      if isN o.op && steadyB ops o then
        match evN P A.length e0 o with
        | some (v, b) => frc v fun v => frcK b fun b => frcN A.length fun n => catK A [some b] fun A => preK P ops e0 l ((i, v, n) :: T) A k
        | none => preK P ops e0 l T A k
      else preK P ops e0 l T A k
    | none => preK P ops e0 l T A k
theorem preK_eq {α : Type} (P : Program) (ops : Array Oper) (e0 : Operand → Option Value) : ∀ (l : List Nat) (T : Tab) (A : Mem) (k : Tab → Mem → α), preK P ops e0 l T A k = k (pre P ops e0 l T A).1 (pre P ops e0 l T A).2
  | [], T, A, k => rfl
  | i :: l, T, A, k => by
    unfold preK pre
    cases ops[i]? with
    | none => exact preK_eq P ops e0 l T A k
    | some o =>
      by_cases c : (isN o.op && steadyB ops o) = true
      · simp only [if_pos c]
        cases evN P A.length e0 o with
        | none => exact preK_eq P ops e0 l T A k
        | some x =>
          obtain ⟨v, b⟩ := x
          simp only [frc_eq, frcK_eq, frcN_eq, catK_eq]
          exact preK_eq P ops e0 l _ _ k
      · simp only [if_neg c]; exact preK_eq P ops e0 l T A k
noncomputable def evCodeF (K : Caller) (P : Program) (fuel : Nat) : Code → St → Option (Ex × St)
  | .skip, s => some (.normal, s)
  | .label _, s => some (.normal, s)
  | .region _ ops draw, s => if draw then preK P ops (evalF s.1) (List.range ops.size) [] s.2 fun T A => (exAnyF (stK K P ops T) ops T ops.size (Array.replicate ops.size false) (s.1, A)).map (.normal, ·) else (evSeqF K P ops ops.toList s).map (.normal, ·)
  | .seq x y, s => match evCodeF K P fuel x s with | some (.normal, s') => evCodeF K P fuel y s' | r => r
  | .cond c x y, s => match evalF s.1 c with | some (.bool t) => if t then evCodeF K P fuel x s else evCodeF K P fuel y s | _ => none
  | .block id c, s => match evCodeF K P fuel c s with | some (.exit id', s') => if id' = id then some (.normal, s') else some (.exit id', s') | r => r
  | .loop c, s => iter (evCodeF K P fuel c) fuel s
  | .scope c, s => evCodeF K P fuel c s
  | .exit id, s => some (.exit id, s)
  | .ret, s => some (.ret, s)
  | _, _ => none
theorem evCodeF_sound {K : Caller} {P : Program} (hK : KOk P K) (hP : Plain P) (hm : P.follows .mixedOrders = true) {w0 : World} (fuel : Nat) : ∀ (c : Code) (s F : St) (x : Ex), evCodeF K P fuel c s = some (x, F) → ∀ (r : Rho) (a : Act) (w : World), ActRel r s.1 a → Rel P w0 r s.2 w →
    c.wp P (Post P w0 r s.2 x F) a w := by
  intro c
  induction c with
  | skip => intro s F x h r a w ha hr; cases h; exact wp_skip ⟨rfl, r, Rho.le.refl r, ha, hr, Keep.refl r _⟩
  | label l => intro s F x h r a w ha hr; cases h; exact wp_label ⟨rfl, r, Rho.le.refl r, ha, hr, Keep.refl r _⟩
  | exit id => intro s F x h r a w ha hr; cases h; exact wp_exit ⟨rfl, r, Rho.le.refl r, ha, hr, Keep.refl r _⟩
  | ret => intro s F x h r a w ha hr; cases h; exact wp_ret ⟨rfl, r, Rho.le.refl r, ha, hr, Keep.refl r _⟩
  | region id ops draw =>
    intro s F x h r a w ha hr
    simp only [evCodeF] at h
    cases draw with
    | true =>
      rw [if_pos rfl] at h
      rw [preK_eq, evalF_eq] at h
      have p0 : PreOk P ops (evalO s.1) w0 w.drew r.length r [] s.2 := ⟨hr.drew, fun i v p e => (by cases e), fun i j v u p e => (by cases e), Nat.le_refl _⟩
      obtain ⟨z, X, p1, p2⟩ := pre_ok (List.range ops.size) [] s.2 r p0
      generalize (pre P ops (evalO s.1) (List.range ops.size) [] s.2).1 = T at *
      generalize (pre P ops (evalO s.1) (List.range ops.size) [] s.2).2 = A' at *
      cases q : exAnyF (stK K P ops T) ops T ops.size (Array.replicate ops.size false) (s.1, A') with
      | none => rw [q] at h; cases h
      | some G =>
        rw [q] at h
        cases h
        refine wp_region_any hm ?_
        have hle : r.le (r ++ z) := ⟨z, rfl⟩
        refine absT_sound hK hP _ _ (s.1, A') (exAnyF_ok _ _ _ q) (r ++ z) a w.drew (ha.mono hle.wk) p1.rel ⟨hle, fun i v p e => ?_, p1.inj⟩ (by rw [p2]; exact (Keep.refl r s.2).push hr.len X) fun r' a' w' h1 h2 h3 h4 => ⟨rfl, r', h1, h2, h3, h4⟩
        obtain ⟨k1, k2, k3⟩ := p1.tab i v p e
        exact ⟨k1, fun _ => ⟨k2, k3⟩⟩
    | false =>
      rw [if_neg (by decide)] at h
      cases q : evSeqF K P ops ops.toList s with
      | none => rw [q] at h; cases h
      | some G =>
        rw [q] at h
        cases h
        rw [evSeqF_eq] at q
        refine wp_region_list ?_
        exact evSeq_sound hK hP _ s q r a w ha hr fun r' a' w' h1 h2 h3 h4 => ⟨rfl, r', h1, h2, h3, h4⟩
  | seq x y ihx ihy =>
    intro s F e h r a w ha hr
    simp only [evCodeF] at h
    split at h
    · rename_i s' q
      refine wp_seq (wp_mono (ihx s s' .normal q r a w ha hr) ?_)
      rintro e' a' w' ⟨rfl, r', k1, k2, k3, k4⟩
      exact wp_mono (ihy s' F e h r' a' w' k2 k3) fun _ _ _ p => Post.mono k1 k4 p
    · rename_i ne
      refine wp_seq (wp_mono (ihx s F e h r a w ha hr) ?_)
      rintro e' a' w' ⟨rfl, p⟩
      cases e with
      | normal => exact absurd h (ne F)
      | exit id => exact ⟨rfl, p⟩
      | ret => exact ⟨rfl, p⟩
  | cond c x y ihx ihy =>
    intro s F e h r a w ha hr
    simp only [evCodeF, evalF_eq] at h
    split at h
    · rename_i t q
      have hc := (ha.eval q).bool
      refine wp_cond hc ?_
      cases t with
      | true => rw [if_pos rfl] at h ⊢; exact ihx s F e h r a w ha hr
      | false => rw [if_neg (by decide)] at h ⊢; exact ihy s F e h r a w ha hr
    · cases h
  | block id c ih =>
    intro s F e h r a w ha hr
    simp only [evCodeF] at h
    split at h
    · rename_i id' s' q
      split at h
      · rename_i hid
        cases h
        refine wp_block (wp_mono (ih s F (.exit id') q r a w ha hr) ?_)
        rintro e' a' w' ⟨rfl, p⟩
        simp only [Ex.out, Exit.inBlock]
        rw [if_pos hid]
        exact ⟨rfl, p⟩
      · rename_i hid
        cases h
        refine wp_block (wp_mono (ih s F (.exit id') q r a w ha hr) ?_)
        rintro e' a' w' ⟨rfl, p⟩
        simp only [Ex.out, Exit.inBlock]
        rw [if_neg hid]
        exact ⟨rfl, p⟩
    · rename_i ne
      refine wp_block (wp_mono (ih s F e h r a w ha hr) ?_)
      rintro e' a' w' ⟨rfl, p⟩
      cases e with
      | normal => exact ⟨rfl, p⟩
      | exit id' => exact absurd h (ne id' F)
      | ret => exact ⟨rfl, p⟩
  | loop c ih =>
    intro s F e h r a w ha hr
    simp only [evCodeF] at h
    refine wp_loop_n (fun n a w => ∃ r' s', r.le r' ∧ Keep r s.2 s'.2 ∧ ActRel r' s'.1 a ∧ Rel P w0 r' s'.2 w ∧ iter (evCodeF K P fuel c) n s' = some (e, F)) ?_ ⟨r, s, Rho.le.refl r, Keep.refl r _, ha, hr, h⟩
    rintro n a w ⟨r', s', k1, k0, k2, k3, k4⟩
    cases n with
    | zero => cases k4
    | succ n =>
      simp only [iter] at k4
      split at k4
      · rename_i s'' q
        refine wp_mono (ih s' s'' .normal q r' a w k2 k3) ?_
        rintro e' a' w' ⟨rfl, r'', p1, p2, p3, p4⟩
        exact ⟨n, Nat.lt_succ_self n, r'', s'', k1.trans p1, Keep.trans k1 k0 p4, p2, p3, k4⟩
      · rename_i ne
        refine wp_mono (ih s' F e k4 r' a w k2 k3) ?_
        rintro e' a' w' p
        cases e with
        | normal => exact absurd k4 (ne F)
        | exit id => obtain ⟨rfl, p⟩ := p; exact Post.mono k1 k0 ⟨rfl, p⟩
        | ret => obtain ⟨rfl, p⟩ := p; exact Post.mono k1 k0 ⟨rfl, p⟩
  | scope c ih =>
    intro s F e h r a w ha hr
    simp only [evCodeF] at h
    refine wp_scope_straight (wp_mono (ih s F e h r a w ha hr) ?_)
    rintro e' a' w' ⟨rfl, p⟩
    cases e <;> exact ⟨rfl, p⟩
  | _ => intro s F x h; cases h
noncomputable def repK {α : Type} : Nat → (List Value → α) → α
  | 0, k => k []
  | n + 1, k => repK n fun l => k (undef :: l)
theorem repK_eq {α : Type} : ∀ (n : Nat) (k : List Value → α), repK n k = k (List.replicate n undef)
  | 0, k => rfl
  | n + 1, k => by simp only [repK, repK_eq n, List.replicate_succ]
noncomputable def evCallF (P : Program) (kn : Known) (fuel : Nat) : Nat → Caller
  | 0, _, _, _ => none
  | n + 1, f, args, A =>
    match kn f args with
    | some v => some (v, A)
    | none =>
      match nth P.funcs.toList f with
      | some fn =>
        match fn.body with
        | some c =>
          repK (fn.ntmps - args.length) fun l => catK args l fun l =>
          match evCodeF (evCallF P kn fuel n) P fuel c ({ tmps := ⟨l⟩, defers := [] }, A) with
          | some (.ret, s) => (resO P fn s).map (·, s.2)
          | some (.normal, s) => (resO P fn s).map (·, s.2)
          | _ => none
        | none => none
      | none => none
theorem evCallF_sound {P : Program} (hP : Plain P) (hm : P.follows .mixedOrders = true) {kn : Known} (hkn : KnownOk P kn) (fuel : Nat) : ∀ n, KOk P (evCallF P kn fuel n)
  | 0 => fun w0 r A w f args args' v A' h => by cases h
  | n + 1 => by
    intro w0 r A w f args args' v A' h hr hargs
    simp only [evCallF, repK_eq, catK_eq, nth_eq, Array.getElem?_toList] at h
    split at h
    · rename_i u q
      cases h
      obtain ⟨hf, hfa, hc⟩ := hkn f args v q
      have : args' = args := hargs.same (f := flat) (fun _ _ => VRel.same) (List.all_eq_true.2 hfa)
      rw [this]
      exact (hc w).mono fun x w' hx => ⟨r, v, Rho.le.refl r, hx.1, VRel.of_flat r hf, hr.below_step hx.2, Keep.refl r _⟩
    · split at h
      · rename_i fn qf
        split at h
        · rename_i c qc
          have ha : ActRel r { tmps := ⟨args ++ List.replicate (fn.ntmps - args.length) undef⟩, defers := [] } { tmps := ⟨args'⟩ ++ Array.replicate (fn.ntmps - args'.length) undef, defers := [] } := by
            have hl := hargs.1
            refine ⟨rfl, rfl, by simp [hl], fun i u hu => ?_⟩
            simp only [List.getElem?_toArray] at hu ⊢
            rcases Nat.lt_or_ge i args.length with c | c
            · rw [List.getElem?_append_left c] at hu
              rw [Array.getElem?_append_left (by simp; omega)]
              obtain ⟨u', e1, e2⟩ := hargs.2 i u hu
              exact ⟨u', by simpa using e1, e2⟩
            · rw [List.getElem?_append_right c] at hu
              rw [Array.getElem?_append_right (by simp; omega)]
              simp only [List.size_toArray, Array.getElem?_replicate, List.getElem?_replicate] at hu ⊢
              split at hu
              · rename_i d
                cases hu
                exact ⟨undef, by rw [if_pos (by omega)], VRel.undef r⟩
              · cases hu
          have fin : ∀ (x : Ex) (s : St), (x = .ret ∨ x = .normal) → evCodeF (evCallF P kn fuel n) P fuel c ({ tmps := ⟨args ++ List.replicate (fn.ntmps - args.length) undef⟩, defers := [] }, A) = some (x, s) → (resO P fn s).map (·, s.2) = some (v, A') →
              Calls P f ⟨args'⟩ w fun x w' => ∃ r' v', r.le r' ∧ x = .returned v' ∧ VRel r' v v' ∧ Rel P w0 r' A' w' ∧ Keep r A A' := by
            intro x s hx he hres
            cases q : resO P fn s with
            | none => rw [q] at hres; cases hres
            | some u =>
              rw [q] at hres
              cases hres
              refine calls_of_wp qf qc ?_
              have wpc := evCodeF_sound (evCallF_sound hP hm hkn fuel n) hP hm fuel c _ s x he r { tmps := ⟨args'⟩ ++ Array.replicate (fn.ntmps - args'.length) undef, defers := [] } w ha hr
              refine wp_mono wpc ?_
              rintro e a' w' ⟨rfl, r', k1, k2, k3, k4⟩
              obtain ⟨v', g1, g2⟩ := resO_sound k2 k3 q
              rcases hx with rfl | rfl
              · exact ⟨k2.no', v', g1, r', v', k1, rfl, g2, k3, k4⟩
              · exact ⟨k2.no', v', g1, r', v', k1, rfl, g2, k3, k4⟩
          split at h
          · rename_i s q; exact fin .ret s (Or.inl rfl) q h
          · rename_i s q; exact fin .normal s (Or.inr rfl) q h
          · cases h
        · cases h
      · cases h
/-- THE LAW: a call of values without addresses that comes to such a value -/
theorem evaluatedF {P : Program} (hP : Plain P) (hm : P.follows .mixedOrders = true) {kn : Known} (hkn : KnownOk P kn) (fuel n : Nat) {f : FuncId} {args : List Value} {v : Value} (hf : args.all flat = true) (hv : flat v = true)
    (h : ((evCallF P kn fuel n f args []).map (·.1)).any (eq3 v) = true) (w : World) : Calls P f ⟨args⟩ w fun x w' => x = .returned v ∧ Below w.heap.size w w' := by
  cases q : evCallF P kn fuel n f args [] with
  | none => rw [q] at h; cases h
  | some y =>
    obtain ⟨u, A'⟩ := y
    rw [q] at h
    have hu : v = u := eq3_ok (by simpa using h)
    subst hu
    have hl : LR (VRel []) args args := LR.of_all (fun v h => VRel.of_flat [] h) hf
    exact (evCallF_sound hP hm hkn fuel n w [] [] w f args args v A' q (Rel.start P w) hl).mono fun x w' hx => by
      obtain ⟨r', v', _, rfl, k2, k3, _⟩ := hx
      exact ⟨by rw [k2.same hv], k3.below⟩
def plainB (P : Program) : Bool := P.funcs.toList.all fun fn => fn.body.isNone || !(fn.name == "runtime.NumGoroutine")
theorem plain_of {P : Program} (h : plainB P = true) : Plain P := by
  intro f fn hf hb
  have := List.all_eq_true.1 h fn (by simpa using Array.mem_of_getElem? hf)
  rw [Bool.or_eq_true] at this
  rcases this with h | h
  · cases q : fn.body with
    | none => rw [q] at hb; cases hb
    | some c => rw [q] at h; cases h
  · simpa using h
end Go.Proofs.Ytpfgboinjjobpaa
