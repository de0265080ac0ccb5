/-
  OWN TEXT: an evaluator made for the kernel: what is put when a region ends; code.
-/
import Derived.Test.YtgaigfmboomnkaaGreatXwK
namespace Go.Proofs.YtgaigfmboomnkaaGreat
open Go.RowKit
set_option linter.unusedVariables false
set_option linter.unusedSimpArgs false
theorem allR_iff {α : Type} {f : α → Bool} : ∀ {l : List α}, allR l f = true → ∀ x ∈ l, f x = true
  | [], _, x, hx => by cases hx
  | y :: l, h, x, hx => by
    have h' : Bool.rec (motive := fun _ => Bool) false (allR l f) (f y) = true := h
    cases q : f y with
    | false => rw [q] at h'; cases h'
    | true =>
      rw [q] at h'
      rcases List.mem_cons.1 hx with e | e
      · subst e; exact q
      · exact allR_iff h' x e
theorem memN_iff : ∀ (l : List Nat) (t : Nat), memN l t = decide (t ∈ l)
  | [], t => by simp [memN]
  | x :: l, t => by
    simp only [memN]
    rw [beq_iff]
    by_cases c : x = t
    · subst c; simp
    · rw [decide_eq_false c, cond_false, memN_iff l t]
      have : (t ∈ x :: l) = (t ∈ l) := by
        rw [List.mem_cons]
        exact propext ⟨fun h => h.elim (fun e => absurd e.symm c) id, Or.inr⟩
      exact decide_eq_decide.2 (iff_of_eq this.symm)
theorem slotF_inj {kp : List Nat} {t t' i : Nat} (h : slotF t kp 0 = some i) (k : slotF t' kp 0 = some i) : t = t' := by
  have h1 := (slotF_ok h).2
  have h2 := (slotF_ok k).2
  rw [h1] at h2
  exact Option.some.inj h2
theorem putsOf_ok {γ : Type} {kp : List Nat} {n : Nat} : ∀ (env : Env) (seen : List Nat) (k : XP → Option γ) (c : γ), putsOf kp n env seen k = some c →
    ∃ xp : XP, k xp = some c ∧ ∀ (T0 : Tm) (L : Rg) (T1 : Tm), ∃ T2, (∀ c, xp T0 L T1 c = c T2) ∧ (∀ (t i : Nat), slotF t kp 0 = some i → i < 64 → gT i T2 = if t ∈ seen then gT i T1 else match look env t with | some s => s.val n T0 L | none => gT i T1) ∧ ∀ i, i < 64 → (∀ t, slotF t kp 0 ≠ some i) → gT i T2 = gT i T1
  | [], seen, k, c, h => ⟨xPut0, h, fun T0 L T1 => ⟨T1, fun c => rfl, fun t i _ _ => by simp [look], fun _ _ _ => rfl⟩⟩
  | (t, s) :: l, seen, k, c, h => by
    simp only [putsOf] at h
    rw [memN_iff] at h
    by_cases hs : t ∈ seen
    · rw [decide_eq_true hs, cond_true] at h
      obtain ⟨xp, h1, h2⟩ := putsOf_ok l seen k c h
      refine ⟨xp, h1, fun T0 L T1 => ?_⟩
      obtain ⟨T2, k1, k2, k3⟩ := h2 T0 L T1
      refine ⟨T2, k1, fun t' i e1 e2 => ?_, k3⟩
      rw [k2 t' i e1 e2, look_cons]
      by_cases c : t = t'
      · subst c; rw [if_pos hs, if_pos hs]
      · rw [if_neg c]
    · rw [decide_eq_false hs, cond_false] at h
      split at h
      · rename_i m hm
        obtain ⟨hm64, p, hp, h1⟩ := mkP_some h
        obtain ⟨x, h2, hx, _⟩ := rel_val h1
        obtain ⟨xp, h3, h4⟩ := putsOf_ok l (t :: seen) _ c h2
        refine ⟨xPut p x xp, h3, fun T0 L T1 => ?_⟩
        obtain ⟨T2, k1, k2, k3⟩ := h4 T0 L (pT m (x T0 L) T1)
        refine ⟨T2, fun c => ?_, fun t' i e1 e2 => ?_, fun i hi hn => by rw [k3 i hi hn, gT_pT hm64 hi, if_neg (fun e => hn t (by rw [hm, e]))]⟩
        · show p (x T0 L) T1 (fun T => xp T0 L T c) = _
          rw [hp, k1]
        · rw [k2 t' i e1 e2, look_cons]
          by_cases c : t = t'
          · subst c
            rw [hm] at e1
            cases e1
            rw [if_pos (by simp), if_neg hs, if_pos rfl, gT_pT hm64 e2, if_pos rfl, hx]
          · have hne : m ≠ i := fun e => c (slotF_inj hm (e ▸ e1))
            have : (t' ∈ t :: seen) = (t' ∈ seen) := by
              rw [List.mem_cons]
              exact propext ⟨fun h => h.elim (fun e => absurd e.symm c) id, Or.inr⟩
            rw [if_neg c, gT_pT hm64 e2, if_neg hne]
            by_cases d : t' ∈ seen
            · rw [if_pos (this ▸ d), if_pos d]
            · rw [if_neg (fun q => d (this ▸ q)), if_neg d]
      · rename_i hm
        obtain ⟨xp, h1, h2⟩ := putsOf_ok l seen k c h
        refine ⟨xp, h1, fun T0 L T1 => ?_⟩
        obtain ⟨T2, k1, k2, k3⟩ := h2 T0 L T1
        refine ⟨T2, k1, fun t' i e1 e2 => ?_, k3⟩
        rw [k2 t' i e1 e2, look_cons]
        by_cases c : t = t'
        · subst c; rw [hm] at e1; cases e1
        · rw [if_neg c]
/-- kept temporaries are where they are told -/
def TRel (kp : List Nat) (T : Tm) (a : Act) : Prop := ∀ (t i : Nat), slotF t kp 0 = some i → i < 64 → a.tmps[t]? = some (gT i T)
theorem TRel.env {kp : List Nat} {T : Tm} {a : Act} (h : TRel kp T a) (L : Rg) : EnvRel kp [] 0 a T L := ⟨fun t s e => (by cases e), fun t i _ e1 e2 => h t i e1 e2⟩
theorem EnvRel.put {kp : List Nat} {env : Env} {n : Nat} {a : Act} {T T2 : Tm} {L : Rg} (h : EnvRel kp env n a T L) (k : ∀ (t i : Nat), slotF t kp 0 = some i → i < 64 → gT i T2 = if t ∈ ([] : List Nat) then gT i T else match look env t with | some s => s.val n T L | none => gT i T) : TRel kp T2 a := by
  intro t i e1 e2
  rw [k t i e1 e2, if_neg (by simp)]
  cases q : look env t with
  | none => exact h.kept t i q e1 e2
  | some s => exact (h.own t s q).1
/-- a call that was put off, as a value -/
def encD (d : Deferred) : Value := match d.target with | .fn g c => .func g d.args c | _ => undef
/-- the calls that were put off lie in the last place -/
def DT (T : Tm) (a : Act) : Prop := gT 63 T = .tuple ⟨a.defers.map encD⟩
/-- how it ends, whatever goes on from there -/
def Ends (c : XC) (C : KP) (n : Nat) (T : Tm) (M : Me) (x : Ex) (T' : Tm) (M' : Me) : Prop := ∀ (H : Tm → Value → Me → Out) (kn : KS) (ke : Nat → KS) (kr : KS), c (frK C H) n T M kn ke kr = match x with | .normal => kn T' M' | .exit id => ke id T' M' | .ret => kr T' M' | .pan v => H T' v M'
structure Step (P : Program) (rt kp : List Nat) (nt : Nat) (C : KP) (n : Nat) (c : XC) (code : Code) (T : Tm) (M : Me) (a : Act) (x : Ex) (T' : Tm) (M' : Me) (a' : Act) : Prop where
  can : Can M'
  ends : Ends c C n T M x T' M'
  size : a'.tmps.size = nt
  no : DT T' a'
  rel : TRel kp T' a'
  wp : ∀ (w0 : World) (r : Rho) (aw : Act) (w : World), ActRel r a aw → Rel P w0 r (toMem M) w → code.wp P (Post rt P w0 r (toMem M) x (a', toMem M')) aw w
def CodeOk (P : Program) (Ks Kp : Caller) (rt kp : List Nat) (nt : Nat) (c : XC) (code : Code) : Prop := ∀ (C : KP) (H : Tm → Value → Me → Out) (n : Nat) (T : Tm) (M : Me) (kn : KS) (ke : Nat → KS) (kr : KS) (out : Value × Me) (a : Act), CGood C Ks Kp → Can M → a.tmps.size = nt → DT T a → TRel kp T a → c (frK C H) n T M kn ke kr = some out →
  ∃ x T' M' a', Step P rt kp nt C n c code T M a x T' M' a'
def RegOk (P : Program) (Ks Kp : Caller) (rt kp : List Nat) (nt : Nat) (xr : XR) (env : Env) (n : Nat) (code : Code) : Prop := ∀ (C : KP) (H : Tm → Value → Me → Out) (T : Tm) (M : Me) (k : Me → Rg → Out) (out : Value × Me) (a : Act), CGood C Ks Kp → Can M → a.tmps.size = nt → TRel kp T a → xr (frK C H) T M r0 k = some out →
  (∃ M' L' a', Can M' ∧ (∀ H k, xr (frK C H) T M r0 k = k M' L') ∧ a'.tmps.size = nt ∧ a'.defers = a.defers ∧ EnvRel kp env n a' T L' ∧
    ∀ (w0 : World) (r : Rho) (aw : Act) (w : World), ActRel r a aw → Rel P w0 r (toMem M) w → code.wp P (Post rt P w0 r (toMem M) .normal (a', toMem M')) aw w) ∨
  ∃ pv M', Can M' ∧ (∀ (H : Tm → Value → Me → Out) k, xr (frK C H) T M r0 k = H T pv M') ∧
    ∀ (w0 : World) (r : Rho) (aw : Act) (w : World), ActRel r a aw → Rel P w0 r (toMem M) w → code.wp P (Post rt P w0 r (toMem M) (.pan pv) (a, toMem M')) aw w
theorem safe_dst {rt : List Nat} {l : List Oper} (h : safeR rt l = true) : ∀ o ∈ l, ∀ t ∈ rt, o.dst ≠ some t := by
  intro o ho t ht e
  have := allR_iff h o ho
  simp only [e, memN_iff, Bool.not_eq_true', decide_eq_false_iff_not] at this
  exact this ht
section
variable {P : Program} {Ks Kp : Caller} {rt kp : List Nat} {nt : Nat}
theorem seq_reg {ex : Xn} (hex : XnOk P ex) (hB : KBody P Ks) (hB2 : KBody P Kp) (hK0 : KOk P Ks) (hK2 : KpOk P Kp) (hP : Plain P) (hkp : kp.length ≤ 64) {ops : Array Oper} (hq : quiet ops.toList = true ∨ safeR rt ops.toList = true) {xr : XR} {env : Env} {n id : Nat} (h : trSeq P ex kp nt ops ops.toList [] 0 = some (xr, env, n)) : RegOk P Ks Kp rt kp nt xr env n (.region id ops false) := by
  intro C H T M k out a hK hM hn hT hk
  rcases trSeq_ok hex hB hB2 hkp _ _ _ _ _ _ h C H T M r0 k out a hK hM hn (hT.env r0) hk with ⟨M', L', a', k1, k2, k3, k4, k5, k6⟩ | ⟨pv, M', k1, k2, k3⟩
  · refine Or.inl ⟨M', L', a', k1, k2, k4, k5, k6, fun w0 r aw w ha hr => ?_⟩
    exact wp_region_list (evSeq_sound hK0 hP _ _ k3 r aw w ha hr fun r' a2 w' h1 h2 h3 h4 => ⟨rfl, r', h1, h2, h3, h4⟩)
  · refine Or.inr ⟨pv, M', k1, k2, fun w0 r aw w ha hr => ?_⟩
    rcases hq with hq | hq
    · exact (quiet_pan _ _ (fun o ho => allR_iff hq o ho) k3).elim
    · exact wp_region_list (panSeq_sound (rt := rt) hK0 hK2 hP _ _ k3 (safe_dst hq) r aw w ha hr fun r' s1 a2 w' h1 h2 h3 h4 h5 h6 => ⟨rfl, r', h1, ⟨s1, h2, h3, h4⟩, h5, h6⟩)
theorem slot63 (hkp : kp.length ≤ 63) (t : Nat) : slotF t kp 0 ≠ some 63 := fun h => by
  have := (slotF_ok h).2
  rw [List.getElem?_eq_none (by omega)] at this
  cases this
theorem reg_code (hkp : kp.length ≤ 63) {xr : XR} {env : Env} {n : Nat} {code : Code} {c : XC} (h : RegOk P Ks Kp rt kp nt xr env n code) (hp : putsOf kp n env [] (fun r => some (cReg xr r)) = some c) : CodeOk P Ks Kp rt kp nt c code := by
  obtain ⟨xp, h1, h2⟩ := putsOf_ok env [] _ c hp
  cases h1
  intro C H m T M kn ke kr out a hK hM hn hd hT hk
  have hk' : xr (frK C H) T M r0 (fun M L => xp T L T fun T => kn T M) = some out := hk
  rcases h C H T M _ out a hK hM hn hT hk' with ⟨M', L', a', k1, k2, k4, k5, k6, k7⟩ | ⟨pv, M', k1, k2, k3⟩
  · obtain ⟨T2, e1, e2, e3⟩ := h2 T L' T
    refine ⟨.normal, T2, M', a', k1, fun H kn ke kr => ?_, k4, ?_, k6.put e2, k7⟩
    · show xr (frK C H) T M r0 (fun M L => xp T L T fun T => kn T M) = _
      rw [k2, e1]
    · unfold DT at hd ⊢
      rw [k5, e3 63 (by decide) (slot63 hkp)]
      exact hd
  · exact ⟨.pan pv, T, M', a, k1, fun H kn ke kr => k2 _ _, hn, hd, hT, k3⟩
theorem evSeq_more (hK : KOk P Ks) (hP : Plain P) {ops : Array Oper} {w0 : World} {Q : Exit → Act → World → Prop} {F : St} (more : List Oper) : ∀ (l : List Oper) (s : St), evSeq Ks P ops l s = some F → ∀ (r : Rho) (a : Act) (w : World), ActRel r s.1 a → Rel P w0 r s.2 w →
    (∀ r' a' w', r.le r' → ActRel r' F.1 a' → Rel P w0 r' F.2 w' → Keep r s.2 F.2 → wpList P ops Q more a' w') → wpList P ops Q (l ++ more) a w
  | [], s, h, r, a, w, ha, hr, hQ => by cases h; exact hQ r a w (Rho.le.refl r) ha hr (Keep.refl r _)
  | o :: rest, s, h, r, a, w, ha, hr, hQ => by
    simp only [evSeq] at h
    split at h
    · rename_i s' q
      rw [List.cons_append]
      unfold wpList
      exact stepA_sound hK hP q ha hr fun r' a' w' h1 h2 h3 h4 => evSeq_more hK hP more rest s' h r' a' w' h2 h3 fun r'' a'' w'' k1 k2 k3 k4 => hQ r'' a'' w'' (h1.trans k1) k2 k3 (Keep.trans h1 h4 k4)
    · cases h
theorem splitD_ok : ∀ {l p : List Oper} {d : Oper}, splitD l = some (p, d) → l = p ++ [d]
  | [], p, d, h => by cases h
  | o :: l, p, d, h => by
    simp only [splitD] at h
    split at h
    · rename_i p' d' q
      cases h
      rw [splitD_ok q]; rfl
    · split at h
      · cases h; rfl
      · cases h
theorem pushD_some {f : Value} {args : List Value} {T : Tm} {k : Tm → Out} {out : Value × Me} (h : pushD f args T k = some out) : ∃ g c l, f = .func (.func g) #[] ⟨c⟩ ∧ gT 63 T = .tuple ⟨l⟩ ∧ ∀ k, pushD f args T k = k (pT 63 (.tuple ⟨.func (.func g) ⟨args⟩ ⟨c⟩ :: l⟩) T) := by
  unfold pushD at h
  split at h
  · rename_i g c
    split at h
    · rename_i l q
      obtain ⟨c⟩ := c
      refine ⟨g, c, l, rfl, q, fun k => ?_⟩
      unfold pushD
      rw [q]
      rfl
    · cases h
  · cases h
theorem VRel.inv_fn {r : Rho} {g : FuncId} {c : List Value} {v' : Value} (h : VRel r (.func (.func g) #[] ⟨c⟩) v') : ∃ c', v' = .func (.func g) #[] ⟨c'⟩ ∧ LR (VRel r) c c' := by
  cases h with
  | one h => cases h with
    | one h => cases h with
      | fn e => exact ⟨_, rfl, e.mono fun v v' k => by
          cases k with
          | flat f => exact .one (.one (.flat f))
          | ptr f => exact .one (.one (.ptr f))⟩
      | flat f =>
        simp [flat1] at f
        subst f
        exact ⟨[], rfl, rfl, fun i v e => by simp at e⟩
theorem def_code {ex : Xn} (hex : XnOk P ex) (hB : KBody P Ks) (hB2 : KBody P Kp) (hK0 : KOk P Ks) (hP : Plain P) (hkp : kp.length ≤ 63) {ops : Array Oper} {l : List Oper} {o : Oper} {c : XC} {id : Nat} (hs : splitD ops.toList = some (l, o)) (h : trDef P ex kp nt ops l o = some c) : CodeOk P Ks Kp rt kp nt c (.region id ops false) := by
  unfold trDef at h
  split at h
  · rename_i xr env n q0
    obtain ⟨hqu, q⟩ : quiet l = true ∧ trSeq P ex kp nt ops l [] 0 = some (xr, env, n) := by
      cases z : quiet l with
      | false => rw [z] at q0; cases q0
      | true => rw [z] at q0; exact ⟨rfl, q0⟩
    split at h
    · rename_i f args ts hop hg hdst
      split at h
      · rename_i x xs hx hxs
        obtain ⟨xp, h1, h2⟩ := putsOf_ok env [] _ c h
        cases h1
        intro C H m T M kn ke kr out a hK hM hn hd hT hk
        have hk' : xr (frK C H) T M r0 (fun M L => xp T L T fun T' => pushD (x T L) (xs.map fun y => y T L) T' fun T' => kn T' M) = some out := hk
        rcases trSeq_ok hex hB hB2 (by omega) _ _ _ _ _ _ q C H T M r0 _ out a hK hM hn (hT.env r0) hk' with ⟨M', L', a', k1, k2, k3, k4, k5, k6⟩ | ⟨pv, M', k1, k2, k3⟩
        case inr => exact (quiet_pan _ _ (fun o ho => allR_iff hqu o ho) k3).elim
        rw [k2] at hk'
        obtain ⟨T2, e1, e2, e3⟩ := h2 T L' T
        rw [e1] at hk'
        obtain ⟨g, cc, ll, p1, p2, p3⟩ := pushD_some hk'
        have hf := k6.fits _ _ hx
        have hargs := resO2_some hxs k6.fits
        have h63 : gT 63 T2 = gT 63 T := e3 63 (by decide) (slot63 hkp)
        have hll : ll = a.defers.map encD := by
          unfold DT at hd
          rw [h63, hd] at p2
          injection p2 with p2
          injection p2 with p2
          exact p2.symm
        let dd : Deferred := ⟨.fn (.func g) ⟨cc⟩, ⟨xs.map fun y => y T L'⟩⟩
        refine ⟨.normal, pT 63 (.tuple ⟨.func (.func g) ⟨xs.map fun y => y T L'⟩ ⟨cc⟩ :: ll⟩) T2, M', { a' with defers := dd :: a'.defers }, k1, fun H kn ke kr => ?_, k4, ?_, ?_, fun w0 r aw w ha hr => ?_⟩
        · show xr (frK C H) T M r0 (fun M L => xp T L T fun T' => pushD (x T L) (xs.map fun y => y T L) T' fun T' => kn T' M) = _
          rw [k2, e1, p3]
        · unfold DT
          rw [gT_pT (by decide) (by decide), if_pos rfl, hll]
          show _ = Value.tuple ⟨(dd :: a'.defers).map encD⟩
          rw [k5]
          rfl
        · have := k6.put e2
          intro t i s1 s2
          rw [gT_pT (by decide) s2, if_neg (fun (e : 63 = i) => slot63 hkp t (by rw [e]; exact s1))]
          exact this t i s1 s2
        · have hol := splitD_ok hs
          refine wp_region_list ?_
          rw [hol]
          refine evSeq_more hK0 hP [o] l _ k3 r aw w ha hr fun r' a2 w' j1 j2 j3 j4 => ?_
          unfold wpList
          have hw : Region.wanted o (yielded ops a2.tmps) = true := by unfold Region.wanted; rw [hg]
          rw [if_pos hw]
          obtain ⟨c', v1, v2⟩ := VRel.inv_fn (p1 ▸ j2.eval hf)
          refine Or.inl ?_
          have hrun : (execOp a2.eval o).run P w' = .ok (.defer ⟨.fn (.func g) ⟨c'⟩, #[] ++ args.map a2.eval⟩) w' := by
            simp [execOp, hop, resolve, v1, Deferred.ofValue]
          have hu : o.wp P a2 w' (wpList P ops (Post rt P w0 r (toMem M) .normal ({ a' with defers := dd :: a'.defers }, toMem M')) []) (Post rt P w0 r (toMem M) .normal ({ a' with defers := dd :: a'.defers }, toMem M')) = (wpList P ops (Post rt P w0 r (toMem M) .normal ({ a' with defers := dd :: a'.defers }, toMem M')) []) ({ a2 with defers := ⟨.fn (.func g) ⟨c'⟩, #[] ++ args.map a2.eval⟩ :: a2.defers }.put o.dst undef) w' := by
            unfold Oper.wp
            rw [hrun]
            exact Oper.upon_defer P o a2 _ _ w' _
          rw [hu, hdst]
          have hl : LR (VRel r') (xs.map fun y => y T L') (args.toList.map a2.eval) := argsO_rel _ _ hargs fun y _ v hv => j2.eval hv
          have hd2 : DR r' (dd :: a'.defers) (⟨.fn (.func g) ⟨c'⟩, #[] ++ args.map a2.eval⟩ :: a2.defers) := by
            have e : (#[] ++ args.map a2.eval : Array Value) = ⟨args.toList.map a2.eval⟩ := by apply Array.ext'; simp
            rw [e]
            exact .cons hl v2 j2.no
          exact ⟨rfl, r', j1, ⟨j2.ro, hd2, j2.size, j2.tmp⟩, j3, j4⟩
      · cases h
    · cases h
  · cases h
theorem bad_ok (code : Code) : CodeOk P Ks Kp rt kp nt cBad code := fun C H n T M kn ke kr out a hK hM hn hd hT hk => by cases hk
theorem skip_ok : CodeOk P Ks Kp rt kp nt cSkip .skip := fun C H n T M kn ke kr out a hK hM hn hd hT hk => ⟨.normal, T, M, a, hM, fun _ _ _ _ => rfl, hn, hd, hT, fun w0 r aw w ha hr => wp_skip ⟨rfl, r, Rho.le.refl r, ha, hr, Keep.refl r _⟩⟩
theorem label_ok (l : Nat) : CodeOk P Ks Kp rt kp nt cSkip (.label l) := fun C H n T M kn ke kr out a hK hM hn hd hT hk => ⟨.normal, T, M, a, hM, fun _ _ _ _ => rfl, hn, hd, hT, fun w0 r aw w ha hr => wp_label ⟨rfl, r, Rho.le.refl r, ha, hr, Keep.refl r _⟩⟩
theorem exit_ok (id : Nat) : CodeOk P Ks Kp rt kp nt (cExit id) (.exit id) := fun C H n T M kn ke kr out a hK hM hn hd hT hk => ⟨.exit id, T, M, a, hM, fun _ _ _ _ => rfl, hn, hd, hT, fun w0 r aw w ha hr => wp_exit ⟨rfl, r, Rho.le.refl r, ha, hr, Keep.refl r _⟩⟩
theorem ret_ok : CodeOk P Ks Kp rt kp nt cRet .ret := fun C H n T M kn ke kr out a hK hM hn hd hT hk => ⟨.ret, T, M, a, hM, fun _ _ _ _ => rfl, hn, hd, hT, fun w0 r aw w ha hr => wp_ret ⟨rfl, r, Rho.le.refl r, ha, hr, Keep.refl r _⟩⟩
theorem seq_ok {x y : XC} {a b : Code} (hx : CodeOk P Ks Kp rt kp nt x a) (hy : CodeOk P Ks Kp rt kp nt y b) : CodeOk P Ks Kp rt kp nt (cSeq x y) (.seq a b) := by
  intro C H n T M kn ke kr out ac hK hM hn hd hT hk
  have hk' : x (frK C H) n T M (fun T M => y (frK C H) n T M kn ke kr) ke kr = some out := hk
  obtain ⟨e, T1, M1, a1, s1⟩ := hx C H n T M _ _ _ out ac hK hM hn hd hT hk'
  rw [s1.ends] at hk'
  cases e with
  | normal =>
    obtain ⟨e2, T2, M2, a2, s2⟩ := hy C H n T1 M1 _ _ _ out a1 hK s1.can s1.size s1.no s1.rel hk'
    refine ⟨e2, T2, M2, a2, s2.can, fun H kn ke kr => ?_, s2.size, s2.no, s2.rel, fun w0 r aw w ha hr => ?_⟩
    · show x (frK C H) n T M (fun T M => y (frK C H) n T M kn ke kr) ke kr = _
      rw [s1.ends]
      exact s2.ends H kn ke kr
    · refine wp_seq (wp_mono (s1.wp w0 r aw w ha hr) ?_)
      rintro e' a' w' ⟨rfl, r', k1, k2, k3, k4⟩
      exact wp_mono (s2.wp w0 r' a' w' k2 k3) fun _ _ _ p => Post.mono k1 k4 p
  | exit id =>
    refine ⟨.exit id, T1, M1, a1, s1.can, fun H kn ke kr => s1.ends H _ ke kr, s1.size, s1.no, s1.rel, fun w0 r aw w ha hr => ?_⟩
    refine wp_seq (wp_mono (s1.wp w0 r aw w ha hr) ?_)
    rintro e' a' w' ⟨rfl, p⟩
    exact ⟨rfl, p⟩
  | ret =>
    refine ⟨.ret, T1, M1, a1, s1.can, fun H kn ke kr => s1.ends H _ ke kr, s1.size, s1.no, s1.rel, fun w0 r aw w ha hr => ?_⟩
    refine wp_seq (wp_mono (s1.wp w0 r aw w ha hr) ?_)
    rintro e' a' w' ⟨rfl, p⟩
    exact ⟨rfl, p⟩
  | pan pv =>
    refine ⟨.pan pv, T1, M1, a1, s1.can, fun H kn ke kr => s1.ends H _ ke kr, s1.size, s1.no, s1.rel, fun w0 r aw w ha hr => ?_⟩
    refine wp_seq (wp_mono (s1.wp w0 r aw w ha hr) ?_)
    rintro e' a' w' ⟨rfl, p⟩
    exact ⟨rfl, p⟩
theorem if_ok {x : Operand} {sc : Sc} (hs : relO kp [] 0 x = some sc) {y z : XC} {a b : Code} (hy : CodeOk P Ks Kp rt kp nt y a) (hz : CodeOk P Ks Kp rt kp nt z b) : CodeOk P Ks Kp rt kp nt (cIf sc y z) (.cond x a b) := by
  intro C H n T M kn ke kr out ac hK hM hn hd hT hk
  have hk' : asB (sc T r0) (fun t => Bool.rec (motive := fun _ => Out) (z (frK C H) n T M kn ke kr) (y (frK C H) n T M kn ke kr) t) = some out := hk
  obtain ⟨t, et, hk1⟩ := asB_some hk'
  have ev := (hT.env r0).fits _ _ hs
  rw [et] at ev
  have key : ∀ (H : Tm → Value → Me → Out) kn ke kr, cIf sc y z (frK C H) n T M kn ke kr = Bool.rec (motive := fun _ => Out) (z (frK C H) n T M kn ke kr) (y (frK C H) n T M kn ke kr) t := fun H kn ke kr => by
    show asB (sc T r0) (fun t => Bool.rec (motive := fun _ => Out) (z (frK C H) n T M kn ke kr) (y (frK C H) n T M kn ke kr) t) = _
    rw [et]; rfl
  cases t with
  | true =>
    obtain ⟨e, T1, M1, a1, s1⟩ := hy C H n T M _ _ _ out ac hK hM hn hd hT hk1
    refine ⟨e, T1, M1, a1, s1.can, fun H kn ke kr => by rw [key]; exact s1.ends H kn ke kr, s1.size, s1.no, s1.rel, fun w0 r aw w ha hr => ?_⟩
    refine wp_cond (ha.eval ev).bool ?_
    rw [if_pos rfl]
    exact s1.wp w0 r aw w ha hr
  | false =>
    obtain ⟨e, T1, M1, a1, s1⟩ := hz C H n T M _ _ _ out ac hK hM hn hd hT hk1
    refine ⟨e, T1, M1, a1, s1.can, fun H kn ke kr => by rw [key]; exact s1.ends H kn ke kr, s1.size, s1.no, s1.rel, fun w0 r aw w ha hr => ?_⟩
    refine wp_cond (ha.eval ev).bool ?_
    rw [if_neg (by decide)]
    exact s1.wp w0 r aw w ha hr
theorem block_ok (id : Nat) {x : XC} {a : Code} (hx : CodeOk P Ks Kp rt kp nt x a) : CodeOk P Ks Kp rt kp nt (cBlock id x) (.block id a) := by
  intro C H n T M kn ke kr out ac hK hM hn hd hT hk
  have hk' : x (frK C H) n T M kn (fun i T M => Bool.rec (motive := fun _ => Out) (ke i T M) (kn T M) (Nat.beq i id)) kr = some out := hk
  obtain ⟨e, T1, M1, a1, s1⟩ := hx C H n T M _ _ _ out ac hK hM hn hd hT hk'
  have key : ∀ (H : Tm → Value → Me → Out) kn ke kr, cBlock id x (frK C H) n T M kn ke kr = _ := fun H kn ke kr => s1.ends H kn (fun i T M => Bool.rec (motive := fun _ => Out) (ke i T M) (kn T M) (Nat.beq i id)) kr
  cases e with
  | normal =>
    refine ⟨.normal, T1, M1, a1, s1.can, key, s1.size, s1.no, s1.rel, fun w0 r aw w ha hr => ?_⟩
    refine wp_block (wp_mono (s1.wp w0 r aw w ha hr) ?_)
    rintro e' a' w' ⟨rfl, p⟩
    exact ⟨rfl, p⟩
  | exit i =>
    by_cases c : i = id
    · refine ⟨.normal, T1, M1, a1, s1.can, fun H kn ke kr => by rw [key]; show Bool.rec (motive := fun _ => Out) (ke i T1 M1) (kn T1 M1) (Nat.beq i id) = _; rw [beq_iff, decide_eq_true c], s1.size, s1.no, s1.rel, fun w0 r aw w ha hr => ?_⟩
      refine wp_block (wp_mono (s1.wp w0 r aw w ha hr) ?_)
      rintro e' a' w' ⟨rfl, p⟩
      simp only [Ex.out, Exit.inBlock]
      rw [if_pos c]
      exact ⟨rfl, p⟩
    · refine ⟨.exit i, T1, M1, a1, s1.can, fun H kn ke kr => by rw [key]; show Bool.rec (motive := fun _ => Out) (ke i T1 M1) (kn T1 M1) (Nat.beq i id) = _; rw [beq_iff, decide_eq_false c], s1.size, s1.no, s1.rel, fun w0 r aw w ha hr => ?_⟩
      refine wp_block (wp_mono (s1.wp w0 r aw w ha hr) ?_)
      rintro e' a' w' ⟨rfl, p⟩
      simp only [Ex.out, Exit.inBlock]
      rw [if_neg c]
      exact ⟨rfl, p⟩
  | ret =>
    refine ⟨.ret, T1, M1, a1, s1.can, key, s1.size, s1.no, s1.rel, fun w0 r aw w ha hr => ?_⟩
    refine wp_block (wp_mono (s1.wp w0 r aw w ha hr) ?_)
    rintro e' a' w' ⟨rfl, p⟩
    exact ⟨rfl, p⟩
  | pan pv =>
    refine ⟨.pan pv, T1, M1, a1, s1.can, key, s1.size, s1.no, s1.rel, fun w0 r aw w ha hr => ?_⟩
    refine wp_block (wp_mono (s1.wp w0 r aw w ha hr) ?_)
    rintro e' a' w' ⟨rfl, p⟩
    exact ⟨rfl, p⟩
theorem scope_ok {x : XC} {a : Code} (hx : CodeOk P Ks Kp rt kp nt x a) : CodeOk P Ks Kp rt kp nt x (.scope a) := by
  intro C H n T M kn ke kr out ac hK hM hn hd hT hk
  obtain ⟨e, T1, M1, a1, s1⟩ := hx C H n T M _ _ _ out ac hK hM hn hd hT hk
  refine ⟨e, T1, M1, a1, s1.can, s1.ends, s1.size, s1.no, s1.rel, fun w0 r aw w ha hr => ?_⟩
  refine wp_scope_straight (wp_mono (s1.wp w0 r aw w ha hr) ?_)
  rintro e' a' w' ⟨rfl, p⟩
  cases e <;> exact ⟨rfl, p⟩
/-- so many rounds of a loop -/
def Rounds (P : Program) (rt kp : List Nat) (nt : Nat) (C : KP) (n : Nat) (c : XC) (code : Code) (x : Ex) (T' : Tm) (M' : Me) (a' : Act) : Nat → Tm → Me → Act → Prop
  | 0, _, _, _ => False
  | m + 1, T, M, a => (∃ T1 M1 a1, Step P rt kp nt C n c code T M a .normal T1 M1 a1 ∧ Rounds P rt kp nt C n c code x T' M' a' m T1 M1 a1) ∨ (x ≠ .normal ∧ Step P rt kp nt C n c code T M a x T' M' a')
theorem rounds_of {c : XC} {code : Code} (hc : CodeOk P Ks Kp rt kp nt c code) {C : KP} {H : Tm → Value → Me → Out} {n : Nat} (hK : CGood C Ks Kp) : ∀ (m : Nat) (T : Tm) (M : Me) (ke : Nat → KS) (kr : KS) (out : Value × Me) (a : Act), Can M → a.tmps.size = nt → DT T a → TRel kp T a → xloop m (fun T M kn => c (frK C H) n T M kn ke kr) T M = some out →
    ∃ x T' M' a', x ≠ .normal ∧ Rounds P rt kp nt C n c code x T' M' a' m T M a ∧ Can M' ∧ a'.tmps.size = nt ∧ DT T' a' ∧ TRel kp T' a' ∧ ∀ (H : Tm → Value → Me → Out) ke kr, xloop m (fun T M kn => c (frK C H) n T M kn ke kr) T M = match x with | .normal => none | .exit id => ke id T' M' | .ret => kr T' M' | .pan v => H T' v M'
  | 0, T, M, ke, kr, out, a, _, _, _, _, h => by cases h
  | m + 1, T, M, ke, kr, out, a, hM, hn, hd, hT, h => by
    have h' : c (frK C H) n T M (xloop m fun T M kn => c (frK C H) n T M kn ke kr) ke kr = some out := h
    obtain ⟨e, T1, M1, a1, s1⟩ := hc C H n T M _ _ _ out a hK hM hn hd hT h'
    rw [s1.ends] at h'
    have key : ∀ (H : Tm → Value → Me → Out) ke kr, xloop (m + 1) (fun T M kn => c (frK C H) n T M kn ke kr) T M = _ := fun H ke kr => s1.ends H (xloop m fun T M kn => c (frK C H) n T M kn ke kr) ke kr
    cases e with
    | normal =>
      obtain ⟨x, T', M', a', k1, k2, k3, k4, k5, k6, k7⟩ := rounds_of hc hK m T1 M1 ke kr out a1 s1.can s1.size s1.no s1.rel h'
      exact ⟨x, T', M', a', k1, Or.inl ⟨T1, M1, a1, s1, k2⟩, k3, k4, k5, k6, fun H ke kr => by rw [key]; exact k7 H ke kr⟩
    | exit id => exact ⟨.exit id, T1, M1, a1, (fun q => by cases q), Or.inr ⟨(fun q => by cases q), s1⟩, s1.can, s1.size, s1.no, s1.rel, fun H ke kr => by rw [key]⟩
    | ret => exact ⟨.ret, T1, M1, a1, (fun q => by cases q), Or.inr ⟨(fun q => by cases q), s1⟩, s1.can, s1.size, s1.no, s1.rel, fun H ke kr => by rw [key]⟩
    | pan pv => exact ⟨.pan pv, T1, M1, a1, (fun q => by cases q), Or.inr ⟨(fun q => by cases q), s1⟩, s1.can, s1.size, s1.no, s1.rel, fun H ke kr => by rw [key]⟩
theorem loop_ok {x : XC} {a : Code} (hx : CodeOk P Ks Kp rt kp nt x a) : CodeOk P Ks Kp rt kp nt (cLoop x) (.loop a) := by
  intro C H n T M kn ke kr out ac hK hM hn hd hT hk
  obtain ⟨e, T', M', a', k1, k2, k3, k4, k5, k6, k7⟩ := rounds_of hx hK n T M ke kr out ac hM hn hd hT hk
  refine ⟨e, T', M', a', k3, fun H kn ke kr => ?_, k4, k5, k6, fun w0 r aw w ha hr => ?_⟩
  · have := k7 H ke kr
    cases e with
    | normal => exact absurd rfl k1
    | exit id => exact this
    | ret => exact this
    | pan v => exact this
  · refine wp_loop_n (fun m a w => ∃ r' T1 M1 a1, r.le r' ∧ Keep r (toMem M) (toMem M1) ∧ ActRel r' a1 a ∧ Rel P w0 r' (toMem M1) w ∧ Rounds P rt kp nt C n x _ e T' M' a' m T1 M1 a1) ?_ ⟨r, T, M, ac, Rho.le.refl r, Keep.refl r _, ha, hr, k2⟩
    rintro m a2 w2 ⟨r', T1, M1, a1, j1, j2, j3, j4, j5⟩
    cases m with
    | zero => exact j5.elim
    | succ m =>
      rcases j5 with ⟨T3, M3, a3, s, j5⟩ | ⟨_, s⟩
      · refine wp_mono (s.wp w0 r' a2 w2 j3 j4) ?_
        rintro e' a4 w4 ⟨rfl, r'', p1, p2, p3, p4⟩
        exact ⟨m, Nat.lt_succ_self m, r'', T3, M3, a3, j1.trans p1, Keep.trans j1 j2 p4, p2, p3, j5⟩
      · refine wp_mono (s.wp w0 r' a2 w2 j3 j4) ?_
        rintro e' a4 w4 p
        cases e with
        | normal => exact absurd rfl k1
        | exit id => obtain ⟨rfl, p⟩ := p; exact Post.mono j1 j2 ⟨rfl, p⟩
        | ret => obtain ⟨rfl, p⟩ := p; exact Post.mono j1 j2 ⟨rfl, p⟩
        | pan v => obtain ⟨rfl, p⟩ := p; exact Post.mono j1 j2 ⟨rfl, p⟩
end
end Go.Proofs.YtgaigfmboomnkaaGreat
