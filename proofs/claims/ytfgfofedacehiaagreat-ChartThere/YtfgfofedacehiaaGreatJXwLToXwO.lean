/-
 OWN TEXT: an evaluator made for the kernel: what is put when a region ends; code.
-/
import Derived.Test.YtfgfofedacehiaaGreatJXwJToXwK
namespace Go.Proofs.YtfgfofedacehiaaGreat
open Go.RowKit
set_option linter.unusedVariables false
set_option linter.unusedSimpArgs false
theorem allR_iff {α : Type} {f : α → Bool} : ∀ {l : List α}, allR l f = true → ∀ x ∈ l, f x = true
 | [], _, x, hx => by cases hx
 | y :: l, h, x, hx => by
  have h' : Bool.rec (motive := fun _ => Bool) false (allR l f) (f y) = true := h
  cases q : f y with
  | false => rw [q] at h'; cases h'
  | true =>
   rw [q] at h'
   rcases List.mem_cons.1 hx with e | e
   · subst e; exact q
   · exact allR_iff h' x e
theorem memN_iff : ∀ (l : List Nat) (t : Nat), memN l t = decide (t ∈ l)
 | [], t => by simp [memN]
 | x :: l, t => by
  simp only [memN]
  rw [beq_iff]
  by_cases c : x = t
  · subst c; simp
  ·
   rw [decide_eq_false c, cond_false, memN_iff l t]
   have : (t ∈ x :: l) = (t ∈ l) := by
    rw [List.mem_cons]
    exact propext ⟨fun h => h.elim (fun e => absurd e.symm c) id, Or.inr⟩
   exact decide_eq_decide.2 (iff_of_eq this.symm)
theorem slotF_inj {kp : List Nat} {t t' i : Nat} (h : slotF t kp 0 = some i) (k : slotF t' kp 0 = some i) : t = t' := by
 have h1 := (slotF_ok h).2
 have h2 := (slotF_ok k).2
 rw [h1] at h2
 exact Option.some.inj h2
theorem putsOf_ok {γ : Type} {kp : List Nat} {n : Nat} : ∀ (env : Env) (seen : List Nat) (k : XP → Option γ) (c : γ), putsOf kp n env seen k = some c →
  ∃ xp : XP, k xp = some c ∧ ∀ (T0 : Tm) (L : Rg) (T1 : Tm), ∃ T2, (∀ c, xp T0 L T1 c = c T2) ∧ (∀ (t i : Nat), slotF t kp 0 = some i → i < 64 → gT i T2 = if t ∈ seen then gT i T1 else match look env t with | some s => s.val n T0 L | none => gT i T1) ∧ ∀ i, i < 64 → (∀ t, slotF t kp 0 ≠ some i) → gT i T2 = gT i T1
 | [], seen, k, c, h => ⟨xPut0, h, fun T0 L T1 => ⟨T1, fun c => rfl, fun t i _ _ => by simp [look], fun _ _ _ => rfl⟩⟩
 | (t, s) :: l, seen, k, c, h => by
  simp only [putsOf] at h
  rw [memN_iff] at h
  by_cases hs : t ∈ seen
  ·
   rw [decide_eq_true hs, cond_true] at h
   obtain ⟨xp, h1, h2⟩ := putsOf_ok l seen k c h
   refine ⟨xp, h1, fun T0 L T1 => ?_⟩
   obtain ⟨T2, k1, k2, k3⟩ := h2 T0 L T1
   refine ⟨T2, k1, fun t' i e1 e2 => ?_, k3⟩
   rw [k2 t' i e1 e2, look_cons]
   by_cases c : t = t'
   · subst c; rw [if_pos hs, if_pos hs]
   · rw [if_neg c]
  ·
   rw [decide_eq_false hs, cond_false] at h
   split at h
   ·
    rename_i m hm
    obtain ⟨hm64, p, hp, h1⟩ := mkP_some h
    obtain ⟨x, h2, hx, _⟩ := rel_val h1
    obtain ⟨xp, h3, h4⟩ := putsOf_ok l (t :: seen) _ c h2
    refine ⟨xPut p x xp, h3, fun T0 L T1 => ?_⟩
    obtain ⟨T2, k1, k2, k3⟩ := h4 T0 L (pT m (x T0 L) T1)
    refine ⟨T2, fun c => ?_, fun t' i e1 e2 => ?_, fun i hi hn => by rw [k3 i hi hn, gT_pT hm64 hi, if_neg (fun e => hn t (by rw [hm, e]))]⟩
    ·
     show p (x T0 L) T1 (fun T => xp T0 L T c) = _
     rw [hp, k1]
    ·
     rw [k2 t' i e1 e2, look_cons]
     by_cases c : t = t'
     ·
      subst c
      rw [hm] at e1
      cases e1
      rw [if_pos (by simp), if_neg hs, if_pos rfl, gT_pT hm64 e2, if_pos rfl, hx]
     ·
      have hne : m ≠ i := fun e => c (slotF_inj hm (e ▸ e1))
      have : (t' ∈ t :: seen) = (t' ∈ seen) := by
       rw [List.mem_cons]
       exact propext ⟨fun h => h.elim (fun e => absurd e.symm c) id, Or.inr⟩
      rw [if_neg c, gT_pT hm64 e2, if_neg hne]
      by_cases d : t' ∈ seen
      · rw [if_pos (this ▸ d), if_pos d]
      · rw [if_neg (fun q => d (this ▸ q)), if_neg d]
   ·
    rename_i hm
    obtain ⟨xp, h1, h2⟩ := putsOf_ok l seen k c h
    refine ⟨xp, h1, fun T0 L T1 => ?_⟩
    obtain ⟨T2, k1, k2, k3⟩ := h2 T0 L T1
    refine ⟨T2, k1, fun t' i e1 e2 => ?_, k3⟩
    rw [k2 t' i e1 e2, look_cons]
    by_cases c : t = t'
    · subst c; rw [hm] at e1; cases e1
    · rw [if_neg c]
/-- kept temporaries are where they are told -/
def TRel (kp : List Nat) (T : Tm) (a : Act) : Prop := ∀ (t i : Nat), slotF t kp 0 = some i → i < 64 → a.tmps[t]? = some (gT i T)
theorem TRel.env {kp : List Nat} {T : Tm} {a : Act} (h : TRel kp T a) (L : Rg) : EnvRel kp [] 0 a T L := ⟨fun t s e => (by cases e), fun t i _ e1 e2 => h t i e1 e2⟩
theorem EnvRel.put {kp : List Nat} {env : Env} {n : Nat} {a : Act} {T T2 : Tm} {L : Rg} (h : EnvRel kp env n a T L) (k : ∀ (t i : Nat), slotF t kp 0 = some i → i < 64 → gT i T2 = if t ∈ ([] : List Nat) then gT i T else match look env t with | some s => s.val n T L | none => gT i T) : TRel kp T2 a := by
 intro t i e1 e2
 rw [k t i e1 e2, if_neg (by simp)]
 cases q : look env t with
 | none => exact h.kept t i q e1 e2
 | some s => exact (h.own t s q).1
/-- a call that was put off, as a value -/
def encD (d : Deferred) : Value := match d.target with | .fn g c => .func g d.args c | _ => undef
/-- the calls that were put off lie in the last place -/
def DT (T : Tm) (a : Act) : Prop := gT 63 T = .tuple ⟨a.defers.map encD⟩
/-- how it ends, whatever goes on from there -/
def Ends (c : XC) (C : KP) (n : Nat) (T : Tm) (M : Me) (x : Ex) (T' : Tm) (M' : Me) : Prop := ∀ (H : Tm → Value → Me → Out) (kn : KS) (ke : Nat → KS) (kr : KS), c (frK C H) n T M kn ke kr = match x with | .normal => kn T' M' | .exit id => ke id T' M' | .ret => kr T' M' | .pan v => H T' v M'
structure Step (P : Program) (rt kp : List Nat) (nt : Nat) (C : KP) (n : Nat) (c : XC) (code : Code) (T : Tm) (M : Me) (a : Act) (x : Ex) (T' : Tm) (M' : Me) (a' : Act) : Prop where
 can : Can M'
 ends : Ends c C n T M x T' M'
 size : a'.tmps.size = nt
 no : DT T' a'
 rel : TRel kp T' a'
 wp : ∀ (w0 : World) (r : Rho) (aw : Act) (w : World), ActRel r a aw → Rel P w0 r (toMem M) w → code.wp P (Post rt P w0 r (toMem M) x (a', toMem M')) aw w
def CodeOk (P : Program) (Ks Kp : Caller) (rt kp : List Nat) (nt : Nat) (c : XC) (code : Code) : Prop := ∀ (C : KP) (H : Tm → Value → Me → Out) (n : Nat) (T : Tm) (M : Me) (kn : KS) (ke : Nat → KS) (kr : KS) (out : Value × Me) (a : Act), CGood C Ks Kp → Can M → a.tmps.size = nt → DT T a → TRel kp T a → c (frK C H) n T M kn ke kr = some out →
 ∃ x T' M' a', Step P rt kp nt C n c code T M a x T' M' a'
def RegOk (P : Program) (Ks Kp : Caller) (rt kp : List Nat) (nt : Nat) (xr : XR) (env : Env) (n : Nat) (code : Code) : Prop := ∀ (C : KP) (H : Tm → Value → Me → Out) (T : Tm) (M : Me) (k : Me → Rg → Out) (out : Value × Me) (a : Act), CGood C Ks Kp → Can M → a.tmps.size = nt → TRel kp T a → xr (frK C H) T M r0 k = some out →
 (∃ M' L' a', Can M' ∧ (∀ H k, xr (frK C H) T M r0 k = k M' L') ∧ a'.tmps.size = nt ∧ a'.defers = a.defers ∧ EnvRel kp env n a' T L' ∧
  ∀ (w0 : World) (r : Rho) (aw : Act) (w : World), ActRel r a aw → Rel P w0 r (toMem M) w → code.wp P (Post rt P w0 r (toMem M) .normal (a', toMem M')) aw w) ∨
 ∃ pv M', Can M' ∧ (∀ (H : Tm → Value → Me → Out) k, xr (frK C H) T M r0 k = H T pv M') ∧
  ∀ (w0 : World) (r : Rho) (aw : Act) (w : World), ActRel r a aw → Rel P w0 r (toMem M) w → code.wp P (Post rt P w0 r (toMem M) (.pan pv) (a, toMem M')) aw w
theorem safe_dst {rt : List Nat} {l : List Oper} (h : safeR rt l = true) : ∀ o ∈ l, ∀ t ∈ rt, o.dst ≠ some t := by
 intro o ho t ht e
 have := allR_iff h o ho
 simp only [e, memN_iff, Bool.not_eq_true', decide_eq_false_iff_not] at this
 exact this ht
section
variable {P : Program} {Ks Kp : Caller} {rt kp : List Nat} {nt : Nat}
theorem seq_reg {ex : Xn} (hex : XnOk P ex) (hB : KBody P Ks) (hB2 : KBody P Kp) (hK0 : KOk P Ks) (hK2 : KpOk P Kp) (hP : Plain P) (hkp : kp.length ≤ 64) {ops : Array Oper} (hq : quiet ops.toList = true ∨ safeR rt ops.toList = true) {xr : XR} {env : Env} {n id : Nat} (h : trSeq P ex kp nt ops ops.toList [] 0 = some (xr, env, n)) : RegOk P Ks Kp rt kp nt xr env n (.region id ops false) := by
 intro C H T M k out a hK hM hn hT hk
 rcases trSeq_ok hex hB hB2 hkp _ _ _ _ _ _ h C H T M r0 k out a hK hM hn (hT.env r0) hk with ⟨M', L', a', k1, k2, k3, k4, k5, k6⟩ | ⟨pv, M', k1, k2, k3⟩
 ·
  refine Or.inl ⟨M', L', a', k1, k2, k4, k5, k6, fun w0 r aw w ha hr => ?_⟩
  exact wp_region_list (evSeq_sound hK0 hP _ _ k3 r aw w ha hr fun r' a2 w' h1 h2 h3 h4 => ⟨rfl, r', h1, h2, h3, h4⟩)
 ·
  refine Or.inr ⟨pv, M', k1, k2, fun w0 r aw w ha hr => ?_⟩
  rcases hq with hq | hq
  · exact (quiet_pan _ _ (fun o ho => allR_iff hq o ho) k3).elim
  · exact wp_region_list (panSeq_sound (rt := rt) hK0 hK2 hP _ _ k3 (safe_dst hq) r aw w ha hr fun r' s1 a2 w' h1 h2 h3 h4 h5 h6 => ⟨rfl, r', h1, ⟨s1, h2, h3, h4⟩, h5, h6⟩)
theorem slot63 (hkp : kp.length ≤ 63) (t : Nat) : slotF t kp 0 ≠ some 63 := fun h => by
 have := (slotF_ok h).2
 rw [List.getElem?_eq_none (by omega)] at this
 cases this
theorem reg_code (hkp : kp.length ≤ 63) {xr : XR} {env : Env} {n : Nat} {code : Code} {c : XC} (h : RegOk P Ks Kp rt kp nt xr env n code) (hp : putsOf kp n env [] (fun r => some (cReg xr r)) = some c) : CodeOk P Ks Kp rt kp nt c code := by
 obtain ⟨xp, h1, h2⟩ := putsOf_ok env [] _ c hp
 cases h1
 intro C H m T M kn ke kr out a hK hM hn hd hT hk
 have hk' : xr (frK C H) T M r0 (fun M L => xp T L T fun T => kn T M) = some out := hk
 rcases h C H T M _ out a hK hM hn hT hk' with ⟨M', L', a', k1, k2, k4, k5, k6, k7⟩ | ⟨pv, M', k1, k2, k3⟩
 ·
  obtain ⟨T2, e1, e2, e3⟩ := h2 T L' T
  refine ⟨.normal, T2, M', a', k1, fun H kn ke kr => ?_, k4, ?_, k6.put e2, k7⟩
  ·
   show xr (frK C H) T M r0 (fun M L => xp T L T fun T => kn T M) = _
   rw [k2, e1]
  ·
   unfold DT at hd ⊢
   rw [k5, e3 63 (by decide) (slot63 hkp)]
   exact hd
 · exact ⟨.pan pv, T, M', a, k1, fun H kn ke kr => k2 _ _, hn, hd, hT, k3⟩
theorem evSeq_more (hK : KOk P Ks) (hP : Plain P) {ops : Array Oper} {w0 : World} {Q : Exit → Act → World → Prop} {F : St} (more : List Oper) : ∀ (l : List Oper) (s : St), evSeq Ks P ops l s = some F → ∀ (r : Rho) (a : Act) (w : World), ActRel r s.1 a → Rel P w0 r s.2 w →
  (∀ r' a' w', r.le r' → ActRel r' F.1 a' → Rel P w0 r' F.2 w' → Keep r s.2 F.2 → wpList P ops Q more a' w') → wpList P ops Q (l ++ more) a w
 | [], s, h, r, a, w, ha, hr, hQ => by cases h; exact hQ r a w (Rho.le.refl r) ha hr (Keep.refl r _)
 | o :: rest, s, h, r, a, w, ha, hr, hQ => by
  simp only [evSeq] at h
  split at h
  ·
   rename_i s' q
   rw [List.cons_append]
   unfold wpList
   exact stepA_sound hK hP q ha hr fun r' a' w' h1 h2 h3 h4 => evSeq_more hK hP more rest s' h r' a' w' h2 h3 fun r'' a'' w'' k1 k2 k3 k4 => hQ r'' a'' w'' (h1.trans k1) k2 k3 (Keep.trans h1 h4 k4)
  · cases h
theorem splitD_ok : ∀ {l p : List Oper} {d : Oper}, splitD l = some (p, d) → l = p ++ [d]
 | [], p, d, h => by cases h
 | o :: l, p, d, h => by
  simp only [splitD] at h
  split at h
  ·
   rename_i p' d' q
   cases h
   rw [splitD_ok q]; rfl
  ·
   split at h
   · cases h; rfl
   · cases h
theorem pushD_some {f : Value} {args : List Value} {T : Tm} {k : Tm → Out} {out : Value × Me} (h : pushD f args T k = some out) : ∃ g c l, f = .func (.func g) #[] ⟨c⟩ ∧ gT 63 T = .tuple ⟨l⟩ ∧ ∀ k, pushD f args T k = k (pT 63 (.tuple ⟨.func (.func g) ⟨args⟩ ⟨c⟩ :: l⟩) T) := by
 unfold pushD at h
 split at h
 ·
  rename_i g c
  split at h
  ·
   rename_i l q
   obtain ⟨c⟩ := c
   refine ⟨g, c, l, rfl, q, fun k => ?_⟩
   unfold pushD
   rw [q]
   rfl
  · cases h
 · cases h
theorem VRel.inv_fn {r : Rho} {g : FuncId} {c : List Value} {v' : Value} (h : VRel r (.func (.func g) #[] ⟨c⟩) v') : ∃ c', v' = .func (.func g) #[] ⟨c'⟩ ∧ LR (VRel r) c c' := by
 cases h with
 | one h => cases h with
  | one h => cases h with
   | fn e0 e =>
    rename_i m' l'
    have h0 := e0.1
    cases m' with
    | cons a b => simp at h0
    | nil => exact ⟨_, rfl, e.mono fun _ _ => VR0.rel⟩
   | flat f =>
    simp [flat1] at f
    subst f
    exact ⟨[], rfl, rfl, fun i v e => by simp at e⟩
theorem def_code {ex : Xn} (hex : XnOk P ex) (hB : KBody P Ks) (hB2 : KBody P Kp) (hK0 : KOk P Ks) (hP : Plain P) (hkp : kp.length ≤ 63) {ops : Array Oper} {l : List Oper} {o : Oper} {c : XC} {id : Nat} (hs : splitD ops.toList = some (l, o)) (h : trDef P ex kp nt ops l o = some c) : CodeOk P Ks Kp rt kp nt c (.region id ops false) := by
 unfold trDef at h
 split at h
 ·
  rename_i xr env n q0
  obtain ⟨hqu, q⟩ : quiet l = true ∧ trSeq P ex kp nt ops l [] 0 = some (xr, env, n) := by
   cases z : quiet l with
   | false => rw [z] at q0; cases q0
   | true => rw [z] at q0; exact ⟨rfl, q0⟩
  split at h
  ·
   rename_i f args ts hop hg hdst
   split at h
   ·
    rename_i x xs hx hxs
    obtain ⟨xp, h1, h2⟩ := putsOf_ok env [] _ c h
    cases h1
    intro C H m T M kn ke kr out a hK hM hn hd hT hk
    have hk' : xr (frK C H) T M r0 (fun M L => xp T L T fun T' => pushD (x T L) (xs.map fun y => y T L) T' fun T' => kn T' M) = some out := hk
    rcases trSeq_ok hex hB hB2 (by omega) _ _ _ _ _ _ q C H T M r0 _ out a hK hM hn (hT.env r0) hk' with ⟨M', L', a', k1, k2, k3, k4, k5, k6⟩ | ⟨pv, M', k1, k2, k3⟩
    case inr => exact (quiet_pan _ _ (fun o ho => allR_iff hqu o ho) k3).elim
    rw [k2] at hk'
    obtain ⟨T2, e1, e2, e3⟩ := h2 T L' T
    rw [e1] at hk'
    obtain ⟨g, cc, ll, p1, p2, p3⟩ := pushD_some hk'
    have hf := k6.fits _ _ hx
    have hargs := resO2_some hxs k6.fits
    have h63 : gT 63 T2 = gT 63 T := e3 63 (by decide) (slot63 hkp)
    have hll : ll = a.defers.map encD := by
     unfold DT at hd
     rw [h63, hd] at p2
     injection p2 with p2
     injection p2 with p2
     exact p2.symm
    let dd : Deferred := ⟨.fn (.func g) ⟨cc⟩, ⟨xs.map fun y => y T L'⟩⟩
    refine ⟨.normal, pT 63 (.tuple ⟨.func (.func g) ⟨xs.map fun y => y T L'⟩ ⟨cc⟩ :: ll⟩) T2, M', { a' with defers := dd :: a'.defers }, k1, fun H kn ke kr => ?_, k4, ?_, ?_, fun w0 r aw w ha hr => ?_⟩
    ·
     show xr (frK C H) T M r0 (fun M L => xp T L T fun T' => pushD (x T L) (xs.map fun y => y T L) T' fun T' => kn T' M) = _
     rw [k2, e1, p3]
    ·
     unfold DT
     rw [gT_pT (by decide) (by decide), if_pos rfl, hll]
     show _ = Value.tuple ⟨(dd :: a'.defers).map encD⟩
     rw [k5]
     rfl
    ·
     have := k6.put e2
     intro t i s1 s2
     rw [gT_pT (by decide) s2, if_neg (fun (e : 63 = i) => slot63 hkp t (by rw [e]; exact s1))]
     exact this t i s1 s2
    ·
     have hol := splitD_ok hs
     refine wp_region_list ?_
     rw [hol]
     refine evSeq_more hK0 hP [o] l _ k3 r aw w ha hr fun r' a2 w' j1 j2 j3 j4 => ?_
     unfold wpList
     have hw : Region.wanted o (yielded ops a2.tmps) = true := by unfold Region.wanted; rw [hg]
     rw [if_pos hw]
     obtain ⟨c', v1, v2⟩ := VRel.inv_fn (p1 ▸ j2.eval hf)
     refine Or.inl ?_
     have hrun : (execOp a2.eval o).run P w' = .ok (.defer ⟨.fn (.func g) ⟨c'⟩, #[] ++ args.map a2.eval⟩) w' := by
      simp [execOp, hop, resolve, v1, Deferred.ofValue]
     have hu : o.wp P a2 w' (wpList P ops (Post rt P w0 r (toMem M) .normal ({ a' with defers := dd :: a'.defers }, toMem M')) []) (Post rt P w0 r (toMem M) .normal ({ a' with defers := dd :: a'.defers }, toMem M')) = (wpList P ops (Post rt P w0 r (toMem M) .normal ({ a' with defers := dd :: a'.defers }, toMem M')) []) ({ a2 with defers := ⟨.fn (.func g) ⟨c'⟩, #[] ++ args.map a2.eval⟩ :: a2.defers }.put o.dst undef) w' := by
      unfold Oper.wp
      rw [hrun]
      exact Oper.upon_defer P o a2 _ _ w' _
     rw [hu, hdst]
     have hl : LR (VRel r') (xs.map fun y => y T L') (args.toList.map a2.eval) := argsO_rel _ _ hargs fun y _ v hv => j2.eval hv
     have hd2 : DR r' (dd :: a'.defers) (⟨.fn (.func g) ⟨c'⟩, #[] ++ args.map a2.eval⟩ :: a2.defers) := by
      have e : (#[] ++ args.map a2.eval : Array Value) = ⟨args.toList.map a2.eval⟩ := by apply Array.ext'; simp
      rw [e]
      exact .cons hl v2 j2.no
     exact ⟨rfl, r', j1, ⟨j2.ro, hd2, j2.size, j2.tmp⟩, j3, j4⟩
   · cases h
  · cases h
 · cases h
theorem bad_ok (code : Code) : CodeOk P Ks Kp rt kp nt cBad code := fun C H n T M kn ke kr out a hK hM hn hd hT hk => by cases hk
theorem skip_ok : CodeOk P Ks Kp rt kp nt cSkip .skip := fun C H n T M kn ke kr out a hK hM hn hd hT hk => ⟨.normal, T, M, a, hM, fun _ _ _ _ => rfl, hn, hd, hT, fun w0 r aw w ha hr => wp_skip ⟨rfl, r, Rho.le.refl r, ha, hr, Keep.refl r _⟩⟩
theorem label_ok (l : Nat) : CodeOk P Ks Kp rt kp nt cSkip (.label l) := fun C H n T M kn ke kr out a hK hM hn hd hT hk => ⟨.normal, T, M, a, hM, fun _ _ _ _ => rfl, hn, hd, hT, fun w0 r aw w ha hr => wp_label ⟨rfl, r, Rho.le.refl r, ha, hr, Keep.refl r _⟩⟩
theorem exit_ok (id : Nat) : CodeOk P Ks Kp rt kp nt (cExit id) (.exit id) := fun C H n T M kn ke kr out a hK hM hn hd hT hk => ⟨.exit id, T, M, a, hM, fun _ _ _ _ => rfl, hn, hd, hT, fun w0 r aw w ha hr => wp_exit ⟨rfl, r, Rho.le.refl r, ha, hr, Keep.refl r _⟩⟩
theorem ret_ok : CodeOk P Ks Kp rt kp nt cRet .ret := fun C H n T M kn ke kr out a hK hM hn hd hT hk => ⟨.ret, T, M, a, hM, fun _ _ _ _ => rfl, hn, hd, hT, fun w0 r aw w ha hr => wp_ret ⟨rfl, r, Rho.le.refl r, ha, hr, Keep.refl r _⟩⟩
theorem seq_ok {x y : XC} {a b : Code} (hx : CodeOk P Ks Kp rt kp nt x a) (hy : CodeOk P Ks Kp rt kp nt y b) : CodeOk P Ks Kp rt kp nt (cSeq x y) (.seq a b) := by
 intro C H n T M kn ke kr out ac hK hM hn hd hT hk
 have hk' : x (frK C H) n T M (fun T M => y (frK C H) n T M kn ke kr) ke kr = some out := hk
 obtain ⟨e, T1, M1, a1, s1⟩ := hx C H n T M _ _ _ out ac hK hM hn hd hT hk'
 rw [s1.ends] at hk'
 cases e with
 | normal =>
  obtain ⟨e2, T2, M2, a2, s2⟩ := hy C H n T1 M1 _ _ _ out a1 hK s1.can s1.size s1.no s1.rel hk'
  refine ⟨e2, T2, M2, a2, s2.can, fun H kn ke kr => ?_, s2.size, s2.no, s2.rel, fun w0 r aw w ha hr => ?_⟩
  ·
   show x (frK C H) n T M (fun T M => y (frK C H) n T M kn ke kr) ke kr = _
   rw [s1.ends]
   exact s2.ends H kn ke kr
  ·
   refine wp_seq (wp_mono (s1.wp w0 r aw w ha hr) ?_)
   rintro e' a' w' ⟨rfl, r', k1, k2, k3, k4⟩
   exact wp_mono (s2.wp w0 r' a' w' k2 k3) fun _ _ _ p => Post.mono k1 k4 p
 | exit id =>
  refine ⟨.exit id, T1, M1, a1, s1.can, fun H kn ke kr => s1.ends H _ ke kr, s1.size, s1.no, s1.rel, fun w0 r aw w ha hr => ?_⟩
  refine wp_seq (wp_mono (s1.wp w0 r aw w ha hr) ?_)
  rintro e' a' w' ⟨rfl, p⟩
  exact ⟨rfl, p⟩
 | ret =>
  refine ⟨.ret, T1, M1, a1, s1.can, fun H kn ke kr => s1.ends H _ ke kr, s1.size, s1.no, s1.rel, fun w0 r aw w ha hr => ?_⟩
  refine wp_seq (wp_mono (s1.wp w0 r aw w ha hr) ?_)
  rintro e' a' w' ⟨rfl, p⟩
  exact ⟨rfl, p⟩
 | pan pv =>
  refine ⟨.pan pv, T1, M1, a1, s1.can, fun H kn ke kr => s1.ends H _ ke kr, s1.size, s1.no, s1.rel, fun w0 r aw w ha hr => ?_⟩
  refine wp_seq (wp_mono (s1.wp w0 r aw w ha hr) ?_)
  rintro e' a' w' ⟨rfl, p⟩
  exact ⟨rfl, p⟩
theorem if_ok {x : Operand} {sc : Sc} (hs : relO kp [] 0 x = some sc) {y z : XC} {a b : Code} (hy : CodeOk P Ks Kp rt kp nt y a) (hz : CodeOk P Ks Kp rt kp nt z b) : CodeOk P Ks Kp rt kp nt (cIf sc y z) (.cond x a b) := by
 intro C H n T M kn ke kr out ac hK hM hn hd hT hk
 have hk' : asB (sc T r0) (fun t => Bool.rec (motive := fun _ => Out) (z (frK C H) n T M kn ke kr) (y (frK C H) n T M kn ke kr) t) = some out := hk
 obtain ⟨t, et, hk1⟩ := asB_some hk'
 have ev := (hT.env r0).fits _ _ hs
 rw [et] at ev
 have key : ∀ (H : Tm → Value → Me → Out) kn ke kr, cIf sc y z (frK C H) n T M kn ke kr = Bool.rec (motive := fun _ => Out) (z (frK C H) n T M kn ke kr) (y (frK C H) n T M kn ke kr) t := fun H kn ke kr => by
  show asB (sc T r0) (fun t => Bool.rec (motive := fun _ => Out) (z (frK C H) n T M kn ke kr) (y (frK C H) n T M kn ke kr) t) = _
  rw [et]; rfl
 cases t with
 | true =>
  obtain ⟨e, T1, M1, a1, s1⟩ := hy C H n T M _ _ _ out ac hK hM hn hd hT hk1
  refine ⟨e, T1, M1, a1, s1.can, fun H kn ke kr => by rw [key]; exact s1.ends H kn ke kr, s1.size, s1.no, s1.rel, fun w0 r aw w ha hr => ?_⟩
  refine wp_cond (ha.eval ev).bool ?_
  rw [if_pos rfl]
  exact s1.wp w0 r aw w ha hr
 | false =>
  obtain ⟨e, T1, M1, a1, s1⟩ := hz C H n T M _ _ _ out ac hK hM hn hd hT hk1
  refine ⟨e, T1, M1, a1, s1.can, fun H kn ke kr => by rw [key]; exact s1.ends H kn ke kr, s1.size, s1.no, s1.rel, fun w0 r aw w ha hr => ?_⟩
  refine wp_cond (ha.eval ev).bool ?_
  rw [if_neg (by decide)]
  exact s1.wp w0 r aw w ha hr
theorem block_ok (id : Nat) {x : XC} {a : Code} (hx : CodeOk P Ks Kp rt kp nt x a) : CodeOk P Ks Kp rt kp nt (cBlock id x) (.block id a) := by
 intro C H n T M kn ke kr out ac hK hM hn hd hT hk
 have hk' : x (frK C H) n T M kn (fun i T M => Bool.rec (motive := fun _ => Out) (ke i T M) (kn T M) (Nat.beq i id)) kr = some out := hk
 obtain ⟨e, T1, M1, a1, s1⟩ := hx C H n T M _ _ _ out ac hK hM hn hd hT hk'
 have key : ∀ (H : Tm → Value → Me → Out) kn ke kr, cBlock id x (frK C H) n T M kn ke kr = _ := fun H kn ke kr => s1.ends H kn (fun i T M => Bool.rec (motive := fun _ => Out) (ke i T M) (kn T M) (Nat.beq i id)) kr
 cases e with
 | normal =>
  refine ⟨.normal, T1, M1, a1, s1.can, key, s1.size, s1.no, s1.rel, fun w0 r aw w ha hr => ?_⟩
  refine wp_block (wp_mono (s1.wp w0 r aw w ha hr) ?_)
  rintro e' a' w' ⟨rfl, p⟩
  exact ⟨rfl, p⟩
 | exit i =>
  by_cases c : i = id
  ·
   refine ⟨.normal, T1, M1, a1, s1.can, fun H kn ke kr => by rw [key]; show Bool.rec (motive := fun _ => Out) (ke i T1 M1) (kn T1 M1) (Nat.beq i id) = _; rw [beq_iff, decide_eq_true c], s1.size, s1.no, s1.rel, fun w0 r aw w ha hr => ?_⟩
   refine wp_block (wp_mono (s1.wp w0 r aw w ha hr) ?_)
   rintro e' a' w' ⟨rfl, p⟩
   simp only [Ex.out, Exit.inBlock]
   rw [if_pos c]
   exact ⟨rfl, p⟩
  ·
   refine ⟨.exit i, T1, M1, a1, s1.can, fun H kn ke kr => by rw [key]; show Bool.rec (motive := fun _ => Out) (ke i T1 M1) (kn T1 M1) (Nat.beq i id) = _; rw [beq_iff, decide_eq_false c], s1.size, s1.no, s1.rel, fun w0 r aw w ha hr => ?_⟩
   refine wp_block (wp_mono (s1.wp w0 r aw w ha hr) ?_)
   rintro e' a' w' ⟨rfl, p⟩
   simp only [Ex.out, Exit.inBlock]
   rw [if_neg c]
   exact ⟨rfl, p⟩
 | ret =>
  refine ⟨.ret, T1, M1, a1, s1.can, key, s1.size, s1.no, s1.rel, fun w0 r aw w ha hr => ?_⟩
  refine wp_block (wp_mono (s1.wp w0 r aw w ha hr) ?_)
  rintro e' a' w' ⟨rfl, p⟩
  exact ⟨rfl, p⟩
 | pan pv =>
  refine ⟨.pan pv, T1, M1, a1, s1.can, key, s1.size, s1.no, s1.rel, fun w0 r aw w ha hr => ?_⟩
  refine wp_block (wp_mono (s1.wp w0 r aw w ha hr) ?_)
  rintro e' a' w' ⟨rfl, p⟩
  exact ⟨rfl, p⟩
theorem scope_ok {x : XC} {a : Code} (hx : CodeOk P Ks Kp rt kp nt x a) : CodeOk P Ks Kp rt kp nt x (.scope a) := by
 intro C H n T M kn ke kr out ac hK hM hn hd hT hk
 obtain ⟨e, T1, M1, a1, s1⟩ := hx C H n T M _ _ _ out ac hK hM hn hd hT hk
 refine ⟨e, T1, M1, a1, s1.can, s1.ends, s1.size, s1.no, s1.rel, fun w0 r aw w ha hr => ?_⟩
 refine wp_scope_straight (wp_mono (s1.wp w0 r aw w ha hr) ?_)
 rintro e' a' w' ⟨rfl, p⟩
 cases e <;> exact ⟨rfl, p⟩
/-- so many rounds of a loop -/
def Rounds (P : Program) (rt kp : List Nat) (nt : Nat) (C : KP) (n : Nat) (c : XC) (code : Code) (x : Ex) (T' : Tm) (M' : Me) (a' : Act) : Nat → Tm → Me → Act → Prop
 | 0, _, _, _ => False
 | m + 1, T, M, a => (∃ T1 M1 a1, Step P rt kp nt C n c code T M a .normal T1 M1 a1 ∧ Rounds P rt kp nt C n c code x T' M' a' m T1 M1 a1) ∨ (x ≠ .normal ∧ Step P rt kp nt C n c code T M a x T' M' a')
theorem rounds_of {c : XC} {code : Code} (hc : CodeOk P Ks Kp rt kp nt c code) {C : KP} {H : Tm → Value → Me → Out} {n : Nat} (hK : CGood C Ks Kp) : ∀ (m : Nat) (T : Tm) (M : Me) (ke : Nat → KS) (kr : KS) (out : Value × Me) (a : Act), Can M → a.tmps.size = nt → DT T a → TRel kp T a → xloop m (fun T M kn => c (frK C H) n T M kn ke kr) T M = some out →
  ∃ x T' M' a', x ≠ .normal ∧ Rounds P rt kp nt C n c code x T' M' a' m T M a ∧ Can M' ∧ a'.tmps.size = nt ∧ DT T' a' ∧ TRel kp T' a' ∧ ∀ (H : Tm → Value → Me → Out) ke kr, xloop m (fun T M kn => c (frK C H) n T M kn ke kr) T M = match x with | .normal => none | .exit id => ke id T' M' | .ret => kr T' M' | .pan v => H T' v M'
 | 0, T, M, ke, kr, out, a, _, _, _, _, h => by cases h
 | m + 1, T, M, ke, kr, out, a, hM, hn, hd, hT, h => by
  have h' : c (frK C H) n T M (xloop m fun T M kn => c (frK C H) n T M kn ke kr) ke kr = some out := h
  obtain ⟨e, T1, M1, a1, s1⟩ := hc C H n T M _ _ _ out a hK hM hn hd hT h'
  rw [s1.ends] at h'
  have key : ∀ (H : Tm → Value → Me → Out) ke kr, xloop (m + 1) (fun T M kn => c (frK C H) n T M kn ke kr) T M = _ := fun H ke kr => s1.ends H (xloop m fun T M kn => c (frK C H) n T M kn ke kr) ke kr
  cases e with
  | normal =>
   obtain ⟨x, T', M', a', k1, k2, k3, k4, k5, k6, k7⟩ := rounds_of hc hK m T1 M1 ke kr out a1 s1.can s1.size s1.no s1.rel h'
   exact ⟨x, T', M', a', k1, Or.inl ⟨T1, M1, a1, s1, k2⟩, k3, k4, k5, k6, fun H ke kr => by rw [key]; exact k7 H ke kr⟩
  | exit id => exact ⟨.exit id, T1, M1, a1, (fun q => by cases q), Or.inr ⟨(fun q => by cases q), s1⟩, s1.can, s1.size, s1.no, s1.rel, fun H ke kr => by rw [key]⟩
  | ret => exact ⟨.ret, T1, M1, a1, (fun q => by cases q), Or.inr ⟨(fun q => by cases q), s1⟩, s1.can, s1.size, s1.no, s1.rel, fun H ke kr => by rw [key]⟩
  | pan pv => exact ⟨.pan pv, T1, M1, a1, (fun q => by cases q), Or.inr ⟨(fun q => by cases q), s1⟩, s1.can, s1.size, s1.no, s1.rel, fun H ke kr => by rw [key]⟩
theorem loop_ok {x : XC} {a : Code} (hx : CodeOk P Ks Kp rt kp nt x a) : CodeOk P Ks Kp rt kp nt (cLoop x) (.loop a) := by
 intro C H n T M kn ke kr out ac hK hM hn hd hT hk
 obtain ⟨e, T', M', a', k1, k2, k3, k4, k5, k6, k7⟩ := rounds_of hx hK n T M ke kr out ac hM hn hd hT hk
 refine ⟨e, T', M', a', k3, fun H kn ke kr => ?_, k4, k5, k6, fun w0 r aw w ha hr => ?_⟩
 ·
  have := k7 H ke kr
  cases e with
  | normal => exact absurd rfl k1
  | exit id => exact this
  | ret => exact this
  | pan v => exact this
 ·
  refine wp_loop_n (fun m a w => ∃ r' T1 M1 a1, r.le r' ∧ Keep r (toMem M) (toMem M1) ∧ ActRel r' a1 a ∧ Rel P w0 r' (toMem M1) w ∧ Rounds P rt kp nt C n x _ e T' M' a' m T1 M1 a1) ?_ ⟨r, T, M, ac, Rho.le.refl r, Keep.refl r _, ha, hr, k2⟩
  rintro m a2 w2 ⟨r', T1, M1, a1, j1, j2, j3, j4, j5⟩
  cases m with
  | zero => exact j5.elim
  | succ m =>
   rcases j5 with ⟨T3, M3, a3, s, j5⟩ | ⟨_, s⟩
   ·
    refine wp_mono (s.wp w0 r' a2 w2 j3 j4) ?_
    rintro e' a4 w4 ⟨rfl, r'', p1, p2, p3, p4⟩
    exact ⟨m, Nat.lt_succ_self m, r'', T3, M3, a3, j1.trans p1, Keep.trans j1 j2 p4, p2, p3, j5⟩
   ·
    refine wp_mono (s.wp w0 r' a2 w2 j3 j4) ?_
    rintro e' a4 w4 p
    cases e with
    | normal => exact absurd rfl k1
    | exit id => obtain ⟨rfl, p⟩ := p; exact Post.mono j1 j2 ⟨rfl, p⟩
    | ret => obtain ⟨rfl, p⟩ := p; exact Post.mono j1 j2 ⟨rfl, p⟩
    | pan v => obtain ⟨rfl, p⟩ := p; exact Post.mono j1 j2 ⟨rfl, p⟩
end
end Go.Proofs.YtfgfofedacehiaaGreat

/-
 OWN TEXT: an evaluator made for the kernel: regions whose order is drawn: one order is taken, and what was read too early is looked at again. What is asked of that order.
-/
namespace Go.Proofs.YtfgfofedacehiaaGreat
open Go.RowKit
set_option linter.unusedVariables false
set_option linter.unusedSimpArgs false
theorem tb_eq (m i : Nat) : tb m i = m.testBit i := by
 unfold tb
 rw [beq_iff, Nat.testBit_eq_decide_div_mod_eq]
 rfl
theorem tb_lor (a b i : Nat) : tb (Nat.lor a b) i = (tb a i || tb b i) := by
 rw [tb_eq, tb_eq, tb_eq]
 exact Nat.testBit_or a b i
theorem tb_pow (k i : Nat) : tb (Nat.pow 2 k) i = decide (k = i) := by
 rw [tb_eq]
 exact Nat.testBit_two_pow
theorem tb_zero (i : Nat) : tb 0 i = false := by rw [tb_eq]; exact Nat.zero_testBit i
theorem edM_tb (bl : List Nat) (i : Nat) : ∀ (l : List Edge), tb (edM bl l) i = true → ∃ e ∈ l, Region.binds .any e = true ∧ (e.on = i ∨ tb (getN bl e.on) i = true)
 | [], h => by have : tb 0 i = true := h; rw [tb_zero] at this; cases this
 | e :: l, h => by
  have h' : tb (Bool.rec (motive := fun _ => Nat) (edM bl l) (Nat.lor (Nat.lor (Nat.pow 2 e.on) (getN bl e.on)) (edM bl l)) (Region.binds .any e)) i = true := h
  cases q : Region.binds .any e with
  | false =>
   rw [q] at h'
   obtain ⟨e', h1, h2⟩ := edM_tb bl i l h'
   exact ⟨e', by simp [h1], h2⟩
  | true =>
   rw [q] at h'
   have h2 : tb (Nat.lor (Nat.lor (Nat.pow 2 e.on) (getN bl e.on)) (edM bl l)) i = true := h'
   rw [tb_lor, tb_lor, tb_pow, Bool.or_eq_true, Bool.or_eq_true, decide_eq_true_eq] at h2
   rcases h2 with h2 | h2
   · exact ⟨e, by simp, q, h2⟩
   ·
    obtain ⟨e', h3, h4⟩ := edM_tb bl i l h2
    exact ⟨e', by simp [h3], h4⟩
theorem edM_on (bl : List Nat) : ∀ (l : List Edge) (e : Edge), e ∈ l → Region.binds .any e = true → tb (edM bl l) e.on = true
 | [], e, h, _ => by cases h
 | d :: l, e, h, hb => by
  show tb (Bool.rec (motive := fun _ => Nat) (edM bl l) (Nat.lor (Nat.lor (Nat.pow 2 d.on) (getN bl d.on)) (edM bl l)) (Region.binds .any d)) e.on = true
  rcases List.mem_cons.1 h with q | q
  ·
   subst q
   rw [hb]
   show tb (Nat.lor (Nat.lor (Nat.pow 2 e.on) (getN bl e.on)) (edM bl l)) e.on = true
   rw [tb_lor, tb_lor, tb_pow]
   simp
  ·
   have ih := edM_on bl l e q hb
   cases z : Region.binds .any d with
   | false => exact ih
   | true =>
    show tb (Nat.lor (Nat.lor (Nat.pow 2 d.on) (getN bl d.on)) (edM bl l)) e.on = true
    rw [tb_lor, ih]
    simp
theorem opAt_eq (ops : Array Oper) (i : Nat) : opAt ops i = ops[i]? := by unfold opAt; rw [nth_eq, Array.getElem?_toList]
structure DF (ops : Array Oper) (bl : List Nat) : Prop where
 fwd : ∀ (j : Nat) (o : Oper) (e : Edge), ops[j]? = some o → e ∈ o.after → Region.binds .any e = true → tb (getN bl j) e.on = true ∧ e.on < ops.size
 back : ∀ (i j : Nat) (o : Oper), ops[j]? = some o → tb (getN bl j) i = true → ∃ e ∈ o.after, Region.binds .any e = true ∧ (e.on = i ∨ tb (getN bl e.on) i = true)
 ap : ∀ (i j : Nat) (oi oj : Oper), i ≠ j → ops[i]? = some oi → ops[j]? = some oj → tb (getN bl j) i = false → tb (getN bl i) j = false → oi.apart ops oj = true
 rd : ∀ (w i : Nat) (o p : Oper) (e : Tmp), isR o.op = true → ops[w]? = some o → ops[i]? = some p → i ≠ w → tb (getN bl w) i = false → p.dst = some e → e ∉ o.looksAt ops ∧ o.dst ≠ some e
 rg : ∀ (w : Nat) (o : Oper), isR o.op = true → ops[w]? = some o → ∃ d, o.dst = some d ∧ d ∉ o.looksAt ops
theorem apart_symm {ops : Array Oper} {x y : Oper} (h : x.apart ops y = true) : y.apart ops x = true := by
 obtain ⟨p1, p2, p3⟩ := Oper.apart_spec h
 unfold Oper.apart
 rw [Bool.and_eq_true]
 constructor
 ·
  cases q : y.dst with
  | none => rfl
  | some d =>
   simp only [Bool.and_eq_true, Bool.not_eq_true', bne_iff_ne, ne_eq]
   refine ⟨?_, fun e => p2 d e q⟩
   have := p3 d q
   simpa using this
 ·
  cases q : x.dst with
  | none => rfl
  | some d =>
   simp only [Bool.not_eq_true']
   have := p1 d q
   simpa using this
theorem df_of {ops : Array Oper} {bl : List Nat} (h1 : chkB ops bl (List.range ops.size) = true) (h2 : chkA ops bl (List.range ops.size) = true) (h3 : chkR ops bl (List.range ops.size) = true) : DF ops bl := by
 have mem : ∀ {i : Nat} {o : Oper}, ops[i]? = some o → i ∈ List.range ops.size := fun h => List.mem_range.2 (Array.getElem?_eq_some_iff.1 h).1
 have half : ∀ (i j : Nat) (oi oj : Oper), i < j → ops[i]? = some oi → ops[j]? = some oj → tb (getN bl j) i = false → tb (getN bl i) j = false → oi.apart ops oj = true := by
  intro i j oi oj hlt hi hj e1 e2
  have := allR_iff (allR_iff h2 j (mem hj)) i (mem hi)
  simp only [ble_iff, decide_eq_false (show ¬ j ≤ i by omega), cond_false, e1, e2, opAt_eq, hi, hj] at this
  exact this
 refine ⟨?_, ?_, ?_, ?_, ?_⟩
 ·
  intro j o e hj he hb
  have := allR_iff h1 j (mem hj)
  simp only [opAt_eq, hj, Bool.and_eq_true] at this
  have k1 := edM_on bl o.after.toList e (by simpa using he) hb
  rw [← Nat.eq_of_beq_eq_true this.1] at k1
  refine ⟨k1, ?_⟩
  have k2 := this.2
  rw [blt_iff, decide_eq_true_eq] at k2
  rw [tb_eq] at k1
  rcases Nat.lt_or_ge e.on ops.size with c | c
  · exact c
  ·
   have : (getN bl j).testBit e.on = false := Nat.testBit_lt_two_pow (Nat.lt_of_lt_of_le k2 (Nat.pow_le_pow_right (by decide) c))
   rw [this] at k1
   cases k1
 ·
  intro i j o hj ht
  have := allR_iff h1 j (mem hj)
  simp only [opAt_eq, hj, Bool.and_eq_true] at this
  rw [Nat.eq_of_beq_eq_true this.1] at ht
  obtain ⟨e, k1, k2⟩ := edM_tb bl i _ ht
  exact ⟨e, by simpa using k1, k2⟩
 ·
  intro i j oi oj hne hi hj e1 e2
  rcases Nat.lt_or_gt_of_ne hne with c | c
  · exact half i j oi oj c hi hj e1 e2
  · exact apart_symm (half j i oj oi c hj hi e2 e1)
 ·
  intro w i o p e hR hw hi hne ht hd
  have := allR_iff h3 w (mem hw)
  simp only [opAt_eq, hw, hR, cond_true] at this
  split at this
  ·
   rw [Bool.and_eq_true] at this
   have := allR_iff this.2 i (mem hi)
   simp only [beq_iff, decide_eq_false hne, cond_false, ht, opAt_eq, hi, hd, Bool.and_eq_true, Bool.not_eq_true', bne_iff_ne, ne_eq] at this
   refine ⟨?_, this.2⟩
   have := this.1
   simpa using this
  · cases this
 ·
  intro w o hR hw
  have := allR_iff h3 w (mem hw)
  simp only [opAt_eq, hw, hR, cond_true] at this
  split at this
  ·
   rename_i d q
   rw [Bool.and_eq_true] at this
   exact ⟨d, q, by simpa using this.1⟩
  · cases this
end Go.Proofs.YtfgfofedacehiaaGreat

/-
 OWN TEXT: an evaluator made for the kernel: regions whose order is drawn: one order stands for all of them.
-/
namespace Go.Proofs.YtfgfofedacehiaaGreat
open Go.RowKit
set_option linter.unusedVariables false
set_option linter.unusedSimpArgs false
/-- what was read is there still -/
def Hd (P : Program) (ops : Array Oper) (w : Nat) (s : St) : Prop := ∃ o d, ops[w]? = some o ∧ isR o.op = true ∧ o.dst = some d ∧ (Region.wanted o (yielded ops s.1.tmps) = true → ∃ v, evR P s.2 (evalO s.1) o = some v ∧ s.1.tmps[d]? = some v)
noncomputable def flt (ops : Array Oper) (bl : List Nat) (ef : Nat → Bool) (j : Nat) (W : List Nat) : List Nat := if ef j then W.filter (fun w => !tb (getN bl j) w) else W
theorem flt_mem {ops : Array Oper} {bl : List Nat} {ef : Nat → Bool} {j w : Nat} {W : List Nat} (h : w ∈ flt ops bl ef j W) : w ∈ W := by
 unfold flt at h
 split at h
 · exact (List.mem_filter.1 h).1
 · exact h
theorem flt_mono {ops : Array Oper} {bl : List Nat} {ef : Nat → Bool} {j : Nat} {W W' : List Nat} (h : ∀ w ∈ W, w ∈ W') : ∀ w ∈ flt ops bl ef j W, w ∈ flt ops bl ef j W' := by
 intro w hw
 unfold flt at hw ⊢
 split at hw
 ·
  rename_i c
  rw [if_pos c]
  obtain ⟨h1, h2⟩ := List.mem_filter.1 hw
  exact List.mem_filter.2 ⟨h w h1, h2⟩
 ·
  rename_i c
  rw [if_neg c]
  exact h w hw
section
variable (P : Program) (st : Nat → St → Option St) (ops : Array Oper) (bl : List Nat) (ef : Nat → Bool) (F : St)
/-- whatever order is picked, it ends in F, and what was read (W) stays where it may be read later -/
def absW : Nat → Array Bool → St → List Nat → Prop
 | 0, l, s, W => (∀ w ∈ W, Hd P ops w s) ∧ Region.ready .any ops l = [] ∧ s = F
 | n + 1, l, s, W => (∀ w ∈ W, Hd P ops w s) ∧ (Region.ready .any ops l = [] → s = F) ∧ ∀ j ∈ Region.ready .any ops l, ∃ s', st j s = some s' ∧ absW n (l.setIfInBounds j true) s' (flt ops bl ef j W)
theorem absW_any : ∀ (n : Nat) (l : Array Bool) (s : St) (W : List Nat), absW P st ops bl ef F n l s W → absAny st ops F n l s
 | 0, l, s, W, h => h.2
 | n + 1, l, s, W, h => ⟨h.2.1, fun j hj => let ⟨s', h1, h2⟩ := h.2.2 j hj; ⟨s', h1, absW_any n _ s' _ h2⟩⟩
theorem absW_mono : ∀ (n : Nat) (l : Array Bool) (s : St) (W W' : List Nat), (∀ w ∈ W, w ∈ W') → absW P st ops bl ef F n l s W' → absW P st ops bl ef F n l s W
 | 0, l, s, W, W', hs, h => ⟨fun w hw => h.1 w (hs w hw), h.2⟩
 | n + 1, l, s, W, W', hs, h => ⟨fun w hw => h.1 w (hs w hw), h.2.1, fun j hj => let ⟨s', h1, h2⟩ := h.2.2 j hj; ⟨s', h1, absW_mono n _ s' _ _ (flt_mono hs) h2⟩⟩
theorem absW_hd {n : Nat} {l : Array Bool} {s : St} {W : List Nat} (h : absW P st ops bl ef F n l s W) : ∀ w ∈ W, Hd P ops w s := by
 cases n with
 | zero => exact h.1
 | succ n => exact h.1
end
/-- what came up has all that it is behind -/
def DC (ops : Array Oper) (bl : List Nat) (l : Array Bool) : Prop := l.size = ops.size ∧ ∀ (j i : Nat), j < ops.size → l.getD j true = true → tb (getN bl j) i = true → l.getD i false = true
theorem getD_lt {l : Array Bool} {j : Nat} (h : j < l.size) (x y : Bool) : l.getD j x = l.getD j y := by simp [h]
section
variable {ops : Array Oper} {bl : List Nat}
theorem ready_lt {l : Array Bool} {j : Nat} (h : j ∈ Region.ready .any ops l) : j < ops.size := by
 obtain ⟨_, o, ho, _⟩ := mem_ready.1 h
 exact (Array.getElem?_eq_some_iff.1 ho).1
/-- one that may come up is not behind one that has not -/
theorem ready_not (df : DF ops bl) {l : Array Bool} (dc : DC ops bl l) {i j : Nat} (hi : l.getD i false = false) (hj : j ∈ Region.ready .any ops l) : tb (getN bl j) i = false := by
 cases q : tb (getN bl j) i with
 | false => rfl
 | true =>
  exfalso
  obtain ⟨_, o, ho, hall⟩ := mem_ready.1 hj
  obtain ⟨e, he, hb, hor⟩ := df.back i j o ho q
  obtain ⟨_, hlt⟩ := df.fwd j o e ho he hb
  have h1 := hall e he hb
  rcases hor with rfl | hor
  · rw [hi] at h1; cases h1
  ·
   have := dc.2 e.on i hlt (by rw [getD_lt (by rw [dc.1]; exact hlt) true false]; exact h1) hor
   rw [hi] at this; cases this
theorem getD_set {l : Array Bool} {i j : Nat} (x : Bool) (hj : j < l.size) : (l.setIfInBounds j true).getD i x = if j = i then true else l.getD i x := by
 by_cases c : j = i
 · subst c; simp [hj]
 · rw [getD_set_ne x c, if_neg c]
theorem DC.set (df : DF ops bl) {l : Array Bool} (dc : DC ops bl l) {j : Nat} (hj : j ∈ Region.ready .any ops l) : DC ops bl (l.setIfInBounds j true) := by
 have hlt := ready_lt hj
 have hls : j < l.size := by rw [dc.1]; exact hlt
 refine ⟨by simp [dc.1], fun k i hk h1 h2 => ?_⟩
 rw [getD_set true hls] at h1
 rw [getD_set false hls]
 by_cases ci : j = i
 · rw [if_pos ci]
 ·
  rw [if_neg ci]
  by_cases c : j = k
  ·
   subst c
   cases q : l.getD i false with
   | true => rfl
   | false =>
    have := ready_not df dc q hj
    rw [h2] at this; cases this
  ·
   rw [if_neg c] at h1
   exact dc.2 k i hk h1 h2
theorem unlisted {l : Array Bool} {i : Nat} (h : i ∈ Region.ready .any ops l) (hs : l.size = ops.size) : l.getD i false = false := by
 have h1 := (mem_ready.1 h).1
 rw [getD_lt (by rw [hs]; exact ready_lt h) false true]
 exact h1
/-- two that may come up are apart -/
theorem ready_apart (df : DF ops bl) {l : Array Bool} (dc : DC ops bl l) {i j : Nat} {oi oj : Oper} (hi : i ∈ Region.ready .any ops l) (hj : j ∈ Region.ready .any ops l) (hne : i ≠ j) (h1 : ops[i]? = some oi) (h2 : ops[j]? = some oj) : oi.apart ops oj = true :=
 df.ap i j oi oj hne h1 h2 (ready_not df dc (unlisted hi dc.1) hj) (ready_not df dc (unlisted hj dc.1) hi)
end
theorem evalO_looks {ops : Array Oper} {o : Oper} {a : Act} {d : Tmp} {v : Value} (h : d ∉ o.looksAt ops) : ∀ x ∈ o.op.operands, evalO (a.put (some d) v) x = evalO a x := by
 intro x hx
 refine evalO_put fun d' hd hxd => h ?_
 cases hd
 exact List.mem_append_left _ (List.mem_filterMap.2 ⟨.tmp d, by rw [← hxd]; simpa using hx, rfl⟩)
/-- what was read is there still, whatever other temporary is put -/
theorem Hd.put {P : Program} {ops : Array Oper} {w : Nat} {a : Act} {A : Mem} {dst : Option Tmp} {v : Value} (hs : ∀ o d, ops[w]? = some o → isR o.op = true → dst = some d → d ∉ o.looksAt ops ∧ o.dst ≠ some d) : Hd P ops w (a.put dst v, A) ↔ Hd P ops w (a, A) := by
 cases dst with
 | none => exact Iff.rfl
 | some d =>
  constructor
  ·
   rintro ⟨o, e, h1, h2, h3, h4⟩
   obtain ⟨k1, k2⟩ := hs o d h1 h2 rfl
   refine ⟨o, e, h1, h2, h3, fun hw => ?_⟩
   obtain ⟨u, h4, h5⟩ := h4 (by rw [wanted_put o a (some d) v (fun d' q => by cases q; exact k1)]; exact hw)
   refine ⟨u, ?_, ?_⟩
   · rw [← h4]; exact (evR_congr (evalO_looks k1)).symm
   ·
    have hne : d ≠ e := fun q => k2 (q ▸ h3)
    simpa [Act.put, Array.getElem?_setIfInBounds_ne hne] using h5
  ·
   rintro ⟨o, e, h1, h2, h3, h4⟩
   obtain ⟨k1, k2⟩ := hs o d h1 h2 rfl
   refine ⟨o, e, h1, h2, h3, fun hw => ?_⟩
   obtain ⟨u, h4, h5⟩ := h4 (by rw [wanted_put o a (some d) v (fun d' q => by cases q; exact k1)] at hw; exact hw)
   refine ⟨u, ?_, ?_⟩
   · rw [← h4]; exact evR_congr (evalO_looks k1)
   ·
    have hne : d ≠ e := fun q => k2 (q ▸ h3)
    simpa [Act.put, Array.getElem?_setIfInBounds_ne hne] using h5
section
variable {P : Program} {st : Nat → St → Option St} {ops : Array Oper} {bl : List Nat} {ef : Nat → Bool} {F : St}
/-- one may be taken first that commutes with all others -/
theorem takeW (df : DF ops bl) (J : St → Prop) (hJ : ∀ j s s', st j s = some s' → J s → J s') {i : Nat} (Wi : List Nat) (hef : ef i = false) (hWi : ∀ w ∈ Wi, w = i)
  (hcomm : ∀ (l : Array Bool) (j : Nat) (s si sij : St), DC ops bl l → i ∈ Region.ready .any ops l → j ∈ Region.ready .any ops l → j ≠ i → J s → st i s = some si → st j si = some sij → (∀ w ∈ Wi, Hd P ops w sij) → ∃ sj, st j s = some sj ∧ st i sj = some sij)
  (hback : ∀ (s si : St) (w : Nat), st i s = some si → w ≠ i → tb (getN bl w) i = false → Hd P ops w si → Hd P ops w s) :
  ∀ (n : Nat) (l : Array Bool) (s si : St) (W : List Nat), DC ops bl l → J s → i ∈ Region.ready .any ops l → st i s = some si → (∀ w ∈ W, w ≠ i ∧ tb (getN bl w) i = false) → absW P st ops bl ef F n (l.setIfInBounds i true) si (Wi ++ W) → absW P st ops bl ef F (n + 1) l s W := by
 intro n
 induction n with
 | zero =>
  intro l s si W dc hj0 hr hs hW H
  refine ⟨fun w hw => hback s si w hs (hW w hw).1 (hW w hw).2 (H.1 w (by simp [hw])), fun h => (by rw [h] at hr; cases hr), fun j hj => ?_⟩
  by_cases hji : j = i
  ·
   subst hji
   refine ⟨si, hs, ?_⟩
   have : flt ops bl ef j W = W := by unfold flt; rw [hef]; rfl
   rw [this]
   exact absW_mono P st ops bl ef F 0 _ _ W (Wi ++ W) (fun w hw => by simp [hw]) H
  ·
   have := ready_mono hj hji
   rw [H.2.1] at this
   cases this
 | succ n ih =>
  intro l s si W dc hj0 hr hs hW H
  refine ⟨fun w hw => hback s si w hs (hW w hw).1 (hW w hw).2 (H.1 w (by simp [hw])), fun h => (by rw [h] at hr; cases hr), fun j hj => ?_⟩
  by_cases hji : j = i
  ·
   subst hji
   refine ⟨si, hs, ?_⟩
   have : flt ops bl ef j W = W := by unfold flt; rw [hef]; rfl
   rw [this]
   exact absW_mono P st ops bl ef F (n + 1) _ _ W (Wi ++ W) (fun w hw => by simp [hw]) H
  ·
   obtain ⟨sij, h1, h2⟩ := H.2.2 j (ready_mono hj hji)
   have hnb := ready_not df dc (unlisted hr dc.1) hj
   have sub : ∀ w ∈ Wi ++ flt ops bl ef j W, w ∈ flt ops bl ef j (Wi ++ W) := by
    intro w hw
    unfold flt at hw ⊢
    split at hw
    ·
     rename_i c
     rw [if_pos c]
     rcases List.mem_append.1 hw with q | q
     ·
      refine List.mem_filter.2 ⟨by simp [q], ?_⟩
      rw [hWi w q, hnb]; rfl
     ·
      obtain ⟨q1, q2⟩ := List.mem_filter.1 q
      exact List.mem_filter.2 ⟨by simp [q1], q2⟩
    ·
     rename_i c
     rw [if_neg c]
     exact hw
   have h3 := absW_mono P st ops bl ef F n _ _ _ _ sub h2
   obtain ⟨sj, k1, k2⟩ := hcomm l j s si sij dc hr hj hji hj0 hs h1 (fun w hw => absW_hd P st ops bl ef F h3 w (by simp [hw]))
   refine ⟨sj, k1, ih _ sj sij _ (dc.set df hj) (hJ j s sj k1 hj0) (ready_mono hr (Ne.symm hji)) k2 (fun w hw => hW w (flt_mem hw)) ?_⟩
   rw [Array.setIfInBounds_comm _ _ hji]
   exact h3
/-- one alone may come up -/
theorem oneW {i n : Nat} {l : Array Bool} {s si : St} {W : List Nat} (hone : ∀ j ∈ Region.ready .any ops l, j = i) (hi : i ∈ Region.ready .any ops l) (hs : st i s = some si) (hW : ∀ w ∈ W, Hd P ops w s) (H : absW P st ops bl ef F n (l.setIfInBounds i true) si (flt ops bl ef i W)) : absW P st ops bl ef F (n + 1) l s W := by
 refine ⟨hW, fun h => (by rw [h] at hi; cases hi), fun j hj => ?_⟩
 rw [hone j hj]
 exact ⟨si, hs, H⟩
end
end Go.Proofs.YtfgfofedacehiaaGreat

/-
 OWN TEXT: an evaluator made for the kernel: regions whose order is drawn: the order that was looked at stands for all.
-/
namespace Go.Proofs.YtfgfofedacehiaaGreat
open Go.RowKit
set_option linter.unusedVariables false
set_option linter.unusedSimpArgs false
section
variable {K : Caller} {P : Program} {ops : Array Oper} {T : Tab} {bl td : List Nat}
/-- steps in an order, and what is looked at again -/
def Chain (K : Caller) (P : Program) (ops : Array Oper) (T : Tab) : List (Nat × List Nat) → St → St → Prop
 | [], s, F => s = F
 | (i, ws) :: rest, s, F => ∃ s', stI K P ops T i s = some s' ∧ (∀ w ∈ ws, Hd P ops w s') ∧ Chain K P ops T rest s' F
/-- the table tells just the new blocks that are listed -/
def TabOk (ops : Array Oper) (T : Tab) (td : List Nat) : Prop := ∀ i, (tvAt T i).isSome = memN td i ∧ (memN td i = true → ∃ o, ops[i]? = some o ∧ isN o.op = true)
theorem stI_put {i : Nat} {s s' : St} {o : Oper} (ho : ops[i]? = some o) (h : stI K P ops T i s = some s') : ∃ u, s'.1 = s.1.put o.dst u := by
 unfold stI at h
 rw [ho] at h
 simp only at h
 unfold stepT at h
 split at h
 · exact stepA_put h
 ·
  split at h
  ·
   split at h
   · cases h; exact ⟨_, rfl⟩
   · cases h
  · cases h; exact ⟨_, rfl⟩
theorem light_step {i : Nat} {s s' : St} {o : Oper} (ho : ops[i]? = some o) (hl : lightB (tvAt T i) o.op = true) (h : stI K P ops T i s = some s') : ∃ u, s' = (s.1.put o.dst u, s.2) := by
 unfold stI at h
 rw [ho] at h
 simp only at h
 unfold stepT at h
 split at h
 ·
  rename_i q
  rw [q] at hl
  unfold stepA at h
  split at h
  ·
   cases z : evOp K P s.2 (evalO s.1) o with
   | none => rw [z] at h; cases h
   | some x =>
    obtain ⟨v, A'⟩ := x
    rw [z] at h
    cases h
    have : A' = s.2 := evOp_keeps (by simp [lightB] at hl; simp [hl]) z
    subst this
    exact ⟨v, rfl⟩
  · cases h; exact ⟨undef, rfl⟩
 ·
  split at h
  ·
   split at h
   · cases h; exact ⟨_, rfl⟩
   · cases h
  · cases h; exact ⟨_, rfl⟩
theorem read_step {i : Nat} {s s' : St} {o : Oper} (ho : ops[i]? = some o) (hR : isR o.op = true) (hT : tvAt T i = none) (h : stI K P ops T i s = some s') : ∃ u, s' = (s.1.put o.dst u, s.2) ∧ (Region.wanted o (yielded ops s.1.tmps) = true → evR P s.2 (evalO s.1) o = some u) ∧ (Region.wanted o (yielded ops s.1.tmps) = false → u = undef) := by
 unfold stI at h
 rw [ho] at h
 simp only [hT, stepT] at h
 unfold stepA at h
 split at h
 ·
  rename_i hw
  rw [evOp_R hR] at h
  cases z : evR P s.2 (evalO s.1) o with
  | none => rw [z] at h; cases h
  | some x => rw [z] at h; cases h; exact ⟨x, rfl, fun _ => rfl, fun q => by rw [hw] at q; cases q⟩
 ·
  rename_i hw
  cases h
  exact ⟨undef, rfl, fun q => absurd q hw, fun _ => rfl⟩
/-- a read and another one, either way round, where it is there still -/
theorem swap_R {oi oj : Oper} (hap : oi.apart ops oj = true) (hR : isR oi.op = true) {tj : Option Td} {a : Act} {A : Mem} {u : Value} (hu : Region.wanted oi (yielded ops a.tmps) = false → u = undef) {sij : St} (h2 : stepT K P ops tj oj (a.put oi.dst u, A) = some sij)
  (hd : ∃ d, oi.dst = some d ∧ d ∉ oi.looksAt ops ∧ (Region.wanted oi (yielded ops sij.1.tmps) = true → ∃ v, evR P sij.2 (evalO sij.1) oi = some v ∧ sij.1.tmps[d]? = some v)) (hsz : ∀ d, oi.dst = some d → d < a.tmps.size) :
  ∃ sj, stepT K P ops tj oj (a, A) = some sj ∧ stepT K P ops none oi sj = some sij := by
 obtain ⟨p1, p2, p3⟩ := Oper.apart_spec hap
 obtain ⟨vj, B, e1, e2⟩ : ∃ vj B, stepT K P ops tj oj (a, A) = some (a.put oj.dst vj, B) ∧ sij = ((a.put oi.dst u).put oj.dst vj, B) := by
  cases tj with
  | some v =>
   simp only [stepT] at h2 ⊢
   rw [wanted_put oj a oi.dst u p1, evN_put oj a oi.dst u p1] at h2
   split at h2
   ·
    rename_i c
    split at h2
    · rename_i d; cases h2; exact ⟨v.1, A, by rw [if_pos c, if_pos d], rfl⟩
    · cases h2
   · rename_i c; cases h2; exact ⟨undef, A, by rw [if_neg c], rfl⟩
  | none =>
   simp only [stepT] at h2 ⊢
   unfold stepA at h2 ⊢
   simp only at h2 ⊢
   rw [wanted_put oj a oi.dst u p1, evOp_put oj a oi.dst u p1] at h2
   split at h2
   ·
    rename_i c
    rw [if_pos c]
    cases q : evOp K P A (evalO a) oj with
    | none => rw [q] at h2; cases h2
    | some x => rw [q] at h2; cases h2; exact ⟨x.1, x.2, rfl, rfl⟩
   ·
    rename_i c
    rw [if_neg c]
    cases h2
    exact ⟨undef, A, rfl, rfl⟩
 refine ⟨_, e1, ?_⟩
 subst e2
 obtain ⟨d, k1, k2, k3⟩ := hd
 have own : ∀ d', oi.dst = some d' → d' ∉ oi.looksAt ops := fun d' q => by rw [k1] at q; cases q; exact k2
 have w1 : Region.wanted oi (yielded ops (a.put oj.dst vj).tmps) = Region.wanted oi (yielded ops a.tmps) := wanted_put oi a oj.dst vj p3
 have w2 : Region.wanted oi (yielded ops ((a.put oi.dst u).put oj.dst vj).tmps) = Region.wanted oi (yielded ops a.tmps) := by
  rw [wanted_put oi (a.put oi.dst u) oj.dst vj p3, wanted_put oi a oi.dst u own]
 simp only [stepT]
 unfold stepA
 simp only
 rw [w1]
 cases hw : Region.wanted oi (yielded ops a.tmps) with
 | false =>
  rw [if_neg (by decide), hu hw]
  rw [Act.put_comm a undef vj p2]
 | true =>
  obtain ⟨v, k3, k4⟩ := k3 (by rw [w2]; exact hw)
  have hne : oj.dst ≠ some d := p2 d k1
  have hv : v = u := by
   have : ((a.put oi.dst u).put oj.dst vj).tmps[d]? = some u := by
    have e : (a.put oi.dst u).tmps[d]? = some u := by
     rw [k1, put_get (hsz d k1), if_pos rfl]
    cases q : oj.dst with
    | none => exact e
    | some d' =>
     have hd' : d' ≠ d := fun x => hne (by rw [q, x])
     simp only [Act.put, Array.getElem?_setIfInBounds_ne hd']
     exact e
   rw [this] at k4
   exact (Option.some.inj k4).symm
  subst hv
  have hev : evR P B (evalO (a.put oj.dst vj)) oi = some v := by
   rw [← k3]
   refine evR_congr fun x hx => ?_
   have e1 : evalO ((a.put oi.dst v).put oj.dst vj) x = evalO (a.put oi.dst v) x := evalO_put fun d' hd' hxd => p3 d' hd' (by exact List.mem_append_left _ (List.mem_filterMap.2 ⟨.tmp d', by rw [← hxd]; simpa using hx, rfl⟩))
   have e2 : evalO (a.put oi.dst v) x = evalO a x := evalO_put fun d' hd' hxd => own d' hd' (by exact List.mem_append_left _ (List.mem_filterMap.2 ⟨.tmp d', by rw [← hxd]; simpa using hx, rfl⟩))
   have e3 : evalO (a.put oj.dst vj) x = evalO a x := evalO_put fun d' hd' hxd => p3 d' hd' (by exact List.mem_append_left _ (List.mem_filterMap.2 ⟨.tmp d', by rw [← hxd]; simpa using hx, rfl⟩))
   show evalO (a.put oj.dst vj) x = evalO ((a.put oi.dst v).put oj.dst vj) x
   rw [e1, e2, e3]
  rw [if_pos rfl, evOp_R hR]
  simp only [hev, Option.map_some]
  rw [Act.put_comm a v vj p2]
end
end Go.Proofs.YtfgfofedacehiaaGreat

