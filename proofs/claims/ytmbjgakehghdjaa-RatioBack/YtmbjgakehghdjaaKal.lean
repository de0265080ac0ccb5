/-
  OWN TEXT: an evaluator made for the kernel: calls.
-/
import Derived.Test.YtmbjgakehghdjaaKak
namespace Go.Proofs.Ytmbjgakehghdjaa
open Go.RowKit
set_option linter.unusedVariables false
set_option linter.unusedSimpArgs false
section
variable {P : Program} {Ks : Caller} {kp : List Nat} {nt : Nat}
theorem trReg_ok {ex : Xn} (hex : XnOk P ex) (hB : KBody P Ks) (hK0 : KOk P Ks) (hP : Plain P) (hm : P.follows .mixedOrders = true) (hkp : kp.length ≤ 63) {hd : List (Nat × Hint)} {id : Nat} {ops : Array Oper} {draw : Bool} {c : XC} (h : trReg P ex kp hd nt id ops draw = some c) : CodeOk P Ks kp nt c (.region id ops draw) := by
  unfold trReg at h
  split at h
  · rename_i l o q
    cases draw with
    | false => exact def_code hex hB hK0 hP hkp q h
    | true => cases q
  · split at h
    · rename_i xr env n q
      refine reg_code hkp ?_ h
      cases draw with
      | false => exact seq_reg hex hB hK0 hP (by omega) q
      | true =>
        simp only at q
        split at q
        · exact draw_reg hex hB hK0 hP hm (by omega) q
        · cases q
    · cases h
theorem trC_ok {ex : Xn} (hex : XnOk P ex) (hB : KBody P Ks) (hK0 : KOk P Ks) (hP : Plain P) (hm : P.follows .mixedOrders = true) (hkp : kp.length ≤ 63) {hd : List (Nat × Hint)} : ∀ (code : Code) (c : XC), trC P ex kp hd nt code = some c → CodeOk P Ks kp nt c code := by
  intro code
  induction code with
  | skip => intro c h; cases h; exact skip_ok
  | label l => intro c h; cases h; exact label_ok l
  | exit id => intro c h; cases h; exact exit_ok id
  | ret => intro c h; cases h; exact ret_ok
  | region id ops draw => intro c h; exact trReg_ok hex hB hK0 hP hm hkp h
  | seq a b iha ihb =>
    intro c h
    simp only [trC] at h
    split at h
    · rename_i x y q1 q2
      cases h
      exact seq_ok (iha x q1) (ihb y q2)
    · cases h
  | cond s a b iha ihb =>
    intro c h
    simp only [trC] at h
    split at h
    · rename_i x y z q0 q1 q2
      cases h
      exact if_ok q0 (iha y q1) (ihb z q2)
    · cases h
  | block id a ih =>
    intro c h
    simp only [trC] at h
    split at h
    · rename_i x q
      cases h
      exact block_ok id (ih x q)
    · cases h
  | loop a ih =>
    intro c h
    simp only [trC] at h
    split at h
    · rename_i x q
      cases h
      exact loop_ok (ih x q)
    · cases h
  | scope a ih =>
    intro c h
    simp only [trC] at h
    exact scope_ok (ih c h)
  | _ => intro c h; cases h
end
/-- arguments are put -/
theorem argK_ok {kp : List Nat} : ∀ (n i : Nat) (ps : List Pt) (vs : List Value) (T : Tm) (k : Tm → Out) (out : Value × Me), argP kp n i = some ps → argK ps vs T k = some out →
    vs.length = n ∧ ∃ T', (∀ k, argK ps vs T k = k T') ∧ (∀ t j, slotF t kp 0 = some j → j < 64 → gT j T' = if i ≤ t ∧ t < i + n then vs.getD (t - i) undef else gT j T) ∧ ∀ j, j < 64 → (∀ t, slotF t kp 0 ≠ some j) → gT j T' = gT j T
  | 0, i, ps, vs, T, k, out, h, hk => by
    cases h
    cases vs with
    | nil => exact ⟨rfl, T, fun k => rfl, fun t j _ _ => by rw [if_neg (by omega)], fun _ _ _ => rfl⟩
    | cons v vs => cases hk
  | n + 1, i, ps, vs, T, k, out, h, hk => by
    have h' : (match slotF i kp 0, argP kp n (Nat.succ i) with | some m, some r => mkP m fun p => some (p :: r) | _, _ => none) = some ps := h
    split at h'
    · rename_i m r q1 q2
      obtain ⟨hm, p, hp, he⟩ := mkP_some h'
      cases he
      cases vs with
      | nil => cases hk
      | cons v vs =>
        have hk' : p v T (fun T => argK r vs T k) = some out := hk
        rw [hp] at hk'
        obtain ⟨e1, T', e2, e3, e4⟩ := argK_ok n (i + 1) r vs (pT m v T) k out q2 hk'
        refine ⟨by simp [e1], T', fun k => ?_, fun t j h1 h2 => ?_, fun j hj hn => by rw [e4 j hj hn, gT_pT hm hj, if_neg (fun e => hn i (by rw [q1, e]))]⟩
        · show p v T (fun T => argK r vs T k) = _
          rw [hp, e2]
        · rw [e3 t j h1 h2]
          by_cases c : t = i
          · subst c
            rw [q1] at h1
            cases h1
            rw [if_neg (by omega), if_pos (by omega), gT_pT hm h2, if_pos rfl, Nat.sub_self]
            rfl
          · by_cases d : i + 1 ≤ t ∧ t < i + 1 + n
            · rw [if_pos d, if_pos (by omega), show t - i = (t - (i + 1)) + 1 by omega]
              rfl
            · rw [if_neg d, if_neg (by omega)]
              have hne : m ≠ j := fun e => c (slotF_inj (e ▸ h1 : slotF t kp 0 = some m) q1)
              rw [gT_pT hm h2, if_neg hne]
    · cases h'
theorem resK_ok {P : Program} {kp : List Nat} {T : Tm} {M : Me} {a : Act} (hT : TRel kp T a) : ∀ (l : List ResultVar) (rs : List ((Tm → Value) × Option (Bool × Nat))) (k : List Value → Out) (out : Value × Me), resP P kp l = some rs → resK rs T M k = some out →
    ∃ vs, (∀ k, resK rs T M k = k vs) ∧ resL P (a, toMem M) l = some vs
  | [], rs, k, out, h, hk => by cases h; exact ⟨[], fun k => rfl, rfl⟩
  | .tmp t :: l, rs, k, out, h, hk => by
    simp only [resP] at h
    split at h
    · rename_i n r q1 q2
      obtain ⟨hn, g, hg, he⟩ := mkG_some h
      cases he
      have hk' : resK r T M (fun l => k (g T :: l)) = some out := hk
      obtain ⟨vs, e1, e2⟩ := resK_ok hT l r _ out q2 hk'
      refine ⟨g T :: vs, fun k => ?_, ?_⟩
      · show resK r T M (fun l => k (g T :: l)) = _
        rw [e1]
      · simp only [resL, hT t n q1 hn, e2, hg]
    · cases h
  | .cell ad t :: l, rs, k, out, h, hk => by
    simp only [resP] at h
    split at h
    · rename_i n d i r q1 q2 q3 q4
      obtain ⟨hn, g, hg, he⟩ := mkG_some h
      cases he
      have hk' : ldK i.size d.isRow (g T) M (fun u => resK r T M fun l => k (u :: l)) = some out := hk
      obtain ⟨b, off, u, c1, c2, c3⟩ := ldK_some (P := P) hk'
      rw [c2] at hk'
      obtain ⟨vs, e1, e2⟩ := resK_ok hT l r _ out q4 hk'
      refine ⟨u :: vs, fun k => ?_, ?_⟩
      · show ldK i.size d.isRow (g T) M (fun u => resK r T M fun l => k (u :: l)) = _
        rw [c2, e1]
      · have ha := hT ad n q1 hn
        rw [← hg, c1] at ha
        have hl : loadO P (toMem M) t b off = some u := by
          unfold loadO
          rcases c3 with ⟨blk, hb, ⟨hrow, c4, c5⟩ | ⟨hrow, c4⟩⟩ | ⟨hb, hrow, z, c4, c5⟩
          · simp only [hb, q2, hrow, if_true, q3, c4, c5]
          · simp only [hb, q2, hrow, Bool.false_eq_true, if_false, c4]
          · simp only [hb, q2, hrow, Bool.false_eq_true, if_false, c4, c5]
        simp only [resL, ha, e2, hl]
    · cases h
theorem finK_ok {l : List Value} {k : Value → Out} {out : Value × Me} (h : finK l k = some out) {P : Program} {fn : Func} {s : St} (hr : resL P s fn.results.toList = some l) : ∃ v, (∀ k, finK l k = k v) ∧ resO P fn s = some v := by
  unfold resO
  rw [hr]
  match l, h with
  | [], _ => exact ⟨_, fun k => rfl, rfl⟩
  | [v], _ => exact ⟨v, fun k => rfl, rfl⟩
  | v :: u :: m, h =>
    have h' : cond (notTuple v && (u :: m).all notTuple) (k (.tuple ⟨v :: u :: m⟩)) none = some out := h
    by_cases c : (notTuple v && (u :: m).all notTuple) = true
    · refine ⟨.tuple ⟨v :: u :: m⟩, fun k => ?_, ?_⟩
      · show cond (notTuple v && (u :: m).all notTuple) (k (.tuple ⟨v :: u :: m⟩)) none = _
        rw [c]; rfl
      · have : (v :: u :: m).all notTuple = true := by rw [List.all_cons]; exact c
        simp only [this, if_true]
    · rw [Bool.eq_false_iff.2 c] at h'; cases h'
/-- calls, as a caller -/
noncomputable def specK (K : KC) : Caller := fun f args A => by
  classical
  exact if h : ∃ M, Can M ∧ toMem M = A then (K f args (Classical.choose h) (fun v M => some (v, M))).map (fun x => (x.1, toMem x.2)) else none
theorem specK_at (K : KC) {M : Me} (hM : Can M) (f : FuncId) (args : List Value) : specK K f args (toMem M) = (K f args M (fun v M => some (v, M))).map (fun x => (x.1, toMem x.2)) := by
  have h : ∃ N, Can N ∧ toMem N = toMem M := ⟨M, hM, rfl⟩
  unfold specK
  rw [dif_pos h]
  obtain ⟨k1, k2⟩ := Classical.choose_spec h
  rw [k1.ext hM k2]
theorem specK_some {K : KC} {f : FuncId} {args : List Value} {A : Mem} {r : Value × Mem} (h : specK K f args A = some r) : ∃ M v M', Can M ∧ toMem M = A ∧ K f args M (fun v M => some (v, M)) = some (v, M') ∧ r = (v, toMem M') := by
  unfold specK at h
  split at h
  · rename_i q
    obtain ⟨k1, k2⟩ := Classical.choose_spec q
    rw [Option.map_eq_some_iff] at h
    obtain ⟨x, h1, h2⟩ := h
    exact ⟨_, x.1, x.2, k1, k2, h1, h2.symm⟩
  · cases h
/-- a function is entered -/
theorem entK_ok {P : Program} {ex : Xn} (hex : XnOk P ex) (hP : Plain P) (hm : P.follows .mixedOrders = true) {kp : Kp} {hs : Hs} {fuel : Nat} {K : KC} {Ks : Caller} (g1 : KGood K Ks) (g2 : KOk P Ks) (g3 : KBody P Ks) {f : FuncId} {args : List Value} {M : Me} {kk : List ((Tm → Value) × Option (Bool × Nat)) → Tm → Me → Out} {out : Value × Me} (hM : Can M) (hk : entK P ex kp hs fuel K f args M kk = some out) :
    ∃ fn c rs e a1 T1 M1, P.funcs[f]? = some fn ∧ fn.body = some c ∧ resP P (kp f) fn.results.toList = some rs ∧ (e = .normal ∨ e = .ret) ∧ Can M1 ∧ TRel (kp f) T1 a1 ∧ DT T1 a1 ∧ (∀ kk, entK P ex kp hs fuel K f args M kk = kk rs T1 M1) ∧
      ∀ (w0 : World) (r : Rho) (w : World) (args' : List Value), Rel P w0 r (toMem M) w → LR (VRel r) args args' → c.wp P (Post P w0 r (toMem M) e (a1, toMem M1)) { tmps := ⟨args'⟩ ++ Array.replicate (fn.ntmps - args'.length) undef, defers := [] } w := by
  unfold entK at hk
  cases q : trF P ex kp hs f with
  | none => rw [q] at hk; cases hk
  | some F =>
    rw [q] at hk
    simp only at hk
    have key : ∀ kk, entK P ex kp hs fuel K f args M kk = argK F.args args t0 fun T => F.code K fuel T M (kk F.res) (fun _ _ _ => none) (kk F.res) := fun kk => by
      unfold entK
      rw [q]
    unfold trF at q
    split at q
    · rename_i fn qf
      rw [nth_eq, Array.getElem?_toList] at qf
      split at q
      · rename_i c qc
        cases hb : (Nat.ble (kp f).length 63 && Nat.ble (Nat.add fn.params.size fn.nfree) fn.ntmps && allR (kp f) (fun t => Nat.blt t fn.ntmps)) with
        | false => rw [hb] at q; cases q
        | true =>
          rw [hb, cond_true] at q
          rw [Bool.and_eq_true, Bool.and_eq_true, ble_iff, ble_iff, decide_eq_true_eq, decide_eq_true_eq] at hb
          obtain ⟨⟨b1, b2⟩, b3⟩ := hb
          split at q
          · rename_i x ps rs q1 q2 q3
            cases q
            obtain ⟨hl, T, e2, e3, e4⟩ := argK_ok _ 0 ps args t0 _ out q2 hk
            have hl' : args.length = fn.params.size + fn.nfree := hl
            have b2' : fn.params.size + fn.nfree ≤ fn.ntmps := b2
            rw [e2] at hk
            let a : Act := { tmps := ⟨args ++ List.replicate (fn.ntmps - args.length) undef⟩, defers := [] }
            have hat : ∀ t : Nat, a.tmps[t]? = (args ++ List.replicate (fn.ntmps - args.length) undef)[t]? := fun t => by
              show (List.toArray (args ++ List.replicate (fn.ntmps - args.length) undef))[t]? = _
              rw [List.getElem?_toArray]
            have hsz : a.tmps.size = fn.ntmps := by
              show (args ++ List.replicate (fn.ntmps - args.length) undef).length = _
              simp
              omega
            have hT : TRel (kp f) T a := by
              intro t i h1 h2
              rw [e3 t i h1 h2]
              have hmem : t ∈ kp f := List.mem_of_getElem? (slotF_ok h1).2
              have hlt := allR_iff b3 t hmem
              rw [blt_iff, decide_eq_true_eq] at hlt
              rw [hat]
              by_cases c : t < args.length
              · rw [if_pos ⟨Nat.zero_le _, by have : t < 0 + Nat.add fn.params.size fn.nfree := by (show t < 0 + (fn.params.size + fn.nfree)); omega
                                              exact this⟩, List.getElem?_append_left c, Nat.sub_zero, List.getD_eq_getElem?_getD, List.getElem?_eq_getElem c]
                rfl
              · rw [if_neg (by rintro ⟨_, h4⟩; have h5 : t < 0 + (fn.params.size + fn.nfree) := h4; omega), List.getElem?_append_right (by omega), List.getElem?_replicate, if_pos (by omega), gT_t0 h2]
            have hD : DT T a := by
              unfold DT
              rw [e4 63 (by decide) (slot63 b1), gT_t0 (by decide)]
              rfl
            have hcode : CodeOk P Ks (kp f) fn.ntmps x c := trC_ok hex g3 g2 hP hm b1 c x q1
            obtain ⟨e, T1, M1, a1, s⟩ := hcode K fuel T M _ _ _ out a g1 hM hsz hD hT hk
            have hk : x K fuel T M (kk rs) (fun _ _ _ => none) (kk rs) = some out := hk
            rw [s.ends] at hk
            have he : e = .normal ∨ e = .ret := by
              cases e with
              | normal => exact Or.inl rfl
              | ret => exact Or.inr rfl
              | exit id => cases hk
            refine ⟨fn, c, rs, e, a1, T1, M1, qf, qc, q3, he, s.can, s.rel, s.no, fun kk => ?_, fun w0 r w args' hr hargs => ?_⟩
            · rw [key, e2]
              show x K fuel T M (kk rs) (fun _ _ _ => none) (kk rs) = _
              rw [s.ends]
              rcases he with rfl | rfl <;> rfl
            · have ha : ActRel r a { tmps := ⟨args'⟩ ++ Array.replicate (fn.ntmps - args'.length) undef, defers := [] } := by
                have hl2 := hargs.1
                refine ⟨fun i g l q => (hr.ro i g l q).1, .nil, by show (args ++ List.replicate (fn.ntmps - args.length) undef).length = _; simp [hl2], fun i u hu => ?_⟩
                have hu' : (args ++ List.replicate (fn.ntmps - args.length) undef)[i]? = some u := by rw [← hat]; exact hu
                rcases Nat.lt_or_ge i args.length with c | c
                · rw [List.getElem?_append_left c] at hu'
                  rw [Array.getElem?_append_left (by simp; omega)]
                  obtain ⟨u', z1, z2⟩ := hargs.2 i u hu'
                  exact ⟨u', by simpa using z1, z2⟩
                · rw [List.getElem?_append_right c] at hu'
                  rw [Array.getElem?_append_right (by simp; omega)]
                  simp only [List.size_toArray, Array.getElem?_replicate, List.getElem?_replicate] at hu' ⊢
                  split at hu'
                  · cases hu'
                    exact ⟨undef, by rw [if_pos (by omega)], VRel.undef r⟩
                  · cases hu'
              exact s.wp w0 r _ w ha hr
          · cases q
      · cases q
    · cases q
theorem tupK_some {v : Value} {k : List Value → Out} {out : Value × Me} (h : tupK v k = some out) : ∃ l, v = .tuple ⟨l⟩ ∧ ∀ k, tupK v k = k l := by
  unfold tupK at h
  split at h
  · exact ⟨_, rfl, fun k => rfl⟩
  · cases h
/-- a call that was put off -/
theorem xdef_ok {P : Program} {ex : Xn} (hex : XnOk P ex) (hP : Plain P) (hm : P.follows .mixedOrders = true) {kp : Kp} {hs : Hs} {fuel : Nat} {K : KC} {Ks : Caller} (g1 : KGood K Ks) (g2 : KOk P Ks) (g3 : KBody P Ks) {f : FuncId} {args : List Value} {M : Me} {k : Me → Out} {out : Value × Me} (hM : Can M) (hk : xdef P ex kp hs fuel K f args M k = some out) :
    ∃ M', Can M' ∧ (∀ k, xdef P ex kp hs fuel K f args M k = k M') ∧ (∃ fn, P.funcs[f]? = some fn ∧ fn.body.isSome = true) ∧
      ∀ (w0 : World) (r : Rho) (w : World) (args' : List Value) (u : FrameMode), Rel P w0 r (toMem M) w → LR (VRel r) args args' → CallsD P f ⟨args'⟩ u w fun e u' w' => u' = u ∧ ∃ r' v', r.le r' ∧ e = .returned v' ∧ Rel P w0 r' (toMem M') w' ∧ Keep r (toMem M) (toMem M') := by
  obtain ⟨fn, c, rs, e, a1, T1, M1, h1, h2, h3, h4, h5, h6, h7, h8, h9⟩ := entK_ok hex hP hm g1 g2 g3 hM hk
  unfold xdef at hk
  rw [h8] at hk
  obtain ⟨l, c1, c2⟩ := tupK_some hk
  rw [c2] at hk
  cases l with
  | cons v l => cases hk
  | nil =>
    have hk' : resK rs T1 M1 (fun l => finK l fun _ => k M1) = some out := hk
    obtain ⟨vs, j1, j2⟩ := resK_ok (P := P) h6 _ rs _ out h3 hk'
    rw [j1] at hk'
    obtain ⟨v, j3, j4⟩ := finK_ok hk' j2
    have hd : a1.defers = [] := by
      unfold DT at h7
      have c1' : gT 63 T1 = .tuple ⟨[]⟩ := c1
      rw [c1'] at h7
      injection h7 with h7
      injection h7 with h7
      exact List.map_eq_nil_iff.1 h7.symm
    refine ⟨M1, h5, fun k => ?_, ⟨fn, h1, by rw [h2]; rfl⟩, fun w0 r w args' u hr hargs => ?_⟩
    · unfold xdef
      rw [h8, c2]
      show resK rs T1 M1 (fun l => finK l fun _ => k M1) = _
      rw [j1, j3]
    · refine callsD_of_wp (R := fun e w' => ∃ r' v', r.le r' ∧ e = .returned v' ∧ Rel P w0 r' (toMem M1) w' ∧ Keep r (toMem M) (toMem M1)) h1 h2 ?_
      refine wp_mono (h9 w0 r w args' hr hargs) ?_
      rintro e' a' w' ⟨rfl, r', z1, z2, z3, z4⟩
      obtain ⟨v', y1, y2⟩ := resO_sound z2 z3 j4
      have hno : a'.defers = [] := by
        have := z2.no
        rw [show (a1, toMem M1).1.defers = [] from hd] at this
        generalize a'.defers = dd at *
        cases this
        rfl
      rcases h4 with rfl | rfl
      · exact ⟨hno, v', y1, r', v', z1, rfl, z3, z4⟩
      · exact ⟨hno, v', y1, r', v', z1, rfl, z3, z4⟩
theorem dfK_ok {P : Program} {ex : Xn} (hex : XnOk P ex) (hP : Plain P) (hm : P.follows .mixedOrders = true) {kp : Kp} {hs : Hs} {fuel : Nat} {K : KC} {Ks : Caller} (g1 : KGood K Ks) (g2 : KOk P Ks) (g3 : KBody P Ks) : ∀ (ds : List Deferred) (M : Me) (k : Me → Out) (out : Value × Me), Can M → dfK (xdef P ex kp hs fuel K) (ds.map encD) M k = some out →
    ∃ M', Can M' ∧ (∀ k, dfK (xdef P ex kp hs fuel K) (ds.map encD) M k = k M') ∧ ∀ (w0 : World) (r : Rho) (w : World) (ds' : List Deferred) (fn : Func) (tmps : Array Value) (R : Ending → World → Prop), DR r ds ds' → Rel P w0 r (toMem M) w →
      (∀ r' w', r.le r' → Rel P w0 r' (toMem M') w' → Keep r (toMem M) (toMem M') → ∃ v, (results fn tmps).run P w' = .ok v w' ∧ R (.returned v) w') → Leaves P fn tmps R ds' .returning w
  | [], M, k, out, hM, hk => ⟨M, hM, fun k => rfl, fun w0 r w ds' fn tmps R hd hr hQ => by
      cases hd
      exact hQ r w (Rho.le.refl r) hr (Keep.refl r _)⟩
  | d :: ds, M, k, out, hM, hk => by
    have hk' : fnK (encD d) (fun f args => xdef P ex kp hs fuel K f args M fun M => dfK (xdef P ex kp hs fuel K) (ds.map encD) M k) = some out := hk
    obtain ⟨f, la, lc, hde, hk1⟩ : ∃ f la lc, d = ⟨.fn (.func f) ⟨lc⟩, ⟨la⟩⟩ ∧ xdef P ex kp hs fuel K f (la ++ lc) M (fun M => dfK (xdef P ex kp hs fuel K) (ds.map encD) M k) = some out := by
      obtain ⟨tg, ⟨la⟩⟩ := d
      cases tg with
      | fn g c =>
        obtain ⟨c⟩ := c
        cases g with
        | func f => exact ⟨f, la, c, rfl, hk'⟩
        | _ => cases hk'
      | _ => cases hk'
    subst hde
    obtain ⟨M1, c1, c2, ⟨fx, cf1, cf2⟩, c3⟩ := xdef_ok hex hP hm g1 g2 g3 hM hk1
    rw [c2] at hk1
    obtain ⟨M2, e1, e2, e3⟩ := dfK_ok hex hP hm g1 g2 g3 ds M1 k out c1 hk1
    refine ⟨M2, e1, fun k => ?_, fun w0 r w ds' fn tmps R hd hr hQ => ?_⟩
    · show fnK (encD ⟨.fn (.func f) ⟨lc⟩, ⟨la⟩⟩) (fun f args => xdef P ex kp hs fuel K f args M fun M => dfK (xdef P ex kp hs fuel K) (ds.map encD) M k) = _
      show xdef P ex kp hs fuel K f (la ++ lc) M (fun M => dfK (xdef P ex kp hs fuel K) (ds.map encD) M k) = _
      rw [c2, e2]
    · cases hd with
      | cons hl hc hd =>
        rename_i la' lc' ds'
        have hall : LR (VRel r) (la ++ lc) (la' ++ lc') := by
          refine ⟨by simp [hl.1, hc.1], fun i v hi => ?_⟩
          rcases Nat.lt_or_ge i la.length with q | q
          · rw [List.getElem?_append_left q] at hi
            rw [List.getElem?_append_left (by rw [← hl.1]; exact q)]
            exact hl.2 i v hi
          · rw [List.getElem?_append_right q] at hi
            rw [List.getElem?_append_right (by rw [← hl.1]; exact q), ← hl.1]
            exact hc.2 _ v hi
        have hrun : (invoke (.fn (.func f) ⟨lc'⟩) ⟨la'⟩).run P w = .ok (.enter f ⟨la' ++ lc'⟩) w := by
          have hpl := hP f fx cf1 cf2
          have hbn : fx.body.isNone = false := by cases q : fx.body with | none => rw [q] at cf2; cases cf2 | some _ => rfl
          have hnr : ¬ fx.name = "runtime.NumGoroutine" := by simpa using hpl
          have n2 : ¬ fx.body = none := by intro q; rw [q] at cf2; cases cf2
          simp [invoke, callFunc, cf1, n2, hnr]
        refine leaves_cons (fun q => by cases q) hrun ((c3 w0 r w (la' ++ lc') .returning hr hall).mono ?_)
        rintro e u' w' ⟨rfl, r', v', z1, rfl, z2, z3⟩
        show Leaves P fn tmps R ds' (settle .returning) w'
        refine e3 w0 r' w' ds' fn tmps R (hd.mono z1.wk) z2 fun r'' w'' y1 y2 y3 => ?_
        exact hQ r'' w'' (z1.trans y1) y2 (Keep.trans z1 z3 y3)
/-- a call comes to its end as it is told -/
theorem xcall_ok {P : Program} {ex : Xn} (hex : XnOk P ex) (hP : Plain P) (hm : P.follows .mixedOrders = true) (kp : Kp) (hs : Hs) (fuel : Nat) : ∀ n, ∃ Ks, KGood (xcall P ex kp hs fuel n) Ks ∧ KOk P Ks ∧ KBody P Ks
  | 0 => ⟨fun _ _ _ => none, fun f vs M k out _ h => (by cases h), fun w0 r A w f args args' v A' h => (by cases h), fun f vs A r h => (by cases h)⟩
  | n + 1 => by
    obtain ⟨K1, g1, g2, g3⟩ := xcall_ok hex hP hm kp hs fuel n
    -- what one call does
    have one : ∀ (f : FuncId) (args : List Value) (M : Me) (k : Value → Me → Out) (out : Value × Me), Can M → xcall P ex kp hs fuel (n + 1) f args M k = some out →
        ∃ v M', Can M' ∧ (∀ k, xcall P ex kp hs fuel (n + 1) f args M k = k v M') ∧ (∃ fn, P.funcs[f]? = some fn ∧ fn.body.isSome = true) ∧
          ∀ (w0 : World) (r : Rho) (w : World) (args' : List Value), Rel P w0 r (toMem M) w → LR (VRel r) args args' → Calls P f ⟨args'⟩ w fun x w' => ∃ r' v', r.le r' ∧ x = .returned v' ∧ VRel r' v v' ∧ Rel P w0 r' (toMem M') w' ∧ Keep r (toMem M) (toMem M') := by
      intro f args M k out hM hk
      have key : ∀ k, xcall P ex kp hs fuel (n + 1) f args M k = entK P ex kp hs fuel (xcall P ex kp hs fuel n) f args M fun rs T M => endK P ex kp hs fuel (xcall P ex kp hs fuel n) rs T M k := fun k => rfl
      rw [key] at hk
      obtain ⟨fn, c, rs, e, a1, T1, M1, h1, h2, h3, h4, h5, h6, h7, h8, h9⟩ := entK_ok hex hP hm g1 g2 g3 hM hk
      rw [h8] at hk
      have hk' : tupK (gT 63 T1) (fun l => dfK (xdef P ex kp hs fuel (xcall P ex kp hs fuel n)) l M1 fun M => resK rs T1 M fun l => finK l fun v => k v M) = some out := hk
      unfold DT at h7
      rw [h7] at hk'
      have hk2 : dfK (xdef P ex kp hs fuel (xcall P ex kp hs fuel n)) (a1.defers.map encD) M1 (fun M => resK rs T1 M fun l => finK l fun v => k v M) = some out := hk'
      obtain ⟨M2, c1, c2, c3⟩ := dfK_ok hex hP hm g1 g2 g3 a1.defers M1 _ out h5 hk2
      rw [c2] at hk2
      obtain ⟨vs, j1, j2⟩ := resK_ok (P := P) h6 _ rs _ out h3 hk2
      rw [j1] at hk2
      obtain ⟨v, j3, j4⟩ := finK_ok hk2 j2
      refine ⟨v, M2, c1, fun k => ?_, ⟨fn, h1, by rw [h2]; rfl⟩, fun w0 r w args' hr hargs => ?_⟩
      · rw [key, h8]
        show tupK (gT 63 T1) (fun l => dfK (xdef P ex kp hs fuel (xcall P ex kp hs fuel n)) l M1 fun M => resK rs T1 M fun l => finK l fun v => k v M) = _
        rw [h7]
        show dfK (xdef P ex kp hs fuel (xcall P ex kp hs fuel n)) (a1.defers.map encD) M1 (fun M => resK rs T1 M fun l => finK l fun v => k v M) = _
        rw [c2, j1, j3]
      · refine calls_of_wp_defers h1 h2 ?_
        refine wp_mono (h9 w0 r w args' hr hargs) ?_
        rintro e' a' w' ⟨rfl, r', z1, z2, z3, z4⟩
        have fin : Leaves P fn a'.tmps (fun x w' => ∃ r' v', r.le r' ∧ x = .returned v' ∧ VRel r' v v' ∧ Rel P w0 r' (toMem M2) w' ∧ Keep r (toMem M) (toMem M2)) a'.defers .returning w' := by
          refine c3 w0 r' w' a'.defers fn a'.tmps _ z2.no z3 fun r'' w'' y1 y2 y3 => ?_
          obtain ⟨v', x1, x2⟩ := resO_sound (s := (a1, toMem M2)) (z2.mono y1.wk) y2 j4
          exact ⟨v', x1, r'', v', z1.trans y1, rfl, x2, y2, Keep.trans z1 z4 y3⟩
        rcases h4 with rfl | rfl
        · exact fin
        · exact fin
    refine ⟨specK (xcall P ex kp hs fuel (n + 1)), ?_, ?_, ?_⟩
    · intro f vs M k out hM hk
      obtain ⟨v, M', k1, k2, _⟩ := one f vs M k out hM hk
      exact ⟨v, M', k1, k2, by rw [specK_at _ hM, k2]; rfl⟩
    · intro w0 r A w f args args' v A' h hr hargs
      obtain ⟨M, v1, M', c1, c2, c3, c4⟩ := specK_some h
      subst c2
      cases c4
      obtain ⟨v2, M2, k1, k2, _, k3⟩ := one f args M _ _ c1 c3
      rw [k2] at c3
      cases c3
      exact k3 w0 r w args' hr hargs
    · intro f vs A r h
      obtain ⟨M, v1, M', c1, c2, c3, c4⟩ := specK_some h
      obtain ⟨_, _, _, _, k3, _⟩ := one f vs M _ _ c1 c3
      exact k3
theorem m0_none (n b : Nat) : getB ⟨n, m0⟩ b = none := by
  rw [getB_eq]
  have h1 : ∀ {β : Type} (n : Nat) (x : β), g8 n (rep8 x) = x := by
    intro β n x
    rcases n with _ | _ | _ | _ | _ | _ | _ | n <;> rfl
  unfold m0
  rw [h1, h1, h1, h1, h1]
theorem m0_can {n : Nat} (h : n ≤ 32768) : Can ⟨n, m0⟩ := ⟨h, fun b _ _ => m0_none n b⟩
theorem m0_ro : toMem ⟨roTab.length, m0⟩ = roMem := by
  refine List.ext_getElem? fun i => ?_
  rw [toMem_get]
  show (if i < roTab.length then _ else _) = _
  unfold roMem
  rw [List.getElem?_map, m0_none]
  by_cases c : i < roTab.length
  · rw [if_pos c, List.getElem?_eq_getElem c]; rfl
  · rw [if_neg c, List.getElem?_eq_none (by omega)]; rfl
/-- THE LAW: a call of values without addresses that comes to such a value -/
theorem xevaluated {P : Program} {ex : Xn} (hex : XnOk P ex) (hP : Plain P) (hm : P.follows .mixedOrders = true) (hro : roTab.length ≤ 32768) (kp : Kp) (hs : Hs) (fuel n : Nat) {f : FuncId} {args : List Value} {v : Value} (hf : args.all flat = true) (hv : flat v = true)
    (h : ((xcall P ex kp hs fuel n f args ⟨roTab.length, m0⟩ (fun v M => some (v, M))).any fun x => eq3 v x.1) = true) (w : World) (hw : RoOk w) : Calls P f ⟨args⟩ w fun x w' => x = .returned v ∧ Below w.heap.size w w' := by
  obtain ⟨Ks, g1, g2, _⟩ := xcall_ok hex hP hm kp hs fuel n
  cases q : xcall P ex kp hs fuel n f args ⟨roTab.length, m0⟩ (fun v M => some (v, M)) with
  | none => rw [q] at h; cases h
  | some y =>
    obtain ⟨v1, M1, k1, k2, k3⟩ := g1 f args _ _ y (m0_can hro) q
    rw [k2] at q
    cases q
    rw [k2] at h
    have hu : v = v1 := eq3_ok (by simpa using h)
    subst hu
    have hl : LR (VRel roRho) args args := LR.of_all (fun v h => VRel.of_flat roRho h) hf
    exact (g2 w roRho _ w f args args v _ k3 (by rw [m0_ro]; exact Rel.start P w hw) hl).mono fun x w' hx => by
      obtain ⟨r', v', _, rfl, j2, j3, _⟩ := hx
      exact ⟨by rw [j2.same hv], j3.below⟩
def xPlainB (P : Program) : Bool := P.funcs.toList.all fun fn => fn.body.isNone || !(fn.name == "runtime.NumGoroutine")
theorem xPlain_of {P : Program} (h : xPlainB P = true) : Plain P := by
  intro f fn hf hb
  have := List.all_eq_true.1 h fn (by simpa using Array.mem_of_getElem? hf)
  rw [Bool.or_eq_true] at this
  rcases this with h | h
  · cases q : fn.body with
    | none => rw [q] at hb; cases hb
    | some c => rw [q] at h; cases h
  · simpa using h
end Go.Proofs.Ytmbjgakehghdjaa
