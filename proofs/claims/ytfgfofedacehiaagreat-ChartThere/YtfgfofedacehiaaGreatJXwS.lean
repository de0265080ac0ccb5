/-
 OWN TEXT: an evaluator made for the kernel: calls.
-/
import Derived.Test.YtfgfofedacehiaaGreatJXwR
import Derived.Recover
namespace Go.Proofs.YtfgfofedacehiaaGreat
open Go.RowKit
set_option linter.unusedVariables false
set_option linter.unusedSimpArgs false
section
variable {P : Program} {Ks Kp : Caller} {rt kp : List Nat} {nt : Nat}
theorem trReg_ok {ex : Xn} (hex : XnOk P ex) (hB : KBody P Ks) (hB2 : KBody P Kp) (hK0 : KOk P Ks) (hK2 : KpOk P Kp) (hP : Plain P) (hm : P.follows .mixedOrders = true) (hkp : kp.length ≤ 63) {hd : List (Nat × Hint)} {id : Nat} {ops : Array Oper} {draw : Bool} {c : XC} (h : trReg P ex kp rt hd nt id ops draw = some c) : CodeOk P Ks Kp rt kp nt c (.region id ops draw) := by
 unfold trReg at h
 cases hqs : (quiet ops.toList || safeR rt ops.toList) with
 | false => rw [hqs] at h; cases h
 | true =>
  rw [hqs] at h
  rw [Bool.or_eq_true] at hqs
  simp only at h
  split at h
  ·
   rename_i l o q
   cases draw with
   | false => exact def_code hex hB hB2 hK0 hP hkp q h
   | true => cases q
  ·
   split at h
   ·
    rename_i xr env n q
    refine reg_code hkp ?_ h
    cases draw with
    | false => exact seq_reg hex hB hB2 hK0 hK2 hP (by omega) hqs q
    | true =>
     simp only at q
     split at q
     · exact draw_reg hex hB hB2 hK0 hK2 hP hm (by omega) hqs q
     · cases q
   · cases h
theorem trC_ok {ex : Xn} (hex : XnOk P ex) (hB : KBody P Ks) (hB2 : KBody P Kp) (hK0 : KOk P Ks) (hK2 : KpOk P Kp) (hP : Plain P) (hm : P.follows .mixedOrders = true) (hkp : kp.length ≤ 63) {hd : List (Nat × Hint)} : ∀ (code : Code) (c : XC), trC P ex kp rt hd nt code = some c → CodeOk P Ks Kp rt kp nt c code := by
 intro code
 induction code with
 | skip => intro c h; cases h; exact skip_ok
 | label l => intro c h; cases h; exact label_ok l
 | exit id => intro c h; cases h; exact exit_ok id
 | ret => intro c h; cases h; exact ret_ok
 | region id ops draw =>
  intro c h
  simp only [trC] at h
  split at h
  ·
   rename_i x q
   cases h
   exact trReg_ok hex hB hB2 hK0 hK2 hP hm hkp q
  ·
   cases h
   exact bad_ok _
 | seq a b iha ihb =>
  intro c h
  simp only [trC] at h
  split at h
  ·
   rename_i x y q1 q2
   cases h
   exact seq_ok (iha x q1) (ihb y q2)
  · cases h
 | cond s a b iha ihb =>
  intro c h
  simp only [trC] at h
  split at h
  ·
   rename_i x y z q0 q1 q2
   cases h
   exact if_ok q0 (iha y q1) (ihb z q2)
  · cases h
 | block id a ih =>
  intro c h
  simp only [trC] at h
  split at h
  ·
   rename_i x q
   cases h
   exact block_ok id (ih x q)
  · cases h
 | loop a ih =>
  intro c h
  simp only [trC] at h
  split at h
  ·
   rename_i x q
   cases h
   exact loop_ok (ih x q)
  · cases h
 | scope a ih =>
  intro c h
  simp only [trC] at h
  exact scope_ok (ih c h)
 | _ => intro c h; cases h; exact bad_ok _
end
/-- arguments are put -/
theorem argK_ok {kp : List Nat} : ∀ (n i : Nat) (ps : List Pt) (vs : List Value) (T : Tm) (k : Tm → Out) (out : Value × Me), argP kp n i = some ps → argK ps vs T k = some out →
  vs.length = n ∧ ∃ T', (∀ k, argK ps vs T k = k T') ∧ (∀ t j, slotF t kp 0 = some j → j < 64 → gT j T' = if i ≤ t ∧ t < i + n then vs.getD (t - i) undef else gT j T) ∧ ∀ j, j < 64 → (∀ t, slotF t kp 0 ≠ some j) → gT j T' = gT j T
 | 0, i, ps, vs, T, k, out, h, hk => by
  cases h
  cases vs with
  | nil => exact ⟨rfl, T, fun k => rfl, fun t j _ _ => by rw [if_neg (by omega)], fun _ _ _ => rfl⟩
  | cons v vs => cases hk
 | n + 1, i, ps, vs, T, k, out, h, hk => by
  have h' : (match slotF i kp 0, argP kp n (Nat.succ i) with | some m, some r => mkP m fun p => some (p :: r) | _, _ => none) = some ps := h
  split at h'
  ·
   rename_i m r q1 q2
   obtain ⟨hm, p, hp, he⟩ := mkP_some h'
   cases he
   cases vs with
   | nil => cases hk
   | cons v vs =>
    have hk' : p v T (fun T => argK r vs T k) = some out := hk
    rw [hp] at hk'
    obtain ⟨e1, T', e2, e3, e4⟩ := argK_ok n (i + 1) r vs (pT m v T) k out q2 hk'
    refine ⟨by simp [e1], T', fun k => ?_, fun t j h1 h2 => ?_, fun j hj hn => by rw [e4 j hj hn, gT_pT hm hj, if_neg (fun e => hn i (by rw [q1, e]))]⟩
    ·
     show p v T (fun T => argK r vs T k) = _
     rw [hp, e2]
    ·
     rw [e3 t j h1 h2]
     by_cases c : t = i
     ·
      subst c
      rw [q1] at h1
      cases h1
      rw [if_neg (by omega), if_pos (by omega), gT_pT hm h2, if_pos rfl, Nat.sub_self]
      rfl
     ·
      by_cases d : i + 1 ≤ t ∧ t < i + 1 + n
      ·
       rw [if_pos d, if_pos (by omega), show t - i = (t - (i + 1)) + 1 by omega]
       rfl
      ·
       rw [if_neg d, if_neg (by omega)]
       have hne : m ≠ j := fun e => c (slotF_inj (e ▸ h1 : slotF t kp 0 = some m) q1)
       rw [gT_pT hm h2, if_neg hne]
  · cases h'
theorem resK_ok {P : Program} {kp : List Nat} {T : Tm} {M : Me} {a : Act} (hT : TRel kp T a) : ∀ (l : List ResultVar) (rs : List ((Tm → Value) × Option (Bool × Nat))) (k : List Value → Out) (out : Value × Me), resP P kp l = some rs → resK rs T M k = some out →
  ∃ vs, (∀ k, resK rs T M k = k vs) ∧ resL P (a, toMem M) l = some vs
 | [], rs, k, out, h, hk => by cases h; exact ⟨[], fun k => rfl, rfl⟩
 | .tmp t :: l, rs, k, out, h, hk => by
  simp only [resP] at h
  split at h
  ·
   rename_i n r q1 q2
   obtain ⟨hn, g, hg, he⟩ := mkG_some h
   cases he
   have hk' : resK r T M (fun l => k (g T :: l)) = some out := hk
   obtain ⟨vs, e1, e2⟩ := resK_ok hT l r _ out q2 hk'
   refine ⟨g T :: vs, fun k => ?_, ?_⟩
   ·
    show resK r T M (fun l => k (g T :: l)) = _
    rw [e1]
   · simp only [resL, hT t n q1 hn, e2, hg]
  · cases h
 | .cell ad t :: l, rs, k, out, h, hk => by
  simp only [resP] at h
  split at h
  ·
   rename_i n d i r q1 q2 q3 q4
   obtain ⟨hn, g, hg, he⟩ := mkG_some h
   cases he
   have hk' : ldK i.size d.isRow (g T) M (fun u => resK r T M fun l => k (u :: l)) = some out := hk
   obtain ⟨b, off, u, c1, c2, c3⟩ := ldK_some (P := P) hk'
   rw [c2] at hk'
   obtain ⟨vs, e1, e2⟩ := resK_ok hT l r _ out q4 hk'
   refine ⟨u :: vs, fun k => ?_, ?_⟩
   ·
    show ldK i.size d.isRow (g T) M (fun u => resK r T M fun l => k (u :: l)) = _
    rw [c2, e1]
   ·
    have ha := hT ad n q1 hn
    rw [← hg, c1] at ha
    have hl : loadO P (toMem M) t b off = some u := by
     unfold loadO
     rcases c3 with ⟨blk, hb, ⟨hrow, c4, c5⟩ | ⟨hrow, c4⟩⟩ | ⟨hb, hrow, z, c4, c5⟩
     · simp only [hb, q2, hrow, if_true, q3, c4, c5]
     · simp only [hb, q2, hrow, Bool.false_eq_true, if_false, c4]
     · simp only [hb, q2, hrow, Bool.false_eq_true, if_false, c4, c5]
    simp only [resL, ha, e2, hl]
  · cases h
theorem finK_ok {l : List Value} {k : Value → Out} {out : Value × Me} (h : finK l k = some out) {P : Program} {fn : Func} {s : St} (hr : resL P s fn.results.toList = some l) : ∃ v, (∀ k, finK l k = k v) ∧ resO P fn s = some v := by
 unfold resO
 rw [hr]
 match l, h with
 | [], _ => exact ⟨_, fun k => rfl, rfl⟩
 | [v], _ => exact ⟨v, fun k => rfl, rfl⟩
 | v :: u :: m, h =>
  have h' : cond (notTuple v && (u :: m).all notTuple) (k (.tuple ⟨v :: u :: m⟩)) none = some out := h
  by_cases c : (notTuple v && (u :: m).all notTuple) = true
  ·
   refine ⟨.tuple ⟨v :: u :: m⟩, fun k => ?_, ?_⟩
   ·
    show cond (notTuple v && (u :: m).all notTuple) (k (.tuple ⟨v :: u :: m⟩)) none = _
    rw [c]; rfl
   ·
    have : (v :: u :: m).all notTuple = true := by rw [List.all_cons]; exact c
    simp only [this, if_true]
  · rw [Bool.eq_false_iff.2 c] at h'; cases h'
/-- calls, as a caller -/
noncomputable def specG (g : FuncId → List Value → Me → Out) : Caller := fun f args A => by
 classical
 exact if h : ∃ M, Can M ∧ toMem M = A then (g f args (Classical.choose h)).map (fun x => (x.1, toMem x.2)) else none
theorem specG_at (g : FuncId → List Value → Me → Out) {M : Me} (hM : Can M) (f : FuncId) (args : List Value) : specG g f args (toMem M) = (g f args M).map (fun x => (x.1, toMem x.2)) := by
 have h : ∃ N, Can N ∧ toMem N = toMem M := ⟨M, hM, rfl⟩
 unfold specG
 rw [dif_pos h]
 obtain ⟨k1, k2⟩ := Classical.choose_spec h
 rw [k1.ext hM k2]
theorem specG_some {g : FuncId → List Value → Me → Out} {f : FuncId} {args : List Value} {A : Mem} {r : Value × Mem} (h : specG g f args A = some r) : ∃ M v M', Can M ∧ toMem M = A ∧ g f args M = some (v, M') ∧ r = (v, toMem M') := by
 unfold specG at h
 split at h
 ·
  rename_i q
  obtain ⟨k1, k2⟩ := Classical.choose_spec q
  rw [Option.map_eq_some_iff] at h
  obtain ⟨x, h1, h2⟩ := h
  exact ⟨_, x.1, x.2, k1, k2, h1, h2.symm⟩
 · cases h
/-- how a frame begins -/
theorem ent_core {P : Program} {kp0 : List Nat} {fn : Func} (b1 : kp0.length ≤ 63) (b2 : fn.params.size + fn.nfree ≤ fn.ntmps) (b3 : ∀ t ∈ kp0, t < fn.ntmps) {ps : List Pt} {args : List Value} {k : Tm → Out} {out : Value × Me} (q2 : argP kp0 (Nat.add fn.params.size fn.nfree) 0 = some ps) (hk : argK ps args t0 k = some out) :
  ∃ T a, (∀ k, argK ps args t0 k = k T) ∧ a.tmps.size = fn.ntmps ∧ a.defers = [] ∧ TRel kp0 T a ∧ DT T a ∧ ∀ (w0 : World) (r : Rho) (w : World) (A : Mem) (args' : List Value), Rel P w0 r A w → LR (VRel r) args args' → ActRel r a { tmps := ⟨args'⟩ ++ Array.replicate (fn.ntmps - args'.length) undef, defers := [] } := by
 obtain ⟨hl, T, e2, e3, e4⟩ := argK_ok _ 0 ps args t0 _ out q2 hk
 have hl' : args.length = fn.params.size + fn.nfree := hl
 let a : Act := { tmps := ⟨args ++ List.replicate (fn.ntmps - args.length) undef⟩, defers := [] }
 have hat : ∀ t : Nat, a.tmps[t]? = (args ++ List.replicate (fn.ntmps - args.length) undef)[t]? := fun t => by
  show (List.toArray (args ++ List.replicate (fn.ntmps - args.length) undef))[t]? = _
  rw [List.getElem?_toArray]
 have hsz : a.tmps.size = fn.ntmps := by
  show (args ++ List.replicate (fn.ntmps - args.length) undef).length = _
  simp
  omega
 have hT : TRel kp0 T a := by
  intro t i h1 h2
  rw [e3 t i h1 h2]
  have hmem : t ∈ kp0 := List.mem_of_getElem? (slotF_ok h1).2
  have hlt := b3 t hmem
  rw [hat]
  by_cases c : t < args.length
  ·
   rw [if_pos ⟨Nat.zero_le _, by have : t < 0 + Nat.add fn.params.size fn.nfree := (by (show t < 0 + (fn.params.size + fn.nfree)); omega); exact this⟩, List.getElem?_append_left c, Nat.sub_zero, List.getD_eq_getElem?_getD, List.getElem?_eq_getElem c]
   rfl
  · rw [if_neg (by rintro ⟨_, h4⟩; have h5 : t < 0 + (fn.params.size + fn.nfree) := h4; omega), List.getElem?_append_right (by omega), List.getElem?_replicate, if_pos (by omega), gT_t0 h2]
 have hD : DT T a := by
  unfold DT
  rw [e4 63 (by decide) (slot63 b1), gT_t0 (by decide)]
  rfl
 refine ⟨T, a, e2, hsz, rfl, hT, hD, fun w0 r w A args' hr hargs => ?_⟩
 have hl2 := hargs.1
 refine ⟨fun i g l q => (hr.ro i g l q).1, .nil, by show (args ++ List.replicate (fn.ntmps - args.length) undef).length = _; simp [hl2], fun i u hu => ?_⟩
 have hu' : (args ++ List.replicate (fn.ntmps - args.length) undef)[i]? = some u := by rw [← hat]; exact hu
 rcases Nat.lt_or_ge i args.length with c | c
 ·
  rw [List.getElem?_append_left c] at hu'
  rw [Array.getElem?_append_left (by simp; omega)]
  obtain ⟨u', z1, z2⟩ := hargs.2 i u hu'
  exact ⟨u', by simpa using z1, z2⟩
 ·
  rw [List.getElem?_append_right c] at hu'
  rw [Array.getElem?_append_right (by simp; omega)]
  simp only [List.size_toArray, Array.getElem?_replicate, List.getElem?_replicate] at hu' ⊢
  split at hu'
  ·
   cases hu'
   exact ⟨undef, by rw [if_pos (by omega)], VRel.undef r⟩
  · cases hu'
section
variable {P : Program} {ex : Xn} {kp : Kp} {hs : Hts} {fuel : Nat} {C : KP} {Ks Kp : Caller}
/-- what is known of a caller -/
structure Good (P : Program) (C : KP) (Ks Kp : Caller) : Prop where
 c : CGood C Ks Kp
 ok : KOk P Ks
 okp : KpOk P Kp
 b : KBody P Ks
 bp : KBody P Kp
/-- a function is entered -/
theorem entK_ok (hex : XnOk P ex) (hP : Plain P) (hm : P.follows .mixedOrders = true) (g : Good P C Ks Kp) {f : FuncId} {args : List Value} {M : Me} {kk : Rsl → Tm → Me → Out} {hh : Rsl → Tm → Value → Me → Out} {out : Value × Me} (hM : Can M) (hk : entK P ex kp hs fuel C f args M kk hh = some out) :
  ∃ fn c rs e a1 T1 M1, P.funcs[f]? = some fn ∧ fn.body = some c ∧ resP P (kp f) fn.results.toList = some rs ∧ (e = .normal ∨ e = .ret ∨ ∃ pv, e = .pan pv) ∧ Can M1 ∧ TRel (kp f) T1 a1 ∧ DT T1 a1 ∧ (∀ kk hh, entK P ex kp hs fuel C f args M kk hh = match e with | .pan pv => hh rs T1 pv M1 | _ => kk rs T1 M1) ∧
   ∀ (w0 : World) (r : Rho) (w : World) (args' : List Value), Rel P w0 r (toMem M) w → LR (VRel r) args args' → c.wp P (Post (rtOf fn.results.toList) P w0 r (toMem M) e (a1, toMem M1)) { tmps := ⟨args'⟩ ++ Array.replicate (fn.ntmps - args'.length) undef, defers := [] } w := by
 unfold entK at hk
 cases q : trF P ex kp hs f with
 | none => rw [q] at hk; cases hk
 | some F =>
  rw [q] at hk
  simp only at hk
  have key : ∀ kk hh, entK P ex kp hs fuel C f args M kk hh = argK F.args args t0 fun T => F.code (frK C (hh F.res)) fuel T M (kk F.res) (fun _ _ _ => none) (kk F.res) := fun kk hh => by
   unfold entK
   rw [q]
  unfold trF at q
  split at q
  ·
   rename_i fn qf
   rw [nth_eq, Array.getElem?_toList] at qf
   split at q
   ·
    rename_i c qc
    cases hb : (Nat.ble (kp f).length 63 && Nat.ble (Nat.add fn.params.size fn.nfree) fn.ntmps && allR (kp f) (fun t => Nat.blt t fn.ntmps)) with
    | false => rw [hb] at q; cases q
    | true =>
     rw [hb, cond_true] at q
     rw [Bool.and_eq_true, Bool.and_eq_true, ble_iff, ble_iff, decide_eq_true_eq, decide_eq_true_eq] at hb
     obtain ⟨⟨b1, b2⟩, b3⟩ := hb
     have b3' : ∀ t ∈ kp f, t < fn.ntmps := fun t ht => by have := allR_iff b3 t ht; rw [blt_iff, decide_eq_true_eq] at this; exact this
     split at q
     ·
      rename_i x ps rs q1 q2 q3
      cases q
      obtain ⟨T, a, e2, hsz, hdf, hT, hD, hact⟩ := ent_core (P := P) b1 b2 b3' q2 hk
      rw [e2] at hk
      have hcode : CodeOk P Ks Kp (rtOf fn.results.toList) (kp f) fn.ntmps x c := trC_ok hex g.b g.bp g.ok g.okp hP hm b1 c x q1
      obtain ⟨e, T1, M1, a1, s⟩ := hcode C (hh rs) fuel T M _ _ _ out a g.c hM hsz hD hT hk
      have hk : x (frK C (hh rs)) fuel T M (kk rs) (fun _ _ _ => none) (kk rs) = some out := hk
      rw [s.ends] at hk
      have he : e = .normal ∨ e = .ret ∨ ∃ pv, e = .pan pv := by
       cases e with
       | normal => exact Or.inl rfl
       | ret => exact Or.inr (Or.inl rfl)
       | exit id => cases hk
       | pan pv => exact Or.inr (Or.inr ⟨pv, rfl⟩)
      refine ⟨fn, c, rs, e, a1, T1, M1, qf, qc, q3, he, s.can, s.rel, s.no, fun kk hh => ?_, fun w0 r w args' hr hargs => s.wp w0 r _ w (hact w0 r w _ args' hr hargs) hr⟩
      rw [key, e2]
      show x (frK C (hh rs)) fuel T M (kk rs) (fun _ _ _ => none) (kk rs) = _
      rw [s.ends]
      rcases he with rfl | rfl | ⟨pv, rfl⟩ <;> rfl
     · cases q
   · cases q
  · cases q
theorem tupK_some {v : Value} {k : List Value → Out} {out : Value × Me} (h : tupK v k = some out) : ∃ l, v = .tuple ⟨l⟩ ∧ ∀ k, tupK v k = k l := by
 unfold tupK at h
 split at h
 · exact ⟨_, rfl, fun k => rfl⟩
 · cases h
/-- what a call that was put off leaves -/
def Left (P : Program) (w0 : World) (r : Rho) (A A' : Mem) (u' : FrameMode) : Ending → FrameMode → World → Prop := fun e u2 w' => u2 = u' ∧ ∃ r' v', r.le r' ∧ e = .returned v' ∧ Rel P w0 r' A' w' ∧ Keep r A A'
/-- a call that was put off ends -/
theorem finD_ok {kp0 : List Nat} {T1 : Tm} {M1 : Me} {a1 : Act} {fn : Func} {rs : Rsl} {k : Me → Out} {out : Value × Me} (h3 : resP P kp0 fn.results.toList = some rs) (h6 : TRel kp0 T1 a1) (h7 : DT T1 a1) (hk : finD k rs T1 M1 = some out) : (∀ k, finD k rs T1 M1 = k M1) ∧ a1.defers = [] ∧ ∃ v, resO P fn (a1, toMem M1) = some v := by
 unfold finD at hk
 obtain ⟨l, c1, c2⟩ := tupK_some hk
 rw [c2] at hk
 cases l with
 | cons v l => cases hk
 | nil =>
  have hk' : resK rs T1 M1 (fun l => finK l fun _ => k M1) = some out := hk
  obtain ⟨vs, j1, j2⟩ := resK_ok (P := P) h6 _ rs _ out h3 hk'
  rw [j1] at hk'
  obtain ⟨v, j3, j4⟩ := finK_ok hk' j2
  refine ⟨fun k => ?_, ?_, v, j4⟩
  ·
   unfold finD
   rw [c2]
   show resK rs T1 M1 (fun l => finK l fun _ => k M1) = _
   rw [j1, j3]
  ·
   unfold DT at h7
   have c1' : gT 63 T1 = .tuple ⟨[]⟩ := c1
   rw [c1'] at h7
   injection h7 with h7
   injection h7 with h7
   exact List.map_eq_nil_iff.1 h7.symm
/-- a call that was put off -/
theorem xdef_ok (hex : XnOk P ex) (hP : Plain P) (hm : P.follows .mixedOrders = true) (g : Good P C Ks Kp) {f : FuncId} {args : List Value} {M : Me} {k : Me → Out} {out : Value × Me} (hM : Can M) (hk : xdef P ex kp hs fuel C f args M k = some out) :
  ∃ M', Can M' ∧ (∀ k, xdef P ex kp hs fuel C f args M k = k M') ∧ (∃ fn, P.funcs[f]? = some fn ∧ fn.body.isSome = true) ∧
   ∀ (w0 : World) (r : Rho) (w : World) (args' : List Value) (u : FrameMode), Rel P w0 r (toMem M) w → LR (VRel r) args args' → CallsD P f ⟨args'⟩ u w (Left P w0 r (toMem M) (toMem M') u) := by
 obtain ⟨fn, c, rs, e, a1, T1, M1, h1, h2, h3, h4, h5, h6, h7, h8, h9⟩ := entK_ok hex hP hm g hM hk
 unfold xdef at hk
 rw [h8] at hk
 have hfin : finD k rs T1 M1 = some out ∧ (e = .normal ∨ e = .ret) := by
  rcases h4 with rfl | rfl | ⟨pv, rfl⟩
  · exact ⟨hk, Or.inl rfl⟩
  · exact ⟨hk, Or.inr rfl⟩
  · cases hk
 obtain ⟨f1, hd, v, j4⟩ := finD_ok h3 h6 h7 hfin.1
 refine ⟨M1, h5, fun k => ?_, ⟨fn, h1, by rw [h2]; rfl⟩, fun w0 r w args' u hr hargs => ?_⟩
 ·
  unfold xdef
  rw [h8]
  rcases hfin.2 with rfl | rfl
  · exact f1 k
  · exact f1 k
 ·
  refine callsD_of_wp (R := fun e w' => ∃ r' v', r.le r' ∧ e = .returned v' ∧ Rel P w0 r' (toMem M1) w' ∧ Keep r (toMem M) (toMem M1)) h1 h2 ?_
  have wp := h9 w0 r w args' hr hargs
  have no : ∀ (r' : Rho) (a' : Act), ActRel r' a1 a' → a'.defers = [] := by
   intro r' a' z2
   have := z2.no
   rw [hd] at this
   generalize a'.defers = dd at *
   cases this
   rfl
  rcases hfin.2 with rfl | rfl
  ·
   refine wp_mono wp ?_
   rintro e' a' w' ⟨rfl, r', z1, z2, z3, z4⟩
   obtain ⟨v', y1, y2⟩ := resO_sound (s := (a1, toMem M1)) z2 z3 j4
   exact ⟨no r' a' z2, v', y1, r', v', z1, rfl, z3, z4⟩
  ·
   refine wp_mono wp ?_
   rintro e' a' w' ⟨rfl, r', z1, z2, z3, z4⟩
   obtain ⟨v', y1, y2⟩ := resO_sound (s := (a1, toMem M1)) z2 z3 j4
   exact ⟨no r' a' z2, v', y1, r', v', z1, rfl, z3, z4⟩
theorem recO_run {o : Oper} {d : Nat} (h : recO o = some d) (e : Operand → Value) (w : World) : (execOp e o).run P w = .ok .recover w ∧ o.dst = some d ∧ o.guard = none := by
 obtain ⟨dst, op, type, pos, after, guard⟩ := o
 unfold recO at h
 split at h
 ·
  rename_i ts hop hg
  simp only at hop hg h
  subst hop
  subst hg
  exact ⟨rfl, h, rfl⟩
 · cases h
/-- what recover tells, and how the frame below goes on -/
def Told (cs : List Frame) (pv : Value) (cs' : List Frame) : Prop := match recoverD cs with | some (v, cs2) => v = pv ∧ cs2 = cs' | none => pv = .nilIface ∧ cs' = cs
theorem evSeqS_sound (hK : KOk P Ks) (hP : Plain P) {ops : Array Oper} {w0 : World} {cs : List Frame} {Q : Exit → Act → List Frame → World → Prop} {F : St} : ∀ (l : List Oper) (j : Nat) (s : St), ops.toList.drop j = l → evSeq Ks P ops l s = some F → ∀ (r : Rho) (a : Act) (w : World), ActRel r s.1 a → Rel P w0 r s.2 w →
  (∀ r' a' w', r.le r' → ActRel r' F.1 a' → Rel P w0 r' F.2 w' → Keep r s.2 F.2 → Q .normal a' cs w') → wpOpsS P ops Q (List.range' j l.length) a cs w
 | [], j, s, hj, h, r, a, w, ha, hr, hQ => by cases h; exact hQ r a w (Rho.le.refl r) ha hr (Keep.refl r _)
 | o :: rest, j, s, hj, h, r, a, w, ha, hr, hQ => by
  have ho : ops[j]? = some o := by
   have : ops.toList[j]? = some o := by
    rw [← List.head?_drop, hj]; rfl
   simpa using this
  have hj' : ops.toList.drop (j + 1) = rest := by
   rw [← List.drop_drop, hj]; rfl
  simp only [evSeq] at h
  split at h
  ·
   rename_i s' q
   show wpOpsS P ops Q (j :: List.range' (j + 1) rest.length) a cs w
   simp only [wpOpsS, ho]
   have next : ∀ r' a' w', r.le r' → ActRel r' s'.1 a' → Rel P w0 r' s'.2 w' → Keep r s.2 s'.2 → wpOpsS P ops Q (List.range' (j + 1) rest.length) a' cs w' := fun r' a' w' h1 h2 h3 h4 =>
    evSeqS_sound hK hP rest (j + 1) s' hj' h r' a' w' h2 h3 fun r'' a'' w'' k1 k2 k3 k4 => hQ r'' a'' w'' (h1.trans k1) k2 k3 (Keep.trans h1 h4 k4)
   unfold stepA at q
   rw [ha.wanted ops o]
   split at q
   ·
    rename_i c
    rw [if_pos c]
    cases qe : evOp Ks P s.2 (evalO s.1) o with
    | none => rw [qe] at q; cases q
    | some x =>
     obtain ⟨v, A'⟩ := x
     rw [qe] at q
     cases q
     have hwp : o.wp P a w (fun a' w' => wpOpsS P ops Q (List.range' (j + 1) rest.length) a' cs w') (fun e a' w' => Q e a' cs w') := evOp_sound hK hP qe (opsRel ha o.op) hr fun r' v' w' h1 h2 h3 h4 => next r' _ w' h1 ((ha.mono h1.wk).put h2 o.dst) h3 h4
     unfold Oper.wp at hwp
     generalize (execOp a.eval o).run P w = rr at hwp ⊢
     split
     · exact hwp.elim
     · exact hwp
   ·
    rename_i c
    rw [if_neg c]
    cases q
    exact next r _ w (Rho.le.refl r) (ha.put (VRel.undef r) o.dst) hr (Keep.refl r _)
  · cases h
/-- a call that was put off, and that begins with recover -/
theorem xrec_ok (hex : XnOk P ex) (hP : Plain P) (hm : P.follows .mixedOrders = true) (g : Good P C Ks Kp) {f : FuncId} {args : List Value} {pv : Value} {M : Me} {k : Me → Out} {out : Value × Me} (hM : Can M) (hpv : flat pv = true) (hk : xrec P ex kp hs fuel C f args pv M k = some out) :
  ∃ M', Can M' ∧ (∀ k, xrec P ex kp hs fuel C f args pv M k = k M') ∧ (∃ fn, P.funcs[f]? = some fn ∧ fn.body.isSome = true) ∧
   ∀ (w0 : World) (r : Rho) (w : World) (args' : List Value) (u u' : FrameMode), Rel P w0 r (toMem M) w → LR (VRel r) args args' → (∀ (c₀ : Frame) (cs : List Frame), c₀.mode = u → Told (c₀ :: cs) pv ({ c₀ with mode := u' } :: cs)) → CallsD P f ⟨args'⟩ u w (Left P w0 r (toMem M) (toMem M') u') := by
 unfold xrec at hk
 cases q : trG P ex kp hs f with
 | none => rw [q] at hk; cases hk
 | some G =>
  rw [q] at hk
  simp only at hk
  have key : ∀ k, xrec P ex kp hs fuel C f args pv M k = argK G.args args t0 fun T => G.run pv (frK C fun _ _ _ => none) fuel T M (finD k G.res) (fun _ _ _ => none) (finD k G.res) := fun k => by
   unfold xrec
   rw [q]
  unfold trG at q
  split at q
  ·
   rename_i fn qf
   rw [nth_eq, Array.getElem?_toList] at qf
   split at q
   ·
    rename_i id ops c qc
    split at q
    ·
     rename_i o l ql
     split at q
     ·
      rename_i d qd
      cases hb : (Nat.ble (kp f).length 63 && Nat.ble (Nat.add fn.params.size fn.nfree) fn.ntmps && allR (kp f) (fun t => Nat.blt t fn.ntmps) && Nat.blt d fn.ntmps && quiet l) with
      | false => rw [hb] at q; cases q
      | true =>
       rw [hb, cond_true] at q
       rw [Bool.and_eq_true, Bool.and_eq_true, Bool.and_eq_true, Bool.and_eq_true, ble_iff, ble_iff, blt_iff, decide_eq_true_eq, decide_eq_true_eq, decide_eq_true_eq] at hb
       obtain ⟨⟨⟨⟨b1, b2⟩, b3⟩, b4⟩, b5⟩ := hb
       have b3' : ∀ t ∈ kp f, t < fn.ntmps := fun t ht => by have := allR_iff b3 t ht; rw [blt_iff, decide_eq_true_eq] at this; exact this
       split at q
       ·
        rename_i xr env n x ps rs q1 q2 q3 q4
        obtain ⟨xp, p1, p2⟩ := putsOf_ok env [] _ G q
        cases p1
        obtain ⟨T, a, e2, hsz, hdf, hT, hD, hact⟩ := ent_core (P := P) b1 b2 b3' q3 hk
        rw [e2] at hk
        have hk : xr (frK C fun _ _ _ => none) T M (pushR pv r0) (fun M L => xp T L T fun T => x (frK C fun _ _ _ => none) fuel T M (finD k rs) (fun _ _ _ => none) (finD k rs)) = some out := hk
        have henv : EnvRel (kp f) [(d, .s 0)] 1 (a.put (some d) pv) T (pushR pv r0) := (hT.env r0).push (nt := fn.ntmps) hsz (d := some d) (by simp only [addE]; rw [blt_iff, decide_eq_true b4]; rfl) pv
        rcases trSeq_ok hex g.b g.bp (by omega) _ _ _ _ _ _ q1 C (fun _ _ _ => none) T M (pushR pv r0) _ out (a.put (some d) pv) g.c hM (by rw [put_size]; exact hsz) henv hk with ⟨M2, L2, a2, k1, k2, k3, k4, k5, k6⟩ | ⟨pv', M2, k1, k2, k3⟩
        case inr => exact (quiet_pan _ _ (fun o ho => allR_iff b5 o ho) k3).elim
        rw [k2] at hk
        obtain ⟨T2, y1, y2, y3⟩ := p2 T L2 T
        rw [y1] at hk
        have hD2 : DT T2 a2 := by
         unfold DT at hD ⊢
         rw [k5, y3 63 (by decide) (slot63 b1)]
         exact hD
        have hcode : CodeOk P Ks Kp (rtOf fn.results.toList) (kp f) fn.ntmps x c := trC_ok hex g.b g.bp g.ok g.okp hP hm b1 c x q2
        obtain ⟨e, T1, M1, a1, s⟩ := hcode C (fun _ _ _ => none) fuel T2 M2 _ _ _ out a2 g.c k1 k4 hD2 (k6.put y2) hk
        rw [s.ends] at hk
        have hfin : finD k rs T1 M1 = some out ∧ (e = .normal ∨ e = .ret) := by
         cases e with
         | normal => exact ⟨hk, Or.inl rfl⟩
         | ret => exact ⟨hk, Or.inr rfl⟩
         | exit id => cases hk
         | pan v => cases hk
        obtain ⟨f1, hd, v, j4⟩ := finD_ok q4 s.rel s.no hfin.1
        refine ⟨M1, s.can, fun k => ?_, ⟨fn, qf, by rw [qc]; rfl⟩, fun w0 r w args' u u' hr hargs htold => ?_⟩
        ·
         rw [key, e2]
         show xr (frK C fun _ _ _ => none) T M (pushR pv r0) (fun M L => xp T L T fun T => x (frK C fun _ _ _ => none) fuel T M (finD k rs) (fun _ _ _ => none) (finD k rs)) = _
         rw [k2, y1, s.ends]
         rcases hfin.2 with rfl | rfl
         · exact f1 k
         · exact f1 k
        ·
         have ha := hact w0 r w _ args' hr hargs
         refine callsD_of_wpS qf qc fun c₀ cs hu => wpS_seq (wpS_region ?_)
         have hsize : ops.size = l.length + 1 := by
          have := congrArg List.length ql
          simpa using this
         have ho : ops[0]? = some o := by
          have : ops.toList[0]? = some o := by rw [ql]; rfl
          simpa using this
         rw [List.range_eq_range', hsize]
         show wpOpsS P ops _ (0 :: List.range' 1 l.length) _ _ _
         obtain ⟨_, z2, z3⟩ := recO_run (P := P) qd (fun _ => undef) w
         have hwant : ∀ t, Region.wanted o (yielded ops t) = true := fun t => by unfold Region.wanted; rw [z3]
         simp only [wpOpsS, ho, hwant, if_true, (recO_run (P := P) qd _ w).1]
         have hta : ActRel r (a.put (some d) pv) (Act.put { tmps := ⟨args'⟩ ++ Array.replicate (fn.ntmps - args'.length) undef, defers := [] } o.dst pv) := by
          rw [z2]
          exact ha.put (VRel.of_flat r hpv) (some d)
         have fin : wpOpsS P ops (Exit.thenS (c.wpS P (bodyPostS P fn c₀ cs (Left P w0 r (toMem M) (toMem M1) u'))) (bodyPostS P fn c₀ cs (Left P w0 r (toMem M) (toMem M1) u'))) (List.range' 1 l.length) (Act.put { tmps := ⟨args'⟩ ++ Array.replicate (fn.ntmps - args'.length) undef, defers := [] } o.dst pv) ({ c₀ with mode := u' } :: cs) w := by
          refine evSeqS_sound g.ok hP l 1 _ (by rw [ql]; rfl) k3 r _ w hta hr fun r' a' w' h1 h2 h3 h4 => ?_
          show c.wpS P _ a' ({ c₀ with mode := u' } :: cs) w'
          refine wpS_of_wp ?_
          have no : ∀ (r' : Rho) (a' : Act), ActRel r' a1 a' → a'.defers = [] := by
           intro r' a' z2
           have := z2.no
           rw [hd] at this
           generalize a'.defers = dd at *
           cases this
           rfl
          have wp := s.wp w0 r' a' w' h2 h3
          rcases hfin.2 with rfl | rfl
          ·
           refine wp_mono wp ?_
           rintro e' a'' w'' ⟨rfl, r'', z1, z2, z3, z4⟩
           obtain ⟨v', v1, v2⟩ := resO_sound (s := (a1, toMem M1)) z2 z3 j4
           exact ⟨no _ _ z2, u', rfl, v', v1, rfl, r'', v', h1.trans z1, rfl, z3, Keep.trans h1 h4 z4⟩
          ·
           refine wp_mono wp ?_
           rintro e' a'' w'' ⟨rfl, r'', z1, z2, z3, z4⟩
           obtain ⟨v', v1, v2⟩ := resO_sound (s := (a1, toMem M1)) z2 z3 j4
           exact ⟨no _ _ z2, u', rfl, v', v1, rfl, r'', v', h1.trans z1, rfl, z3, Keep.trans h1 h4 z4⟩
         have ht := htold c₀ cs hu
         unfold Told at ht
         split
         ·
          rename_i v2 cs2 hrec
          rw [hrec] at ht
          obtain ⟨rfl, rfl⟩ := ht
          exact fin
         ·
          rename_i hrec
          rw [hrec] at ht
          obtain ⟨rfl, ht⟩ := ht
          rw [← ht]
          exact fin
       · cases q
     · cases q
    · cases q
   · cases q
  · cases q
/-- a call that was put off, behind a return -/
theorem xdfr_ok (hex : XnOk P ex) (hP : Plain P) (hm : P.follows .mixedOrders = true) (g : Good P C Ks Kp) {f : FuncId} {args : List Value} {M : Me} {k : Me → Out} {out : Value × Me} (hM : Can M) (hk : xdfr P ex kp hs fuel C f args M k = some out) :
  ∃ M', Can M' ∧ (∀ k, xdfr P ex kp hs fuel C f args M k = k M') ∧ (∃ fn, P.funcs[f]? = some fn ∧ fn.body.isSome = true) ∧
   ∀ (w0 : World) (r : Rho) (w : World) (args' : List Value), Rel P w0 r (toMem M) w → LR (VRel r) args args' → CallsD P f ⟨args'⟩ .returning w (Left P w0 r (toMem M) (toMem M') .returning) := by
 unfold xdfr at hk ⊢
 cases q : (trG P ex kp hs f).isSome with
 | true =>
  rw [q] at hk
  obtain ⟨M', h1, h2, h3, h4⟩ := xrec_ok hex hP hm g hM rfl hk
  refine ⟨M', h1, h2, h3, fun w0 r w args' hr hargs => h4 w0 r w args' .returning .returning hr hargs fun c₀ cs hu => ?_⟩
  unfold Told
  simp only [recoverD, hu]
  refine ⟨trivial, ?_⟩
  cases c₀
  simp only at hu
  subst hu
  rfl
 | false =>
  rw [q] at hk
  obtain ⟨M', h1, h2, h3, h4⟩ := xdef_ok hex hP hm g hM hk
  exact ⟨M', h1, h2, h3, fun w0 r w args' hr hargs => h4 w0 r w args' .returning hr hargs⟩
theorem invoke_run (hP : Plain P) {f : FuncId} {fx : Func} (cf1 : P.funcs[f]? = some fx) (cf2 : fx.body.isSome = true) (la lc : List Value) (w : World) : (invoke (.fn (.func f) ⟨lc⟩) ⟨la⟩).run P w = .ok (.enter f ⟨la ++ lc⟩) w := by
 have hpl := hP f fx cf1 cf2
 have hnr : ¬ fx.name = "runtime.NumGoroutine" := by simpa using hpl
 have n2 : ¬ fx.body = none := by intro q; rw [q] at cf2; cases cf2
 simp [invoke, callFunc, cf1, n2, hnr]
theorem encD_fn {d : Deferred} {k : FuncId → List Value → Out} {out : Value × Me} (h : fnK (encD d) k = some out) : ∃ f la lc, d = ⟨.fn (.func f) ⟨lc⟩, ⟨la⟩⟩ ∧ k f (la ++ lc) = some out := by
 obtain ⟨tg, ⟨la⟩⟩ := d
 cases tg with
 | fn g c =>
  obtain ⟨c⟩ := c
  cases g with
  | func f => exact ⟨f, la, c, rfl, h⟩
  | _ => cases h
 | _ => cases h
theorem dfK_ok (hex : XnOk P ex) (hP : Plain P) (hm : P.follows .mixedOrders = true) (g : Good P C Ks Kp) : ∀ (ds : List Deferred) (M : Me) (k : Me → Out) (out : Value × Me), Can M → dfK (xdfr P ex kp hs fuel C) (ds.map encD) M k = some out →
  ∃ M', Can M' ∧ (∀ k, dfK (xdfr P ex kp hs fuel C) (ds.map encD) M k = k M') ∧ ∀ (w0 : World) (r : Rho) (w : World) (ds' : List Deferred) (fn : Func) (tmps : Array Value) (R : Ending → World → Prop), DR r ds ds' → Rel P w0 r (toMem M) w →
   (∀ r' w', r.le r' → Rel P w0 r' (toMem M') w' → Keep r (toMem M) (toMem M') → ∃ v, (results fn tmps).run P w' = .ok v w' ∧ R (.returned v) w') → Leaves P fn tmps R ds' .returning w
 | [], M, k, out, hM, hk => ⟨M, hM, fun k => rfl, fun w0 r w ds' fn tmps R hd hr hQ => by
   cases hd
   exact hQ r w (Rho.le.refl r) hr (Keep.refl r _)⟩
 | d :: ds, M, k, out, hM, hk => by
  have hk' : fnK (encD d) (fun f args => xdfr P ex kp hs fuel C f args M fun M => dfK (xdfr P ex kp hs fuel C) (ds.map encD) M k) = some out := hk
  obtain ⟨f, la, lc, hde, hk1⟩ := encD_fn hk'
  subst hde
  obtain ⟨M1, c1, c2, ⟨fx, cf1, cf2⟩, c3⟩ := xdfr_ok hex hP hm g hM hk1
  rw [c2] at hk1
  obtain ⟨M2, e1, e2, e3⟩ := dfK_ok hex hP hm g ds M1 k out c1 hk1
  refine ⟨M2, e1, fun k => ?_, fun w0 r w ds' fn tmps R hd hr hQ => ?_⟩
  ·
   show xdfr P ex kp hs fuel C f (la ++ lc) M (fun M => dfK (xdfr P ex kp hs fuel C) (ds.map encD) M k) = _
   rw [c2, e2]
  ·
   cases hd with
   | cons hl hc hd =>
    rename_i la' lc' ds'
    have hall : LR (VRel r) (la ++ lc) (la' ++ lc') := hl.app hc
    refine leaves_cons (fun q => by cases q) (invoke_run hP cf1 cf2 la' lc' w) ((c3 w0 r w (la' ++ lc') hr hall).mono ?_)
    rintro e u' w' ⟨rfl, r', v', z1, rfl, z2, z3⟩
    show Leaves P fn tmps R ds' (settle .returning) w'
    refine e3 w0 r' w' ds' fn tmps R (hd.mono z1.wk) z2 fun r'' w'' y1 y2 y3 => ?_
    exact hQ r'' w'' (z1.trans y1) y2 (Keep.trans z1 z3 y3)
/-- results that all lie in cells hang on these temporaries alone -/
theorem resL_same {f0 : FuncId} {s1 a1 : Act} {A : Mem} : ∀ (l : List ResultVar) (rs : Rsl), resP P (kp f0) l = some rs → rs.all (fun x => x.2.isSome) = true → (∀ t ∈ rtOf l, s1.tmps[t]? = a1.tmps[t]?) → resL P (s1, A) l = resL P (a1, A) l
 | [], rs, _, _, _ => rfl
 | .tmp t :: l, rs, h, ha, _ => by
  exfalso
  simp only [resP] at h
  split at h
  ·
   obtain ⟨_, g, _, he⟩ := mkG_some h
   cases he
   simp at ha
  · cases h
 | .cell ad t :: l, rs, h, ha, ht => by
  simp only [resP] at h
  split at h
  ·
   rename_i n d i r q1 q2 q3 q4
   obtain ⟨_, g, _, he⟩ := mkG_some h
   cases he
   have ha' : r.all (fun x => x.2.isSome) = true := by
    rw [List.all_cons, Bool.and_eq_true] at ha
    exact ha.2
   simp only [resL]
   rw [resL_same l r q4 ha' (fun t hx => ht t (by simp [rtOf, hx])), ht ad (by simp [rtOf])]
  · cases h
end
/-- what is known of calls otherwise -/
def KnOk (P : Program) (kn : Kn) : Prop := ∀ (f : FuncId) (args : List Value) (M : Me) (v : Value), Can M → kn f args M = some v → (∃ fn, P.funcs[f]? = some fn ∧ fn.body.isSome = true) ∧
 ∀ (w0 : World) (r : Rho) (w : World) (args' : List Value), Rel P w0 r (toMem M) w → LR (VRel r) args args' → Calls P f ⟨args'⟩ w fun x w' => ∃ r' v', r.le r' ∧ x = .returned v' ∧ VRel r' v v' ∧ Rel P w0 r' (toMem M) w' ∧ Keep r (toMem M) (toMem M)
theorem knNone_ok (P : Program) : KnOk P (fun _ _ _ => none) := fun f args M v _ h => by cases h
/-- a call comes to its end as it is told -/
theorem xcallN_ok {P : Program} {kn : Kn} (hkn : KnOk P kn) {ex : Xn} (hex : XnOk P ex) (hP : Plain P) (hm : P.follows .mixedOrders = true) (kp : Kp) (hs : Hts) (fuel : Nat) : ∀ n, ∃ Ks Kp, Good P (xcallN kn P ex kp hs fuel n) Ks Kp
 | 0 => ⟨fun _ _ _ => none, fun _ _ _ => none, fun f vs M k kq out _ h => (by cases h), fun w0 r A w f args args' v A' h => (by cases h), fun w0 r A w f args args' v A' h => (by cases h), fun f vs A r h => (by cases h), fun f vs A r h => (by cases h)⟩
 | n + 1 => by
  obtain ⟨K1, K2, g⟩ := xcallN_ok hkn hex hP hm kp hs fuel n
  -- what one call does
  have one : ∀ (f : FuncId) (args : List Value) (M : Me) (k kq : Value → Me → Out) (out : Value × Me), Can M → xcallN kn P ex kp hs fuel (n + 1) f args M k kq = some out →
    (∃ fn, P.funcs[f]? = some fn ∧ fn.body.isSome = true) ∧ ((∃ v M', Can M' ∧ (∀ k kq, xcallN kn P ex kp hs fuel (n + 1) f args M k kq = k v M') ∧
     ∀ (w0 : World) (r : Rho) (w : World) (args' : List Value), Rel P w0 r (toMem M) w → LR (VRel r) args args' → Calls P f ⟨args'⟩ w fun x w' => ∃ r' v', r.le r' ∧ x = .returned v' ∧ VRel r' v v' ∧ Rel P w0 r' (toMem M') w' ∧ Keep r (toMem M) (toMem M')) ∨
    ∃ pv M', Can M' ∧ (∀ k kq, xcallN kn P ex kp hs fuel (n + 1) f args M k kq = kq pv M') ∧
     ∀ (w0 : World) (r : Rho) (w : World) (args' : List Value), Rel P w0 r (toMem M) w → LR (VRel r) args args' → Calls P f ⟨args'⟩ w fun x w' => ∃ r', r.le r' ∧ x = .panicked [{ v := pv, recovered := false }] ∧ Rel P w0 r' (toMem M') w' ∧ Keep r (toMem M) (toMem M')) := by
   intro f args M k kq out hM hk
   have key0 : ∀ k kq, xcallN kn P ex kp hs fuel (n + 1) f args M k kq = Option.rec (motive := fun _ => Out) (entK P ex kp hs fuel (xcallN kn P ex kp hs fuel n) f args M (fun rs T M => endK P ex kp hs fuel (xcallN kn P ex kp hs fuel n) rs T M k) (hanK P ex kp hs fuel (xcallN kn P ex kp hs fuel n) k kq)) (fun v => k v M) (kn f args M) := fun k kq => rfl
   cases qk : kn f args M with
   | some v =>
    obtain ⟨q1, q2⟩ := hkn f args M v hM qk
    exact ⟨q1, Or.inl ⟨v, M, hM, fun k kq => by rw [key0, qk], q2⟩⟩
   | none =>
   have key : ∀ k kq, xcallN kn P ex kp hs fuel (n + 1) f args M k kq = entK P ex kp hs fuel (xcallN kn P ex kp hs fuel n) f args M (fun rs T M => endK P ex kp hs fuel (xcallN kn P ex kp hs fuel n) rs T M k) (hanK P ex kp hs fuel (xcallN kn P ex kp hs fuel n) k kq) := fun k kq => by rw [key0, qk]
   rw [key] at hk
   obtain ⟨fn, c, rs, e, a1, T1, M1, h1, h2, h3, h4, h5, h6, h7, h8, h9⟩ := entK_ok hex hP hm g hM hk
   refine ⟨⟨fn, h1, by rw [h2]; rfl⟩, ?_⟩
   rw [h8] at hk
   unfold DT at h7
   by_cases hne : ∃ pv, e = .pan pv
   ·
    obtain ⟨pv, rfl⟩ := hne
    have hk' : tupK (gT 63 T1) (fun l => List.casesOn l (kq pv M1) fun d ds => List.casesOn ds (bif flat pv && rs.all (fun x => x.2.isSome) then (fnK d fun f args => xrec P ex kp hs fuel (xcallN kn P ex kp hs fuel n) f args pv M1 fun M => resK rs T1 M fun l => finK l fun v => k v M) else none) fun _ _ => none) = some out := hk
    rw [h7] at hk'
    have keyp : ∀ k kq, xcallN kn P ex kp hs fuel (n + 1) f args M k kq = tupK (.tuple ⟨a1.defers.map encD⟩) (fun l => List.casesOn l (kq pv M1) fun d ds => List.casesOn ds (bif flat pv && rs.all (fun x => x.2.isSome) then (fnK d fun f args => xrec P ex kp hs fuel (xcallN kn P ex kp hs fuel n) f args pv M1 fun M => resK rs T1 M fun l => finK l fun v => k v M) else none) fun _ _ => none) := fun k kq => by
     rw [key, h8, ← h7]
     rfl
    generalize hdf : a1.defers = ds at hk' keyp
    cases ds with
    | nil =>
     refine Or.inr ⟨pv, M1, h5, fun k kq => by rw [keyp]; rfl, fun w0 r w args' hr hargs => ?_⟩
     refine calls_of_wp_defers h1 h2 ?_
     refine wp_mono (h9 w0 r w args' hr hargs) ?_
     rintro e' a' w' ⟨rfl, r', z1, ⟨s1, z2, z5, z6⟩, z3, z4⟩
     show Leaves P fn a'.tmps _ a'.defers (.panicking _) w'
     have hno : a'.defers = [] := by
      have := z2.no
      rw [z5, show (a1, toMem M1).1.defers = [] from hdf] at this
      generalize a'.defers = dd at *
      cases this
      rfl
     rw [hno]
     exact ⟨r', z1, rfl, z3, z4⟩
    | cons d ds =>
     cases ds with
     | cons d2 ds => cases hk'
     | nil =>
      have hk2 : (bif flat pv && rs.all (fun x => x.2.isSome) then (fnK (encD d) fun f args => xrec P ex kp hs fuel (xcallN kn P ex kp hs fuel n) f args pv M1 fun M => resK rs T1 M fun l => finK l fun v => k v M) else none) = some out := hk'
      cases hfl : (flat pv && rs.all (fun x => x.2.isSome)) with
      | false => rw [hfl] at hk2; cases hk2
      | true =>
       rw [hfl, cond_true] at hk2
       rw [Bool.and_eq_true] at hfl
       obtain ⟨fd, la, lc, rfl, hk3⟩ := encD_fn hk2
       obtain ⟨M2, c1, c2, ⟨fx, cf1, cf2⟩, c3⟩ := xrec_ok hex hP hm g h5 hfl.1 hk3
       rw [c2] at hk3
       obtain ⟨vs, j1, j2⟩ := resK_ok (P := P) h6 _ rs _ out h3 hk3
       rw [j1] at hk3
       obtain ⟨v, j3, j4⟩ := finK_ok hk3 j2
       refine Or.inl ⟨v, M2, c1, fun k kq => ?_, fun w0 r w args' hr hargs => ?_⟩
       ·
        rw [keyp]
        show (bif flat pv && rs.all (fun x => x.2.isSome) then (xrec P ex kp hs fuel (xcallN kn P ex kp hs fuel n) fd (la ++ lc) pv M1 fun M => resK rs T1 M fun l => finK l fun v => k v M) else none) = _
        rw [hfl.1, hfl.2]
        show (xrec P ex kp hs fuel (xcallN kn P ex kp hs fuel n) fd (la ++ lc) pv M1 fun M => resK rs T1 M fun l => finK l fun v => k v M) = _
        rw [c2, j1, j3]
       ·
        refine calls_of_wp_defers h1 h2 ?_
        refine wp_mono (h9 w0 r w args' hr hargs) ?_
        rintro e' a' w' ⟨rfl, r', z1, ⟨s1, z2, z5, z6⟩, z3, z4⟩
        show Leaves P fn a'.tmps _ a'.defers (.panicking [{ v := pv, recovered := false }]) w'
        have hdr : DR r' [⟨.fn (.func fd) ⟨lc⟩, ⟨la⟩⟩] a'.defers := by
         have := z2.no
         rw [z5, show (a1, toMem M1).1.defers = [⟨.fn (.func fd) ⟨lc⟩, ⟨la⟩⟩] from hdf] at this
         exact this
        generalize a'.defers = dd at hdr ⊢
        cases hdr with
        | cons hl hc hd =>
         rename_i la' lc' ds'
         cases hd
         refine leaves_cons (fun q => by cases q) (invoke_run hP cf1 cf2 la' lc' w') ((c3 w0 r' w' (la' ++ lc') (.panicking [{ v := pv, recovered := false }]) (.panicking [{ v := pv, recovered := true }]) z3 (hl.app hc) fun c₀ cs hu => ?_).mono ?_)
         ·
          unfold Told
          simp only [recoverD, hu]
          exact ⟨trivial, trivial⟩
         ·
          rintro e u' w'' ⟨rfl, r'', v', y1, rfl, y2, y3⟩
          show Leaves P fn a'.tmps _ [] (settle (.panicking [{ v := pv, recovered := true }])) w''
          have hres : resO P fn (s1, toMem M2) = some v := by
           rw [← j4]
           unfold resO
           rw [resL_same (f0 := f) (kp := kp) fn.results.toList rs h3 hfl.2 z6]
          obtain ⟨v2, x1, x2⟩ := resO_sound (s := (s1, toMem M2)) (z2.mono y1.wk) y2 hres
          exact ⟨v2, x1, r'', v2, z1.trans y1, rfl, x2, y2, Keep.trans z1 z4 y3⟩
   ·
    have h4' : e = .normal ∨ e = .ret := by
     rcases h4 with h | h | h
     · exact Or.inl h
     · exact Or.inr h
     · exact absurd h hne
    have hk1 : endK P ex kp hs fuel (xcallN kn P ex kp hs fuel n) rs T1 M1 k = some out := by
     rcases h4' with rfl | rfl
     · exact hk
     · exact hk
    have keyn : ∀ k kq, xcallN kn P ex kp hs fuel (n + 1) f args M k kq = endK P ex kp hs fuel (xcallN kn P ex kp hs fuel n) rs T1 M1 k := fun k kq => by
     rw [key, h8]
     rcases h4' with rfl | rfl <;> rfl
    have hk' : tupK (gT 63 T1) (fun l => dfK (xdfr P ex kp hs fuel (xcallN kn P ex kp hs fuel n)) l M1 fun M => resK rs T1 M fun l => finK l fun v => k v M) = some out := hk1
    rw [h7] at hk'
    have hk2 : dfK (xdfr P ex kp hs fuel (xcallN kn P ex kp hs fuel n)) (a1.defers.map encD) M1 (fun M => resK rs T1 M fun l => finK l fun v => k v M) = some out := hk'
    obtain ⟨M2, c1, c2, c3⟩ := dfK_ok hex hP hm g a1.defers M1 _ out h5 hk2
    rw [c2] at hk2
    obtain ⟨vs, j1, j2⟩ := resK_ok (P := P) h6 _ rs _ out h3 hk2
    rw [j1] at hk2
    obtain ⟨v, j3, j4⟩ := finK_ok hk2 j2
    refine Or.inl ⟨v, M2, c1, fun k kq => ?_, fun w0 r w args' hr hargs => ?_⟩
    ·
     rw [keyn]
     show tupK (gT 63 T1) (fun l => dfK (xdfr P ex kp hs fuel (xcallN kn P ex kp hs fuel n)) l M1 fun M => resK rs T1 M fun l => finK l fun v => k v M) = _
     rw [h7]
     show dfK (xdfr P ex kp hs fuel (xcallN kn P ex kp hs fuel n)) (a1.defers.map encD) M1 (fun M => resK rs T1 M fun l => finK l fun v => k v M) = _
     rw [c2, j1, j3]
    ·
     refine calls_of_wp_defers h1 h2 ?_
     have fin : ∀ (r' : Rho) (a' : Act) (w' : World), r.le r' → ActRel r' a1 a' → Rel P w0 r' (toMem M1) w' → Keep r (toMem M) (toMem M1) → Leaves P fn a'.tmps (fun x w' => ∃ r' v', r.le r' ∧ x = .returned v' ∧ VRel r' v v' ∧ Rel P w0 r' (toMem M2) w' ∧ Keep r (toMem M) (toMem M2)) a'.defers .returning w' := by
      intro r' a' w' z1 z2 z3 z4
      refine c3 w0 r' w' a'.defers fn a'.tmps _ z2.no z3 fun r'' w'' y1 y2 y3 => ?_
      obtain ⟨v', x1, x2⟩ := resO_sound (s := (a1, toMem M2)) (z2.mono y1.wk) y2 j4
      exact ⟨v', x1, r'', v', z1.trans y1, rfl, x2, y2, Keep.trans z1 z4 y3⟩
     have wp := h9 w0 r w args' hr hargs
     rcases h4' with rfl | rfl
     ·
      refine wp_mono wp ?_
      rintro e' a' w' ⟨rfl, r', z1, z2, z3, z4⟩
      exact fin r' a' w' z1 z2 z3 z4
     ·
      refine wp_mono wp ?_
      rintro e' a' w' ⟨rfl, r', z1, z2, z3, z4⟩
      exact fin r' a' w' z1 z2 z3 z4
  refine ⟨specG (fun f vs M => xcallN kn P ex kp hs fuel (n + 1) f vs M (fun v M => some (v, M)) (fun _ _ => none)), specG (fun f vs M => xcallN kn P ex kp hs fuel (n + 1) f vs M (fun _ _ => none) (fun v M => some (v, M))), ?_, ?_, ?_, ?_, ?_⟩
  ·
   intro f vs M k kq out hM hk
   rcases (one f vs M k kq out hM hk).2 with ⟨v, M', k1, k2, _⟩ | ⟨v, M', k1, k2, _⟩
   · exact Or.inl ⟨v, M', k1, k2, by rw [specG_at _ hM, k2]; rfl⟩
   · exact Or.inr ⟨v, M', k1, k2, by rw [specG_at _ hM, k2]; rfl⟩
  ·
   intro w0 r A w f args args' v A' h hr hargs
   obtain ⟨M, v1, M', c1, c2, c3, c4⟩ := specG_some h
   subst c2
   cases c4
   rcases (one f args M _ _ _ c1 c3).2 with ⟨v2, M2, k1, k2, k3⟩ | ⟨v2, M2, k1, k2, k3⟩
   ·
    rw [k2] at c3
    cases c3
    exact k3 w0 r w args' hr hargs
   ·
    rw [k2] at c3
    cases c3
  ·
   intro w0 r A w f args args' v A' h hr hargs
   obtain ⟨M, v1, M', c1, c2, c3, c4⟩ := specG_some h
   subst c2
   cases c4
   rcases (one f args M _ _ _ c1 c3).2 with ⟨v2, M2, k1, k2, k3⟩ | ⟨v2, M2, k1, k2, k3⟩
   ·
    rw [k2] at c3
    cases c3
   ·
    rw [k2] at c3
    cases c3
    exact k3 w0 r w args' hr hargs
  ·
   intro f vs A r h
   obtain ⟨M, v1, M', c1, c2, c3, c4⟩ := specG_some h
   exact (one f vs M _ _ _ c1 c3).1
  ·
   intro f vs A r h
   obtain ⟨M, v1, M', c1, c2, c3, c4⟩ := specG_some h
   exact (one f vs M _ _ _ c1 c3).1
theorem m0_none (n b : Nat) : getB ⟨n, m0⟩ b = none := by
 rw [getB_eq]
 have h1 : ∀ {β : Type} (n : Nat) (x : β), g8 n (rep8 x) = x := by
  intro β n x
  rcases n with _ | _ | _ | _ | _ | _ | _ | n <;> rfl
 unfold m0
 rw [h1, h1, h1, h1, h1]
theorem m0_can {n : Nat} (h : n ≤ 32768) : Can ⟨n, m0⟩ := ⟨h, fun b _ _ => m0_none n b⟩
theorem m0_ro : toMem ⟨roTab.length, m0⟩ = roMem := by
 refine List.ext_getElem? fun i => ?_
 rw [toMem_get]
 show (if i < roTab.length then _ else _) = _
 unfold roMem
 rw [List.getElem?_map, m0_none]
 by_cases c : i < roTab.length
 · rw [if_pos c, List.getElem?_eq_getElem c]; rfl
 · rw [if_neg c, List.getElem?_eq_none (by omega)]; rfl
/-- THE LAW: a call of values without addresses that comes to such a value -/
theorem xevaluatedN {P : Program} {kn : Kn} (hkn : KnOk P kn) {ex : Xn} (hex : XnOk P ex) (hP : Plain P) (hm : P.follows .mixedOrders = true) (hro : roTab.length ≤ 32768) (kp : Kp) (hs : Hts) (fuel n : Nat) {f : FuncId} {args : List Value} {v : Value} (hf : args.all flat = true) (hv : flat v = true)
  (h : ((xcallN kn P ex kp hs fuel n f args ⟨roTab.length, m0⟩ (fun v M => some (v, M)) (fun _ _ => none)).any fun x => eq3 v x.1) = true) (w : World) (hw : RoOk w) (hx : RoX w) : Calls P f ⟨args⟩ w fun x w' => x = .returned v ∧ Below w.heap.size w w' := by
 obtain ⟨Ks, Kp, g⟩ := xcallN_ok hkn hex hP hm kp hs fuel n
 cases q : xcallN kn P ex kp hs fuel n f args ⟨roTab.length, m0⟩ (fun v M => some (v, M)) (fun _ _ => none) with
 | none => rw [q] at h; cases h
 | some y =>
  rcases g.c f args _ _ _ y (m0_can hro) q with ⟨v1, M1, k1, k2, k3⟩ | ⟨v1, M1, k1, k2, k3⟩
  ·
   rw [k2] at q
   cases q
   rw [k2] at h
   have hu : v = v1 := eq3_ok (by simpa using h)
   subst hu
   have hl : LR (VRel roRho) args args := LR.of_all (fun v h => VRel.of_flat roRho h) hf
   exact (g.ok w roRho _ w f args args v _ k3 (by rw [m0_ro]; exact Rel.start P w hw hx) hl).mono fun x w' hx => by
    obtain ⟨r', v', _, rfl, j2, j3, _⟩ := hx
    exact ⟨by rw [j2.same hv], j3.below⟩
  ·
   rw [k2] at q
   cases q
/-- the same, with nothing known otherwise -/
theorem xevaluated {P : Program} {ex : Xn} (hex : XnOk P ex) (hP : Plain P) (hm : P.follows .mixedOrders = true) (hro : roTab.length ≤ 32768) (kp : Kp) (hs : Hts) (fuel n : Nat) {f : FuncId} {args : List Value} {v : Value} (hf : args.all flat = true) (hv : flat v = true)
  (h : ((xcall P ex kp hs fuel n f args ⟨roTab.length, m0⟩ (fun v M => some (v, M)) (fun _ _ => none)).any fun x => eq3 v x.1) = true) (w : World) (hw : RoOk w) (hx : RoX w) : Calls P f ⟨args⟩ w fun x w' => x = .returned v ∧ Below w.heap.size w w' :=
 xevaluatedN (knNone_ok P) hex hP hm hro kp hs fuel n hf hv h w hw hx
def xPlainB (P : Program) : Bool := P.funcs.toList.all fun fn => fn.body.isNone || !(fn.name == "runtime.NumGoroutine")
theorem xPlain_of {P : Program} (h : xPlainB P = true) : Plain P := by
 intro f fn hf hb
 have := List.all_eq_true.1 h fn (by simpa using Array.mem_of_getElem? hf)
 rw [Bool.or_eq_true] at this
 rcases this with h | h
 ·
  cases q : fn.body with
  | none => rw [q] at hb; cases hb
  | some c => rw [q] at h; cases h
 · simpa using h
end Go.Proofs.YtfgfofedacehiaaGreat

