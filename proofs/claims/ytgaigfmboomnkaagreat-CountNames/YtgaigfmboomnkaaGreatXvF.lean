/-
  OWN TEXT: an evaluator for calls without open arguments. Appends: the room is any number.
-/
import Derived.Test.YtgaigfmboomnkaaGreatXvE
namespace Go.Proofs.YtgaigfmboomnkaaGreat
open Go.RowKit
set_option linter.unusedVariables false
set_option linter.unusedSimpArgs false
theorem mem_push {A : Mem} {x : Option Blk} {i : Nat} {b : Blk} (e : (A ++ [x])[i]? = some (some b)) : A[i]? = some (some b) ∨ (i = A.length ∧ x = some b) := by
  rcases Nat.lt_or_ge i A.length with hi | hi
  · rw [List.getElem?_append_left hi] at e; exact Or.inl e
  · rw [List.getElem?_append_right hi] at e
    rcases Nat.eq_or_lt_of_le hi with hi' | hi'
    · rw [hi', Nat.sub_self] at e
      simp at e
      exact Or.inr ⟨hi'.symm, e⟩
    · rw [List.getElem?_eq_none (by simp; omega)] at e; cases e
theorem Rel.regrow {P : Program} {w0 : World} {r : Rho} {A : Mem} {w : World} (h : Rel P w0 r A w) {i : Nat} {b : Blk} {g s : Nat} {c : Array Value} (hA : A[i]? = some (some b)) (hr : r[i]? = some (some (g, s))) (hg : w.heap[g]? = some (.cells c b.elem (0, 0))) (hlow : w0.heap.size ≤ g)
    (l : List Value) (c' : Array Value) (s' : Nat) (hl : l.length + s' * szOf P b.elem ≤ c'.size) (hv : ∀ (j : Nat) (v : Value), l[j]? = some v → ∃ v', c'[j]? = some v' ∧ VR1 r v v') : Rel P w0 (r ++ [some (g, s')]) (A.set i none ++ [some ⟨l, b.elem⟩]) (w.setRow g c') := by
  have hle := (Rho.le.push r (some (g, s'))).wk
  have back : ∀ (j : Nat) (b' : Blk), (A.set i none)[j]? = some (some b') → j ≠ i ∧ A[j]? = some (some b') := by
    intro j b' e
    rw [List.getElem?_set] at e
    split at e
    · split at e <;> cases e
    · rename_i q; exact ⟨fun x => q x.symm, e⟩
  have hlast : (r ++ [some (g, s')])[(A.set i none).length]? = some (some (g, s')) := by simp [h.len.symm]
  have oldr : ∀ j, j < A.length → (r ++ [some (g, s')])[j]? = r[j]? := fun j hj => List.getElem?_append_left (by rw [h.len]; exact hj)
  have lt : ∀ (j : Nat) (b' : Blk), (A.set i none)[j]? = some (some b') → j < A.length := by
    intro j b' e
    rcases Nat.lt_or_ge j A.length with c | c
    · exact c
    · rw [List.getElem?_eq_none (by simpa using c)] at e; cases e
  have ne : ∀ (j : Nat) (b' : Blk) (g2 s2 : Nat), (A.set i none)[j]? = some (some b') → r[j]? = some (some (g2, s2)) → g2 ≠ g := by
    intro j b' g2 s2 e k1 x
    obtain ⟨q, e'⟩ := back j b' e
    subst x
    exact q (h.inj j i b' b g2 s2 s e' hA k1 hr)
  refine ⟨by simp [h.len], below_setRow h.below hlow _, ?_, ro_wk hle h.ro, ?_, h.ex⟩
  · intro j b' g2 s2 e f
    rcases mem_push e with d | ⟨hj, d⟩
    · rw [oldr j (lt j b' d)] at f
      obtain ⟨q, e'⟩ := back j b' d
      obtain ⟨c2, k2, k3, k4, k5⟩ := h.there j b' g2 s2 e' f
      refine ⟨c2, k2, ?_, k4, fun j v hj => let ⟨v', a1, a2⟩ := k5 j v hj; ⟨v', a1, a2.mono hle⟩⟩
      rw [setRow_other _ _ _ _ (ne j b' g2 s2 d f)]
      exact k3
    · rw [hj, hlast] at f
      simp only [Option.some.injEq, Prod.mk.injEq] at f
      obtain ⟨rfl, rfl⟩ := f
      cases d
      exact ⟨c', hlow, setRow_heap w g c c' b.elem (0, 0) hg, hl, fun j v hj => let ⟨v', a1, a2⟩ := hv j v hj; ⟨v', a1, a2.mono hle⟩⟩
  · intro j k bj bk g2 s2 s3 e1 e2 f1 f2
    rcases mem_push e1 with d1 | ⟨hj, _⟩ <;> rcases mem_push e2 with d2 | ⟨hk, _⟩
    · rw [oldr j (lt j bj d1)] at f1
      rw [oldr k (lt k bk d2)] at f2
      exact h.inj j k bj bk g2 s2 s3 (back _ _ d1).2 (back _ _ d2).2 f1 f2
    · rw [oldr j (lt j bj d1)] at f1
      rw [hk, hlast] at f2
      simp at f2
      exact absurd f2.1.symm (ne j bj g2 s2 d1 f1)
    · rw [oldr k (lt k bk d2)] at f2
      rw [hj, hlast] at f1
      simp at f1
      exact absurd f1.1.symm (ne k bk g2 s3 d2 f2)
    · rw [hj, hk]
/-- where there is no room -/
def growD (P : Program) (A : Mem) (i : TypeInfo) (z : Value) (el : TypeId) (a : Option Addr) (len cap n : Nat) (news : List Value) : Option (Value × Dl) :=
  if z.cells.size = i.size ∧ (len + n) * i.bytes ≤ 140737488355328 ∧ len + n ≤ 9223372036854775807 ∧ i.size ≠ 0 ∧ cap < len + n ∧ szOf P el = i.size then
    match partsO A i.size len (.slice a len cap) with
    | some olds =>
      match a with
      | none | some ⟨_, _, none⟩ => some (.slice (some ⟨A.length, 0, some 0⟩) (len + n) (len + n), .push ⟨olds ++ news, el⟩)
      | some ⟨b, off, some _⟩ =>
        match A[b]? with
        | some (some blk) => if off = 0 ∧ blk.elem = el ∧ cap * i.size ≤ blk.cells.length ∧ len ≤ cap then some (.slice (some ⟨A.length, 0, some 0⟩) (len + n) (len + n), .turn b ⟨olds ++ news, el⟩) else none
        | _ => none
    | none => none
  else none
/-- noughts behind a row, where there is room -/
def zeroD (P : Program) (A : Mem) (el : TypeId) (b off : Nat) (sp : Option Nat) (len cap n : Nat) : Option (Value × Dl) :=
  match P.info? el with
  | some i => match i.zero with
    | some z => match z.cells.toList with
      | [z0] => match A[b]? with
        | some (some blk) => if i.size = 1 ∧ flat1 z0 = true ∧ n * i.bytes ≤ 140737488355328 ∧ n ≤ 9223372036854775807 ∧ len + n ≤ cap ∧ off + len + n ≤ blk.cells.length then some (.slice (some ⟨b, off, sp⟩) (len + n) cap, .set b ⟨blk.cells.take (off + len) ++ List.replicate n z0 ++ blk.cells.drop (off + len + n), blk.elem⟩) else none
        | _ => none
      | _ => none
    | none => none
  | none => none
def appendD (P : Program) (A : Mem) (e : Operand → Option Value) (o : Oper) : Option (Value × Dl) :=
  match o.op with
  | .call c =>
    match c.callee, c.args.toList, c.argTypes.toList with
    | .builtin .append, [s, x], [t, tx] =>
      match e s, e x, P.underlying t, P.underlying tx with
      | some (.slice a len cap), some (.slice xa n xc), some (.slice el), some (.slice _) =>
        match P.info? el with
        | some i => match i.zero with
          | some z =>
            match partsO A i.size n (.slice xa n xc) with
            | some news =>
              if len + n ≤ cap then
                match a with
                | none => if n = 0 then some (.slice none len cap, .same) else none
                | some ⟨b, off, sp⟩ =>
                  match A[b]? with
                  | some (some blk) => if off + len * i.size + news.length ≤ blk.cells.length then some (.slice (some ⟨b, off, sp⟩) (len + n) cap, .set b ⟨blk.cells.take (off + len * i.size) ++ news ++ blk.cells.drop (off + len * i.size + news.length), blk.elem⟩) else none
                  | _ => none
              else growD P A i z el a len cap n news
            | none => none
          | none => none
        | none => none
      | some (.slice (some ⟨b, off, sp⟩) len cap), some (.int _ (.ofNat n)), some (.slice el), some (.int _) => zeroD P A el b off sp len cap n
      | _, _, _, _ => none
    | _, _, _ => none
  | _ => none
def evAppend (P : Program) (A : Mem) (e : Operand → Option Value) (o : Oper) : Option (Value × Mem) := (appendD P A e o).map fun x => (x.1, x.2.app A)
theorem grown_ge (w : World) (need old : Nat) (e : TypeId) : need ≤ grownCap w need old e := by
  unfold grownCap Question.cut
  exact Nat.le_add_right _ _
theorem LR.append {R : Value → Value → Prop} {l l' m m' : List Value} (h : LR R l l') (k : LR R m m') : LR R (l ++ m) (l' ++ m') := by
  have e1 := h.1
  have e2 := k.1
  refine ⟨by simp [e1, e2], fun i v e => ?_⟩
  rcases Nat.lt_or_ge i l.length with c | c
  · rw [List.getElem?_append_left c] at e
    rw [List.getElem?_append_left (by omega)]
    exact h.2 i v e
  · rw [List.getElem?_append_right c] at e
    rw [List.getElem?_append_right (by omega), ← e1]
    exact k.2 _ v e
theorem src_of {P : Program} {w0 w : World} {r : Rho} {A : Mem} {size n : Nat} {xa : Option Addr} {xc : Nat} {v' : Value} {news : List Value} {tx el' : TypeId} (h : partsO A size n (.slice xa n xc) = some news) (k : VRel r (.slice xa n xc) v') (hr : Rel P w0 r A w) (ht : P.underlying tx = some (.slice el')) :
    ∃ news', Src P size tx v' n news' w ∧ LR (VR1 r) news news' := by
  obtain ⟨l', f1, f2, f3, f4⟩ := parts_run h k hr
  refine ⟨l', ⟨Or.inl ⟨el', ht⟩, ?_, f1, f2, by rw [← f3.1]; exact f4, f3.one⟩, f3⟩
  intro w'
  rcases k.inv_slices with ⟨_, q⟩ | ⟨_, _, _, _, _, _, _, _, q, _, _⟩ <;> rw [q] <;> rfl
theorem zeroCells_size (z : Array Value) (n : Nat) : (Builtin.zeroCells z n).size = n * z.size := by simp [Builtin.zeroCells]
theorem wrap_i64_n (n : Nat) (h : n ≤ 9223372036854775807) : IntKind.i64.wrap (n : Int) = n := by rw [IntKind.wrap_i64]; omega
theorem zeroCells_one (z0 : Value) (n : Nat) : Builtin.zeroCells #[z0] n = (List.replicate n z0).toArray := by
  apply Array.ext
  · simp [Builtin.zeroCells]
  · intro j h1 h2
    simp [Builtin.zeroCells, Nat.mod_one]
theorem LR.rep {r : Rho} {z0 : Value} (h : flat1 z0 = true) (n : Nat) : LR (VR1 r) (List.replicate n z0) (List.replicate n z0) :=
  LR.of_all (f := flat1) (fun v h => VR1.flat h) (by rw [List.all_eq_true]; intro x hx; rw [List.mem_replicate] at hx; rw [hx.2]; exact h)
theorem zeroD_sound {P : Program} {w0 w : World} {r : Rho} {A : Mem} {t tx el type : TypeId} {k : IntKind} {k' : IntKind} {b off : Nat} {sp : Option Nat} {len cap n : Nat} {v : Value} {d : Dl} {s' : Value} (h : zeroD P A el b off sp len cap n = some (v, d)) (hs : VRel r (.slice (some ⟨b, off, sp⟩) len cap) s') (hr : Rel P w0 r A w) (qu : P.underlying t = some (.slice el)) (qx : P.underlying tx = some (.int k)) :
    ∃ r' v' w', r.le r' ∧ (Builtin.append_ #[t, tx] type #[s', .int k' (n : Int)]).run P w = .ok v' w' ∧ VRel r' v v' ∧ Rel P w0 r' (d.app A) w' ∧ Keep r A (d.app A) := by
  unfold zeroD at h
  split at h
  · rename_i i qi
    split at h
    · rename_i z qz
      split at h
      · rename_i z0 qc
        split at h
        · rename_i blk qb
          split at h
          · rename_i cnd
            obtain ⟨c1, c2, c3, c4, c5, c6⟩ := cnd
            cases h
            have hz : z.cells = #[z0] := by apply Array.ext'; simpa using qc
            rcases hs.inv_slices with ⟨q, _⟩ | ⟨b', off', sp', g, sk, c', q, h1, hs', hcap, hsp⟩
            · cases q
            · cases q
              have hlr := LR.rep (r := r) c2 n
              obtain ⟨cc, hg, _, _, _⟩ := hr.row qb h1
              obtain ⟨r1, r2⟩ := hr.splice qb h1 hg hlr (off + len) (by rw [List.length_replicate]; exact c6)
              rw [List.length_replicate] at r1 r2
              refine ⟨r, .slice (some ⟨g, off, none⟩) (len + n) c', _, Rho.le.refl r, ?_, ?_, r2, Keep.set h1 _⟩
              · rw [hs']
                have w1 : IntKind.i64.wrap (n : Int) = n := wrap_i64_n n c4
                have w2 : ¬ ((n : Int) < 0) := by omega
                have w3 : ¬ ((2 : Int) ^ 48 < (n : Int) * (i.bytes : Int)) := by
                  have h48 : ((n : Int) * (i.bytes : Int)) ≤ 140737488355328 := by rw [← Int.natCast_mul]; exact Int.ofNat_le.2 c3
                  have e48 : (2 : Int) ^ 48 = 281474976710656 := by decide
                  rw [e48]
                  generalize (n : Int) * (i.bytes : Int) = q at *
                  omega
                by_cases n0 : n = 0
                · subst n0
                  have w0 : IntKind.i64.wrap 0 = 0 := w1
                  have r1' : (storeCells ⟨g, off + len, none⟩ []).run P w = .ok () (w.setRow g (cc.toList.take (off + len) ++ List.replicate 0 z0 ++ cc.toList.drop (off + len + 0)).toArray) := r1
                  simp [Builtin.append_, run_underlying qu, run_underlying qx, sizeOf, typeInfo, qi, asInt, asIntOf, w0, c1, show len ≤ c' by omega, add_plain, r1']
                · simp [Builtin.append_, run_underlying qu, run_underlying qx, sizeOf, typeInfo, qi, asInt, asIntOf, w1, w2, w3, c1, n0, show len + n ≤ c' by omega, add_plain, zeroValue, qz, hz, zeroCells_one, r1]
                  intro hbad
                  have w3' : ¬ ((281474976710656 : Int) < (n : Int) * (i.bytes : Int)) := w3
                  exact absurd hbad w3'
              · rcases hsp with ⟨rfl, rfl⟩ | ⟨hsome, rfl⟩
                · exact .of1 (.exact h1)
                · obtain ⟨kk, rfl⟩ := Option.isSome_iff_exists.1 hsome
                  exact .of1 (.loose h1)
          · cases h
        · cases h
      · cases h
    · cases h
  · cases h
theorem evAppend_sound {P : Program} {w0 w : World} {r : Rho} {A A' : Mem} {e : Operand → Option Value} {e' : Operand → Value} {o : Oper} {v : Value} (h : evAppend P A e o = some (v, A')) (k : OpsRel r e e' o.op) (hr : Rel P w0 r A w) :
    ∃ r' v' w', r.le r' ∧ (execOp e' o).run P w = .ok (.value v') w' ∧ VRel r' v v' ∧ Rel P w0 r' A' w' ∧ Keep r A A' := by
  obtain ⟨d0, hd, hA'⟩ := map_some h
  clear h
  obtain ⟨d1, d2⟩ := d0
  cases hA'
  have h := hd
  clear hd
  obtain ⟨dst, op, type, pos, after, guard⟩ := o
  unfold appendD at h
  simp only at h
  cases op
  case call c =>
    obtain ⟨callee, args, argTypes⟩ := c
    simp only at h
    split at h
    · rename_i s x t tx qa qt
      obtain rfl : args = #[s, x] := by apply Array.ext'; simpa using qa
      obtain rfl : argTypes = #[t, tx] := by apply Array.ext'; simpa using qt
      split at h
      · rename_i a len cap xa n xc el el' q1 q2 qu qx
        have hs := k s (by simp [Op.operands, Call.operands]) _ q1
        have hx := k x (by simp [Op.operands, Call.operands]) _ q2
        split at h
        · rename_i i qi
          split at h
          · rename_i z qz
            split at h
            · rename_i news qn
              obtain ⟨news', src, hlr⟩ := src_of qn hx hr qx
              have hnl := src.newsLen
              have hll := hlr.1
              have exec : ∀ v' w', (Builtin.append_ #[t, tx] type #[e' s, e' x]).run P w = .ok v' w' → (execOp e' { dst := dst, op := .call { callee := .builtin .append, args := #[s, x], argTypes := #[t, tx] }, type := type, pos := pos, after := after, guard := guard }).run P w = .ok (.value v') w' := by
                intro v' w' hrun
                simp [execOp, resolve, invoke, builtin, hrun]
              split at h
              · rename_i room
                rcases hs.inv_slices with ⟨rfl, hs'⟩ | ⟨b, off, sp, g, sk, c', rfl, h1, hs', hcap, hsp⟩
                · simp only at h
                  split at h
                  · rename_i n0
                    cases h
                    subst n0
                    refine ⟨r, .slice none len cap, w, Rho.le.refl r, exec _ _ ?_, VRel.of_flat r rfl, hr, Keep.refl r A⟩
                    rw [hs']
                    rcases src.kind with ⟨e'', hk⟩ | hk
                    · simp [Builtin.append_, run_underlying qu, run_underlying hk, sizeOf, typeInfo, qi, src.len, show len ≤ cap by omega, src.cells]
                    · rw [qx] at hk; cases hk
                  · cases h
                · simp only at h
                  split at h
                  · rename_i blk qb
                    split at h
                    · rename_i fit
                      cases h
                      obtain ⟨cc, hg, _, _, _⟩ := hr.row qb h1
                      obtain ⟨r1, r2⟩ := hr.splice qb h1 hg hlr (off + len * i.size) fit
                      refine ⟨r, .slice (some ⟨g, off, none⟩) (len + n) c', _, Rho.le.refl r, exec _ _ ?_, ?_, r2, Keep.set h1 _⟩
                      · rw [hs']
                        rcases src.kind with ⟨e'', hk⟩ | hk
                        · simp [Builtin.append_, run_underlying qu, run_underlying hk, sizeOf, typeInfo, qi, src.len, show len + n ≤ c' by omega, src.cells, add_plain, r1]
                        · rw [qx] at hk; cases hk
                      · rcases hsp with ⟨rfl, rfl⟩ | ⟨hsome, rfl⟩
                        · exact .of1 (.exact h1)
                        · obtain ⟨kk, rfl⟩ := Option.isSome_iff_exists.1 hsome
                          exact .of1 (.loose h1)
                    · cases h
                  · cases h
              · rename_i noroom
                unfold growD at h
                split at h
                · rename_i cnd
                  obtain ⟨z1, z2, z3, z4, z5, z6⟩ := cnd
                  split at h
                  · rename_i olds qo
                    obtain ⟨olds', o1, o2, o3, o4⟩ := parts_run qo hs hr
                    -- a new row
                    have grow : ∀ (base : Option Addr) (c' : Nat), e' s = .slice base len c' → c' < len + n → ∀ B : Mem, Rel P w0 r B w → ∃ r' v' w', r.le r' ∧ (Builtin.append_ #[t, tx] type #[e' s, e' x]).run P w = .ok v' w' ∧ VRel r' (.slice (some ⟨B.length, 0, some 0⟩) (len + n) (len + n)) v' ∧ Rel P w0 r' (B ++ [some ⟨olds ++ news, el⟩]) w' := by
                      intro base c' hb hlt B hB
                      have hrun := run_append_grow_src (P := P) w t tx type el i z qu qi qz base len c' olds' (by rw [← hb]; exact o2) (e' x) n news' src hlt (by omega) (growslice_fits hlt z2)
                      have gge := grown_ge w (len + n) c' el
                      generalize grownCap w (len + n) c' el = G at *
                      have ral := hB.drew.alloc ⟨olds ++ news, el⟩ ((olds' ++ news').toArray ++ Builtin.zeroCells z.cells (G - (len + n))) (G - (len + n)) (by
                        have e1 := o3.1
                        simp only [Array.size_append, zeroCells_size, z1, z6]
                        simp
                        omega) (by
                        intro j u hu
                        obtain ⟨u', a1, a2⟩ := (o3.append hlr).2 j u hu
                        refine ⟨u', ?_, a2⟩
                        have hj : j < (olds' ++ news').length := by
                          rcases Nat.lt_or_ge j (olds' ++ news').length with c | c
                          · exact c
                          · rw [List.getElem?_eq_none c] at a1; cases a1
                        rw [Array.getElem?_append_left (by simpa using hj)]
                        simpa using a1)
                      refine ⟨_, _, _, Rho.le.push r _, by rw [hb]; exact hrun, ?_, ral⟩
                      have hlast : (r ++ [some (w.drew.heap.size, G - (len + n))])[B.length]? = some (some (w.drew.heap.size, G - (len + n))) := by rw [← hB.len]; simp
                      have vr := VR1.loose (o := 0) (n := len + n) (c := len + n) (k := 0) hlast
                      rw [show len + n + (G - (len + n)) = G by omega] at vr
                      exact .of1 vr
                    rcases hs.inv_slices with ⟨rfl, hs'⟩ | ⟨b, off, sp, g, sk, c', rfl, h1, hs', hcap, hsp⟩
                    · simp only at h
                      cases h
                      obtain ⟨r', v', w', g1, g2, g3, g4⟩ := grow none cap hs' z5 A hr
                      exact ⟨r', v', w', g1, exec _ _ g2, g3, g4, (Keep.refl r A).push hr.len _⟩
                    · cases sp with
                      | none =>
                        simp only at h
                        cases h
                        rcases hsp with ⟨_, rfl⟩ | ⟨hsome, _⟩
                        · obtain ⟨r', v', w', g1, g2, g3, g4⟩ := grow (some ⟨g, off, none⟩) c' hs' z5 A hr
                          exact ⟨r', v', w', g1, exec _ _ g2, g3, g4, (Keep.refl r A).push hr.len _⟩
                        · cases hsome
                      | some kk =>
                        simp only at h
                        split at h
                        · rename_i blk qb
                          split at h
                          · rename_i cd
                            obtain ⟨rfl, d2, d3, d4⟩ := cd
                            rcases hsp with ⟨q, _⟩ | ⟨_, rfl⟩
                            · cases q
                            · cases h
                              rcases Nat.lt_or_ge (cap + sk) (len + n) with hlt | hge
                              · obtain ⟨r', v', w', g1, g2, g3, g4⟩ := grow (some ⟨g, 0, none⟩) (cap + sk) hs' hlt (A.set b none) (hr.kill b)
                                rw [List.length_set] at g3
                                exact ⟨r', v', w', g1, exec _ _ g2, g3, g4, (Keep.set h1 none).push (by simpa using hr.len) _⟩
                              · obtain ⟨cc, hg, hlow, hsz, px⟩ := hr.row qb h1
                                rw [d2] at hg hsz
                                rw [z6] at hsz
                                have hbig : (cap + sk) * i.size ≤ cc.size := by rw [Nat.add_mul]; omega
                                have hneed : (len + n) * i.size ≤ (cap + sk) * i.size := Nat.mul_le_mul_right _ hge
                                rw [Nat.add_mul] at hneed
                                have e1 := o3.1
                                have st := run_storeCells_at P g (len * i.size) el news' 0 cc w hg (by omega) src.one
                                simp only [Nat.add_zero] at st
                                have olds_eq : olds' = cc.toList.take (len * i.size) := by
                                  have := o1
                                  rw [hs'] at this
                                  have cell : ∀ (j : Nat) (u : Value), (cc.toList.take (len * i.size))[j]? = some u → w.cell? ((⟨g, 0, none⟩ : Addr).add j) = some u := by
                                    intro j u hu
                                    simp only [List.getElem?_take] at hu
                                    split at hu
                                    · rw [add_plain]; simp only [World.cell?, hg, Option.isSome_none, Bool.false_eq_true, if_false, Nat.zero_add]; simpa using hu
                                    · cases hu
                                  have hl2 : (cc.toList.take (len * i.size)).length = len * i.size := by simp; omega
                                  have ld := run_loadCells_list (P := P) w ⟨g, 0, none⟩ _ cell
                                  rw [hl2] at ld
                                  have this' : (loadCells ⟨g, 0, none⟩ (len * i.size)).run P w = .ok olds'.toArray w := this
                                  rw [ld] at this'
                                  simp only [Result.ok.injEq, and_true] at this'
                                  have := congrArg Array.toList this'
                                  simpa using this.symm
                                refine ⟨r ++ [some (g, cap + sk - (len + n))], .slice (some ⟨g, 0, none⟩) (len + n) (cap + sk), w.setRow g (cc.toList.take (len * i.size) ++ news' ++ cc.toList.drop (len * i.size + news'.length)).toArray, Rho.le.push r _, exec _ _ ?_, ?_, ?_, (Keep.set h1 none).push (by simpa using hr.len) _⟩
                                · rw [hs']
                                  rcases src.kind with ⟨e'', hk⟩ | hk
                                  · simp [Builtin.append_, run_underlying qu, run_underlying hk, sizeOf, typeInfo, qi, src.len, hge, src.cells, add_plain, st]
                                  · rw [qx] at hk; cases hk
                                · have hlast : (r ++ [some (g, cap + sk - (len + n))])[A.length]? = some (some (g, cap + sk - (len + n))) := by rw [← hr.len]; simp
                                  have vr := VR1.loose (o := 0) (n := len + n) (c := len + n) (k := 0) hlast
                                  rw [show len + n + (cap + sk - (len + n)) = cap + sk by omega] at vr
                                  exact .of1 vr
                                · have rg := hr.regrow qb h1 (by rw [d2]; exact hg) hlow (olds ++ news) (cc.toList.take (len * i.size) ++ news' ++ cc.toList.drop (len * i.size + news'.length)).toArray (cap + sk - (len + n)) (by
                                    rw [d2, z6, Nat.sub_mul, Nat.add_mul]
                                    simp only [List.size_toArray, List.length_append, List.length_take, List.length_drop, Array.length_toList]
                                    rw [Nat.add_mul] at hbig hneed ⊢
                                    omega) (by
                                    intro j u hu
                                    obtain ⟨u', a1, a2⟩ := (o3.append hlr).2 j u hu
                                    refine ⟨u', ?_, a2⟩
                                    have hj : j < (olds' ++ news').length := by
                                      rcases Nat.lt_or_ge j (olds' ++ news').length with c | c
                                      · exact c
                                      · rw [List.getElem?_eq_none c] at a1; cases a1
                                    rw [← olds_eq]
                                    rw [List.getElem?_toArray, List.getElem?_append_left hj]
                                    exact a1)
                                  rw [d2] at rg
                                  exact rg
                          · cases h
                        · cases h
                  · cases h
                · cases h
            · cases h
          · cases h
        · cases h
      · rename_i b off sp len cap kk n el kk2 q1 q2 qu qx
        have hs := k s (by simp [Op.operands, Call.operands]) _ q1
        have hx := (k x (by simp [Op.operands, Call.operands]) _ q2).same rfl
        obtain ⟨r', v', w', g1, g2, g3, g4, g5⟩ := zeroD_sound (type := type) (k' := kk) h hs hr qu qx
        refine ⟨r', v', w', g1, ?_, g3, g4, g5⟩
        have g2' : (Builtin.append_ #[t, tx] type #[e' s, e' x]).run P w = .ok v' w' := by rw [hx]; exact g2
        simp [execOp, resolve, invoke, builtin, g2']
      · cases h
    · cases h
  all_goals cases h
end Go.Proofs.YtgaigfmboomnkaaGreat
