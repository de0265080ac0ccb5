/-
  OWN TEXT: an evaluator made for the kernel: every operation that was made ready does what the operation does.
-/
import Derived.Test.YtgaigfmboomnkaaGreatXwH
namespace Go.Proofs.YtgaigfmboomnkaaGreat
open Go.RowKit
set_option linter.unusedVariables false
set_option linter.unusedSimpArgs false
def KBody (P : Program) (Ks : Caller) : Prop := ∀ (f : FuncId) (vs : List Value) (A : Mem) (r : Value × Mem), Ks f vs A = some r → ∃ fn, P.funcs[f]? = some fn ∧ fn.body.isSome = true
section
variable {P : Program} {Ks : Caller} {res : Rs} {dst : Option Tmp} {type : TypeId} {pos : String} {after : Array Edge} {guard : Option (Nat × Bool)}
theorem trBin_ok {ex : Xn} {op : BinOp} {t yt : TypeId} {x y : Operand} {c : XO} (h : trBin op t x y P ex res ⟨dst, .binOp op t x y yt, type, pos, after, guard⟩ = some c) : OpOk P Ks c ⟨dst, .binOp op t x y yt, type, pos, after, guard⟩ res := by
  unfold trBin at h
  split at h
  · rename_i f qf
    obtain ⟨sx, sy, h1, h2, rfl⟩ := mk2_some h
    have fast : ∀ {a : Act} {v w u : Value}, evalO a x = some v → evalO a y = some w → fastBin op v w = some u → ∀ A, evOp Ks P A (evalO a) ⟨dst, .binOp op t x y yt, type, pos, after, guard⟩ = some (u, A) := by
      intro a v w u e1 e2 hu A
      refine evOp_flat rfl (fastP_ok ?_) (fun _ q => by cases q) (fun _ q => by cases q) (fun _ _ q => by cases q) A
      unfold fastP
      simp only [e1, e2, hu]
    have run : ∀ {a : Act} {v w u : Value}, evalO a x = some v → evalO a y = some w → pureRun P (do eqGuard op t x y v w; binOp op t v w) = some u → flat v = true → flat w = true → flat u = true → ∀ A, evOp Ks P A (evalO a) ⟨dst, .binOp op t x y yt, type, pos, after, guard⟩ = some (u, A) := by
      intro a v w u e1 e2 hr f1 f2 f3 A
      refine evOp_flat rfl (flatP_of rfl ?_ ?_ f3) (fun _ q => by cases q) (fun _ q => by cases q) (fun _ _ q => by cases q) A
      · intro z hz
        simp [Op.operands] at hz
        rcases hz with rfl | rfl
        · exact ⟨v, e1, f1⟩
        · exact ⟨w, e2, f2⟩
      · simp only [execOp, e1, e2, Option.getD_some]
        rw [pureRun_bind, hr]
        rfl
    refine ok_p2 h1 h2 fun a v w k out e1 e2 hk => ?_
    unfold binX at qf
    split at qf
    · split at qf
      · rename_i f' q'
        cases qf
        obtain ⟨u, k1, k2⟩ := binI_fast q' hk
        exact ⟨u, k1, fast e1 e2 k2⟩
      · obtain ⟨u, k1, k2, f1, f2, f3⟩ := binU_run (P := P) qf hk t x y
        exact ⟨u, k1, run e1 e2 k2 f1 f2 f3⟩
    · obtain ⟨u, k1, k2⟩ := binI_fast qf hk
      exact ⟨u, k1, fast e1 e2 k2⟩
    · obtain ⟨u, k1, k2⟩ := binF_fast qf hk
      exact ⟨u, k1, fast e1 e2 k2⟩
    · cases qf
  · exact gen_ok h fun a A => rfl
theorem pickK_some {x y z : Value} {k : Value → Out} {out : Value × Me} (h : pickK x y z k = some out) : ∃ b, x = .bool b ∧ flat y = true ∧ flat z = true ∧ ∀ k : Value → Out, pickK x y z k = k (if b then y else z) := by
  unfold pickK at h
  split at h
  · rename_i b
    by_cases c : (flat y && flat z) = true
    · have c' := c
      rw [Bool.and_eq_true] at c
      refine ⟨b, rfl, c.1, c.2, fun k => ?_⟩
      show cond (flat y && flat z) (cond b (k y) (k z)) none = _
      rw [c', cond_true]
      cases b <;> rfl
    · rw [Bool.eq_false_iff.2 c] at h; cases h
  · cases h
theorem trPick_ok {ex : Xn} {x y z : Operand} {c : XO} (h : trPick x y z P ex res ⟨dst, .pick x y z, type, pos, after, guard⟩ = some c) : OpOk P Ks c ⟨dst, .pick x y z, type, pos, after, guard⟩ res := by
  unfold trPick at h
  obtain ⟨sx, sy, sz, h1, h2, h3, rfl⟩ := mk3_some h
  refine ok_p3 h1 h2 h3 fun a v w q k out e1 e2 e3 hk => ?_
  obtain ⟨b, rfl, f1, f2, k1⟩ := pickK_some hk
  refine ⟨_, k1, evOp_flat rfl (flatP_of rfl ?_ ?_ (by cases b <;> simp [f1, f2])) (fun _ q => by cases q) (fun _ q => by cases q) (fun _ _ q => by cases q)⟩
  · intro u hu
    simp [Op.operands] at hu
    rcases hu with rfl | rfl | rfl
    · exact ⟨_, e1, rfl⟩
    · exact ⟨_, e2, f1⟩
    · exact ⟨_, e3, f2⟩
  · simp only [execOp, e1, e2, e3, Option.getD_some]
    cases b <;> rfl
theorem notK_some {x : Value} {k : Value → Out} {out : Value × Me} (h : notK x k = some out) : ∃ b, x = .bool b ∧ ∀ k : Value → Out, notK x k = k (.bool !b) := by
  unfold notK at h
  split at h
  · rename_i b
    refine ⟨b, rfl, fun k => ?_⟩
    show frcB (!b) (fun t => k (.bool t)) = _
    rw [frcB_eq]
  · cases h
theorem trUn_ok {ex : Xn} {op : UnOp} {t : TypeId} {x : Operand} {c : XO} (h : trUn op x P ex res ⟨dst, .unOp op t x, type, pos, after, guard⟩ = some c) : OpOk P Ks c ⟨dst, .unOp op t x, type, pos, after, guard⟩ res := by
  unfold trUn at h
  cases op with
  | not =>
    obtain ⟨sx, h1, rfl⟩ := mk1_some (k := xP1 notK) h
    refine ok_p1 h1 fun a v k out e1 hk => ?_
    obtain ⟨b, rfl, k1⟩ := notK_some hk
    refine ⟨_, k1, evOp_flat rfl (flatP_of rfl ?_ ?_ rfl) (fun _ q => by cases q) (fun _ q => by cases q) (fun _ _ q => by cases q)⟩
    · intro u hu
      simp [Op.operands] at hu
      subst hu
      exact ⟨_, e1, rfl⟩
    · simp only [execOp, e1, Option.getD_some]
      rfl
  | neg => exact gen_ok h fun a A => rfl
  | xor => exact gen_ok h fun a A => rfl
  | plus => exact gen_ok h fun a A => rfl
theorem convI_some {i : IntKind} {x : Value} {k : Value → Out} {out : Value × Me} (h : convI i x k = some out) : ∃ j n, x = .int j n ∧ ∀ k : Value → Out, convI i x k = k (.int i (i.wrap n)) := by
  unfold convI at h
  obtain ⟨j, n, rfl, h1⟩ := asI_some h
  refine ⟨j, n, rfl, fun k => ?_⟩
  show wrapK i n (fun z => k (.int i z)) = _
  rw [wrapK_eq]
theorem trConv_ok {ex : Xn} {s d : TypeId} {x : Operand} {c : XO} (h : trConv s d x P ex res ⟨dst, .convert s d x, type, pos, after, guard⟩ = some c) : OpOk P Ks c ⟨dst, .convert s d x, type, pos, after, guard⟩ res := by
  unfold trConv at h
  split at h
  · rename_i i j q1 q2
    rw [frcI_eq] at h
    obtain ⟨sx, h1, rfl⟩ := mk1_some h
    refine ok_p1 h1 fun a v k out e1 hk => ?_
    obtain ⟨i', n, rfl, k1⟩ := convI_some hk
    refine ⟨_, k1, evOp_flat rfl (fastP_ok ?_) (fun _ q => by cases q) (fun _ q => by cases q) (fun _ _ q => by cases q)⟩
    unfold fastP
    simp only [e1, fastConv, q1, q2, ← wrapF_eq]
  · exact gen_ok h fun a A => rfl
theorem trLoad_ok {ex : Xn} {t : TypeId} {x : Operand} {c : XO} (h : trLoad t x P ex res ⟨dst, .load t x, type, pos, after, guard⟩ = some c) : OpOk P Ks c ⟨dst, .load t x, type, pos, after, guard⟩ res := by
  unfold trLoad at h
  split at h
  · rename_i d qd
    cases hrow : d.isRow with
    | true =>
      rw [hrow, cond_true] at h
      split at h
      · rename_i i qi
        rw [frcN_eq] at h
        obtain ⟨sx, h1, rfl⟩ := mk1_some h
        intro K T M L k out a hK hM hfit hk
        have hk' : ldK i.size true (sx T L) M (fun u => k u M) = some out := hk
        obtain ⟨b, off, u, e1, e2, e3⟩ := ldK_some (P := P) hk'
        have ex := hfit x sx h1
        rw [e1] at ex
        refine ⟨u, M, hM, fun _ k => e2 _, ?_⟩
        rcases e3 with ⟨blk, hb, ⟨_, c1, rfl⟩ | ⟨q, _⟩⟩ | ⟨_, q, _⟩
        · simp only [evOp, evR, ex, hb, qd, hrow, if_true, qi, c1, Option.map_some]
        · cases q
        · cases q
      · cases h
    | false =>
      rw [hrow, cond_false] at h
      obtain ⟨sx, h1, rfl⟩ := mk1_some h
      intro K T M L k out a hK hM hfit hk
      have hk' : ldK 0 false (sx T L) M (fun u => k u M) = some out := hk
      obtain ⟨b, off, u, e1, e2, e3⟩ := ldK_some (P := P) hk'
      have ex := hfit x sx h1
      rw [e1] at ex
      refine ⟨u, M, hM, fun _ k => e2 _, ?_⟩
      rcases e3 with ⟨blk, hb, ⟨q, _⟩ | ⟨_, c1⟩⟩ | ⟨hb, _, y, c1, c2⟩
      · cases q
      · simp only [evOp, evR, ex, hb, qd, hrow, c1, Bool.false_eq_true, if_false, Option.map_some]
      · simp only [evOp, evR, ex, hb, qd, hrow, c1, c2, Bool.false_eq_true, if_false, Option.map_some]
  · cases h
theorem trStore_ok {ex : Xn} {t : TypeId} {x y : Operand} {c : XO} (h : trStore t x y P ex res ⟨dst, .store t x y, type, pos, after, guard⟩ = some c) : OpOk P Ks c ⟨dst, .store t x y, type, pos, after, guard⟩ res := by
  unfold trStore at h
  split at h
  · rename_i i qi
    rw [frcN_eq] at h
    obtain ⟨sx, sy, h1, h2, rfl⟩ := mk2_some h
    intro K T M L k out a hK hM hfit hk
    have hk' : stM i.size (sx T L) (sy T L) M (fun M => k undef M) = some out := hk
    obtain ⟨b, off, l, blk, e1, e2, e3, e4, e5, M', k1, k2, k3⟩ := stM_some hM hk'
    have ex := hfit x sx h1
    have ey := hfit y sy h2
    rw [e1] at ex
    refine ⟨undef, M', k1, fun _ k => k3 _, ?_⟩
    simp only [evOp, evStore, storeD, ex, ey, e3, e2, qi]
    rw [if_pos ⟨e4, e5⟩, k2]
    rfl
  · cases h
theorem trAlloc_ok {ex : Xn} {el : TypeId} {c : XO} (h : trAlloc el P ex res ⟨dst, .alloc el, type, pos, after, guard⟩ = some c) : OpOk P Ks c ⟨dst, .alloc el, type, pos, after, guard⟩ res := by
  unfold trAlloc at h
  split at h
  · rename_i i qi
    split at h
    · rename_i z qz
      split at h
      · rename_i hf
        rw [frcL_eq] at h
        cases h
        intro K T M L k out a hK hM hfit hk
        have hk' : pushM M ⟨z.cells.toList, el⟩ (fun M' => k (.pointer (some ⟨M.n, 0, none⟩)) M') = some out := hk
        obtain ⟨c1, e⟩ := pushM_some hk'
        obtain ⟨k1, k2⟩ := hM.push c1 ⟨z.cells.toList, el⟩
        refine ⟨_, _, k1, fun _ k => e _, ?_⟩
        simp only [evOp, evN, qi, qz, hf, if_true, Option.map_some, toMem_len, k2]
      · cases h
    · cases h
  · cases h
theorem trBox_ok {ex : Xn} {el : TypeId} {x : Operand} {c : XO} (h : trBox el x P ex res ⟨dst, .box el x, type, pos, after, guard⟩ = some c) : OpOk P Ks c ⟨dst, .box el x, type, pos, after, guard⟩ res := by
  unfold trBox at h
  obtain ⟨sx, h1, rfl⟩ := mk1_some h
  intro K T M L k out a hK hM hfit hk
  have key : ∀ (K : KC) (k : Value → Me → Out), xNw (boxK el) [sx] K T M L k = (cellsO (sx T L)).bind fun l => pushM M ⟨l, el⟩ fun M' => k (.pointer (some ⟨M.n, 0, none⟩)) M' := fun K k => by
    rw [← cellsK_eq]; rfl
  rw [key] at hk
  obtain ⟨l, hl, h2⟩ := bind_some hk
  obtain ⟨c1, e⟩ := pushM_some h2
  obtain ⟨k1, k2⟩ := hM.push c1 ⟨l, el⟩
  refine ⟨_, _, k1, fun _ k => by rw [key, hl]; exact e _, ?_⟩
  simp only [evOp, evN, hfit x sx h1, hl, Option.map_some, toMem_len, k2]
theorem trExt_ok {ex : Xn} {x : Operand} {i : Nat} {c : XO} (h : trExt x i P ex res ⟨dst, .extract x i, type, pos, after, guard⟩ = some c) : OpOk P Ks c ⟨dst, .extract x i, type, pos, after, guard⟩ res := by
  unfold trExt at h
  obtain ⟨sx, h1, rfl⟩ := mk1_some h
  refine ok_p1 h1 fun a v k out e1 hk => ?_
  unfold extK at hk
  split at hk
  · rename_i l
    rw [nthK_eq] at hk
    obtain ⟨u, e2, _⟩ := bind_some hk
    refine ⟨u, fun k => ?_, fun A => ?_⟩
    · show nthK l i k = _
      rw [nthK_eq, e2]; rfl
    · simp only [evOp, evS, e1, e2, Option.map_some]
  · cases hk
theorem evP_S {o : Oper} {a : Act} {u : Value} (h1 : flatP P (evalO a) o = none) (h2 : evS P (evalO a) o = some u) : evP P (evalO a) o = some u := by
  unfold evP
  rw [h1, h2]
theorem trFld_ok {ex : Xn} {s : TypeId} {x : Operand} {f : Nat} {c : XO} (h : trFld s x f P ex res ⟨dst, .fieldAddr s x f, type, pos, after, guard⟩ = some c) : OpOk P Ks c ⟨dst, .fieldAddr s x f, type, pos, after, guard⟩ res := by
  unfold trFld at h
  split at h
  · rename_i fields qu
    split at h
    · rename_i fl qf
      rw [nth_eq, Array.getElem?_toList] at qf
      split at h
      · rename_i hz
        rw [frcN_eq] at h
        obtain ⟨sx, h1, rfl⟩ := mk1_some h
        refine ok_p1 h1 fun a v k out e1 hk => ?_
        unfold fldK at hk
        obtain ⟨b, off, rfl, _⟩ := ptrK_some hk
        refine ⟨.pointer (some ⟨b, off + fl.offset, none⟩), fun k => ?_, fun A => ?_⟩
        · show frcN (Nat.add off fl.offset) (fun o => k (.pointer (some ⟨b, o, none⟩))) = _
          rw [frcN_eq]; rfl
        · have : evS P (evalO a) ⟨dst, .fieldAddr s x f, type, pos, after, guard⟩ = some (.pointer (some ⟨b, off + fl.offset, none⟩)) := by
            simp only [evS, e1, qu, qf]
            rw [if_pos hz]
          simp only [evOp, evP_S (flatP_none (x := x) (by simp [Op.operands]) e1 rfl) this, Option.map_some]
      · cases h
    · cases h
  · cases h
theorem trIdx_ok {ex : Xn} {t : TypeId} {x ix : Operand} {c : XO} (h : trIdx t x ix P ex res ⟨dst, .indexAddr t x ix, type, pos, after, guard⟩ = some c) : OpOk P Ks c ⟨dst, .indexAddr t x ix, type, pos, after, guard⟩ res := by
  unfold trIdx at h
  split at h
  · rename_i el qu
    split at h
    · rename_i hz
      rw [frcN_eq] at h
      obtain ⟨sx, sy, h1, h2, rfl⟩ := mk2_some h
      refine ok_p2 h1 h2 fun a v w k out e1 e2 hk => ?_
      unfold idxK at hk
      split at hk
      · rename_i ad len cap
        obtain ⟨i, n, rfl, h3⟩ := asI_some hk
        cases n with
        | negSucc m => cases h3
        | ofNat m =>
          have h4 : cond (Nat.blt m len) (frcN (Nat.add ad.off (Nat.mul m (szOf P el))) fun o => k (.pointer (some ⟨ad.block, o, none⟩))) none = some out := h3
          rw [blt_iff] at h4
          by_cases c : m < len
          · refine ⟨.pointer (some ⟨ad.block, ad.off + m * szOf P el, none⟩), fun k => ?_, fun A => ?_⟩
            · show cond (Nat.blt m len) (frcN (Nat.add ad.off (Nat.mul m (szOf P el))) fun o => k (.pointer (some ⟨ad.block, o, none⟩))) none = _
              rw [blt_iff, decide_eq_true c, cond_true, frcN_eq]; rfl
            · have : evS P (evalO a) ⟨dst, .indexAddr t x ix, type, pos, after, guard⟩ = some (.pointer (some ⟨ad.block, ad.off + m * szOf P el, none⟩)) := by
                obtain ⟨b, off, sp⟩ := ad
                simp only [evS, e1, e2, qu]
                rw [if_pos ⟨Int.natCast_nonneg _, by show (m : Int) < _; omega, hz⟩]
                rfl
              simp only [evOp, evP_S (flatP_none (x := x) (by simp [Op.operands]) e1 rfl) this, Option.map_some]
          · rw [decide_eq_false c] at h4; cases h4
      · cases hk
    · cases h
  · rename_i len el qu
    split at h
    · rename_i hz
      rw [frcN_eq, frcN_eq] at h
      obtain ⟨sx, sy, h1, h2, rfl⟩ := mk2_some h
      refine ok_p2 h1 h2 fun a v w k out e1 e2 hk => ?_
      unfold idxA at hk
      obtain ⟨b, off, rfl, h3⟩ := ptrK_some hk
      obtain ⟨i, n, rfl, h4⟩ := asI_some h3
      cases n with
      | negSucc m => cases h4
      | ofNat m =>
        have h5 : cond (Nat.blt m len) (frcN (Nat.add off (Nat.mul m (szOf P el))) fun o => k (.pointer (some ⟨b, o, none⟩))) none = some out := h4
        rw [blt_iff] at h5
        by_cases c : m < len
        · refine ⟨.pointer (some ⟨b, off + m * szOf P el, none⟩), fun k => ?_, fun A => ?_⟩
          · show cond (Nat.blt m len) (frcN (Nat.add off (Nat.mul m (szOf P el))) fun o => k (.pointer (some ⟨b, o, none⟩))) none = _
            rw [blt_iff, decide_eq_true c, cond_true, frcN_eq]; rfl
          · have : evS P (evalO a) ⟨dst, .indexAddr t x ix, type, pos, after, guard⟩ = some (.pointer (some ⟨b, off + m * szOf P el, none⟩)) := by
              simp only [evS, e1, e2, qu]
              rw [if_pos ⟨Int.natCast_nonneg _, by show (m : Int) < _; omega, hz⟩]
              rfl
            simp only [evOp, evP_S (flatP_none (x := x) (by simp [Op.operands]) e1 rfl) this, Option.map_some]
        · rw [decide_eq_false c] at h5; cases h5
    · cases h
  · cases h
end
end Go.Proofs.YtgaigfmboomnkaaGreat
