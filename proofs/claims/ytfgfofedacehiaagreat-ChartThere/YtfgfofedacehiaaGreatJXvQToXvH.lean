/-
 OWN TEXT: an evaluator for calls without open arguments. Structs with addresses in them; what is nil.
-/
import Derived.Test.YtfgfofedacehiaaGreatJXvDToXvF
import Derived.Test.YtfgfofedacehiaaGreatJFlAToFlB
import Derived.Laws.FloatArith
namespace Go.Proofs.YtfgfofedacehiaaGreat
open Go.RowKit
set_option linter.unusedVariables false
set_option linter.unusedSimpArgs false
/-- where the parts of a struct or an array lie -/
def placesO (P : Program) (t : TypeId) : Option (Nat → Option (Nat × Nat)) :=
 match P.underlying t with
 | some (.struct fields) => if fields.toList.all (fun f => (P.info? f.type).isSome) then some (fun i => (fields.map fun f => (f.offset, szOf P f.type))[i]?) else none
 | some (.array _ el) => if (P.info? el).isSome then some (fun i => some (i * szOf P el, szOf P el)) else none
 | _ => none
/-- what a function may have caught -/
def caught1 : Value → Bool
 | .pointer (some ⟨_, _, none⟩) => true
 | .slice (some _) _ _ => true
 | v => flat1 v
def caughtO (e : Operand → Option Value) : List Operand → Option (List Value)
 | [] => some []
 | x :: xs => match e x, caughtO e xs with | some v, some vs => if caught1 v then some (v :: vs) else none | _, _ => none
theorem caughtO_rel {r : Rho} {e : Operand → Option Value} {e' : Operand → Value} : ∀ (xs : List Operand) (vs : List Value), caughtO e xs = some vs → (∀ x ∈ xs, ∀ v, e x = some v → VRel r v (e' x)) → LR (VR0 r) vs (xs.map e')
 | [], vs, h, _ => by cases h; exact ⟨rfl, fun i v e => by simp at e⟩
 | x :: xs, vs, h, k => by
  simp only [caughtO] at h
  split at h
  ·
   rename_i v us q1 q2
   split at h
   ·
    rename_i c
    cases h
    have ih := caughtO_rel xs us q2 (fun y hy => k y (by simp [hy]))
    refine ⟨by simpa using ih.1, fun i u hu => ?_⟩
    cases i with
    | zero =>
     simp at hu
     subst hu
     refine ⟨e' x, rfl, ?_⟩
     have kx := k x (by simp) _ q1
     unfold caught1 at c
     split at c
     ·
      obtain ⟨g, s, h1, h2⟩ := kx.inv_ptr
      rw [h2]; exact .ptr h1
     ·
      generalize e' x = y at kx ⊢
      cases kx with
      | one kx => cases kx with
       | one kx => cases kx with
        | flat f => simp [flat1] at f
        | exact f => exact .exact f
        | loose f => exact .loose f
     ·
      have hf : flat v = true := by
       unfold flat flat2
       cases v <;> first | exact c | (simp [flat1] at c)
      rw [kx.same hf]; exact .flat c
    | succ i => simpa using ih.2 i u (by simpa using hu)
   · cases h
  · cases h
/-- structs and arrays with addresses in them; whether something is nil; functions that catch -/
def evB (P : Program) (e : Operand → Option Value) (o : Oper) : Option Value :=
 match o.op with
 | .makeFunc fn first captured =>
  match fn with
  | .func f => match caughtO e first.toList, caughtO e captured.toList with | some m, some l => some (.func (.func f) ⟨m⟩ ⟨l⟩) | _, _ => none
  | _ => none
 | .build t parts =>
  match P.info? t with
  | some i => match i.zero with
   | some z =>
    if z.cells.toList.all flat1 && parts.toList.all (partO e) then
     match placesO P t with
     | some place => match Instr.fill place z.cells (parts.toList.map fun p => (p.1, (e p.2).getD undef)) with
      | some cells => some (.agg ⟨cells.toList⟩)
      | none => none
     | none => none
    else none
   | none => none
  | none => none
 | .binOp op t x y _ =>
  match op, e x, e y, P.underlying t with
  | .eql, some (.slice (some _) _ _), some (.slice none _ _), some (.slice _) => some (.bool false)
  | .neq, some (.slice (some _) _ _), some (.slice none _ _), some (.slice _) => some (.bool true)
  | .eql, some (.pointer (some ⟨_, _, none⟩)), some (.pointer none), some (.pointer _) => some (.bool false)
  | .neq, some (.pointer (some ⟨_, _, none⟩)), some (.pointer none), some (.pointer _) => some (.bool true)
  | _, _, _, _ => none
 | _ => none
theorem eq_slice {P : Program} {t el : TypeId} (qu : P.underlying t = some (.slice el)) (d : Nat) (a : Addr) (n c m c' : Nat) (w : World) : (Op.equalIn (d + 1) t (.slice (some a) n c) (.slice none m c')).run P w = .ok false w := by
 simp [Op.equalIn, run_underlying qu]
theorem eq_pointer {P : Program} {t el : TypeId} (qu : P.underlying t = some (.pointer el)) (d : Nat) (a : Addr) (w : World) : (Op.equalIn (d + 1) t (.pointer (some a)) (.pointer none)).run P w = .ok false w := by
 simp [Op.equalIn, run_underlying qu]
theorem cmp_slice {P : Program} {t el : TypeId} (qu : P.underlying t = some (.slice el)) (op : BinOp) (hop : op = .eql ∨ op = .neq) (ox oy : Operand) (a : Addr) (n c m c' : Nat) (w : World) : (do eqGuard op t ox oy (.slice (some a) n c) (.slice none m c'); binOp op t (.slice (some a) n c) (.slice none m c') : Sem Value).run P w = .ok (.bool (op == .neq)) w := by
 have k := eq_slice (P := P) qu 9999 a n c m c' w
 rcases hop with rfl | rfl
 ·
  show (do pure (.bool (← Op.equal t (.slice (some a) n c) (.slice none m c'))) : Sem Value).run P w = _
  rw [Sem.run_bind]
  show Result.andThen ((Op.equalIn (9999 + 1) t (.slice (some a) n c) (.slice none m c')).run P w) _ = _
  rw [k]; rfl
 ·
  show (do pure (.bool (!(← Op.equal t (.slice (some a) n c) (.slice none m c')))) : Sem Value).run P w = _
  rw [Sem.run_bind]
  show Result.andThen ((Op.equalIn (9999 + 1) t (.slice (some a) n c) (.slice none m c')).run P w) _ = _
  rw [k]; rfl
theorem cmp_pointer {P : Program} {t el : TypeId} (qu : P.underlying t = some (.pointer el)) (op : BinOp) (hop : op = .eql ∨ op = .neq) (ox oy : Operand) (a : Addr) (w : World) : (do eqGuard op t ox oy (.pointer (some a)) (.pointer none); binOp op t (.pointer (some a)) (.pointer none) : Sem Value).run P w = .ok (.bool (op == .neq)) w := by
 have k := eq_pointer (P := P) qu 9999 a w
 rcases hop with rfl | rfl
 ·
  show (do pure (.bool (← Op.equal t (.pointer (some a)) (.pointer none))) : Sem Value).run P w = _
  rw [Sem.run_bind]
  show Result.andThen ((Op.equalIn (9999 + 1) t (.pointer (some a)) (.pointer none)).run P w) _ = _
  rw [k]; rfl
 ·
  show (do pure (.bool (!(← Op.equal t (.pointer (some a)) (.pointer none)))) : Sem Value).run P w = _
  rw [Sem.run_bind]
  show Result.andThen ((Op.equalIn (9999 + 1) t (.pointer (some a)) (.pointer none)).run P w) _ = _
  rw [k]; rfl
theorem run_sizes {P : Program} (w : World) : ∀ (l : List Field), l.all (fun f => (P.info? f.type).isSome) = true → (l.mapM (fun f => do pure (f.offset, ← sizeOf f.type) : Field → Sem (Nat × Nat))).run P w = .ok (l.map fun f => (f.offset, szOf P f.type)) w
 | [], _ => by simp
 | f :: l, h => by
  simp only [List.all_cons, Bool.and_eq_true] at h
  obtain ⟨i, hi⟩ := Option.isSome_iff_exists.1 h.1
  have ih := run_sizes w l h.2
  simp only [List.mapM_cons]
  simp [sizeOf, typeInfo, hi, szOf]
  simp [sizeOf, typeInfo, szOf] at ih
  simp [ih]
theorem evB_sound {P : Program} {r : Rho} {e : Operand → Option Value} {e' : Operand → Value} {o : Oper} {v : Value} (h : evB P e o = some v) (k : OpsRel r e e' o.op) :
  ∃ v', (∀ w, (execOp e' o).run P w = .ok (.value v') w) ∧ VRel r v v' := by
 obtain ⟨dst, op, type, pos, after, guard⟩ := o
 unfold evB at h
 simp only at h
 cases op
 case build t parts =>
  simp only at h
  split at h
  ·
   rename_i i qi
   split at h
   ·
    rename_i z qz
    split at h
    ·
     rename_i hf
     rw [Bool.and_eq_true] at hf
     obtain ⟨hf, hp⟩ := hf
     split at h
     ·
      rename_i place qp
      split at h
      ·
       rename_i cells qf
       cases h
       have hp' : ∀ p ∈ parts.toList, ∃ u, e p.2 = some u ∧ (cellsO u).isSome = true := by
        intro p hm
        have := List.all_eq_true.1 hp p hm
        unfold partO at this
        cases q : e p.2 with
        | none => rw [q] at this; cases this
        | some u => rw [q] at this; exact ⟨u, rfl, this⟩
       have pr : PR r (parts.toList.map fun p => (p.1, (e p.2).getD undef)) (parts.toList.map fun p => (p.1, e' p.2)) := by
        refine ⟨by simp, fun j n u hj => ?_⟩
        simp only [List.getElem?_map] at hj ⊢
        cases q : parts.toList[j]? with
        | none => rw [q] at hj; cases hj
        | some p =>
         rw [q] at hj
         simp only [Option.map_some, Option.some.injEq, Prod.mk.injEq] at hj ⊢
         obtain ⟨u', hu, _⟩ := hp' p (List.mem_of_getElem? q)
         rw [hu] at hj
         obtain ⟨rfl, rfl⟩ := hj
         refine ⟨e' p.2, ⟨rfl, rfl⟩, k p.2 ?_ _ hu⟩
         simp only [Op.operands]
         simp
         exact ⟨p.1, by simpa using List.mem_of_getElem? q⟩
       obtain ⟨out', f1, f2⟩ := fill_rel (r := r) place _ _ _ z.cells cells pr (by
        intro p hm
        simp only [List.mem_map] at hm
        obtain ⟨p0, hm, rfl⟩ := hm
        obtain ⟨u, hu, hc⟩ := hp' p0 hm
        simp only [hu, Option.getD_some]; exact hc) (flat_cells hf) qf
       have f1' : Instr.fill place z.cells (parts.map fun p => (p.1, e' p.2)).toList = some out' := by
        rw [Array.toList_map]; exact f1
       obtain ⟨out'⟩ := out'
       refine ⟨.agg ⟨out'⟩, fun w => ?_, .one (.agg f2)⟩
       unfold placesO at qp
       split at qp
       ·
        rename_i fields qu
        split at qp
        ·
         rename_i hall
         cases qp
         have hm := run_sizes (P := P) w fields.toList hall
         have hm' : (fields.mapM (fun f => do pure (f.offset, ← sizeOf f.type) : Field → Sem (Nat × Nat))).run P w = .ok (fields.map fun f => (f.offset, szOf P f.type)) w := by
          rw [Array.mapM_eq_mapM_toList]
          simp only [Sem.run_map, hm, Result.andThen_ok]
          congr 1
          apply Array.ext'
          simp
         simp only [execOp, Instr.build, Sem.run_bind, zeroValue, typeInfo, program]
         simp only [Sem.run, qi, qz, Sem.run_pure, Result.andThen_ok, run_underlying qu, Sem.run_bind, hm', f1']
        · cases qp
       ·
        rename_i n el qu
        split at qp
        ·
         rename_i hall
         cases qp
         obtain ⟨i2, hi2⟩ := Option.isSome_iff_exists.1 hall
         have hsz : szOf P el = i2.size := by simp [szOf, hi2]
         rw [hsz] at f1'
         simp only [execOp, Instr.build, Sem.run_bind, zeroValue, typeInfo, program, sizeOf]
         simp only [Sem.run, qi, qz, hi2, Sem.run_pure, Result.andThen_ok, run_underlying qu, Sem.run_bind, f1']
        · cases qp
       · cases qp
      · cases h
     · cases h
    · cases h
   · cases h
  · cases h
 case makeFunc fn first captured =>
  simp only at h
  split at h
  ·
   rename_i f
   split at h
   ·
    rename_i m l q0 q
    cases h
    have hm := caughtO_rel (r := r) (e' := e') first.toList m q0 (fun x hx v hv => k x (by simp [Op.operands]; exact Or.inl (by simpa using hx)) v hv)
    have hl := caughtO_rel (r := r) (e' := e') captured.toList l q (fun x hx v hv => k x (by simp [Op.operands]; exact Or.inr (by simpa using hx)) v hv)
    refine ⟨.func (.func f) ⟨first.toList.map e'⟩ ⟨captured.toList.map e'⟩, fun w => ?_, .one (.one (.fn hm hl))⟩
    simp only [execOp, Instr.makeFunc]
    have : (⟨captured.toList.map e'⟩ : Array Value) = captured.map e' := by apply Array.ext'; simp
    rw [this]
    have : (⟨first.toList.map e'⟩ : Array Value) = first.map e' := by apply Array.ext'; simp
    rw [this]
    simp
   · cases h
  · cases h
 case binOp op t x y yt =>
  simp only at h
  have fin : ∀ op' b, op = op' → (∀ w, (do eqGuard op' t x y (e' x) (e' y); binOp op' t (e' x) (e' y) : Sem Value).run P w = .ok (.bool b) w) → v = .bool b → ∃ v', (∀ w, (execOp e' { dst := dst, op := .binOp op t x y yt, type := type, pos := pos, after := after, guard := guard }).run P w = .ok (.value v') w) ∧ VRel r v v' := by
   intro op' b ho hrun hv
   subst ho
   subst hv
   refine ⟨.bool b, fun w => ?_, VRel.of_flat r rfl⟩
   simp only [execOp]
   rw [Sem.run_bind, hrun w]
   rfl
  split at h
  ·
   rename_i a n c m c' el q1 q2 qu
   cases h
   have hy := (k y (by simp [Op.operands]) _ q2).same rfl
   rcases (k x (by simp [Op.operands]) _ q1).inv_slices0 with ⟨z, _⟩ | ⟨ad, cx, hx, _⟩
   · cases z
   · exact fin .eql false rfl (fun w => by rw [hx, hy]; exact cmp_slice qu .eql (Or.inl rfl) x y ad _ _ _ _ w) rfl
  ·
   rename_i a n c m c' el q1 q2 qu
   cases h
   have hy := (k y (by simp [Op.operands]) _ q2).same rfl
   rcases (k x (by simp [Op.operands]) _ q1).inv_slices0 with ⟨z, _⟩ | ⟨ad, cx, hx, _⟩
   · cases z
   · exact fin .neq true rfl (fun w => by rw [hx, hy]; exact cmp_slice qu .neq (Or.inr rfl) x y ad _ _ _ _ w) rfl
  ·
   rename_i b0 o0 el q1 q2 qu
   cases h
   have hy := (k y (by simp [Op.operands]) _ q2).same rfl
   obtain ⟨g, s, _, hx⟩ := (k x (by simp [Op.operands]) _ q1).inv_ptr
   exact fin .eql false rfl (fun w => by rw [hx, hy]; exact cmp_pointer qu .eql (Or.inl rfl) x y _ w) rfl
  ·
   rename_i b0 o0 el q1 q2 qu
   cases h
   have hy := (k y (by simp [Op.operands]) _ q2).same rfl
   obtain ⟨g, s, _, hx⟩ := (k x (by simp [Op.operands]) _ q1).inv_ptr
   exact fin .neq true rfl (fun w => by rw [hx, hy]; exact cmp_pointer qu .neq (Or.inr rfl) x y _ w) rfl
  · cases h
 all_goals cases h
end Go.Proofs.YtfgfofedacehiaaGreat

/-
 OWN TEXT: an evaluator for calls without open arguments. Floats and complex numbers that are no numbers: whichever they are.
-/
namespace Go.Proofs.YtfgfofedacehiaaGreat
open Go.RowKit
set_option linter.unusedVariables false
set_option linter.unusedSimpArgs false
/-- a float by its bits and one more; 0: no number -/
def encN (n : Nat) : Nat := bif Nat.blt 9218868437227405312 (Nat.mod n 9223372036854775808) && Nat.blt n 18446744073709551616 then 0 else Nat.succ n
theorem encN_rel (n : Nat) : PrtR (encN n) n := by
 unfold encN
 cases q : Nat.blt 9218868437227405312 (Nat.mod n 9223372036854775808) && Nat.blt n 18446744073709551616 with
 | true =>
  rw [cond_true]
  rw [Bool.and_eq_true] at q
  have h1 := Nat.le_of_ble_eq_true q.1
  have h2 := Nat.le_of_ble_eq_true q.2
  refine ⟨?_, by omega⟩
  have e : Nat.mod n 9223372036854775808 = n % 9223372036854775808 := rfl
  omega
 | false => rw [cond_false]; exact rfl
def flO : Value → Option Nat
 | .float .f64 n => some (encN n)
 | .pointer (some ⟨0, 0, some 1⟩) => some 0
 | _ => none
def cxO : Value → Option (Nat × Nat)
 | .complex .f64 a b => some (encN a, encN b)
 | .pointer (some ⟨a, b, some 0⟩) => some (a, b)
 | _ => none
def flV (a : Nat) : Value := Nat.casesOn a nanV fun n => .float .f64 n
def cxV (a b : Nat) : Value := Nat.casesOn a (cnV a b) fun n => Nat.casesOn b (cnV a b) fun m => .complex .f64 n m
theorem flV_rel {r : Rho} {a m : Nat} (h : PrtR a m) : VRel r (flV a) (.float .f64 m) := by
 cases a with
 | zero => exact .one (.one (.nan h))
 | succ n =>
  have e : m = n := h
  subst e
  exact .one (.one (.flat rfl))
theorem cxV_rel {r : Rho} {a b m n : Nat} (h : PrtR a m) (k : PrtR b n) : VRel r (cxV a b) (.complex .f64 m n) := by
 cases a with
 | zero => exact .one (.one (.cn h k))
 | succ a =>
  cases b with
  | zero => exact .one (.one (.cn h k))
  | succ b =>
   have e1 : m = a := h
   have e2 : n = b := k
   subst e1 e2
   exact .one (.one (.flat rfl))
theorem flO_rel {r : Rho} {v v' : Value} {a : Nat} (h : flO v = some a) (k : VRel r v v') : ∃ m, v' = .float .f64 m ∧ PrtR a m := by
 unfold flO at h
 split at h
 ·
  rename_i n
  cases h
  exact ⟨n, k.same rfl, encN_rel n⟩
 ·
  cases h
  cases k with
  | one k => cases k with
   | one k => cases k with
    | nan e => exact ⟨_, rfl, e⟩
    | flat e => simp [flat1] at e
 · cases h
theorem cxO_rel {r : Rho} {v v' : Value} {p : Nat × Nat} (h : cxO v = some p) (k : VRel r v v') : ∃ m n, v' = .complex .f64 m n ∧ PrtR p.1 m ∧ PrtR p.2 n := by
 unfold cxO at h
 split at h
 ·
  rename_i a b
  cases h
  exact ⟨a, b, k.same rfl, encN_rel a, encN_rel b⟩
 ·
  rename_i a b
  cases h
  cases k with
  | one k => cases k with
   | one k => cases k with
    | cn e1 e2 => exact ⟨_, _, rfl, e1, e2⟩
    | flat e => simp [flat1] at e
 · cases h
/-- what an operation comes to -/
def opN (op : BinOp) (a b : Nat) : Nat := Nat.casesOn a 0 fun m => Nat.casesOn b 0 fun n => match floatBits op .f64 m n with | some z => Nat.succ z | none => 0
def isAr (op : BinOp) : Bool := match op with | .add | .sub | .mul | .quo => true | _ => false
theorem isAr_or {op : BinOp} (h : isAr op = true) : op = .add ∨ op = .sub ∨ op = .mul ∨ op = .quo := by
 cases op <;> simp [isAr] at h ⊢
theorem noNum_nan {m : Nat} (h : noNum m) : Fl.nan m = true := by
 unfold noNum at h
 unfold Fl.nan Fl.rg
 exact decide_eq_true h.1
theorem arith_nan (P : Program) (op : BinOp) (x y : Nat) (w : World) (ho : isAr op = true) (h : floatBits op .f64 x y = none) :
  ∃ z, noNum z ∧ (Op.floatArith op .f64 x y).run P w = .ok (.float .f64 z) w.drew := by
 refine ⟨(Question.nanBits .f64 x y).cut (w.tape w.drawn (.nanBits .f64 x y)), ?_, ?_⟩
 ·
  unfold noNum
  simp only [Question.cut]
  generalize w.tape w.drawn (Question.nanBits FloatKind.f64 x y) = t
  have h2 : t / 2 % (2 ^ 52 - 1) < 2 ^ 52 - 1 := Nat.mod_lt _ (by decide)
  generalize t / 2 % (2 ^ 52 - 1) = q at h2
  have h1 : t % 2 = 0 ∨ t % 2 = 1 := by omega
  rcases h1 with h1 | h1 <;> rw [h1] <;> constructor <;> omega
 ·
  unfold floatBits at h
  rcases isAr_or ho with rfl | rfl | rfl | rfl <;> simp only at h <;> simp [Op.floatArith, h, Question.forced]
theorem arith_some (P : Program) (op : BinOp) (x y z : Nat) (w : World) (h : floatBits op .f64 x y = some z) : (Op.floatArith op .f64 x y).run P w = .ok (.float .f64 z) w := by
 unfold floatBits at h
 cases op <;> simp only at h <;> first | (cases h; done) | skip
 all_goals simp [Op.floatArith, h]
theorem nan_none {op : BinOp} {x y : Nat} (ho : isAr op = true) (h : Fl.nan x = true ∨ Fl.nan y = true) : floatBits op .f64 x y = none := by
 rcases h with h | h
 ·
  have hr := Fl.read_nan (Fl.nan_lt h)
  rcases isAr_or ho with rfl | rfl | rfl | rfl
  · show Ieee.double.add x y = none; unfold Ieee.Format.add; rw [hr]; rfl
  · show Ieee.double.sub x y = none; unfold Ieee.Format.sub; rw [hr]; rfl
  · show Ieee.double.mul x y = none; unfold Ieee.Format.mul; rw [hr]; rfl
  · show Ieee.double.div x y = none; unfold Ieee.Format.div; rw [hr]; rfl
 ·
  have hr := Fl.read_nan (Fl.nan_lt h)
  rcases isAr_or ho with rfl | rfl | rfl | rfl
  · show Ieee.double.add x y = none; unfold Ieee.Format.add; rw [hr]; cases Ieee.double.read x <;> rfl
  · show Ieee.double.sub x y = none; unfold Ieee.Format.sub; rw [hr]; cases Ieee.double.read x <;> rfl
  · show Ieee.double.mul x y = none; unfold Ieee.Format.mul; rw [hr]; cases Ieee.double.read x <;> rfl
  · show Ieee.double.div x y = none; unfold Ieee.Format.div; rw [hr]; cases Ieee.double.read x <;> rfl
/-- an operation, whichever no numbers come in -/
theorem opN_run (P : Program) (op : BinOp) (ho : isAr op = true) {a b m n : Nat} (ha : PrtR a m) (hb : PrtR b n) (w : World) : ∃ z w', (Op.floatArith op .f64 m n).run P w = .ok (.float .f64 z) w' ∧ PrtR (opN op a b) z ∧ Below w.heap.size w w' := by
 have none_ : floatBits op .f64 m n = none → opN op a b = 0 → ∃ z w', (Op.floatArith op .f64 m n).run P w = .ok (.float .f64 z) w' ∧ PrtR (opN op a b) z ∧ Below w.heap.size w w' := by
  intro e e0
  obtain ⟨z, hz, e1⟩ := arith_nan P op m n w ho e
  exact ⟨z, _, e1, by rw [e0]; exact hz, (Below.refl _ w).drew⟩
 cases a with
 | zero => exact none_ (nan_none ho (Or.inl (noNum_nan ha))) rfl
 | succ a =>
  cases b with
  | zero => exact none_ (nan_none ho (Or.inr (noNum_nan hb))) rfl
  | succ b =>
   have e1 : m = a := ha
   have e2 : n = b := hb
   subst e1 e2
   cases e : floatBits op .f64 m n with
   | none => exact none_ e (by show (match floatBits op .f64 m n with | some z => Nat.succ z | none => 0) = 0; rw [e])
   | some z => exact ⟨z, w, arith_some P op m n z w e, by show PrtR (match floatBits op .f64 m n with | some z => Nat.succ z | none => 0) z; rw [e]; exact rfl, Below.refl _ w⟩
/-- a comparison with what is no number -/
def isCmp (op : BinOp) : Bool := match op with | .eql | .neq | .lss | .leq | .gtr | .geq => true | _ => false
def cmpN (op : BinOp) : Bool := match op with | .neq => true | _ => false
theorem cmp_run (P : Program) (op : BinOp) (ho : isCmp op = true) {m n : Nat} (h : Fl.nan m = true ∨ Fl.nan n = true) (w : World) : (Op.floatCmp op .f64 m n).run P w = .ok (.bool (cmpN op)) w := by
 have q : (!Fl.nan m && !Fl.nan n) = false := by
  rcases h with h | h <;> rw [h] <;> simp
 have q' : (!Fl.nan n && !Fl.nan m) = false := by rw [Bool.and_comm]; exact q
 have e1 : Fl.eqF m n = false := by unfold Fl.eqF; rw [q]; rfl
 have e2 : Fl.ltF m n = false := by unfold Fl.ltF; rw [q]; rfl
 have e3 : Fl.leF m n = false := by unfold Fl.leF; rw [q]; rfl
 have e4 : Fl.ltF n m = false := by unfold Fl.ltF; rw [q']; rfl
 have e5 : Fl.leF n m = false := by unfold Fl.leF; rw [q']; rfl
 cases op <;> simp [isCmp] at ho <;> simp only [Op.floatCmp, cmpN, Sem.run_pure, Fl.o_eq, Fl.o_ne, Fl.o_lt, Fl.o_le, Fl.o_gt, Fl.o_ge, e1, e2, e3, e4, e5, Bool.not_false, Bool.or_false]
def binFN (op : BinOp) (a b : Nat) : Option Value := bif isAr op then some (flV (opN op a b)) else bif isCmp op && (Nat.beq a 0 || Nat.beq b 0) then some (.bool (cmpN op)) else none
def isSum (op : BinOp) : Bool := match op with | .add | .sub => true | _ => false
def isEqn (op : BinOp) : Bool := match op with | .eql | .neq => true | _ => false
def binCN (op : BinOp) (a b : Nat × Nat) : Option Value := bif isSum op then some (cxV (opN op a.1 b.1) (opN op a.2 b.2)) else bif isEqn op && (Nat.beq a.1 0 || Nat.beq b.1 0 || Nat.beq a.2 0 || Nat.beq b.2 0) then some (.bool (cmpN op)) else none
/-- of two operands, one of them perhaps no number -/
def binN (op : BinOp) (x y : Value) : Option Value := match flO x, flO y with
 | some a, some b => binFN op a b
 | _, _ => match cxO x, cxO y with
  | some a, some b => binCN op a b
  | _, _ => none
theorem binN_run {P : Program} {op : BinOp} {r : Rho} {x y x' y' v : Value} (h : binN op x y = some v) (hx : VRel r x x') (hy : VRel r y y') (t : TypeId) (ox oy : Operand) (w : World) :
  ∃ v' w', (do eqGuard op t ox oy x' y'; binOp op t x' y' : Sem Value).run P w = .ok v' w' ∧ VRel r v v' ∧ Below w.heap.size w w' := by
 unfold binN at h
 split at h
 ·
  rename_i a b qa qb
  obtain ⟨m, rfl, ha⟩ := flO_rel qa hx
  obtain ⟨n, rfl, hb⟩ := flO_rel qb hy
  have hg : (eqGuard op t ox oy (.float .f64 m) (.float .f64 n)).run P w = .ok () w := by
   unfold eqGuard
   split <;> rfl
  rw [Sem.run_bind, hg, Result.andThen_ok]
  unfold binFN at h
  cases q1 : isAr op with
  | true =>
   rw [q1, cond_true] at h
   cases h
   obtain ⟨z, w', e1, e2, e3⟩ := opN_run P op q1 ha hb w
   refine ⟨_, w', ?_, flV_rel e2, e3⟩
   rw [← e1]
   rcases isAr_or q1 with rfl | rfl | rfl | rfl <;> simp [binOp]
  | false =>
   rw [q1, cond_false] at h
   cases q2 : (isCmp op && (Nat.beq a 0 || Nat.beq b 0)) with
   | false => rw [q2] at h; cases h
   | true =>
    rw [q2] at h
    cases h
    simp only [Bool.and_eq_true, Bool.or_eq_true, Nat.beq_eq] at q2
    have hn : Fl.nan m = true ∨ Fl.nan n = true := by
     rcases q2.2 with e | e
     · left; rw [e] at ha; exact noNum_nan ha
     · right; rw [e] at hb; exact noNum_nan hb
    refine ⟨_, w, ?_, VRel.of_flat r (v := .bool (cmpN op)) rfl, Below.refl _ w⟩
    rw [← cmp_run P op q2.1 hn w]
    cases op <;> simp [isCmp] at q2 <;> simp [binOp]
 ·
  split at h
  ·
   rename_i a b qa qb
   obtain ⟨m, m', rfl, ha, ha'⟩ := cxO_rel qa hx
   obtain ⟨n, n', rfl, hb, hb'⟩ := cxO_rel qb hy
   have hg : (eqGuard op t ox oy (.complex .f64 m m') (.complex .f64 n n')).run P w = .ok () w := by
    unfold eqGuard
    split <;> rfl
   rw [Sem.run_bind, hg, Result.andThen_ok]
   unfold binCN at h
   cases q1 : isSum op with
   | true =>
    rw [q1, cond_true] at h
    cases h
    have ho : isAr op = true := by cases op <;> simp [isSum] at q1 <;> rfl
    obtain ⟨z, w1, e1, e2, e3⟩ := opN_run P op ho ha hb w
    obtain ⟨z', w2, k1, k2, k3⟩ := opN_run P op ho ha' hb' w1
    refine ⟨.complex .f64 z z', w2, ?_, cxV_rel e2 k2, e3.trans (k3.mono e3.size)⟩
    cases op <;> simp [isSum] at q1 <;> simp [binOp, Op.complexOp, Op.Complex.arith, e1, k1]
   | false =>
    rw [q1, cond_false] at h
    cases q2 : (isEqn op && (Nat.beq a.1 0 || Nat.beq b.1 0 || Nat.beq a.2 0 || Nat.beq b.2 0)) with
    | false => rw [q2] at h; cases h
    | true =>
     rw [q2] at h
     cases h
     simp only [Bool.and_eq_true, Bool.or_eq_true, Nat.beq_eq] at q2
     have hn : (FloatKind.f64.format.order m n == some .eq && FloatKind.f64.format.order m' n' == some .eq) = false := by
      rw [Fl.o_eq, Fl.o_eq]
      have f : ∀ {u v : Nat}, (Fl.nan u = true ∨ Fl.nan v = true) → Fl.eqF u v = false := by
       intro u v h
       unfold Fl.eqF
       rcases h with h | h <;> rw [h] <;> simp
      rcases q2.2 with ((e | e) | e) | e
      · rw [e] at ha; rw [f (Or.inl (noNum_nan ha))]; rfl
      · rw [e] at hb; rw [f (Or.inr (noNum_nan hb))]; rfl
      · rw [e] at ha'; rw [f (Or.inl (noNum_nan ha')), Bool.and_false]
      · rw [e] at hb'; rw [f (Or.inr (noNum_nan hb')), Bool.and_false]
     refine ⟨_, w, ?_, VRel.of_flat r (v := .bool (cmpN op)) rfl, Below.refl _ w⟩
     cases op <;> simp [isEqn] at q2
     ·
      have e : (binOp .eql t (.complex .f64 m m') (.complex .f64 n n')).run P w = .ok (.bool (FloatKind.f64.format.order m n == some .eq && FloatKind.f64.format.order m' n' == some .eq)) w := rfl
      rw [e, hn]; rfl
     ·
      have e : (binOp .neq t (.complex .f64 m m') (.complex .f64 n n')).run P w = .ok (.bool (!(FloatKind.f64.format.order m n == some .eq && FloatKind.f64.format.order m' n' == some .eq))) w := rfl
      rw [e, hn]; rfl
  · cases h
/-- operations of what may be no number -/
def evNaN (P : Program) (e : Operand → Option Value) (o : Oper) : Option Value :=
 match o.op with
 | .binOp op t x y _ => match e x, e y with | some vx, some vy => binN op vx vy | _, _ => none
 | .unOp op _ x => match op, e x with | .neg, some (.pointer (some ⟨0, 0, some 1⟩)) => some nanV | _, _ => none
 | .call c => match c.callee, c.args.toList with
  | .builtin .real, [x] => match e x with | some (.pointer (some ⟨a, _, some 0⟩)) => some (flV a) | _ => none
  | .builtin .imag, [x] => match e x with | some (.pointer (some ⟨_, b, some 0⟩)) => some (flV b) | _ => none
  | .builtin .complex, [x, y] => match e x, e y with
   | some vx, some vy => match flO vx, flO vy with | some a, some b => some (cxV a b) | _, _ => none
   | _, _ => none
  | _, _ => none
 | _ => none
theorem neg_nan {m : Nat} (h : noNum m) : noNum (Op.negFloat .f64 m) := by
 unfold noNum at h ⊢
 show 9218868437227405312 < (m ^^^ 9223372036854775808) % 9223372036854775808 ∧ m ^^^ 9223372036854775808 < 18446744073709551616
 have e : (m ^^^ 9223372036854775808) % 9223372036854775808 = m % 9223372036854775808 := by
  have := Nat.xor_mod_two_pow (a := m) (b := 9223372036854775808) (n := 63)
  rw [show (2 : Nat) ^ 63 = 9223372036854775808 by decide] at this
  rw [this]
  simp
 refine ⟨by rw [e]; exact h.1, ?_⟩
 have p : (18446744073709551616 : Nat) = 2 ^ 64 := by decide
 have h2 := h.2
 rw [p] at h2 ⊢
 exact Nat.xor_lt_two_pow h2 (by decide)
theorem evNaN_sound {P : Program} {r : Rho} {e : Operand → Option Value} {e' : Operand → Value} {o : Oper} {v : Value} (h : evNaN P e o = some v) (k : OpsRel r e e' o.op) :
  ∀ w, ∃ v' w', (execOp e' o).run P w = .ok (.value v') w' ∧ VRel r v v' ∧ Below w.heap.size w w' := by
 intro w
 obtain ⟨dst, op, type, pos, after, guard⟩ := o
 unfold evNaN at h
 simp only at h
 cases op
 case binOp op t x y yt =>
  simp only at h
  split at h
  ·
   rename_i vx vy qx qy
   obtain ⟨v', w', h1, h2, h3⟩ := binN_run (P := P) h (k x (by simp [Op.operands]) _ qx) (k y (by simp [Op.operands]) _ qy) t x y w
   refine ⟨v', w', ?_, h2, h3⟩
   show (do pure (.value (← (do eqGuard op t x y (e' x) (e' y); binOp op t (e' x) (e' y)))) : Sem Next).run P w = _
   rw [Sem.run_bind, h1]
   rfl
  · cases h
 case unOp op t x =>
  simp only at h
  split at h
  ·
   rename_i q
   cases h
   obtain ⟨m, hm, hn⟩ := flO_rel (r := r) (v' := e' x) (show flO nanV = some 0 from rfl) (k x (by simp [Op.operands]) _ q)
   refine ⟨.float .f64 (Op.negFloat .f64 m), w, ?_, .one (.one (.nan (neg_nan hn))), Below.refl _ w⟩
   simp [execOp, hm, Op.unary]
  · cases h
 case call c =>
  obtain ⟨callee, args, ts⟩ := c
  simp only at h
  split at h
  ·
   rename_i x qa
   obtain rfl : args = #[x] := by apply Array.ext'; simpa using qa
   split at h
   ·
    rename_i a b q
    cases h
    obtain ⟨m, n, hm, h1, h2⟩ := cxO_rel (r := r) (v' := e' x) (show cxO (.pointer (some ⟨a, b, some 0⟩)) = some (a, b) from rfl) (k x (by simp [Op.operands, Call.operands]) _ q)
    refine ⟨.float .f64 m, w, ?_, flV_rel h1, Below.refl _ w⟩
    have hb : Builtin.real_ ts type #[.complex .f64 m n] = pure (.float .f64 m) := rfl
    simp [execOp, resolve, invoke, builtin, hb, hm]
   · cases h
  ·
   rename_i x qa
   obtain rfl : args = #[x] := by apply Array.ext'; simpa using qa
   split at h
   ·
    rename_i a b q
    cases h
    obtain ⟨m, n, hm, h1, h2⟩ := cxO_rel (r := r) (v' := e' x) (show cxO (.pointer (some ⟨a, b, some 0⟩)) = some (a, b) from rfl) (k x (by simp [Op.operands, Call.operands]) _ q)
    refine ⟨.float .f64 n, w, ?_, flV_rel h2, Below.refl _ w⟩
    have hb : Builtin.imag_ ts type #[.complex .f64 m n] = pure (.float .f64 n) := rfl
    simp [execOp, resolve, invoke, builtin, hb, hm]
   · cases h
  ·
   rename_i x y qa
   obtain rfl : args = #[x, y] := by apply Array.ext'; simpa using qa
   split at h
   ·
    rename_i vx vy q1 q2
    split at h
    ·
     rename_i a b qa qb
     cases h
     obtain ⟨m, hm, h1⟩ := flO_rel qa (k x (by simp [Op.operands, Call.operands]) _ q1)
     obtain ⟨n, hn, h2⟩ := flO_rel qb (k y (by simp [Op.operands, Call.operands]) _ q2)
     refine ⟨.complex .f64 m n, w, ?_, cxV_rel h1 h2, Below.refl _ w⟩
     have hb : Builtin.complex_ ts type #[.float .f64 m, .float .f64 n] = pure (.complex .f64 m n) := rfl
     simp [execOp, resolve, invoke, builtin, hb, hm, hn]
    · cases h
   · cases h
  · cases h
 all_goals cases h
end Go.Proofs.YtfgfofedacehiaaGreat

/-
 OWN TEXT: an evaluator for calls without open arguments. One operation.
-/
namespace Go.Proofs.YtfgfofedacehiaaGreat
open Go.RowKit
set_option linter.unusedVariables false
set_option linter.unusedSimpArgs false
/-- what a call comes to -/
abbrev Caller := FuncId → List Value → Mem → Option (Value × Mem)
def KOk (P : Program) (K : Caller) : Prop := ∀ (w0 : World) (r : Rho) (A : Mem) (w : World) (f : FuncId) (args args' : List Value) (v : Value) (A' : Mem), K f args A = some (v, A') → Rel P w0 r A w → LR (VRel r) args args' →
 Calls P f ⟨args'⟩ w fun x w' => ∃ r' v', r.le r' ∧ x = .returned v' ∧ VRel r' v v' ∧ Rel P w0 r' A' w' ∧ Keep r A A'
/-- no function with a body bears the name that the machine keeps for itself -/
def Plain (P : Program) : Prop := ∀ (f : Nat) (fn : Func), P.funcs[f]? = some fn → fn.body.isSome = true → (fn.name == "runtime.NumGoroutine") = false
def evP (P : Program) (e : Operand → Option Value) (o : Oper) : Option Value :=
 match flatP P e o with
 | some v => some v
 | none => match evS P e o with | some v => some v | none => evB P e o
theorem evP_sound {P : Program} {r : Rho} {e : Operand → Option Value} {e' : Operand → Value} {o : Oper} {v : Value} (h : evP P e o = some v) (k : OpsRel r e e' o.op) :
  ∃ v', (∀ w, (execOp e' o).run P w = .ok (.value v') w) ∧ VRel r v v' := by
 unfold evP at h
 split at h
 · rename_i u q; cases h; exact flatP_sound q k
 ·
  split at h
  · rename_i u q; cases h; exact evS_sound q k
  · exact evB_sound h k
/-- or else with no numbers, whichever -/
def evPN (P : Program) (e : Operand → Option Value) (o : Oper) : Option Value :=
 match evP P e o with
 | some v => some v
 | none => evNaN P e o
theorem evPN_of {P : Program} {e : Operand → Option Value} {o : Oper} {v : Value} (h : evP P e o = some v) : evPN P e o = some v := by unfold evPN; rw [h]
theorem evPN_nan {P : Program} {e : Operand → Option Value} {o : Oper} (h : evP P e o = none) : evPN P e o = evNaN P e o := by unfold evPN; rw [h]
theorem Rel.below_step {P : Program} {w0 : World} {r : Rho} {A : Mem} {w w' : World} (h : Rel P w0 r A w) (k : Below w.heap.size w w') : Rel P w0 r A w' := by
 refine ⟨h.len, h.below.trans (k.mono h.below.size), ?_, h.ro, h.inj, h.ex⟩
 intro i b g s e f
 obtain ⟨c, k2, k3, k4⟩ := h.there i b g s e f
 exact ⟨c, k2, by rw [k.block g (Array.getElem?_eq_some_iff.1 k3).1]; exact k3, k4⟩
def argsO (e : Operand → Option Value) : List Operand → Option (List Value)
 | [] => some []
 | x :: xs => match e x, argsO e xs with | some v, some vs => some (v :: vs) | _, _ => none
theorem argsO_rel {r : Rho} {e : Operand → Option Value} {e' : Operand → Value} : ∀ (xs : List Operand) (vs : List Value), argsO e xs = some vs → (∀ x ∈ xs, ∀ v, e x = some v → VRel r v (e' x)) → LR (VRel r) vs (xs.map e')
 | [], vs, h, _ => by cases h; exact ⟨rfl, fun i v e => by simp at e⟩
 | x :: xs, vs, h, k => by
  simp only [argsO] at h
  split at h
  ·
   rename_i v us q1 q2
   cases h
   have ih := argsO_rel xs us q2 (fun y hy => k y (by simp [hy]))
   refine ⟨by simpa using ih.1, fun i u hu => ?_⟩
   cases i with
   | zero => simp at hu; subst hu; exact ⟨e' x, rfl, k x (by simp) _ q1⟩
   | succ i => simpa using ih.2 i u (by simpa using hu)
  · cases h
/-- the function that is called, and what it has caught -/
def funcO (P : Program) (e : Operand → Option Value) (f : Operand) : Option (FuncId × List Value × List Value) :=
 match e f with
 | some (.func (.func g) ⟨m⟩ ⟨l⟩) => match P.funcs[g]? with | some fn => if fn.body.isSome then some (g, m, l) else none | none => none
 | _ => none
theorem VRel.inv_func {r : Rho} {f : FuncId} {m l : List Value} {v' : Value} (h : VRel r (.func (.func f) ⟨m⟩ ⟨l⟩) v') : ∃ m' l', v' = .func (.func f) ⟨m'⟩ ⟨l'⟩ ∧ LR (VRel r) m m' ∧ LR (VRel r) l l' := by
 cases h with
 | one h => cases h with
  | one h => cases h with
   | fn h0 h => exact ⟨_, _, rfl, h0.mono fun _ _ => VR0.rel, h.mono fun _ _ => VR0.rel⟩
   | flat h =>
    simp [flat1] at h
    obtain ⟨rfl, rfl⟩ := h
    exact ⟨[], [], rfl, ⟨rfl, fun i v e => by simp at e⟩, rfl, fun i v e => by simp at e⟩
theorem LR.app {R : Value → Value → Prop} {l l' m m' : List Value} (h : LR R l l') (k : LR R m m') : LR R (l ++ m) (l' ++ m') := by
 refine ⟨by simp [h.1, k.1], fun i v e => ?_⟩
 rcases Nat.lt_or_ge i l.length with c | c
 ·
  rw [List.getElem?_append_left c] at e
  rw [List.getElem?_append_left (by rw [← h.1]; exact c)]
  exact h.2 i v e
 ·
  rw [List.getElem?_append_right c] at e
  rw [List.getElem?_append_right (by rw [← h.1]; exact c), ← h.1]
  exact k.2 _ v e
/-- the method that is called on what an interface holds, and its receiver -/
def invF (P : Program) (v : Value) (name : String) : Option (FuncId × Value) :=
 match v with
 | .iface t u => bif flatI u then pureRun P (method (P.types.size + Made.depth) t u name) else none
 | _ => none
def invO (P : Program) (e : Operand → Option Value) (x : Operand) (name : String) : Option (FuncId × Value) :=
 match e x with
 | some v => match invF P v name with
  | some (f, u) => if flat u then (match P.funcs[f]? with | some fn => if fn.body.isSome then some (f, u) else none | none => none) else none
  | none => none
 | none => none
def evInvO (K : Caller) (P : Program) (A : Mem) (e : Operand → Option Value) (x : Operand) (name : String) (args : List Operand) : Option (Value × Mem) :=
 match invO P e x name, argsO e args with
 | some g, some vs => K g.1 (g.2 :: vs) A
 | _, _ => none
theorem LR.cons {R : Value → Value → Prop} {v v' : Value} {l l' : List Value} (h : R v v') (k : LR R l l') : LR R (v :: l) (v' :: l') := by
 refine ⟨by simp [k.1], fun i u e => ?_⟩
 cases i with
 | zero => simp at e; subst e; exact ⟨v', rfl, h⟩
 | succ i => exact k.2 i u (by simpa using e)
/-- what a call through an interface enters -/
theorem invO_run {P : Program} (hP : Plain P) {r : Rho} {e : Operand → Option Value} {e' : Operand → Value} {x : Operand} {name : String} {args : Array Operand} {ts : Array TypeId} {dst : Option Tmp} {type : TypeId} {pos : String} {after : Array Edge} {guard : Option (Nat × Bool)} {g : FuncId × Value} (h : invO P e x name = some g) (k : ∀ v, e x = some v → VRel r v (e' x)) :
  flat g.2 = true ∧ ∀ w, (execOp e' (Oper.mk dst (.call ⟨.invoke x name, args, ts⟩) type pos after guard)).run P w = .ok (.enter g.1 (#[g.2] ++ args.map e')) w := by
 unfold invO at h
 split at h
 ·
  rename_i v qv
  split at h
  ·
   rename_i f u qf
   split at h
   ·
    rename_i hu
    split at h
    ·
     rename_i fn qn
     split at h
     ·
      rename_i hb
      cases h
      refine ⟨hu, fun w => ?_⟩
      unfold invF at qf
      split at qf
      ·
       rename_i t y
       cases hy : flatI y with
       | false => rw [hy] at qf; cases qf
       | true =>
        rw [hy, cond_true] at qf
        have hx : e' x = .iface t y := (k _ qv).same (show flat (.iface t y) = true from hy)
        have hm := pureRun_run _ qf w
        have hnm := hP f fn qn hb
        have n1 : ¬ fn.name = "runtime.NumGoroutine" := by simpa using hnm
        have n2 : ¬ fn.body = none := by intro q; rw [q] at hb; cases hb
        have e1 : ∀ l : Array Value, (#[e' x] ++ l).extract 1 (#[e' x] ++ l).size = l := by
         intro l
         apply Array.ext'
         simp
        have e0 : ∀ l : Array Value, (#[e' x] ++ l)[0]? = some (e' x) := by
         intro l
         rw [Array.getElem?_append_left (by simp)]
         rfl
        have hcm : ∀ l : Array Value, (callMethod (.iface t y) name l).run P w = .ok (.enter f (#[u] ++ l)) w := by
         intro l
         show (do let p ← program; let (f, receiver) ← method (p.types.size + Made.depth) t y name; callFunc f (#[receiver] ++ l) : Sem Next).run P w = _
         rw [Sem.run_bind]
         have hp : (program).run P w = .ok P w := rfl
         rw [hp, Result.andThen_ok, Sem.run_bind, hm, Result.andThen_ok]
         simp [callFunc, qn, n1, n2]
        have hiv : ∀ l : Array Value, (invoke (.fn (.method name) #[]) (#[e' x] ++ l)).run P w = .ok (.enter f (#[u] ++ l)) w := by
         intro l
         simp only [invoke]
         rw [e0, e1, hx]
         exact hcm l
        exact hiv (args.map e')
      · cases qf
     · cases h
    · cases h
   · cases h
  · cases h
 · cases h
def evCallO (K : Caller) (P : Program) (A : Mem) (e : Operand → Option Value) (f : Operand) (args : List Operand) : Option (Value × Mem) :=
 match funcO P e f, argsO e args with
 | some g, some vs => K g.1 (g.2.1 ++ (vs ++ g.2.2)) A
 | _, _ => none
theorem wp_of_run {P : Program} {o : Oper} {a : Act} {w w' : World} {v : Value} {Kc : Act → World → Prop} {Q : Exit → Act → World → Prop} (h : (execOp a.eval o).run P w = .ok (.value v) w') (k : Kc (a.put o.dst v) w') : o.wp P a w Kc Q := by
 unfold Oper.wp; rw [h]; exact k
def evOp (K : Caller) (P : Program) (A : Mem) (e : Operand → Option Value) (o : Oper) : Option (Value × Mem) :=
 match o.op with
 | .load _ _ => (evR P A e o).map (·, A)
 | .store _ _ _ => (evStore P A e o).map (undef, ·)
 | .alloc _ | .box _ _ | .makeSlice _ _ _ | .buildSlice _ _ _ => (evN P A.length e o).map fun x => (x.1, A ++ [some x.2])
 | .move _ | .assign _ | .extract _ _ => (evS P e o).map (·, A)
 | .call c =>
  match c.callee with
  | .builtin .append => evAppend P A e o
  | .builtin .copy => evCopy P A e o
  | .value f => match funcO P e f with | some _ => evCallO K P A e f c.args.toList | none => (flatP P e o).map (·, A)
  | .invoke x name => evInvO K P A e x name c.args.toList
  | _ => (evPN P e o).map (·, A)
 | _ => (evPN P e o).map (·, A)
theorem evOp_sound {K : Caller} {P : Program} (hK : KOk P K) (hP : Plain P) {w0 w : World} {r : Rho} {A A' : Mem} {e : Operand → Option Value} {a : Act} {o : Oper} {v : Value} (h : evOp K P A e o = some (v, A')) (k : OpsRel r e a.eval o.op) (hr : Rel P w0 r A w)
  {Kc : Act → World → Prop} {Q : Exit → Act → World → Prop} (next : ∀ r' v' w', r.le r' → VRel r' v v' → Rel P w0 r' A' w' → Keep r A A' → Kc (a.put o.dst v') w') : o.wp P a w Kc Q := by
 have pur : ∀ u : Option Value, u.map (·, A) = some (v, A') → (∀ x, u = some x → ∃ v', (∀ w, (execOp a.eval o).run P w = .ok (.value v') w) ∧ VRel r x v') → o.wp P a w Kc Q := by
  intro u hu hs
  cases u with
  | none => cases hu
  | some x =>
   cases hu
   obtain ⟨v', r1, r2⟩ := hs _ rfl
   exact wp_of_run (r1 w) (next r v' w (Rho.le.refl r) r2 hr (Keep.refl r A))
 have purN : (evPN P e o).map (·, A) = some (v, A') → o.wp P a w Kc Q := by
  intro hu
  cases q : evP P e o with
  | some x =>
   rw [evPN_of q] at hu
   cases hu
   obtain ⟨v', r1, r2⟩ := evP_sound q k
   exact wp_of_run (r1 w) (next r v' w (Rho.le.refl r) r2 hr (Keep.refl r A))
  | none =>
   rw [evPN_nan q] at hu
   cases q2 : evNaN P e o with
   | none => rw [q2] at hu; cases hu
   | some x =>
    rw [q2] at hu
    cases hu
    obtain ⟨v', w', r1, r2, r3⟩ := evNaN_sound q2 k w
    exact wp_of_run r1 (next r v' w' (Rho.le.refl r) r2 (hr.below_step r3) (Keep.refl r A))
 have new : (evN P A.length e o).map (fun x => (x.1, A ++ [some x.2])) = some (v, A') → o.wp P a w Kc Q := by
  intro hu
  cases q : evN P A.length e o with
  | none => rw [q] at hu; cases hu
  | some x =>
   obtain ⟨x1, x2⟩ := x
   rw [q] at hu
   cases hu
   obtain ⟨v', w', r1, r2, r3⟩ := evN_sound q k hr
   exact wp_of_run r1 (next _ v' w' (Rho.le.push r _) r2 r3 ((Keep.refl r A).push hr.len _))
 unfold evOp at h
 split at h
 ·
  cases q : evR P A e o with
  | none => rw [q] at h; cases h
  | some x =>
   rw [q] at h
   cases h
   obtain ⟨v', r1, r2⟩ := evR_sound q k hr
   exact wp_of_run r1 (next r v' w (Rho.le.refl r) r2 hr (Keep.refl r A))
 ·
  cases q : evStore P A e o with
  | none => rw [q] at h; cases h
  | some x =>
   rw [q] at h
   cases h
   obtain ⟨w', r1, r2, r3⟩ := evStore_sound q k hr
   unfold Oper.wp
   rw [r1]
   exact next r undef w' (Rho.le.refl r) (VRel.undef r) r2 r3
 · exact new h
 · exact new h
 · exact new h
 · exact new h
 · exact pur _ h fun x q => evS_sound q k
 · exact pur _ h fun x q => evS_sound q k
 · exact pur _ h fun x q => evS_sound q k
 ·
  rename_i c heq
  split at h
  ·
   obtain ⟨r', v', w', r1, r2, r3, r4, r5⟩ := evAppend_sound h k hr
   exact wp_of_run r2 (next r' v' w' r1 r3 r4 r5)
  ·
   obtain ⟨w', r1, r2, r3, r4⟩ := evCopy_sound h k hr
   exact wp_of_run r1 (next r v w' (Rho.le.refl r) r2 r3 r4)
  ·
   rename_i f hf
   split at h
   ·
    rename_i g qg
    unfold evCallO at h
    rw [qg] at h
    cases q : argsO e c.args.toList with
    | none => rw [q] at h; cases h
    | some vs =>
     rw [q] at h
     simp only at h
     have hargs := argsO_rel (r := r) (e' := a.eval) c.args.toList vs q (fun x hx v hv => k x (by rw [heq]; simp only [Op.operands, Call.operands]; simp at hx ⊢; exact Or.inr hx) v hv)
     -- the function's value
     unfold funcO at qg
     split at qg
     ·
      rename_i g' lm lc qf
      split at qg
      ·
       rename_i fn qn
       split at qg
       ·
        rename_i hb
        cases qg
        obtain ⟨lm', lc', hx, hlm, hlc⟩ := (k f (by rw [heq]; simp [Op.operands, Call.operands, hf]) _ qf).inv_func
        have hc := hK w0 r A w g' (lm ++ (vs ++ lc)) _ v A' h hr (hlm.app (hargs.app hlc))
        have g : FuncId := g'
        have hnm := hP g' fn qn hb
        have hbn : fn.body.isNone = false := by cases q : fn.body with | none => rw [q] at hb; cases hb | some c => rfl
        have hrun : (execOp a.eval o).run P w = .ok (.enter g' (⟨lm'⟩ ++ c.args.map a.eval ++ ⟨lc'⟩)) w := by
         obtain ⟨dst, op, type, pos, after, guard⟩ := o
         simp only at heq
         subst heq
         have n1 : ¬ fn.name = "runtime.NumGoroutine" := by simpa using hnm
         have n2 : ¬ fn.body = none := by intro q; rw [q] at hb; cases hb
         simp [execOp, resolve, hf, hx, Deferred.ofValue, invoke, callFunc, qn, n1, n2]
        unfold Oper.wp
        rw [hrun]
        have e2 : (⟨lm' ++ (c.args.toList.map a.eval ++ lc')⟩ : Array Value) = ⟨lm'⟩ ++ c.args.map a.eval ++ ⟨lc'⟩ := by apply Array.ext'; simp
        rw [e2] at hc
        exact hc.mono fun x w' hx => by
         obtain ⟨r', v', q1, rfl, q2, q3, q4⟩ := hx
         exact next r' v' w' q1 q2 q3 q4
       · cases qg
      · cases qg
     · cases qg
   · exact pur _ h fun x q => flatP_sound q k
  ·
   rename_i x name hf
   unfold evInvO at h
   cases qg : invO P e x name with
   | none => rw [qg] at h; cases h
   | some g =>
    rw [qg] at h
    cases q : argsO e c.args.toList with
    | none => rw [q] at h; cases h
    | some vs =>
     rw [q] at h
     simp only at h
     have hargs := argsO_rel (r := r) (e' := a.eval) c.args.toList vs q (fun x hx v hv => k x (by rw [heq]; simp only [Op.operands, Call.operands]; simp at hx ⊢; exact Or.inr hx) v hv)
     obtain ⟨dst, op, type, pos, after, guard⟩ := o
     obtain ⟨callee, args, ts⟩ := c
     simp only at heq hf
     subst hf
     subst heq
     obtain ⟨hu, hrun⟩ := invO_run (dst := dst) (type := type) (pos := pos) (after := after) (guard := guard) (args := args) (ts := ts) hP qg (fun v hv => k x (by simp [Op.operands, Call.operands]) v hv)
     have hc := hK w0 r A w g.1 (g.2 :: vs) _ v A' h hr (LR.cons (VRel.of_flat r hu) hargs)
     unfold Oper.wp
     rw [hrun w]
     have e2 : (⟨g.2 :: args.toList.map a.eval⟩ : Array Value) = #[g.2] ++ args.map a.eval := by apply Array.ext'; simp
     rw [e2] at hc
     exact hc.mono fun x w' hx => by
      obtain ⟨r', v', q1, rfl, q2, q3, q4⟩ := hx
      exact next r' v' w' q1 q2 q3 q4
  · exact purN h
 · exact purN h
end Go.Proofs.YtfgfofedacehiaaGreat

/-
 OWN TEXT: an evaluator for calls without open arguments. An operation hangs on its operands alone.
-/
namespace Go.Proofs.YtfgfofedacehiaaGreat
open Go.RowKit
set_option linter.unusedVariables false
set_option linter.unusedSimpArgs false
section
variable {P : Program} {e e' : Operand → Option Value}
theorem flatP_congr {o : Oper} (h : ∀ x ∈ o.op.operands, e x = e' x) : flatP P e o = flatP P e' o := by
 unfold flatP
 have h1 : o.op.operands.toList.all (flatO e) = o.op.operands.toList.all (flatO e') := by
  rw [Bool.eq_iff_iff, List.all_eq_true, List.all_eq_true]
  constructor
  · intro q x hx; have := q x hx; unfold flatO at this ⊢; rw [← h x (by simpa using hx)]; exact this
  · intro q x hx; have := q x hx; unfold flatO at this ⊢; rw [h x (by simpa using hx)]; exact this
 rw [h1]
 by_cases c : notSelect o.op = true
 ·
  have hs : ∀ cs b, o.op ≠ .select cs b := by intro cs b q; rw [q] at c; cases c
  rw [execOp_congr (ρ' := fun x => (e' x).getD undef) o hs (fun x hx => by simp only [h x hx])]
 ·
  have c' : notSelect o.op = false := by simpa using c
  simp [c']
theorem bndO_congr {y d : Nat} {z : Option Operand} (h : ∀ x ∈ z.toArray, e x = e' x) : bndO e y d z = bndO e' y d z := by
 cases z with
 | none => rfl
 | some x => simp only [bndO, h x (by simp)]
theorem evSlice_congr {b off len cap size : Nat} {sp : Option Nat} {lo hi mx : Option Operand} (h1 : ∀ x ∈ lo.toArray, e x = e' x) (h2 : ∀ x ∈ hi.toArray, e x = e' x) (h3 : ∀ x ∈ mx.toArray, e x = e' x) : evSlice e b off len cap size sp lo hi mx = evSlice e' b off len cap size sp lo hi mx := by
 unfold evSlice
 rw [bndO_congr h3]
 simp only [bndO_congr h2, bndO_congr h1]
theorem evS_congr {o : Oper} (h : ∀ x ∈ o.op.operands, e x = e' x) : evS P e o = evS P e' o := by
 obtain ⟨dst, op, type, pos, after, guard⟩ := o
 cases op
 case move x => exact h x (by simp [Op.operands])
 case assign x => exact h x (by simp [Op.operands])
 case nilCheck x => simp only [evS, h x (by simp [Op.operands])]
 case extract x i => simp only [evS, h x (by simp [Op.operands])]
 case fieldAddr s x f => simp only [evS, h x (by simp [Op.operands])]
 case field s x f => simp only [evS, h x (by simp [Op.operands])]
 case indexAddr t x ix => simp only [evS, h x (by simp [Op.operands]), h ix (by simp [Op.operands])]
 case slice t x lo hi mx =>
  have e1 : ∀ b off len cap size sp, evSlice e b off len cap size sp lo hi mx = evSlice e' b off len cap size sp lo hi mx := fun b off len cap size sp =>
   evSlice_congr (fun y hy => h y (by simp only [Op.operands]; simp at hy ⊢; simp [hy])) (fun y hy => h y (by simp only [Op.operands]; simp at hy ⊢; simp [hy])) (fun y hy => h y (by simp only [Op.operands]; simp at hy ⊢; simp [hy]))
  simp only [evS, h x (by simp [Op.operands]), e1]
 case call c =>
  obtain ⟨callee, args, argTypes⟩ := c
  have ha : ∀ x ∈ args.toList, e x = e' x := fun x hx => h x (by simp only [Op.operands, Call.operands]; simp at hx ⊢; exact Or.inr hx)
  simp only [evS]
  split
  ·
   rename_i x t qa qt
   rw [ha x (by rw [qa]; simp)]
  · rfl
 all_goals rfl
theorem evB_congr {o : Oper} (h : ∀ x ∈ o.op.operands, e x = e' x) : evB P e o = evB P e' o := by
 obtain ⟨dst, op, type, pos, after, guard⟩ := o
 cases op
 case build t parts =>
  have hp : ∀ p ∈ parts.toList, e p.2 = e' p.2 := by
   intro p hp
   refine h p.2 ?_
   simp only [Op.operands]
   simp
   exact ⟨p.1, by simpa using hp⟩
  have h1 : parts.toList.all (partO e) = parts.toList.all (partO e') := by
   rw [Bool.eq_iff_iff, List.all_eq_true, List.all_eq_true]
   constructor
   · intro q x hx; have := q x hx; unfold partO at this ⊢; rw [← hp x hx]; exact this
   · intro q x hx; have := q x hx; unfold partO at this ⊢; rw [hp x hx]; exact this
  have h2 : (parts.toList.map fun p => (p.1, (e p.2).getD undef)) = (parts.toList.map fun p => (p.1, (e' p.2).getD undef)) := List.map_congr_left fun p hm => by rw [hp p hm]
  simp only [evB, h1, h2]
 case makeFunc fn first captured =>
  have hc : ∀ l : List Operand, (∀ x ∈ l, e x = e' x) → caughtO e l = caughtO e' l := by
   intro l
   induction l with
   | nil => intro _; rfl
   | cons x l ih => intro h; simp only [caughtO, h x (by simp), ih (fun y hy => h y (by simp [hy]))]
  simp only [evB, hc captured.toList (fun x hx => h x (by simp [Op.operands]; exact Or.inr (by simpa using hx))), hc first.toList (fun x hx => h x (by simp [Op.operands]; exact Or.inl (by simpa using hx)))]
 case binOp op t x y yt => simp only [evB, h x (by simp [Op.operands]), h y (by simp [Op.operands])]
 all_goals rfl
theorem evP_congr {o : Oper} (h : ∀ x ∈ o.op.operands, e x = e' x) : evP P e o = evP P e' o := by
 unfold evP
 rw [flatP_congr h, evS_congr h, evB_congr h]
theorem evNaN_congr {o : Oper} (h : ∀ x ∈ o.op.operands, e x = e' x) : evNaN P e o = evNaN P e' o := by
 obtain ⟨dst, op, type, pos, after, guard⟩ := o
 cases op
 case binOp op t x y yt => simp only [evNaN, h x (by simp [Op.operands]), h y (by simp [Op.operands])]
 case unOp op t x => simp only [evNaN, h x (by simp [Op.operands])]
 case call c =>
  obtain ⟨callee, args, argTypes⟩ := c
  have ha : ∀ x ∈ args.toList, e x = e' x := fun x hx => h x (by simp only [Op.operands, Call.operands]; simp at hx ⊢; exact Or.inr hx)
  unfold evNaN
  simp only
  split
  · rename_i x qa; rw [ha x (by rw [qa]; simp)]
  · rename_i x qa; rw [ha x (by rw [qa]; simp)]
  · rename_i x y qa; rw [ha x (by rw [qa]; simp), ha y (by rw [qa]; simp)]
  · rfl
 all_goals rfl
theorem evPN_congr {o : Oper} (h : ∀ x ∈ o.op.operands, e x = e' x) : evPN P e o = evPN P e' o := by
 unfold evPN
 rw [evP_congr h, evNaN_congr h]
theorem evR_congr {A : Mem} {o : Oper} (h : ∀ x ∈ o.op.operands, e x = e' x) : evR P A e o = evR P A e' o := by
 obtain ⟨dst, op, type, pos, after, guard⟩ := o
 cases op
 case load t x => simp only [evR, h x (by simp [Op.operands])]
 all_goals rfl
theorem evN_congr {id : Nat} {o : Oper} (h : ∀ x ∈ o.op.operands, e x = e' x) : evN P id e o = evN P id e' o := by
 obtain ⟨dst, op, type, pos, after, guard⟩ := o
 cases op
 case box el x => simp only [evN, h x (by simp [Op.operands])]
 case makeSlice t l c => simp only [evN, h l (by simp [Op.operands]), h c (by simp [Op.operands])]
 case buildSlice t len parts =>
  have hp : ∀ p ∈ parts.toList, e p.2 = e' p.2 := by
   intro p hp
   refine h p.2 ?_
   simp only [Op.operands]
   simp
   exact ⟨p.1, by simpa using hp⟩
  have h1 : parts.toList.all (partO e) = parts.toList.all (partO e') := by
   rw [Bool.eq_iff_iff, List.all_eq_true, List.all_eq_true]
   constructor
   · intro q x hx; have := q x hx; unfold partO at this ⊢; rw [← hp x hx]; exact this
   · intro q x hx; have := q x hx; unfold partO at this ⊢; rw [hp x hx]; exact this
  have h2 : (parts.toList.map fun p => (p.1, (e p.2).getD undef)) = (parts.toList.map fun p => (p.1, (e' p.2).getD undef)) := List.map_congr_left fun p hm => by rw [hp p hm]
  simp only [evN, h1, h2]
 all_goals rfl
theorem evStore_congr {A : Mem} {o : Oper} (h : ∀ x ∈ o.op.operands, e x = e' x) : evStore P A e o = evStore P A e' o := by
 obtain ⟨dst, op, type, pos, after, guard⟩ := o
 cases op
 case store t x y => simp only [evStore, storeD, h x (by simp [Op.operands]), h y (by simp [Op.operands])]
 all_goals rfl
theorem evCopy_congr {A : Mem} {o : Oper} (h : ∀ x ∈ o.op.operands, e x = e' x) : evCopy P A e o = evCopy P A e' o := by
 obtain ⟨dst, op, type, pos, after, guard⟩ := o
 cases op
 case call c =>
  obtain ⟨callee, args, argTypes⟩ := c
  have ha : ∀ x ∈ args.toList, e x = e' x := fun x hx => h x (by simp only [Op.operands, Call.operands]; simp at hx ⊢; exact Or.inr hx)
  simp only [evCopy, copyD]
  split
  ·
   rename_i d s dT sT qa qt
   rw [ha d (by rw [qa]; simp), ha s (by rw [qa]; simp)]
  · rfl
 all_goals rfl
theorem evAppend_congr {A : Mem} {o : Oper} (h : ∀ x ∈ o.op.operands, e x = e' x) : evAppend P A e o = evAppend P A e' o := by
 obtain ⟨dst, op, type, pos, after, guard⟩ := o
 cases op
 case call c =>
  obtain ⟨callee, args, argTypes⟩ := c
  have ha : ∀ x ∈ args.toList, e x = e' x := fun x hx => h x (by simp only [Op.operands, Call.operands]; simp at hx ⊢; exact Or.inr hx)
  simp only [evAppend, appendD]
  split
  ·
   rename_i d s dT sT qa qt
   rw [ha d (by rw [qa]; simp), ha s (by rw [qa]; simp)]
  · rfl
 all_goals rfl
theorem argsO_congr : ∀ (l : List Operand), (∀ x ∈ l, e x = e' x) → argsO e l = argsO e' l
 | [], _ => rfl
 | x :: l, h => by simp only [argsO, h x (by simp), argsO_congr l (fun y hy => h y (by simp [hy]))]
theorem invO_congr {f : Operand} {n : String} (h : e f = e' f) : invO P e f n = invO P e' f n := by unfold invO; rw [h]
theorem funcO_congr {f : Operand} (h : e f = e' f) : funcO P e f = funcO P e' f := by unfold funcO; rw [h]
theorem evOp_congr {K : Caller} {A : Mem} {o : Oper} (h : ∀ x ∈ o.op.operands, e x = e' x) : evOp K P A e o = evOp K P A e' o := by
 obtain ⟨dst, op, type, pos, after, guard⟩ := o
 cases op
 case call c =>
  have ha : ∀ x ∈ c.args.toList, e x = e' x := fun x hx => h x (by simp only [Op.operands, Call.operands]; simp at hx ⊢; exact Or.inr hx)
  simp only [evOp, evAppend_congr h, evCopy_congr h, flatP_congr h, evPN_congr h]
  split
  · rfl
  · rfl
  ·
   rename_i f hf
   have h1 := funcO_congr (P := P) (h f (by simp [Op.operands, Call.operands, hf]))
   rw [h1]
   unfold evCallO
   rw [h1, argsO_congr _ ha]
  ·
   rename_i f n hf
   have h1 := invO_congr (P := P) (n := n) (h f (by simp [Op.operands, Call.operands, hf]))
   unfold evInvO
   rw [h1, argsO_congr _ ha]
  · rfl
 all_goals simp only [evOp, evR_congr h, evStore_congr h, evN_congr h, evS_congr h, evPN_congr h]
end
/-- operations that neither read nor write memory -/
def isP : Op → Bool
 | .load _ _ | .store _ _ _ | .alloc _ | .box _ _ | .makeSlice _ _ _ | .buildSlice _ _ _ | .ready _ | .waits _ | .select _ _ | .panic _ => false
 | .call c => match c.callee with | .builtin .append | .builtin .copy | .value _ | .invoke _ _ => false | _ => true
 | _ => true
def isR : Op → Bool
 | .load _ _ => true
 | _ => false
theorem evOp_P {K : Caller} {P : Program} {A : Mem} {e : Operand → Option Value} {o : Oper} (h : isP o.op = true) : ∃ u : Option Value, ∀ A, evOp K P A e o = u.map (·, A) := by
 obtain ⟨dst, op, type, pos, after, guard⟩ := o
 cases op
 case call c =>
  obtain ⟨callee, args, argTypes⟩ := c
  cases callee with
  | value f => cases h
  | invoke r m => cases h
  | builtin b => cases b <;> first | exact ⟨_, fun A => rfl⟩ | cases h
 all_goals first | exact ⟨evPN P e _, fun A => rfl⟩ | exact ⟨evS P e _, fun A => rfl⟩ | cases h
theorem evOp_R {K : Caller} {P : Program} {A : Mem} {e : Operand → Option Value} {o : Oper} (h : isR o.op = true) : evOp K P A e o = (evR P A e o).map (·, A) := by
 obtain ⟨dst, op, type, pos, after, guard⟩ := o
 cases op
 case load t x => rfl
 all_goals cases h
theorem evOp_keeps {K : Caller} {P : Program} {A A' : Mem} {e : Operand → Option Value} {o : Oper} {v : Value} (h : (isP o.op || isR o.op) = true) (k : evOp K P A e o = some (v, A')) : A' = A := by
 rw [Bool.or_eq_true] at h
 rcases h with h | h
 ·
  obtain ⟨u, hu⟩ := evOp_P (K := K) (P := P) (A := A) (e := e) h
  rw [hu A] at k
  cases u with
  | none => cases k
  | some u => cases k; rfl
 ·
  rw [evOp_R h] at k
  cases q : evR P A e o with
  | none => rw [q] at k; cases k
  | some u => rw [q] at k; cases k; rfl
end Go.Proofs.YtfgfofedacehiaaGreat

