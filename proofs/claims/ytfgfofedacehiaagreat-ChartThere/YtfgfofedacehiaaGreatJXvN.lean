/-
 OWN TEXT: an evaluator for calls without open arguments. Short ways for numbers: they agree with the long one.
-/
import Derived.Test.YtfgfofedacehiaaGreatJXvIToXvP
import Derived.Test.YtfgfofedacehiaaGreatJFlAToFlB
namespace Go.Proofs.YtfgfofedacehiaaGreat
open Go.RowKit
set_option linter.unusedVariables false
set_option linter.unusedSimpArgs false
theorem pureRun_bind {P : Program} {α β : Type} (x : Sem α) (f : α → Sem β) : pureRun P (x >>= f) = (pureRun P x).bind fun a => pureRun P (f a) := by
 show pureRun P (x.bind f) = _
 induction x with
 | pure a => rfl
 | program k ih => exact ih P
 | mark m k ih => exact ih
 | _ => rfl
theorem pureRun_pure {P : Program} {α : Type} (a : α) : pureRun P (pure a : Sem α) = some a := rfl
theorem pureRun_map {P : Program} {α β : Type} (x : Sem α) (f : α → β) : pureRun P (f <$> x) = (pureRun P x).map f := by
 show pureRun P (x.bind (fun a => pure (f a))) = _
 induction x with
 | pure a => rfl
 | program k ih => exact ih P
 | mark m k ih => exact ih
 | _ => rfl
theorem pureRun_underlying {P : Program} {t : TypeId} {d : TypeDesc} (h : P.underlying t = some d) : pureRun P (underlying t) = some d := by
 unfold underlying
 show pureRun P (match P.underlying t with | some d => pure d | none => stuck "no such type") = _
 rw [h]; rfl
def wrapF (k : IntKind) (n : Int) : Int := match k, n with
 | .i64, .ofNat m => bif Nat.ble m 9223372036854775807 then .ofNat m else IntKind.i64.wrap (.ofNat m)
 | .i64, .negSucc m => bif Nat.ble m 9223372036854775807 then .negSucc m else IntKind.i64.wrap (.negSucc m)
 | .u64, .ofNat m => bif Nat.ble m 18446744073709551615 then .ofNat m else IntKind.u64.wrap (.ofNat m)
 | k, n => k.wrap n
theorem wrap_i64_in {n : Int} (h1 : -9223372036854775808 ≤ n) (h2 : n ≤ 9223372036854775807) : IntKind.i64.wrap n = n := by rw [IntKind.wrap_i64]; omega
theorem wrap_u64_in {n : Int} (h1 : 0 ≤ n) (h2 : n ≤ 18446744073709551615) : IntKind.u64.wrap n = n := by rw [IntKind.wrap_u64]; omega
theorem wrapF_eq (k : IntKind) (n : Int) : k.wrap n = wrapF k n := by
 unfold wrapF
 split
 ·
  rename_i m
  by_cases q : m ≤ 9223372036854775807
  ·
   rw [Nat.ble_eq_true_of_le q]
   exact wrap_i64_in (by have : Int.ofNat m = (m : Int) := rfl; omega) (by have : Int.ofNat m = (m : Int) := rfl; omega)
  · rw [show Nat.ble m 9223372036854775807 = false from Bool.eq_false_iff.2 fun h => q (Nat.le_of_ble_eq_true h), cond_false]
 ·
  rename_i m
  by_cases q : m ≤ 9223372036854775807
  ·
   rw [Nat.ble_eq_true_of_le q]
   exact wrap_i64_in (by rw [Int.negSucc_eq]; omega) (by rw [Int.negSucc_eq]; omega)
  · rw [show Nat.ble m 9223372036854775807 = false from Bool.eq_false_iff.2 fun h => q (Nat.le_of_ble_eq_true h), cond_false]
 ·
  rename_i m
  by_cases q : m ≤ 18446744073709551615
  ·
   rw [Nat.ble_eq_true_of_le q]
   exact wrap_u64_in (by have : Int.ofNat m = (m : Int) := rfl; omega) (by have : Int.ofNat m = (m : Int) := rfl; omega)
  · rw [show Nat.ble m 18446744073709551615 = false from Bool.eq_false_iff.2 fun h => q (Nat.le_of_ble_eq_true h), cond_false]
 · rfl
theorem eqF_sw (a b : Nat) : Fl.eqF a b = Fl.eqF b a := by
 unfold Fl.eqF
 cases Fl.nan a <;> cases Fl.nan b <;> simp [eq_comm]
noncomputable def fastBin : BinOp → Value → Value → Option Value
 | .add, .int k a, .int k' b => if k = k' then some (.int k (wrapF k (a + b))) else none
 | .sub, .int k a, .int k' b => if k = k' then some (.int k (wrapF k (a - b))) else none
 | .mul, .int k a, .int k' b => if k = k' then some (.int k (wrapF k (a * b))) else none
 | .eql, .int k a, .int k' b => if k = k' then some (.bool (a == b)) else none
 | .neq, .int k a, .int k' b => if k = k' then some (.bool (a != b)) else none
 | .lss, .int k a, .int k' b => if k = k' then some (.bool (decide (a < b))) else none
 | .leq, .int k a, .int k' b => if k = k' then some (.bool (decide (a ≤ b))) else none
 | .gtr, .int k a, .int k' b => if k = k' then some (.bool (decide (a > b))) else none
 | .geq, .int k a, .int k' b => if k = k' then some (.bool (decide (a ≥ b))) else none
 | .add, .float .f64 a, .float .f64 b => match addR a b with | some r => some (.float .f64 r) | none => none
 | .sub, .float .f64 a, .float .f64 b => match subR a b with | some r => some (.float .f64 r) | none => none
 | .mul, .float .f64 a, .float .f64 b => match mulR a b with | some r => some (.float .f64 r) | none => none
 | .quo, .float .f64 a, .float .f64 b => match FloatKind.f64.format.div a b with | some r => some (.float .f64 r) | none => none
 | .eql, .float .f64 a, .float .f64 b => some (.bool (Fl.eqF a b))
 | .neq, .float .f64 a, .float .f64 b => some (.bool (!Fl.eqF a b))
 | .lss, .float .f64 a, .float .f64 b => some (.bool (Fl.ltF a b))
 | .leq, .float .f64 a, .float .f64 b => some (.bool (Fl.leF a b))
 | .gtr, .float .f64 a, .float .f64 b => some (.bool (Fl.ltF b a))
 | .geq, .float .f64 a, .float .f64 b => some (.bool (Fl.leF b a))
 | _, _, _ => none
theorem fastBin_ok {P : Program} {op : BinOp} {x y v : Value} (h : fastBin op x y = some v) (t : TypeId) (ox oy : Operand) : pureRun P (do eqGuard op t ox oy x y; binOp op t x y) = some v ∧ flat x = true ∧ flat y = true ∧ flat v = true := by
 unfold fastBin at h
 simp only [← wrapF_eq, ← addR_eq, ← subR_eq, ← mulR_eq, ← Fl.o_eq, ← Fl.o_lt, ← Fl.o_le, ← Fl.o_gt, ← Fl.o_ge] at h
 split at h <;> (try (split at h)) <;> (try cases h) <;> (refine ⟨?_, rfl, rfl, rfl⟩)
 all_goals (try subst_vars)
 all_goals (simp only [eqGuard, binOp, pureRun_bind, ne_eq, not_true_eq_false, if_false, if_true, Bool.not_true, Bool.not_false, Bool.false_eq_true, reduceCtorEq])
 all_goals (try rfl)
 all_goals (simp [Op.intArith, Op.intCmp, Op.floatArith, Op.floatCmp, pureRun_bind, pureRun_pure, Fl.o_eq, Fl.o_lt, Fl.o_le, Fl.o_gt, Fl.o_ge, Fl.o_ne, *]; try rfl)
 all_goals (first | done | (rw [eqF_sw]))
def fastConv (P : Program) (s d : TypeId) : Value → Option Value
 | .int i n =>
  match P.underlying s, P.underlying d with
  | some _, some (.int k) => some (.int k (wrapF k n))
  | some _, some (.float k) => some (.float k (k.nearest n))
  | _, _ => none
 | _ => none
theorem fastConv_ok {P : Program} {s d : TypeId} {x v : Value} (h : fastConv P s d x = some v) : pureRun P (convert s d x) = some v ∧ flat x = true ∧ flat v = true := by
 unfold fastConv at h
 split at h
 ·
  split at h
  ·
   rename_i i n d1 k q1 q2
   cases h
   refine ⟨?_, rfl, rfl⟩
   rw [← wrapF_eq]
   simp only [convert, pureRun_bind, pureRun_underlying q1, pureRun_underlying q2, Option.bind_some]
   rfl
  ·
   rename_i i n d1 k q1 q2
   cases h
   refine ⟨?_, rfl, rfl⟩
   simp only [convert, pureRun_bind, pureRun_underlying q1, pureRun_underlying q2, Option.bind_some]
   rfl
  · cases h
 · cases h
def fastCall (b : Builtin) (vs : List Value) : Option Value :=
 match b, vs with
 | .real, [.complex k re _] => some (.float k re)
 | .imag, [.complex k _ im] => some (.float k im)
 | .complex, [.float .f64 re, .float .f64 im] => some (.complex .f64 re im)
 | _, _ => none
/-- short ways -/
noncomputable def fastP (P : Program) (e : Operand → Option Value) (o : Oper) : Option Value :=
 match o.op with
 | .binOp op t x y _ => match e x, e y with | some vx, some vy => fastBin op vx vy | _, _ => none
 | .convert s d x => match e x with | some vx => fastConv P s d vx | none => none
 | .call c =>
  match c.callee with
  | .builtin b => match argsO e c.args.toList with | some vs => fastCall b vs | none => none
  | _ => none
 | _ => none
theorem flatP_of {P : Program} {e : Operand → Option Value} {o : Oper} {v : Value} (h1 : notSelect o.op = true) (h2 : ∀ x ∈ o.op.operands, ∃ u, e x = some u ∧ flat u = true) (h3 : pureRun P (execOp (fun x => (e x).getD undef) o) = some (.value v)) (h4 : flat v = true) : flatP P e o = some v := by
 unfold flatP
 have c2 : o.op.operands.toList.all (flatO e) = true := by
  rw [List.all_eq_true]
  intro x hx
  obtain ⟨u, q1, q2⟩ := h2 x (by simpa using hx)
  unfold flatO
  rw [q1]; exact q2
 rw [h1, c2, Bool.and_self, if_pos rfl, h3]
 simp only [h4, if_true]
theorem fastP_ok {P : Program} {e : Operand → Option Value} {o : Oper} {v : Value} (h : fastP P e o = some v) : flatP P e o = some v := by
 obtain ⟨dst, op, type, pos, after, guard⟩ := o
 unfold fastP at h
 simp only at h
 cases op
 case binOp op t x y yt =>
  simp only at h
  split at h
  ·
   rename_i vx vy q1 q2
   obtain ⟨k1, k2, k3, k4⟩ := fastBin_ok (P := P) h t x y
   refine flatP_of rfl ?_ ?_ k4
   ·
    intro z hz
    simp [Op.operands] at hz
    rcases hz with rfl | rfl
    · exact ⟨vx, q1, k2⟩
    · exact ⟨vy, q2, k3⟩
   ·
    simp only [execOp, q1, q2, Option.getD_some]
    rw [pureRun_bind, k1]
    rfl
  · cases h
 case convert s d x =>
  simp only at h
  split at h
  ·
   rename_i vx q1
   obtain ⟨k1, k2, k3⟩ := fastConv_ok h
   refine flatP_of rfl ?_ ?_ k3
   ·
    intro z hz
    simp [Op.operands] at hz
    subst hz
    exact ⟨vx, q1, k2⟩
   ·
    simp only [execOp, q1, Option.getD_some]
    rw [pureRun_bind, k1]
    rfl
  · cases h
 case call c =>
  obtain ⟨callee, args, argTypes⟩ := c
  simp only at h
  split at h
  ·
   rename_i b hb
   split at h
   ·
    rename_i vs qa
    have one : ∀ x u, args.toList = [x] → vs = [u] → e x = some u := by
     intro x u h1 h2
     rw [h1, h2] at qa
     simp only [argsO] at qa
     cases q : e x with
     | none => rw [q] at qa; cases qa
     | some z => rw [q] at qa; cases qa; rfl
    have two : ∀ x y u z, args.toList = [x, y] → vs = [u, z] → e x = some u ∧ e y = some z := by
     intro x y u z h1 h2
     rw [h1, h2] at qa
     simp only [argsO] at qa
     cases q : e x with
     | none => rw [q] at qa; cases qa
     | some u' =>
      cases q' : e y with
      | none => rw [q, q'] at qa; cases qa
      | some z' => rw [q, q'] at qa; cases qa; exact ⟨rfl, rfl⟩
    have len : ∀ (l : List Operand) (us : List Value), argsO e l = some us → l.length = us.length := by
     intro l
     induction l with
     | nil => intro us h; cases h; rfl
     | cons x l ih =>
      intro us h
      simp only [argsO] at h
      split at h
      · rename_i v' us' _ q'; cases h; simp [ih us' q']
      · cases h
    have hlen := len _ _ qa
    unfold fastCall at h
    split at h
    ·
     rename_i k re im
     cases h
     obtain ⟨x, hx⟩ : ∃ x, args.toList = [x] := by
      match hl : args.toList, hlen with
      | [x], _ => exact ⟨x, rfl⟩
     obtain rfl : args = #[x] := by apply Array.ext'; simpa using hx
     have ex := one x _ rfl rfl
     refine flatP_of rfl ?_ ?_ rfl
     ·
      intro z hz
      simp [Op.operands, Call.operands] at hz
      subst hz
      exact ⟨_, ex, rfl⟩
     ·
      have hb : Builtin.real_ argTypes type #[.complex k re im] = pure (.float k re) := rfl
      simp [execOp, resolve, invoke, builtin, hb, pureRun_bind, pureRun_pure, pureRun_map, ex]
    ·
     rename_i k re im
     cases h
     obtain ⟨x, hx⟩ : ∃ x, args.toList = [x] := by
      match hl : args.toList, hlen with
      | [x], _ => exact ⟨x, rfl⟩
     obtain rfl : args = #[x] := by apply Array.ext'; simpa using hx
     have ex := one x _ rfl rfl
     refine flatP_of rfl ?_ ?_ rfl
     ·
      intro z hz
      simp [Op.operands, Call.operands] at hz
      subst hz
      exact ⟨_, ex, rfl⟩
     ·
      have hb : Builtin.imag_ argTypes type #[.complex k re im] = pure (.float k im) := rfl
      simp [execOp, resolve, invoke, builtin, hb, pureRun_bind, pureRun_pure, pureRun_map, ex]
    ·
     rename_i re im
     cases h
     obtain ⟨x, y, hx⟩ : ∃ x y, args.toList = [x, y] := by
      match hl : args.toList, hlen with
      | [x, y], _ => exact ⟨x, y, rfl⟩
     obtain rfl : args = #[x, y] := by apply Array.ext'; simpa using hx
     obtain ⟨ex, ey⟩ := two x y _ _ rfl rfl
     refine flatP_of rfl ?_ ?_ rfl
     ·
      intro z hz
      simp [Op.operands, Call.operands] at hz
      rcases hz with rfl | rfl
      · exact ⟨_, ex, rfl⟩
      · exact ⟨_, ey, rfl⟩
     ·
      have hb : Builtin.complex_ argTypes type #[.float .f64 re, .float .f64 im] = pure (.complex .f64 re im) := rfl
      simp [execOp, resolve, invoke, builtin, hb, pureRun_bind, pureRun_pure, pureRun_map, ex, ey]
    · cases h
   · cases h
  · cases h
 all_goals cases h
end Go.Proofs.YtfgfofedacehiaaGreat

