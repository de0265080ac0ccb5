/-
  OWN TEXT: an evaluator made for the kernel: what an operation that was made ready does.
-/
import Derived.Test.YtgaigfmboomnkaaGreatXwD
namespace Go.Proofs.YtgaigfmboomnkaaGreat
open Go.RowKit
set_option linter.unusedVariables false
set_option linter.unusedSimpArgs false
/-- calls as they come to their end, in both ways -/
def CGood (C : KP) (Ks Kp : Caller) : Prop := ∀ (f : FuncId) (vs : List Value) (M : Me) (k kq : Value → Me → Out) (out : Value × Me), Can M → C f vs M k kq = some out → (∃ v M', Can M' ∧ (∀ k kq, C f vs M k kq = k v M') ∧ Ks f vs (toMem M) = some (v, toMem M')) ∨ ∃ pv M', Can M' ∧ (∀ k kq, C f vs M k kq = kq pv M') ∧ Kp f vs (toMem M) = some (pv, toMem M')
/-- where an operation panics: with what -/
def evPan (Kp : Caller) (P : Program) (A : Mem) (e : Operand → Option Value) (o : Oper) : Option (Value × Mem) :=
  match o.op with
  | .panic x => match e x with | some (.iface t u) => if flat1 u then some (.iface t u, A) else none | _ => none
  | .call c => match c.callee with | .value f => evCallO Kp P A e f c.args.toList | _ => none
  | _ => none
/-- operands are where they are told -/
def Fits (res : Rs) (a : Act) (T : Tm) (L : Rg) : Prop := ∀ (x : Operand) (sc : Sc), res x = some sc → evalO a x = some (sc T L)
/-- it does what the operation does -/
def OpOk (P : Program) (Ks : Caller) (c : XO) (o : Oper) (res : Rs) : Prop := ∀ (K : KC) (T : Tm) (M : Me) (L : Rg) (k : Value → Me → Out) (out : Value × Me) (a : Act), True → Can M → Fits res a T L → c K T M L k = some out →
  ∃ v M', Can M' ∧ (∀ K k, c K T M L k = k v M') ∧ evOp Ks P (toMem M) (evalO a) o = some (v, toMem M')
/-- it does what the operation does, or panics as that does -/
def OpOk2 (P : Program) (Ks Kp : Caller) (c : XO) (o : Oper) (res : Rs) : Prop := ∀ (C : KP) (H : Tm → Value → Me → Out) (T : Tm) (M : Me) (L : Rg) (k : Value → Me → Out) (out : Value × Me) (a : Act), CGood C Ks Kp → Can M → Fits res a T L → c (frK C H) T M L k = some out →
  (∃ v M', Can M' ∧ (∀ H k, c (frK C H) T M L k = k v M') ∧ evOp Ks P (toMem M) (evalO a) o = some (v, toMem M')) ∨ ∃ pv M', Can M' ∧ (∀ (H : Tm → Value → Me → Out) k, c (frK C H) T M L k = H T pv M') ∧ evPan Kp P (toMem M) (evalO a) o = some (pv, toMem M')
theorem OpOk.two {P : Program} {Ks Kp : Caller} {c : XO} {o : Oper} {res : Rs} (h : OpOk P Ks c o res) : OpOk2 P Ks Kp c o res := fun C H T M L k out a _ hM hf hk => Or.inl (let ⟨v, M', h1, h2, h3⟩ := h (frK C H) T M L k out a trivial hM hf hk; ⟨v, M', h1, fun H k => h2 _ k, h3⟩)
section
variable {P : Program} {Ks : Caller} {o : Oper} {res : Rs}
theorem mk1_some {x : Operand} {k : Sc → XO} {c : XO} (h : mk1 res x k = some c) : ∃ sx, res x = some sx ∧ c = k sx := by
  unfold mk1 at h
  split at h
  · rename_i q; cases h; exact ⟨_, q, rfl⟩
  · cases h
theorem mk2_some {x y : Operand} {k : Sc → Sc → XO} {c : XO} (h : mk2 res x y k = some c) : ∃ sx sy, res x = some sx ∧ res y = some sy ∧ c = k sx sy := by
  unfold mk2 at h
  split at h
  · rename_i q1 q2; cases h; exact ⟨_, _, q1, q2, rfl⟩
  · cases h
theorem mk3_some {x y z : Operand} {k : Sc → Sc → Sc → XO} {c : XO} (h : mk3 res x y z k = some c) : ∃ sx sy sz, res x = some sx ∧ res y = some sy ∧ res z = some sz ∧ c = k sx sy sz := by
  unfold mk3 at h
  split at h
  · rename_i q1 q2 q3; cases h; exact ⟨_, _, _, q1, q2, q3, rfl⟩
  · cases h
theorem scsK_eq {α : Type} : ∀ (xs : List Sc) (T : Tm) (L : Rg) (k : List Value → Option α), scsK xs T L k = k (xs.map fun x => x T L)
  | [], _, _, _ => rfl
  | x :: xs, T, L, k => by
    show scsK xs T L (fun vs => k (x T L :: vs)) = _
    rw [scsK_eq xs]
    rfl
theorem ok_p1 {f : Value → (Value → Out) → Out} {x : Operand} {sx : Sc} (hx : res x = some sx)
    (hf : ∀ (a : Act) (v : Value) (k : Value → Out) (out : Value × Me), evalO a x = some v → f v k = some out → ∃ u, (∀ k, f v k = k u) ∧ ∀ A, evOp Ks P A (evalO a) o = some (u, A)) : OpOk P Ks (xP1 f sx) o res := by
  intro K T M L k out a hK hM hfit h
  obtain ⟨u, h1, h2⟩ := hf a _ _ out (hfit x sx hx) h
  exact ⟨u, M, hM, fun _ k => h1 _, h2 _⟩
theorem ok_p2 {f : Value → Value → (Value → Out) → Out} {x y : Operand} {sx sy : Sc} (hx : res x = some sx) (hy : res y = some sy)
    (hf : ∀ (a : Act) (v w : Value) (k : Value → Out) (out : Value × Me), evalO a x = some v → evalO a y = some w → f v w k = some out → ∃ u, (∀ k, f v w k = k u) ∧ ∀ A, evOp Ks P A (evalO a) o = some (u, A)) : OpOk P Ks (xP2 f sx sy) o res := by
  intro K T M L k out a hK hM hfit h
  obtain ⟨u, h1, h2⟩ := hf a _ _ _ out (hfit x sx hx) (hfit y sy hy) h
  exact ⟨u, M, hM, fun _ k => h1 _, h2 _⟩
theorem ok_p3 {f : Value → Value → Value → (Value → Out) → Out} {x y z : Operand} {sx sy sz : Sc} (hx : res x = some sx) (hy : res y = some sy) (hz : res z = some sz)
    (hf : ∀ (a : Act) (v w q : Value) (k : Value → Out) (out : Value × Me), evalO a x = some v → evalO a y = some w → evalO a z = some q → f v w q k = some out → ∃ u, (∀ k, f v w q k = k u) ∧ ∀ A, evOp Ks P A (evalO a) o = some (u, A)) : OpOk P Ks (xP3 f sx sy sz) o res := by
  intro K T M L k out a hK hM hfit h
  obtain ⟨u, h1, h2⟩ := hf a _ _ _ _ out (hfit x sx hx) (hfit y sy hy) (hfit z sz hz) h
  exact ⟨u, M, hM, fun _ k => h1 _, h2 _⟩
/-- operations that only reckon, at values without addresses -/
theorem evOp_flat {a : Act} {v : Value} (hp : isP o.op = true) (h : flatP P (evalO a) o = some v) (hm : ∀ x, o.op ≠ .move x) (hs : ∀ x, o.op ≠ .assign x) (he : ∀ x i, o.op ≠ .extract x i) (A : Mem) : evOp Ks P A (evalO a) o = some (v, A) := by
  have hE : evP P (evalO a) o = some v := by unfold evP; rw [h]
  obtain ⟨dst, op, type, pos, after, guard⟩ := o
  cases op
  case move x => exact absurd rfl (hm x)
  case assign x => exact absurd rfl (hs x)
  case extract x i => exact absurd rfl (he x i)
  case call c =>
    obtain ⟨callee, args, argTypes⟩ := c
    cases callee with
    | value f => cases hp
    | invoke r m => simp only [evOp, hE]; rfl
    | builtin b => cases b <;> first | (simp only [evOp, hE]; rfl) | cases hp
  all_goals first | (simp only [evOp, hE]; rfl) | cases hp
theorem flatP_none {e : Operand → Option Value} {x : Operand} {v : Value} (hx : x ∈ o.op.operands) (h : e x = some v) (hf : flat v = false) : flatP P e o = none := by
  unfold flatP
  have : o.op.operands.toList.all (flatO e) = false := by
    rw [List.all_eq_false]
    exact ⟨x, by simpa using hx, by unfold flatO; rw [h]; simp [hf]⟩
  rw [this, Bool.and_false]
  rfl
end
-- numbers
section
variable {α : Type}
theorem asI_some {v : Value} {k : IntKind → Int → Option α} {r : α} (h : asI v k = some r) : ∃ i n, v = .int i n ∧ k i n = some r := by
  cases v <;> first | cases h | exact ⟨_, _, rfl, h⟩
theorem asF_some {v : Value} {k : Nat → Option α} {r : α} (h : asF v k = some r) : ∃ n, v = .float .f64 n ∧ k n = some r := by
  cases v
  case float i n => cases i <;> first | cases h | exact ⟨_, rfl, h⟩
  all_goals cases h
theorem asB_some {v : Value} {k : Bool → Option α} {r : α} (h : asB v k = some r) : ∃ b, v = .bool b ∧ k b = some r := by
  cases v <;> first | cases h | exact ⟨_, rfl, h⟩
theorem wnK_some {b : Bool} {v : Value} {k : Bool → Option α} {r : α} (h : wnK b v k = some r) : ∃ c, ((∃ c', v = .bool c' ∧ c = (c' == b)) ∨ (v = undef ∧ c = false)) ∧ k c = some r := by
  unfold wnK at h
  split at h
  · rename_i c; exact ⟨_, Or.inl ⟨c, rfl, rfl⟩, h⟩
  · exact ⟨false, Or.inr ⟨rfl, rfl⟩, h⟩
  · cases h
theorem wnK_at {b : Bool} {v : Value} {c : Bool} (h : (∃ c', v = .bool c' ∧ c = (c' == b)) ∨ (v = undef ∧ c = false)) (k : Bool → Option α) : wnK b v k = k c := by
  rcases h with ⟨c', rfl, rfl⟩ | ⟨rfl, rfl⟩ <;> rfl
theorem wn_wanted {ops : Array Oper} {o : Oper} {a : Act} {j t : Nat} {b c : Bool} {v : Value} (hg : o.guard = some (j, b)) (ht : (ops[j]?).bind (·.dst) = some t) (hv : a.tmps[t]? = some v) (h : (∃ c', v = .bool c' ∧ c = (c' == b)) ∨ (v = undef ∧ c = false)) : Region.wanted o (yielded ops a.tmps) = c := by
  unfold Region.wanted
  rw [hg]
  simp only [yielded, ht, Option.bind_some, hv]
  rcases h with ⟨c', rfl, rfl⟩ | ⟨rfl, rfl⟩
  · cases c' <;> cases b <;> rfl
  · cases b <;> rfl
theorem ptrK_some {v : Value} {k : Nat → Nat → Option α} {r : α} (h : ptrK v k = some r) : ∃ b o, v = .pointer (some ⟨b, o, none⟩) ∧ k b o = some r := by
  cases v
  case pointer a =>
    cases a with
    | none => cases h
    | some a =>
      obtain ⟨b, o, s⟩ := a
      cases s with
      | none => exact ⟨b, o, rfl, h⟩
      | some s => cases h
  all_goals cases h
theorem eqK_eq (i j : IntKind) : eqK i j = decide (i = j) := by cases i <;> cases j <;> rfl
theorem addZ_eq (a b : Int) (k : Int → α) : addZ a b k = k (a + b) := by
  cases a with
  | ofNat m => cases b with
    | ofNat n => show frcN (Nat.add m n) (fun z => k (Int.ofNat z)) = _; rw [frcN_eq]; rfl
    | negSucc n => show frcZ (Int.add (.ofNat m) (.negSucc n)) k = _; rw [frcZ_eq]; rfl
  | negSucc m => show frcZ (Int.add (.negSucc m) b) k = _; rw [frcZ_eq]; rfl
theorem subZ_eq (a b : Int) (k : Int → α) : subZ a b k = k (a - b) := by
  cases a with
  | ofNat m => cases b with
    | ofNat n =>
      show cond (Nat.ble n m) _ _ = _
      rw [ble_iff]
      by_cases c : n ≤ m
      · rw [decide_eq_true c, cond_true, frcN_eq]
        congr 1
        show ((m - n : Nat) : Int) = (m : Int) - (n : Int)
        omega
      · rw [decide_eq_false c, cond_false, frcN_eq]
        congr 1
        show Int.negSucc (n - m - 1) = (m : Int) - (n : Int)
        rw [Int.negSucc_eq]
        omega
    | negSucc n => show frcZ (Int.sub (.ofNat m) (.negSucc n)) k = _; rw [frcZ_eq]; rfl
  | negSucc m => show frcZ (Int.sub (.negSucc m) b) k = _; rw [frcZ_eq]; rfl
theorem mulZ_eq (a b : Int) (k : Int → α) : mulZ a b k = k (a * b) := by
  cases a with
  | ofNat m => cases b with
    | ofNat n => show frcN (Nat.mul m n) (fun z => k (Int.ofNat z)) = _; rw [frcN_eq]; rfl
    | negSucc n => show frcZ (Int.mul (.ofNat m) (.negSucc n)) k = _; rw [frcZ_eq]; rfl
  | negSucc m => show frcZ (Int.mul (.negSucc m) b) k = _; rw [frcZ_eq]; rfl
theorem wrap_in (i : IntKind) (z : Int) (h1 : i.min ≤ z) (h2 : z ≤ i.max) : i.wrap z = z := by
  cases i <;> simp [IntKind.min, IntKind.max, IntKind.signed, IntKind.bits, IntKind.wrap] at * <;> omega
theorem wrapK_eq (i : IntKind) (z : Int) (k : Int → α) : wrapK i z k = k (i.wrap z) := by
  cases z with
  | ofNat m =>
    have e : ∀ j : IntKind, j.wrap (Int.ofNat m) = j.wrap (m : Int) := fun _ => rfl
    have go : ∀ (b : Nat) (y : α), (i.max = (b : Int)) → (¬ m ≤ b → y = k (i.wrap (m : Int))) → cond (Nat.ble m b) (k (Int.ofNat m)) y = k (i.wrap (m : Int)) := by
      intro b y hb hy
      rw [ble_iff]
      by_cases c : m ≤ b
      · rw [decide_eq_true c, cond_true, wrap_in i m]
        · rfl
        · have : i.min ≤ 0 := by cases i <;> decide
          omega
        · rw [hb]; omega
      · rw [decide_eq_false c, cond_false]; exact hy c
    rw [e]
    cases i
    case i8 => exact go 127 _ (by decide) fun _ => frcZ_eq _ _
    case i16 => exact go 32767 _ (by decide) fun _ => frcZ_eq _ _
    case i32 => exact go 2147483647 _ (by decide) fun _ => frcZ_eq _ _
    case i64 => exact go 9223372036854775807 _ (by decide) fun _ => frcZ_eq _ _
    case u8 => exact go 255 _ (by decide) fun _ => (frcN_eq _ _).trans (by rw [IntKind.wrap_u8]; rfl)
    case u16 => exact go 65535 _ (by decide) fun _ => (frcN_eq _ _).trans (by rw [IntKind.wrap_u16]; rfl)
    case u32 => exact go 4294967295 _ (by decide) fun _ => (frcN_eq _ _).trans (by rw [IntKind.wrap_u32]; rfl)
    case u64 => exact go 18446744073709551615 _ (by decide) fun _ => (frcN_eq _ _).trans (by rw [IntKind.wrap_u64]; rfl)
  | negSucc m =>
    have e : Int.negSucc m = -((m : Int) + 1) := Int.negSucc_eq m
    have go : ∀ (b : Nat), (m < b → i.min ≤ -(b : Int)) → cond (Nat.blt m b) (k (Int.negSucc m)) (frcZ (i.wrap (.negSucc m)) k) = k (i.wrap (.negSucc m)) := by
      intro b hb
      rw [blt_iff]
      by_cases c : m < b
      · rw [decide_eq_true c, cond_true, wrap_in i (.negSucc m)]
        · have := hb c; omega
        · have : 0 ≤ i.max := by cases i <;> decide
          omega
      · rw [decide_eq_false c, cond_false, frcZ_eq]
    cases i
    case i8 => exact go 128 (fun _ => by decide)
    case i16 => exact go 32768 (fun _ => by decide)
    case i32 => exact go 2147483648 (fun _ => by decide)
    case i64 => exact go 9223372036854775808 (fun _ => by decide)
    case u8 => exact go 0 (fun c => by omega)
    case u16 => exact go 0 (fun c => by omega)
    case u32 => exact go 0 (fun c => by omega)
    case u64 => exact go 0 (fun c => by omega)
theorem ltZ_eq (a b : Int) : ltZ a b = decide (a < b) := by
  cases a with
  | ofNat m => cases b with
    | ofNat n => show Nat.blt m n = _; rw [blt_iff]; congr 1; simp
    | negSucc n => show false = _; symm; rw [decide_eq_false_iff_not, Int.negSucc_eq]; show ¬ (m : Int) < _; omega
  | negSucc m => cases b with
    | ofNat n => show true = _; symm; rw [decide_eq_true_iff, Int.negSucc_eq]; show _ < (n : Int); omega
    | negSucc n => show Nat.blt n m = _; rw [blt_iff]; congr 1; rw [Int.negSucc_eq, Int.negSucc_eq, eq_iff_iff]; omega
theorem leZ_eq (a b : Int) : leZ a b = decide (a ≤ b) := by
  cases a with
  | ofNat m => cases b with
    | ofNat n => show Nat.ble m n = _; rw [ble_iff]; congr 1; simp
    | negSucc n => show false = _; symm; rw [decide_eq_false_iff_not, Int.negSucc_eq]; show ¬ (m : Int) ≤ _; omega
  | negSucc m => cases b with
    | ofNat n => show true = _; symm; rw [decide_eq_true_iff, Int.negSucc_eq]; show _ ≤ (n : Int); omega
    | negSucc n => show Nat.ble n m = _; rw [ble_iff]; congr 1; rw [Int.negSucc_eq, Int.negSucc_eq, eq_iff_iff]; omega
theorem eqZ_eq (a b : Int) : eqZ a b = (a == b) := by
  have hb : ∀ m n : Nat, Nat.beq m n = decide (m = n) := fun m n => by
    by_cases c : m = n
    · subst c; rw [Nat.beq_refl]; simp
    · rw [decide_eq_false c]; exact Bool.eq_false_iff.2 fun q => c (Nat.eq_of_beq_eq_true q)
  rw [show (a == b) = decide (a = b) from rfl]
  cases a with
  | ofNat m => cases b with
    | ofNat n => show Nat.beq m n = _; rw [hb]; congr 1; rw [eq_iff_iff]; show m = n ↔ (m : Int) = (n : Int); omega
    | negSucc n => show false = _; symm; rw [decide_eq_false_iff_not]; intro q; cases q
  | negSucc m => cases b with
    | ofNat n => show false = _; symm; rw [decide_eq_false_iff_not]; intro q; cases q
    | negSucc n => show Nat.beq m n = _; rw [hb]; congr 1; simp
end
end Go.Proofs.YtgaigfmboomnkaaGreat
