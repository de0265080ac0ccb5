/-
  OWN TEXT: an evaluator made for the kernel: operations on numbers, addresses, lists, each going on from what is written out.
-/
import Derived.Test.YtgaigfmboomnkaaGreatXwA
namespace Go.Proofs.YtgaigfmboomnkaaGreat
open Go.RowKit
set_option linter.unusedVariables false
set_option linter.unusedSimpArgs false
section
variable {α : Type}
noncomputable def asI (v : Value) (k : IntKind → Int → Option α) : Option α := Value.casesOn v (fun _ => none) (fun i n => k i n) (fun _ _ => none) (fun _ _ _ => none) (fun _ => none) (fun _ => none) (fun _ _ _ => none) (fun _ => none) (fun _ => none) (fun _ _ _ => none) none (fun _ _ => none) none (fun _ => none) (fun _ => none)
noncomputable def asF (v : Value) (k : Nat → Option α) : Option α := Value.casesOn v (fun _ => none) (fun _ _ => none) (fun i n => FloatKind.casesOn i none (k n)) (fun _ _ _ => none) (fun _ => none) (fun _ => none) (fun _ _ _ => none) (fun _ => none) (fun _ => none) (fun _ _ _ => none) none (fun _ _ => none) none (fun _ => none) (fun _ => none)
noncomputable def asC (v : Value) (k : Nat → Nat → Option α) : Option α := match v with | .complex .f64 n m => k n m | _ => none
def ikN (i : IntKind) : Nat := IntKind.casesOn i 0 1 2 3 4 5 6 7
def eqK (i j : IntKind) : Bool := Nat.beq (ikN i) (ikN j)
noncomputable def addZ (a b : Int) (k : Int → α) : α := Int.casesOn a (fun m => Int.casesOn b (fun n => frcN (Nat.add m n) fun z => k (.ofNat z)) (fun n => frcZ (Int.add (.ofNat m) (.negSucc n)) k)) (fun m => frcZ (Int.add (.negSucc m) b) k)
noncomputable def subZ (a b : Int) (k : Int → α) : α := Int.casesOn a (fun m => Int.casesOn b (fun n => bif Nat.ble n m then frcN (Nat.sub m n) fun z => k (.ofNat z) else frcN (Nat.sub (Nat.sub n m) 1) fun z => k (.negSucc z)) (fun n => frcZ (Int.sub (.ofNat m) (.negSucc n)) k)) (fun m => frcZ (Int.sub (.negSucc m) b) k)
noncomputable def mulZ (a b : Int) (k : Int → α) : α := Int.casesOn a (fun m => Int.casesOn b (fun n => frcN (Nat.mul m n) fun z => k (.ofNat z)) (fun n => frcZ (Int.mul (.ofNat m) (.negSucc n)) k)) (fun m => frcZ (Int.mul (.negSucc m) b) k)
/-- wrapped to a kind -/
noncomputable def wrapK (i : IntKind) (z : Int) (k : Int → α) : α :=
  Int.casesOn z
    (fun m => bif Nat.ble m (IntKind.casesOn i 127 32767 2147483647 9223372036854775807 255 65535 4294967295 18446744073709551615) then k (.ofNat m)
      else IntKind.casesOn i (frcZ (IntKind.i8.wrap (.ofNat m)) k) (frcZ (IntKind.i16.wrap (.ofNat m)) k) (frcZ (IntKind.i32.wrap (.ofNat m)) k) (frcZ (IntKind.i64.wrap (.ofNat m)) k) (frcN (Nat.mod m 256) fun r => k (.ofNat r)) (frcN (Nat.mod m 65536) fun r => k (.ofNat r)) (frcN (Nat.mod m 4294967296) fun r => k (.ofNat r)) (frcN (Nat.mod m 18446744073709551616) fun r => k (.ofNat r)))
    (fun m => bif Nat.blt m (IntKind.casesOn i 128 32768 2147483648 9223372036854775808 0 0 0 0) then k (.negSucc m) else frcZ (i.wrap (.negSucc m)) k)
def ltZ (a b : Int) : Bool := Int.casesOn a (fun m => Int.casesOn b (fun n => Nat.blt m n) (fun _ => false)) (fun m => Int.casesOn b (fun _ => true) (fun n => Nat.blt n m))
def leZ (a b : Int) : Bool := Int.casesOn a (fun m => Int.casesOn b (fun n => Nat.ble m n) (fun _ => false)) (fun m => Int.casesOn b (fun _ => true) (fun n => Nat.ble n m))
def eqZ (a b : Int) : Bool := Int.casesOn a (fun m => Int.casesOn b (fun n => Nat.beq m n) (fun _ => false)) (fun m => Int.casesOn b (fun _ => false) (fun n => Nat.beq m n))
noncomputable def iOp (f : Int → Int → (Int → Option α) → Option α) (x y : Value) (c : Value → Option α) : Option α := asI x fun i a => asI y fun j b => Bool.rec (motive := fun _ => Option α) none (f a b fun z => wrapK i z fun z => c (.int i z)) (eqK i j)
noncomputable def iCmp (f : Int → Int → Bool) (x y : Value) (c : Value → Option α) : Option α := asI x fun i a => asI y fun j b => Bool.rec (motive := fun _ => Option α) none (frcB (f a b) fun t => c (.bool t)) (eqK i j)
noncomputable def fOp (f : Nat → Nat → Option Nat) (x y : Value) (c : Value → Option α) : Option α := asF x fun a => asF y fun b => Option.rec (motive := fun _ => Option α) none (fun r => frcN r fun r => c (.float .f64 r)) (f a b)
noncomputable def fCmp (f : Nat → Nat → Bool) (x y : Value) (c : Value → Option α) : Option α := asF x fun a => asF y fun b => frcB (f a b) fun t => c (.bool t)
/-- of two whole numbers without signs, 64 bits -/
noncomputable def uOp (f : Nat → Nat → Nat) (x y : Value) (c : Value → Option α) : Option α := match x with
  | .int .u64 a => Int.casesOn a (fun m => asI y fun j b => Int.casesOn b (fun n => bif eqK j .u64 && Nat.ble m 18446744073709551615 && Nat.ble n 18446744073709551615 then frcN (f m n) fun z => c (.int .u64 (.ofNat z)) else none) (fun _ => none)) (fun _ => none)
  | _ => none
noncomputable def shlU (x y : Value) (c : Value → Option α) : Option α := match x with
  | .int .u64 a => Int.casesOn a (fun m => asI y fun j b => Int.casesOn b (fun n => bif Nat.ble n 64 then frcN (Nat.mod (Nat.mul m (Nat.pow 2 n)) 18446744073709551616) fun z => c (.int .u64 (.ofNat z)) else c (.int .u64 (.ofNat 0))) (fun _ => none)) (fun _ => none)
  | _ => none
noncomputable def shrU (x y : Value) (c : Value → Option α) : Option α := asI x fun i a => bif eqK i .u64 then Int.casesOn a (fun m => asI y fun j b => Int.casesOn b (fun n => bif Nat.ble n 64 then frcN (Nat.div m (Nat.pow 2 n)) fun z => c (.int i (.ofNat z)) else none) (fun _ => none)) (fun _ => none) else none
noncomputable def notK (x : Value) (c : Value → Option α) : Option α := match x with | .bool b => frcB (!b) fun t => c (.bool t) | _ => none
noncomputable def convI (k : IntKind) (x : Value) (c : Value → Option α) : Option α := asI x fun _ n => wrapK k n fun z => c (.int k z)
noncomputable def reK (x : Value) (c : Value → Option α) : Option α := asC x fun n _ => c (.float .f64 n)
noncomputable def imK (x : Value) (c : Value → Option α) : Option α := asC x fun _ n => c (.float .f64 n)
noncomputable def cxK (x y : Value) (c : Value → Option α) : Option α := asF x fun n => asF y fun m => c (.complex .f64 n m)
noncomputable def lenK (x : Value) (c : Value → Option α) : Option α := match x with | .slice _ n _ => c (.int .i64 (.ofNat n)) | _ => none
noncomputable def fldK (off : Nat) (x : Value) (c : Value → Option α) : Option α := ptrK x fun b o => frcN (Nat.add o off) fun o => c (.pointer (some ⟨b, o, none⟩))
noncomputable def idxK (sz : Nat) (x y : Value) (c : Value → Option α) : Option α := match x with
  | .slice (some a) len _ => asI y fun _ i => Int.casesOn i (fun m => bif Nat.blt m len then frcN (Nat.add a.off (Nat.mul m sz)) fun o => c (.pointer (some ⟨a.block, o, none⟩)) else none) (fun _ => none)
  | _ => none
noncomputable def idxA (len sz : Nat) (x y : Value) (c : Value → Option α) : Option α := ptrK x fun b o => asI y fun _ i => Int.casesOn i (fun m => bif Nat.blt m len then frcN (Nat.add o (Nat.mul m sz)) fun o => c (.pointer (some ⟨b, o, none⟩)) else none) (fun _ => none)
noncomputable def extK (i : Nat) (x : Value) (c : Value → Option α) : Option α := match x with | .tuple ⟨l⟩ => nthK l i c | _ => none
noncomputable def pickK (x y z : Value) (c : Value → Option α) : Option α := match x with | .bool t => bif flat y && flat z then bif t then c y else c z else none | _ => none
noncomputable def boxK (el : TypeId) (id : Nat) (vs : List Value) (k : Value → Blk → Option α) : Option α := match vs with | [v] => cellsK v fun l => k (.pointer (some ⟨id, 0, none⟩)) ⟨l, el⟩ | _ => none
noncomputable def newK (el : TypeId) (l : List Value) (id : Nat) (vs : List Value) (k : Value → Blk → Option α) : Option α := k (.pointer (some ⟨id, 0, none⟩)) ⟨l, el⟩
end
/-- operands, by their temporaries' values -/
def evalL (l : List (Nat × Value)) : Operand → Option Value
  | .tmp t => tvT l t
  | .const v => if flat v then some v else none
  | .func f => some (.func (.func f) #[] #[])
  | .global g => (roIx g roTab 0).map fun i => .pointer (some ⟨i, 0, none⟩)
where
  tvT : List (Nat × Value) → Nat → Option Value
    | [], _ => none
    | x :: l, t => bif Nat.beq x.1 t then some x.2 else tvT l t
def tmpsOf : List Operand → List Nat
  | [] => []
  | .tmp t :: l => t :: tmpsOf l
  | _ :: l => tmpsOf l
noncomputable def genP (P : Program) (o : Oper) (vs : List Value) (c : Value → Out) : Out := match evP P (evalL ((tmpsOf o.op.operands.toList).zip vs)) o with | some v => frc v c | none => none
noncomputable def genF (P : Program) (o : Oper) (vs : List Value) (c : Value → Out) : Out := match flatP P (evalL ((tmpsOf o.op.operands.toList).zip vs)) o with | some v => frc v c | none => none
noncomputable def genN (P : Program) (o : Oper) (id : Nat) (vs : List Value) (k : Value → Blk → Out) : Out := match evN P id (evalL ((tmpsOf o.op.operands.toList).zip vs)) o with | some (v, b) => frc v fun v => frcK b fun b => k v b | none => none
/-- memory, as a function -/
abbrev Gt := Nat → Option (Option Blk)
noncomputable def getM (M : Me) (b : Nat) : Option (Option Blk) := bif Nat.blt b M.n then some (getB M b) else none
def partsG (A : Gt) (size n : Nat) : Value → Option (List Value)
  | .slice none _ _ => if n = 0 then some [] else none
  | .slice (some ⟨b, off, _⟩) _ _ => match A b with | some (some blk) => if off + n * size ≤ blk.cells.length then some ((blk.cells.drop off).take (n * size)) else none | _ => none
  | _ => none
def growG (P : Program) (A : Gt) (top : Nat) (i : TypeInfo) (z : Value) (el : TypeId) (a : Option Addr) (len cap n : Nat) (news : List Value) : Option (Value × Dl) :=
  if z.cells.size = i.size ∧ (len + n) * i.bytes ≤ 140737488355328 ∧ len + n ≤ 9223372036854775807 ∧ i.size ≠ 0 ∧ cap < len + n ∧ szOf P el = i.size then
    match partsG A i.size len (.slice a len cap) with
    | some olds =>
      match a with
      | none | some ⟨_, _, none⟩ => some (.slice (some ⟨top, 0, some 0⟩) (len + n) (len + n), .push ⟨olds ++ news, el⟩)
      | some ⟨b, off, some _⟩ =>
        match A b with
        | some (some blk) => if off = 0 ∧ blk.elem = el ∧ cap * i.size ≤ blk.cells.length ∧ len ≤ cap then some (.slice (some ⟨top, 0, some 0⟩) (len + n) (len + n), .turn b ⟨olds ++ news, el⟩) else none
        | _ => none
    | none => none
  else none
def zeroG (P : Program) (A : Gt) (el : TypeId) (b off : Nat) (sp : Option Nat) (len cap n : Nat) : Option (Value × Dl) :=
  match P.info? el with
  | some i => match i.zero with
    | some z => match z.cells.toList with
      | [z0] => match A b with
        | some (some blk) => if i.size = 1 ∧ flat1 z0 = true ∧ n * i.bytes ≤ 140737488355328 ∧ n ≤ 9223372036854775807 ∧ len + n ≤ cap ∧ off + len + n ≤ blk.cells.length then some (.slice (some ⟨b, off, sp⟩) (len + n) cap, .set b ⟨blk.cells.take (off + len) ++ List.replicate n z0 ++ blk.cells.drop (off + len + n), blk.elem⟩) else none
        | _ => none
      | _ => none
    | none => none
  | none => none
def appendG (P : Program) (A : Gt) (top : Nat) (e : Operand → Option Value) (o : Oper) : Option (Value × Dl) :=
  match o.op with
  | .call c =>
    match c.callee, c.args.toList, c.argTypes.toList with
    | .builtin .append, [s, x], [t, tx] =>
      match e s, e x, P.underlying t, P.underlying tx with
      | some (.slice a len cap), some (.slice xa n xc), some (.slice el), some (.slice _) =>
        match P.info? el with
        | some i => match i.zero with
          | some z =>
            match partsG A i.size n (.slice xa n xc) with
            | some news =>
              if len + n ≤ cap then
                match a with
                | none => if n = 0 then some (.slice none len cap, .same) else none
                | some ⟨b, off, sp⟩ =>
                  match A b with
                  | some (some blk) => if off + len * i.size + news.length ≤ blk.cells.length then some (.slice (some ⟨b, off, sp⟩) (len + n) cap, .set b ⟨blk.cells.take (off + len * i.size) ++ news ++ blk.cells.drop (off + len * i.size + news.length), blk.elem⟩) else none
                  | _ => none
              else growG P A top i z el a len cap n news
            | none => none
          | none => none
        | none => none
      | some (.slice (some ⟨b, off, sp⟩) len cap), some (.int _ (.ofNat n)), some (.slice el), some (.int _) => zeroG P A el b off sp len cap n
      | _, _, _, _ => none
    | _, _, _ => none
  | _ => none
def copyG (P : Program) (A : Gt) (e : Operand → Option Value) (o : Oper) : Option (Value × Dl) :=
  match o.op with
  | .call c =>
    match c.callee, c.args.toList, c.argTypes.toList with
    | .builtin .copy, [d, s], [dT, sT] =>
      match e d, e s, P.underlying dT with
      | some (.slice (some ⟨b, off, _⟩) dl _), some (.slice a sl sc), some (.slice el) =>
        match A b, partsG A (szOf P el) (Nat.min sl dl) (.slice a sl sc) with
        | some (some blk), some l => if szOf P el ≠ 0 ∧ off + l.length ≤ blk.cells.length then some (.int .i64 (Nat.min sl dl : Nat), .set b ⟨blk.cells.take off ++ l ++ blk.cells.drop (off + l.length), blk.elem⟩) else none
        | _, _ => none
      | _, _, _ => none
    | _, _, _ => none
  | _ => none
noncomputable def dlM (d : Dl) (M : Me) (k : Me → Out) : Out := match d with
  | .same => k M
  | .push b => frcK b fun b => pushM M b fun M => k M
  | .set i b => frcK b fun b => bif Nat.blt i M.n then setM M i (some b) k else none
  | .turn i b => frcK b fun b => bif Nat.blt i M.n then setM M i none fun M => pushM M b fun M => k M else none
  | .whole _ => none
noncomputable def genA (P : Program) (o : Oper) (M : Me) (vs : List Value) (k : Value → Me → Out) : Out := match appendG P (getM M) M.n (evalL ((tmpsOf o.op.operands.toList).zip vs)) o with | some (v, d) => frc v fun v => dlM d M fun M => k v M | none => none
noncomputable def genC (P : Program) (o : Oper) (M : Me) (vs : List Value) (k : Value → Me → Out) : Out := match copyG P (getM M) (evalL ((tmpsOf o.op.operands.toList).zip vs)) o with | some (v, d) => frc v fun v => dlM d M fun M => k v M | none => none
end Go.Proofs.YtgaigfmboomnkaaGreat
