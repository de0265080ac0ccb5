/-
  OWN TEXT: an evaluator made for the kernel: code made ready.
-/
import Derived.Test.YtgaigfmboomnkaaGreatXwB
namespace Go.Proofs.YtgaigfmboomnkaaGreat
open Go.RowKit
set_option linter.unusedVariables false
set_option linter.unusedSimpArgs false
/-- where a value is, counted from the region's beginning -/
inductive Sa where
  | t (p : Nat)
  | s (n : Nat)
  | c (v : Value)
noncomputable def Sa.rel {γ : Type} (n : Nat) (x : Sa) : (Sc → Option γ) → Option γ := Sa.casesOn x (fun p k => mkS p k) (fun m k => frcN (Nat.sub n (Nat.succ m)) fun m => k fun _ L => L m) (fun v k => k fun _ _ => v)
/-- a temporary's place among the kept ones -/
def slotF (t : Nat) : List Nat → Nat → Option Nat
  | [], _ => none
  | x :: l, n => bif Nat.beq x t then some n else slotF t l (Nat.succ n)
abbrev Env := List (Nat × Sa)
def look : Env → Nat → Option Sa
  | [], _ => none
  | x :: l, t => bif Nat.beq x.1 t then some x.2 else look l t
def resA (kp : List Nat) (env : Env) : Operand → Option Sa
  | .tmp t => match look env t with | some s => some s | none => match slotF t kp 0 with | some n => some (.t n) | none => none
  | .const v => if flat v then some (.c v) else none
  | .func f => some (.c (.func (.func f) #[] #[]))
  | .global g => (roIx g roTab 0).map fun i => .c (.pointer (some ⟨i, 0, none⟩))
abbrev Rs := Operand → Option Sc
def resT (res : Rs) : List Nat → Option (List Sc)
  | [] => some []
  | t :: l => match res (.tmp t), resT res l with | some x, some xs => some (x :: xs) | _, _ => none
def resO2 (res : Rs) : List Operand → Option (List Sc)
  | [] => some []
  | t :: l => match res t, resO2 res l with | some x, some xs => some (x :: xs) | _, _ => none
noncomputable def mk1 (res : Rs) (x : Operand) (k : Sc → XO) : Option XO := match res x with | some x => some (k x) | none => none
noncomputable def mk2 (res : Rs) (x y : Operand) (k : Sc → Sc → XO) : Option XO := match res x, res y with | some x, some y => some (k x y) | _, _ => none
noncomputable def mk3 (res : Rs) (x y z : Operand) (k : Sc → Sc → Sc → XO) : Option XO := match res x, res y, res z with | some x, some y, some z => some (k x y z) | _, _, _ => none
noncomputable def mkL (res : Rs) (o : Oper) (k : List Sc → XO) : Option XO := match resT res (tmpsOf o.op.operands.toList) with | some xs => some (k xs) | none => none
noncomputable def binI (op : BinOp) : Option (Value → Value → (Value → Out) → Out) := match op with
  | .add => some (iOp addZ) | .sub => some (iOp subZ) | .mul => some (iOp mulZ)
  | .eql => some (iCmp eqZ) | .neq => some (iCmp fun a b => !eqZ a b) | .lss => some (iCmp ltZ) | .leq => some (iCmp leZ) | .gtr => some (iCmp fun a b => ltZ b a) | .geq => some (iCmp fun a b => leZ b a)
  | _ => none
noncomputable def binU (op : BinOp) : Option (Value → Value → (Value → Out) → Out) := match op with
  | .and => some (uOp Nat.land) | .or => some (uOp Nat.lor) | .xor => some (uOp Nat.xor) | .andNot => some (uOp fun m n => Nat.land m (Nat.sub 18446744073709551615 n))
  | .shl => some shlU | .shr => some shrU
  | _ => none
noncomputable def binF (op : BinOp) : Option (Value → Value → (Value → Out) → Out) := match op with
  | .add => some (fOp addR) | .sub => some (fOp subR) | .mul => some (fOp mulR) | .quo => some (fOp FloatKind.f64.format.div)
  | .eql => some (fCmp Fl.eqF) | .neq => some (fCmp fun a b => !Fl.eqF a b) | .lss => some (fCmp Fl.ltF) | .leq => some (fCmp Fl.leF) | .gtr => some (fCmp fun a b => Fl.ltF b a) | .geq => some (fCmp fun a b => Fl.leF b a)
  | _ => none
noncomputable def binX (P : Program) (op : BinOp) (t : TypeId) : Option (Value → Value → (Value → Out) → Out) := match P.underlying t with
  | some (.int .u64) => match binI op with | some f => some f | none => binU op
  | some (.int _) => binI op
  | some (.float .f64) => binF op
  | _ => none
def isSliceT (P : Program) (t : TypeId) : Bool := match P.underlying t with | some (.slice _) => true | _ => false
/-- functions without a body, as they answer -/
abbrev Xn := FuncId → Option (List Value → (Value → Out) → Out)
abbrev Tr := Program → Xn → Rs → Oper → Option XO
noncomputable def trGen : Tr := fun P _ res o => mkL res o (xPn (genP P o))
noncomputable def trBin (op : BinOp) (t : TypeId) (x y : Operand) : Tr := fun P _ res o => match binX P op t with | some f => mk2 res x y (xP2 f) | none => mkL res o (xPn (genP P o))
noncomputable def trPick (c a b : Operand) : Tr := fun _ _ res _ => mk3 res c a b (xP3 pickK)
noncomputable def trUn (op : UnOp) (x : Operand) : Tr := fun P _ res o => UnOp.casesOn op (mkL res o (xPn (genP P o))) (mkL res o (xPn (genP P o))) (mk1 res x (xP1 notK)) (mkL res o (xPn (genP P o)))
noncomputable def trConv (s d : TypeId) (x : Operand) : Tr := fun P _ res o => match P.underlying s, P.underlying d with
    | some (.int _), some (.int k) => frcI k fun k => mk1 res x (xP1 (convI k))
    | _, _ => mkL res o (xPn (genP P o))
noncomputable def trLoad (t : TypeId) (x : Operand) : Tr := fun P _ res _ => match P.underlying t with
    | some d => bif d.isRow then (match P.info? t with | some i => frcN i.size fun n => mk1 res x (xLd n true) | none => none) else mk1 res x (xLd 0 false)
    | none => none
noncomputable def trStore (t : TypeId) (x y : Operand) : Tr := fun P _ res _ => match P.info? t with | some i => frcN i.size fun n => mk2 res x y (xSt n) | none => none
noncomputable def trAlloc (el : TypeId) : Tr := fun P _ res _ => match P.info? el with
    | some i => match i.zero with
      | some z => if z.cells.toList.all flat1 then frcL z.cells.toList fun l => some (xNw (newK el l) []) else none
      | none => none
    | none => none
noncomputable def trBox (el : TypeId) (x : Operand) : Tr := fun _ _ res _ => mk1 res x fun x => xNw (boxK el) [x]
noncomputable def trNew : Tr := fun P _ res o => mkL res o (xNw (genN P o))
noncomputable def trExt (x : Operand) (i : Nat) : Tr := fun _ _ res _ => mk1 res x (xP1 (extK i))
noncomputable def trFld (s : TypeId) (x : Operand) (f : Nat) : Tr := fun P _ res _ => match P.underlying s with
    | some (.struct fields) => match nth fields.toList f with
      | some fl => if szOf P fl.type ≠ 0 then frcN fl.offset fun n => mk1 res x (xP1 (fldK n)) else none
      | none => none
    | _ => none
noncomputable def trIdx (t : TypeId) (x ix : Operand) : Tr := fun P _ res _ => match P.underlying t with
    | some (.slice el) => if szOf P el ≠ 0 then frcN (szOf P el) fun n => mk2 res x ix (xP2 (idxK n)) else none
    | some (.array len el) => if szOf P el ≠ 0 then frcN (szOf P el) fun n => frcN len fun m => mk2 res x ix (xP2 (idxA m n)) else none
    | _ => none
noncomputable def trCallF (f : FuncId) (args : List Operand) : Tr := fun P ex res o => match nth P.funcs.toList f with
      | some fn => bif Nat.beq f panF then none else bif fn.body.isSome then (match resO2 res args with | some xs => some (xCl f xs) | none => none) else (match ex f with | some g => (match resO2 res args with | some xs => some (xPn g xs) | none => none) | none => mkL res o (xPn (genF P o)))
      | none => none
noncomputable def trCallV (f : Operand) (args : List Operand) : Tr := fun P ex res o => match res f, resO2 res args with | some x, some xs => some (xCv x xs) | _, _ => none
noncomputable def trPan (x : Operand) : Tr := fun _ _ res _ => mk1 res x xPan
noncomputable def trVal (f : Operand) : List Operand → Tr := match f with
  | .func f => trCallF f
  | f => trCallV f
noncomputable def trBu (b : Builtin) : List Operand → List TypeId → Tr := match b with
  | .append => fun _ _ P _ res o => mkL res o (xMm (genA P o))
  | .copy => fun _ _ P _ res o => mkL res o (xMm (genC P o))
  | .len => fun xs ts P _ res o => match xs, ts with
      | [x], [t] => bif isSliceT P t then mk1 res x (xP1 lenK) else mkL res o (xPn (genP P o))
      | _, _ => none
  | .real => fun xs _ _ _ res _ => match xs with | [x] => mk1 res x (xP1 reK) | _ => none
  | .imag => fun xs _ _ _ res _ => match xs with | [x] => mk1 res x (xP1 imK) | _ => none
  | .complex => fun xs _ _ _ res _ => match xs with | [x, y] => mk2 res x y (xP2 cxK) | _ => none
  | _ => fun _ _ => trGen
noncomputable def trCe (c : Callee) : List Operand → List TypeId → Tr := match c with
  | .value f => fun xs _ => trVal f xs
  | .builtin b => trBu b
  | _ => fun _ _ => trGen
noncomputable def trCall (c : Call) : Tr := match c with | ⟨callee, args, ts⟩ => trCe callee args.toList ts.toList
noncomputable def trD (op : Op) : Tr := match op with
  | .binOp op t x y _ => trBin op t x y
  | .pick c a b => trPick c a b
  | .unOp op _ x => trUn op x
  | .convert s d x => trConv s d x
  | .load t x => trLoad t x
  | .store t x y => trStore t x y
  | .alloc el => trAlloc el
  | .box el x => trBox el x
  | .makeSlice _ _ _ => trNew
  | .buildSlice _ _ _ => trNew
  | .extract x i => trExt x i
  | .fieldAddr s x f => trFld s x f
  | .indexAddr t x ix => trIdx t x ix
  | .call c => trCall c
  | .panic x => trPan x
  | _ => trGen
/-- an operation, made ready -/
noncomputable def trOp (P : Program) (ex : Xn) (res : Rs) (o : Oper) : Option XO := trD o.op P ex res o
/-- moves that need nothing but a name -/
def mvO : Op → Option Operand
  | .move x | .assign x => some x
  | _ => none
noncomputable def relO (kp : List Nat) (env : Env) (n : Nat) (x : Operand) : Option Sc := match resA kp env x with | some s => s.rel n some | none => none
def addE (nt : Nat) (d : Option Tmp) (s : Sa) (env : Env) : Option Env := match d with | some d => (bif Nat.blt d nt then some ((d, s) :: env) else none) | none => some env
/-- a row of operations, one behind the other -/
noncomputable def trSeq (P : Program) (ex : Xn) (kp : List Nat) (nt : Nat) (ops : Array Oper) : List Oper → Env → Nat → Option (XR × Env × Nat)
  | [], env, n => some (xEnd, env, n)
  | o :: rest, env, n =>
    match o.guard with
    | none =>
      match mvO o.op with
      | some x => match resA kp env x with
        | some s => match addE nt o.dst s env with
          | some env => trSeq P ex kp nt ops rest env n
          | none => none
        | none => none
      | none => match trOp P ex (relO kp env n) o, addE nt o.dst (.s n) env with
        | some x, some env => frcN (Nat.succ n) fun m => match trSeq P ex kp nt ops rest env m with
          | some (l, r) => some (xThen x l, r)
          | none => none
        | _, _ => none
    | some (j, b) =>
      match (match mvO o.op with | some x => mk1 (relO kp env n) x (xP1 fun v k => k v) | none => trOp P ex (relO kp env n) o), (ops[j]?).bind (·.dst), addE nt o.dst (.s n) env with
      | some x, some t, some env' => match relO kp env n (.tmp t) with
        | some y => frcN (Nat.succ n) fun m => match trSeq P ex kp nt ops rest env' m with
          | some (l, r) => some (xThen (xGd y b x) l, r)
          | none => none
        | none => none
      | _, _, _ => none
def memN (l : List Nat) (t : Nat) : Bool := match l with | [] => false | x :: l => bif Nat.beq x t then true else memN l t
noncomputable def allR {α : Type} (l : List α) (f : α → Bool) : Bool := List.rec (motive := fun _ => Bool) true (fun x _ ih => Bool.rec (motive := fun _ => Bool) false ih (f x)) l
/-- is the bit set? -/
def tb (m i : Nat) : Bool := Nat.beq (Nat.mod (Nat.div m (Nat.pow 2 i)) 2) 1
noncomputable def getN (bl : List Nat) (i : Nat) : Nat := match nth bl i with | some m => m | none => 0
noncomputable def edM (bl : List Nat) (l : List Edge) : Nat := List.rec (motive := fun _ => Nat) 0 (fun e _ ih => Bool.rec (motive := fun _ => Nat) ih (Nat.lor (Nat.lor (Nat.pow 2 e.on) (getN bl e.on)) ih) (Region.binds .any e)) l
/-- hints: what each operation is behind (as bits); new blocks told ahead; what comes first (it reckons, reads, or is told); the others in order, and what is looked at again behind each -/
structure Hint where
  bl : List Nat
  td : List Nat
  i1 : List Nat
  it : List (Nat × List Nat)
noncomputable def opAt (ops : Array Oper) (i : Nat) : Option Oper := nth ops.toList i
noncomputable def chkB (ops : Array Oper) (bl : List Nat) (ix : List Nat) : Bool := allR ix fun i => match opAt ops i with | some o => Nat.beq (getN bl i) (edM bl o.after.toList) && Nat.blt (getN bl i) (Nat.pow 2 ops.size) | none => false
noncomputable def chkA (ops : Array Oper) (bl : List Nat) (ix : List Nat) : Bool := allR ix fun j => allR ix fun i => bif Nat.ble j i then true else bif tb (getN bl j) i then true else bif tb (getN bl i) j then true else match opAt ops i, opAt ops j with | some x, some y => x.apart ops y | _, _ => false
noncomputable def chkR (ops : Array Oper) (bl : List Nat) (ix : List Nat) : Bool := allR ix fun w => match opAt ops w with
  | some o => bif isR o.op then (match o.dst with
      | some d => !(o.looksAt ops).contains d && allR ix fun i => bif Nat.beq i w then true else bif tb (getN bl w) i then true else match opAt ops i with
        | some p => (match p.dst with | some e => !(o.looksAt ops).contains e && o.dst != some e | none => true)
        | none => true
      | none => false) else true
  | none => true
/-- is it one that neither reads nor writes, or is told? -/
noncomputable def lightI (ops : Array Oper) (td : List Nat) (i : Nat) (o : Oper) : Bool := isP o.op || memN td i
/-- the order: S what came up already (as bits), Rs what was read -/
noncomputable def chkO (ops : Array Oper) (bl td ix : List Nat) (l : List (Nat × List Nat)) : Nat → List Nat → Bool :=
  List.rec (motive := fun _ => Nat → List Nat → Bool) (fun S _ => allR ix fun j => tb S j)
    (fun x _ ih S Rs => match opAt ops x.1 with
      | some o => bif tb S x.1 then false else bif allR ix (fun j => bif tb (getN bl x.1) j then tb S j else true) then
          bif lightI ops td x.1 o then ih (Nat.lor S (Nat.pow 2 x.1)) Rs
          else bif isR o.op then ih (Nat.lor S (Nat.pow 2 x.1)) (x.1 :: Rs)
          else bif allR ix (fun j => bif tb S j then true else bif Nat.beq j x.1 then true else tb (getN bl j) x.1) && allR Rs (fun w => bif tb (getN bl x.1) w then true else memN x.2 w) then ih (Nat.lor S (Nat.pow 2 x.1)) Rs
          else false
        else false
      | none => false) l
def eqNL : List Nat → List Nat → Bool
  | [], [] => true
  | x :: l, y :: m => bif Nat.beq x y then eqNL l m else false
  | _, _ => false
/-- what may come first: it reckons, reads, or is a new block that is told -/
noncomputable def okI (ops : Array Oper) (td : List Nat) (i : Nat) : Bool := match opAt ops i with | some o => (bif memN td i then isN o.op && o.guard.isNone else isP o.op || isR o.op) | none => false
noncomputable def itAll (h : Hint) : List (Nat × List Nat) := h.i1.map (fun i => (i, ([] : List Nat))) ++ h.it
noncomputable def chkD (ops : Array Oper) (nt : Nat) (ix : List Nat) : Bool := allR ix fun i => match opAt ops i with | some o => (match o.dst with | some d => Nat.blt d nt | none => true) | none => true
noncomputable def drawB (ops : Array Oper) (nt : Nat) (h : Hint) (ix : List Nat) : Bool :=
  Nat.beq (itAll h).length ops.size && chkD ops nt ix && allR h.it (fun x => !memN h.td x.1) &&
  chkB ops h.bl ix && chkA ops h.bl ix && chkR ops h.bl ix && allR h.i1 (okI ops h.td) && allR h.td (memN h.i1) && chkO ops h.bl h.td ix (itAll h) 0 []
noncomputable def xApp (r q : XR) : XR := fun K T M L k => r K T M L fun M L => q K T M L k
noncomputable def opsAt (ops : Array Oper) : List Nat → Option (List Oper)
  | [] => some []
  | i :: l => match opAt ops i, opsAt ops l with | some o, some m => some (o :: m) | _, _ => none
/-- what was read, looked at again -/
noncomputable def trCk (P : Program) (kp : List Nat) (ops : Array Oper) (env : Env) (n : Nat) (o : Oper) : Option XO :=
  match o.op, o.dst with
  | .load t x, some d => match P.underlying t, relO kp env n x, relO kp env n (.tmp d) with
    | some D, some sx, some sy => (match (bif D.isRow then (P.info? t).map (·.size) else some 0) with
      | some z => frcN z fun z => match o.guard with
        | none => some (xCk z D.isRow sx sy)
        | some (j, b) => match (ops[j]?).bind (·.dst) with
          | some u => (match relO kp env n (.tmp u) with | some y => some (xGd y b (xCk z D.isRow sx sy)) | none => none)
          | none => none
      | none => none)
    | _, _, _ => none
  | _, _ => none
noncomputable def trCks (P : Program) (kp : List Nat) (ops : Array Oper) (env : Env) : List Oper → Nat → Option (XR × Nat)
  | [], n => some (xEnd, n)
  | o :: l, n => match trCk P kp ops env n o with
    | some x => frcN (Nat.succ n) fun m => match trCks P kp ops env l m with
      | some (r, q) => some (xThen x r, q)
      | none => none
    | none => none
/-- a row of operations in an order that was looked at -/
noncomputable def trDr (P : Program) (ex : Xn) (kp : List Nat) (nt : Nat) (ops : Array Oper) : List (Nat × List Nat) → Env → Nat → Option (XR × Env × Nat)
  | [], env, n => some (xEnd, env, n)
  | (i, ws) :: rest, env, n => match opAt ops i, opsAt ops ws with
    | some o, some wo => match trSeq P ex kp nt ops [o] env n with
      | some (r1, env1, n1) => match trCks P kp ops env1 wo n1 with
        | some (r2, n2) => match trDr P ex kp nt ops rest env1 n2 with
          | some (r3, q) => some (xApp r1 (xApp r2 r3), q)
          | none => none
        | none => none
      | none => none
    | _, _ => none
noncomputable def trDraw (P : Program) (ex : Xn) (kp : List Nat) (nt : Nat) (ops : Array Oper) (h : Hint) : Option (XR × Env × Nat) :=
  bif drawB ops nt h (List.range ops.size) then trDr P ex kp nt ops (itAll h) [] 0 else none
def hintAt : List (Nat × Hint) → Nat → Option Hint
  | [], _ => none
  | x :: l, i => bif Nat.beq x.1 i then some x.2 else hintAt l i
/-- what is put back when a region ends -/
noncomputable def putsOf {γ : Type} (kp : List Nat) (n : Nat) : Env → List Nat → (XP → Option γ) → Option γ
  | [], _, k => k xPut0
  | (t, s) :: l, seen, k => bif memN seen t then putsOf kp n l seen k else match slotF t kp 0 with
    | some m => mkP m fun p => s.rel n fun x => putsOf kp n l (t :: seen) fun r => k (xPut p x r)
    | none => putsOf kp n l seen k
/-- it calls nothing and does not panic -/
def quietO (o : Oper) : Bool := match o.op with
  | .panic _ => false
  | .call ⟨.value _, _, _⟩ => false
  | _ => true
noncomputable def quiet (l : List Oper) : Bool := allR l quietO
/-- it puts none of these temporaries -/
noncomputable def safeR (rt : List Nat) (l : List Oper) : Bool := allR l fun o => match o.dst with | some d => !memN rt d | none => true
/-- the last operation, where it puts a call off -/
def splitD : List Oper → Option (List Oper × Oper)
  | [] => none
  | o :: l => match splitD l with
    | some (p, d) => some (o :: p, d)
    | none => match l, o.op with | [], .defer _ => some ([], o) | _, _ => none
/-- a call that is put off lies in the last place -/
noncomputable def pushD (f : Value) (args : List Value) (T : Tm) (k : Tm → Out) : Out := match f with
  | .func (.func g) ⟨[]⟩ c => (match T.c7.c7 with | .tuple ⟨l⟩ => up7 (.tuple ⟨.func (.func g) ⟨args⟩ c :: l⟩) T.c7 fun x => up7 x T k | _ => none)
  | _ => none
noncomputable def cDef (l : XR) (r : XP) (x : Sc) (xs : List Sc) : XC := fun K n T M kn ke kr => l K T M r0 fun M L => r T L T fun T' => pushD (x T L) (xs.map fun y => y T L) T' fun T' => kn T' M
noncomputable def trDef (P : Program) (ex : Xn) (kp : List Nat) (nt : Nat) (ops : Array Oper) (l : List Oper) (o : Oper) : Option XC :=
  match (match quiet l with | true => trSeq P ex kp nt ops l [] 0 | false => none) with
  | some (xr, env, n) => match o.op, o.guard, o.dst with
    | .defer ⟨.value f, args, _⟩, none, none => match relO kp env n f, resO2 (relO kp env n) args.toList with
      | some x, some xs => putsOf kp n env [] fun r => some (cDef xr r x xs)
      | _, _ => none
    | _, _, _ => none
  | none => none
noncomputable def trReg (P : Program) (ex : Xn) (kp rt : List Nat) (hd : List (Nat × Hint)) (nt : Nat) (id : Nat) (ops : Array Oper) (draw : Bool) : Option XC :=
  match quiet ops.toList || safeR rt ops.toList with
  | false => none
  | true =>
  match (match draw with | true => none | false => splitD ops.toList) with
  | some (l, o) => trDef P ex kp nt ops l o
  | none =>
  match (match draw with | true => (match hintAt hd id with | some h => trDraw P ex kp nt ops h | none => none) | false => trSeq P ex kp nt ops ops.toList [] 0) with
  | some (l, env, n) => putsOf kp n env [] fun r => some (cReg l r)
  | none => none
/-- code that is not known: nothing is told of it -/
noncomputable def cBad : XC := fun _ _ _ _ _ _ _ => none
noncomputable def trC (P : Program) (ex : Xn) (kp rt : List Nat) (hd : List (Nat × Hint)) (nt : Nat) : Code → Option XC
  | .skip => some cSkip
  | .label _ => some cSkip
  | .region id ops draw => match trReg P ex kp rt hd nt id ops draw with | some x => some x | none => some cBad
  | .seq a b => match trC P ex kp rt hd nt a, trC P ex kp rt hd nt b with | some x, some y => some (cSeq x y) | _, _ => none
  | .cond c a b => match relO kp [] 0 c, trC P ex kp rt hd nt a, trC P ex kp rt hd nt b with | some x, some y, some z => some (cIf x y z) | _, _, _ => none
  | .block id c => match trC P ex kp rt hd nt c with | some x => some (cBlock id x) | none => none
  | .loop c => match trC P ex kp rt hd nt c with | some x => some (cLoop x) | none => none
  | .scope c => trC P ex kp rt hd nt c
  | .exit id => some (cExit id)
  | .ret => some cRet
  | _ => some cBad
/-- a function, made ready: its code, how its arguments are put, its results -/
structure XF where
  code : XC
  args : List Pt
  res : List ((Tm → Value) × Option (Bool × Nat))
noncomputable def resP (P : Program) (kp : List Nat) : List ResultVar → Option (List ((Tm → Value) × Option (Bool × Nat)))
  | [] => some []
  | .tmp t :: l => match slotF t kp 0, resP P kp l with | some n, some r => mkG n fun g => some ((g, none) :: r) | _, _ => none
  | .cell a t :: l => match slotF a kp 0, P.underlying t, P.info? t, resP P kp l with | some n, some d, some i, some r => mkG n fun g => some ((g, some (d.isRow, i.size)) :: r) | _, _, _, _ => none
/-- the temporaries that tell where results lie -/
def rtOf : List ResultVar → List Nat
  | [] => []
  | .tmp _ :: l => rtOf l
  | .cell a _ :: l => a :: rtOf l
abbrev Kp := FuncId → List Nat
abbrev Hts := FuncId → List (Nat × Hint)
/-- how the first so many temporaries are put -/
noncomputable def argP (kp : List Nat) (n : Nat) : Nat → Option (List Pt) :=
  Nat.rec (motive := fun _ => Nat → Option (List Pt)) (fun _ => some []) (fun _ ih i => match slotF i kp 0, ih (Nat.succ i) with | some m, some r => mkP m fun p => some (p :: r) | _, _ => none) n
noncomputable def trF (P : Program) (ex : Xn) (kp : Kp) (hs : Hts) (f : FuncId) : Option XF :=
  match nth P.funcs.toList f with
  | some fn => match fn.body with
    | some c => bif Nat.ble (kp f).length 63 && Nat.ble (Nat.add fn.params.size fn.nfree) fn.ntmps && allR (kp f) (fun t => Nat.blt t fn.ntmps) then
      match trC P ex (kp f) (rtOf fn.results.toList) (hs f) fn.ntmps c, argP (kp f) (Nat.add fn.params.size fn.nfree) 0, resP P (kp f) fn.results.toList with
      | some x, some a, some r => some ⟨x, a, r⟩
      | _, _, _ => none
      else none
    | none => none
  | none => none
noncomputable def argK (ps : List Pt) : List Value → Tm → (Tm → Out) → Out :=
  List.rec (motive := fun _ => List Value → Tm → (Tm → Out) → Out) (fun vs T k => List.casesOn vs (k T) (fun _ _ => none)) (fun p _ ih vs T k => List.casesOn vs none (fun v vs => p v T fun T => ih vs T k)) ps
noncomputable def resK (rs : List ((Tm → Value) × Option (Bool × Nat))) : Tm → Me → (List Value → Out) → Out :=
  List.rec (motive := fun _ => Tm → Me → (List Value → Out) → Out) (fun _ _ k => k []) (fun x _ ih T M k => match x.2 with
    | none => ih T M fun l => k (x.1 T :: l)
    | some (row, n) => ldK n row (x.1 T) M fun u => ih T M fun l => k (u :: l)) rs
noncomputable def finK (l : List Value) (k : Value → Out) : Out := List.casesOn l (k (.tuple ⟨[]⟩)) fun v m => List.casesOn m (k v) fun u m => bif notTuple v && (u :: m).all notTuple then k (.tuple ⟨v :: u :: m⟩) else none
noncomputable def tupK (v : Value) (k : List Value → Out) : Out := match v with | .tuple ⟨l⟩ => k l | _ => none
/-- calls: how it goes on where they return, and where they panic -/
abbrev KP := FuncId → List Value → Me → (Value → Me → Out) → (Value → Me → Out) → Out
/-- the calls of a frame; H: what it does where it panics -/
noncomputable def frK (C : KP) (H : Tm → Value → Me → Out) : KC := fun T f vs M k => Bool.rec (motive := fun _ => Out) (C f vs M k (H T)) (List.casesOn vs none fun v _ => H T v M) (Nat.beq f panF)
abbrev Rsl := List ((Tm → Value) × Option (Bool × Nat))
/-- a function is entered; how it ends, how it panics -/
noncomputable def entK (P : Program) (ex : Xn) (kp : Kp) (hs : Hts) (fuel : Nat) (C : KP) (f : FuncId) (args : List Value) (M : Me) (kk : Rsl → Tm → Me → Out) (hh : Rsl → Tm → Value → Me → Out) : Out :=
  match trF P ex kp hs f with
  | some F => argK F.args args t0 fun T => F.code (frK C (hh F.res)) fuel T M (kk F.res) (fun _ _ _ => none) (kk F.res)
  | none => none
/-- how a call that was put off ends (it puts none off itself) -/
noncomputable def finD (k : Me → Out) (rs : Rsl) (T : Tm) (M : Me) : Out := tupK T.c7.c7 fun l => List.casesOn l (resK rs T M fun l => finK l fun _ => k M) fun _ _ => none
/-- a call that was put off -/
noncomputable def xdef (P : Program) (ex : Xn) (kp : Kp) (hs : Hts) (fuel : Nat) (C : KP) (f : FuncId) (args : List Value) (M : Me) (k : Me → Out) : Out :=
  entK P ex kp hs fuel C f args M (finD k) (fun _ _ _ _ => none)
/-- a function that begins with recover -/
structure XG where
  run : Value → XC
  args : List Pt
  res : Rsl
noncomputable def cRec (xr : XR) (r : XP) (x : XC) (pv : Value) : XC := fun K n T M kn ke kr => xr K T M (pushR pv r0) fun M L => r T L T fun T => x K n T M kn ke kr
/-- the operation recover, and where it puts what it tells -/
def recO (o : Oper) : Option Nat := match o.op, o.guard with
  | .call ⟨.builtin .recover, ⟨[]⟩, _⟩, none => o.dst
  | _, _ => none
noncomputable def trG (P : Program) (ex : Xn) (kp : Kp) (hs : Hts) (f : FuncId) : Option XG :=
  match nth P.funcs.toList f with
  | some fn => match fn.body with
    | some (.seq (.region _ ops false) c) => match ops.toList with
      | o :: l => match recO o with
        | some d => bif Nat.ble (kp f).length 63 && Nat.ble (Nat.add fn.params.size fn.nfree) fn.ntmps && allR (kp f) (fun t => Nat.blt t fn.ntmps) && Nat.blt d fn.ntmps && quiet l then
            match trSeq P ex (kp f) fn.ntmps ops l [(d, .s 0)] 1, trC P ex (kp f) (rtOf fn.results.toList) (hs f) fn.ntmps c, argP (kp f) (Nat.add fn.params.size fn.nfree) 0, resP P (kp f) fn.results.toList with
            | some (xr, env, n), some x, some a, some rs => putsOf (kp f) n env [] fun r => some ⟨cRec xr r x, a, rs⟩
            | _, _, _, _ => none
            else none
        | none => none
      | [] => none
    | _ => none
  | none => none
noncomputable def xrec (P : Program) (ex : Xn) (kp : Kp) (hs : Hts) (fuel : Nat) (C : KP) (f : FuncId) (args : List Value) (pv : Value) (M : Me) (k : Me → Out) : Out :=
  match trG P ex kp hs f with
  | some G => argK G.args args t0 fun T => G.run pv (frK C fun _ _ _ => none) fuel T M (finD k G.res) (fun _ _ _ => none) (finD k G.res)
  | none => none
/-- a call that was put off: it may begin with recover -/
noncomputable def xdfr (P : Program) (ex : Xn) (kp : Kp) (hs : Hts) (fuel : Nat) (C : KP) (f : FuncId) (args : List Value) (M : Me) (k : Me → Out) : Out :=
  match (trG P ex kp hs f).isSome with
  | true => xrec P ex kp hs fuel C f args .nilIface M k
  | false => xdef P ex kp hs fuel C f args M k
noncomputable def fnK (v : Value) (k : FuncId → List Value → Out) : Out := match v with | .func (.func f) ⟨a⟩ ⟨c⟩ => k f (a ++ c) | _ => none
/-- the calls that were put off, the last one first -/
noncomputable def dfK (C : FuncId → List Value → Me → (Me → Out) → Out) (l : List Value) : Me → (Me → Out) → Out :=
  List.rec (motive := fun _ => Me → (Me → Out) → Out) (fun M k => k M) (fun v _ ih M k => fnK v fun f args => C f args M fun M => ih M k) l
noncomputable def endK (P : Program) (ex : Xn) (kp : Kp) (hs : Hts) (fuel : Nat) (C : KP) (rs : Rsl) (T : Tm) (M : Me) (k : Value → Me → Out) : Out :=
  tupK T.c7.c7 fun l => dfK (xdfr P ex kp hs fuel C) l M fun M => resK rs T M fun l => finK l fun v => k v M
/-- a frame that panics: with one call that was put off, which recovers; with none it goes on -/
noncomputable def hanK (P : Program) (ex : Xn) (kp : Kp) (hs : Hts) (fuel : Nat) (C : KP) (k kq : Value → Me → Out) (rs : Rsl) (T : Tm) (pv : Value) (M : Me) : Out :=
  tupK T.c7.c7 fun l => List.casesOn l (kq pv M) fun d ds => List.casesOn ds (bif flat pv && rs.all (fun x => x.2.isSome) then (fnK d fun f args => xrec P ex kp hs fuel C f args pv M fun M => resK rs T M fun l => finK l fun v => k v M) else none) fun _ _ => none
/-- calls that are known otherwise: what they answer; the memory stays -/
abbrev Kn := FuncId → List Value → Me → Option Value
noncomputable def xcallN (kn : Kn) (P : Program) (ex : Xn) (kp : Kp) (hs : Hts) (fuel : Nat) (n : Nat) : KP :=
  Nat.rec (motive := fun _ => KP) (fun _ _ _ _ _ => none) (fun _ C f args M k kq =>
    Option.rec (motive := fun _ => Out) (entK P ex kp hs fuel C f args M (fun rs T M => endK P ex kp hs fuel C rs T M k) (hanK P ex kp hs fuel C k kq)) (fun v => k v M) (kn f args M)) n
noncomputable def xcall (P : Program) (ex : Xn) (kp : Kp) (hs : Hts) (fuel : Nat) (n : Nat) : KP := xcallN (fun _ _ _ => none) P ex kp hs fuel n
end Go.Proofs.YtgaigfmboomnkaaGreat
