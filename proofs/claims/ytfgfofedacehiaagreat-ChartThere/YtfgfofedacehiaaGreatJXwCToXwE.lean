/-
 OWN TEXT: an evaluator made for the kernel: code made ready.
-/
import Derived.Test.YtfgfofedacehiaaGreatJXwAToXwB
namespace Go.Proofs.YtfgfofedacehiaaGreat
open Go.RowKit
set_option linter.unusedVariables false
set_option linter.unusedSimpArgs false
/-- where a value is, counted from the region's beginning -/
inductive Sa where
 | t (p : Nat)
 | s (n : Nat)
 | c (v : Value)
noncomputable def Sa.rel {γ : Type} (n : Nat) (x : Sa) : (Sc → Option γ) → Option γ := Sa.casesOn x (fun p k => mkS p k) (fun m k => frcN (Nat.sub n (Nat.succ m)) fun m => k fun _ L => L m) (fun v k => k fun _ _ => v)
/-- a temporary's place among the kept ones -/
def slotF (t : Nat) : List Nat → Nat → Option Nat
 | [], _ => none
 | x :: l, n => bif Nat.beq x t then some n else slotF t l (Nat.succ n)
abbrev Env := List (Nat × Sa)
def look : Env → Nat → Option Sa
 | [], _ => none
 | x :: l, t => bif Nat.beq x.1 t then some x.2 else look l t
def resA (kp : List Nat) (env : Env) : Operand → Option Sa
 | .tmp t => match look env t with | some s => some s | none => match slotF t kp 0 with | some n => some (.t n) | none => none
 | .const v => if flat v then some (.c v) else none
 | .func f => some (.c (.func (.func f) #[] #[]))
 | .global g => (roIx g roTab 0).map fun i => .c (.pointer (some ⟨i, 0, none⟩))
abbrev Rs := Operand → Option Sc
def resT (res : Rs) : List Nat → Option (List Sc)
 | [] => some []
 | t :: l => match res (.tmp t), resT res l with | some x, some xs => some (x :: xs) | _, _ => none
def resO2 (res : Rs) : List Operand → Option (List Sc)
 | [] => some []
 | t :: l => match res t, resO2 res l with | some x, some xs => some (x :: xs) | _, _ => none
noncomputable def mk1 (res : Rs) (x : Operand) (k : Sc → XO) : Option XO := match res x with | some x => some (k x) | none => none
noncomputable def mk2 (res : Rs) (x y : Operand) (k : Sc → Sc → XO) : Option XO := match res x, res y with | some x, some y => some (k x y) | _, _ => none
noncomputable def mk3 (res : Rs) (x y z : Operand) (k : Sc → Sc → Sc → XO) : Option XO := match res x, res y, res z with | some x, some y, some z => some (k x y z) | _, _, _ => none
noncomputable def mkL (res : Rs) (o : Oper) (k : List Sc → XO) : Option XO := match resT res (tmpsOf o.op.operands.toList) with | some xs => some (k xs) | none => none
noncomputable def binI (op : BinOp) : Option (Value → Value → (Value → Out) → Out) := match op with
 | .add => some (iOp addZ) | .sub => some (iOp subZ) | .mul => some (iOp mulZ)
 | .eql => some (iCmp eqZ) | .neq => some (iCmp fun a b => !eqZ a b) | .lss => some (iCmp ltZ) | .leq => some (iCmp leZ) | .gtr => some (iCmp fun a b => ltZ b a) | .geq => some (iCmp fun a b => leZ b a)
 | _ => none
noncomputable def binU (op : BinOp) : Option (Value → Value → (Value → Out) → Out) := match op with
 | .and => some (uOp Nat.land) | .or => some (uOp Nat.lor) | .xor => some (uOp Nat.xor) | .andNot => some (uOp fun m n => Nat.land m (Nat.sub 18446744073709551615 n))
 | .shl => some shlU | .shr => some shrU
 | _ => none
noncomputable def binF (op : BinOp) : Option (Value → Value → (Value → Out) → Out) := match op with
 | .add => some (fOp .add addR) | .sub => some (fOp .sub subR) | .mul => some (fOp .mul mulR) | .quo => some (fOp .quo FloatKind.f64.format.div)
 | .eql => some (fCmp .eql Fl.eqF) | .neq => some (fCmp .neq fun a b => !Fl.eqF a b) | .lss => some (fCmp .lss Fl.ltF) | .leq => some (fCmp .leq Fl.leF) | .gtr => some (fCmp .gtr fun a b => Fl.ltF b a) | .geq => some (fCmp .geq fun a b => Fl.leF b a)
 | _ => none
noncomputable def binX (P : Program) (op : BinOp) (t : TypeId) : Option (Value → Value → (Value → Out) → Out) := match P.underlying t with
 | some (.int .u64) => match binI op with | some f => some f | none => binU op
 | some (.int _) => binI op
 | some (.float .f64) => binF op
 | _ => none
def isSliceT (P : Program) (t : TypeId) : Bool := match P.underlying t with | some (.slice _) => true | _ => false
/-- functions without a body, as they answer -/
abbrev Xn := FuncId → Option (List Value → (Value → Out) → Out)
abbrev Tr := Program → Xn → Rs → Oper → Option XO
noncomputable def trGen : Tr := fun P _ res o => mkL res o (xPn (genP P o))
noncomputable def trBin (op : BinOp) (t : TypeId) (x y : Operand) : Tr := fun P _ res o => match binX P op t with | some f => mk2 res x y (xP2 f) | none => mkL res o (xPn (genP P o))
noncomputable def trPick (c a b : Operand) : Tr := fun _ _ res _ => mk3 res c a b (xP3 pickK)
noncomputable def trUn (op : UnOp) (x : Operand) : Tr := fun P _ res o => UnOp.casesOn op (mkL res o (xPn (genP P o))) (mkL res o (xPn (genP P o))) (mk1 res x (xP1 notK)) (mkL res o (xPn (genP P o)))
noncomputable def trConv (s d : TypeId) (x : Operand) : Tr := fun P _ res o => match P.underlying s, P.underlying d with
  | some (.int _), some (.int k) => frcI k fun k => mk1 res x (xP1 (convI k))
  | _, _ => mkL res o (xPn (genP P o))
noncomputable def trLoad (t : TypeId) (x : Operand) : Tr := fun P _ res _ => match P.underlying t with
  | some d => bif d.isRow then (match P.info? t with | some i => frcN i.size fun n => mk1 res x (xLd n true) | none => none) else mk1 res x (xLd 0 false)
  | none => none
noncomputable def trStore (t : TypeId) (x y : Operand) : Tr := fun P _ res _ => match P.info? t with | some i => frcN i.size fun n => mk2 res x y (xSt n) | none => none
noncomputable def trAlloc (el : TypeId) : Tr := fun P _ res _ => match P.info? el with
  | some i => match i.zero with
   | some z => if z.cells.toList.all flat1 then frcL z.cells.toList fun l => some (xNw (newK el l) []) else none
   | none => none
  | none => none
noncomputable def trBox (el : TypeId) (x : Operand) : Tr := fun _ _ res _ => mk1 res x fun x => xNw (boxK el) [x]
noncomputable def trNew : Tr := fun P _ res o => mkL res o (xNw (genN P o))
noncomputable def trExt (x : Operand) (i : Nat) : Tr := fun _ _ res _ => mk1 res x (xP1 (extK i))
noncomputable def trFld (s : TypeId) (x : Operand) (f : Nat) : Tr := fun P _ res _ => match P.underlying s with
  | some (.struct fields) => match nth fields.toList f with
   | some fl => if szOf P fl.type ≠ 0 then frcN fl.offset fun n => mk1 res x (xP1 (fldK n)) else none
   | none => none
  | _ => none
noncomputable def trIdx (t : TypeId) (x ix : Operand) : Tr := fun P _ res _ => match P.underlying t with
  | some (.slice el) => if szOf P el ≠ 0 then frcN (szOf P el) fun n => mk2 res x ix (xP2 (idxK n)) else none
  | some (.array len el) => if szOf P el ≠ 0 then frcN (szOf P el) fun n => frcN len fun m => mk2 res x ix (xP2 (idxA m n)) else none
  | _ => none
noncomputable def trCallF (f : FuncId) (args : List Operand) : Tr := fun P ex res o => match nth P.funcs.toList f with
   | some fn => bif Nat.beq f panF then none else bif fn.body.isSome then (match resO2 res args with | some xs => some (xCl f xs) | none => none) else (match ex f with | some g => (match resO2 res args with | some xs => some (xPn g xs) | none => none) | none => mkL res o (xPn (genF P o)))
   | none => none
noncomputable def trCallV (f : Operand) (args : List Operand) : Tr := fun P ex res o => match res f, resO2 res args with | some x, some xs => some (xCv x xs) | _, _ => none
noncomputable def trInv (x : Operand) (name : String) (args : List Operand) : Tr := fun P ex res o => match res x, resO2 res args with | some x, some xs => some (xInv P name x xs) | _, _ => none
noncomputable def trPan (x : Operand) : Tr := fun _ _ res _ => mk1 res x xPan
noncomputable def trVal (f : Operand) : List Operand → Tr := match f with
 | .func f => trCallF f
 | f => trCallV f
noncomputable def trBu (b : Builtin) : List Operand → List TypeId → Tr := match b with
 | .append => fun _ _ P _ res o => mkL res o (xMm (genA P o))
 | .copy => fun _ _ P _ res o => mkL res o (xMm (genC P o))
 | .len => fun xs ts P _ res o => match xs, ts with
   | [x], [t] => bif isSliceT P t then mk1 res x (xP1 lenK) else mkL res o (xPn (genP P o))
   | _, _ => none
 | .real => fun xs _ _ _ res _ => match xs with | [x] => mk1 res x (xP1 reK) | _ => none
 | .imag => fun xs _ _ _ res _ => match xs with | [x] => mk1 res x (xP1 imK) | _ => none
 | .complex => fun xs _ _ _ res _ => match xs with | [x, y] => mk2 res x y (xP2 cxK) | _ => none
 | _ => fun _ _ => trGen
noncomputable def trCe (c : Callee) : List Operand → List TypeId → Tr := match c with
 | .value f => fun xs _ => trVal f xs
 | .builtin b => trBu b
 | .invoke x name => fun xs _ => trInv x name xs
noncomputable def trCall (c : Call) : Tr := match c with | ⟨callee, args, ts⟩ => trCe callee args.toList ts.toList
noncomputable def trD (op : Op) : Tr := match op with
 | .binOp op t x y _ => trBin op t x y
 | .pick c a b => trPick c a b
 | .unOp op _ x => trUn op x
 | .convert s d x => trConv s d x
 | .load t x => trLoad t x
 | .store t x y => trStore t x y
 | .alloc el => trAlloc el
 | .box el x => trBox el x
 | .makeSlice _ _ _ => trNew
 | .buildSlice _ _ _ => trNew
 | .extract x i => trExt x i
 | .fieldAddr s x f => trFld s x f
 | .indexAddr t x ix => trIdx t x ix
 | .call c => trCall c
 | .panic x => trPan x
 | _ => trGen
/-- an operation, made ready -/
noncomputable def trOp (P : Program) (ex : Xn) (res : Rs) (o : Oper) : Option XO := trD o.op P ex res o
/-- moves that need nothing but a name -/
def mvO : Op → Option Operand
 | .move x | .assign x => some x
 | _ => none
noncomputable def relO (kp : List Nat) (env : Env) (n : Nat) (x : Operand) : Option Sc := match resA kp env x with | some s => s.rel n some | none => none
def addE (nt : Nat) (d : Option Tmp) (s : Sa) (env : Env) : Option Env := match d with | some d => (bif Nat.blt d nt then some ((d, s) :: env) else none) | none => some env
/-- a row of operations, one behind the other -/
noncomputable def trSeq (P : Program) (ex : Xn) (kp : List Nat) (nt : Nat) (ops : Array Oper) : List Oper → Env → Nat → Option (XR × Env × Nat)
 | [], env, n => some (xEnd, env, n)
 | o :: rest, env, n =>
  match o.guard with
  | none =>
   match mvO o.op with
   | some x => match resA kp env x with
    | some s => match addE nt o.dst s env with
     | some env => trSeq P ex kp nt ops rest env n
     | none => none
    | none => none
   | none => match trOp P ex (relO kp env n) o, addE nt o.dst (.s n) env with
    | some x, some env => frcN (Nat.succ n) fun m => match trSeq P ex kp nt ops rest env m with
     | some (l, r) => some (xThen x l, r)
     | none => none
    | _, _ => none
  | some (j, b) =>
   match (match mvO o.op with | some x => mk1 (relO kp env n) x (xP1 fun v k => k v) | none => trOp P ex (relO kp env n) o), (ops[j]?).bind (·.dst), addE nt o.dst (.s n) env with
   | some x, some t, some env' => match relO kp env n (.tmp t) with
    | some y => frcN (Nat.succ n) fun m => match trSeq P ex kp nt ops rest env' m with
     | some (l, r) => some (xThen (xGd y b x) l, r)
     | none => none
    | none => none
   | _, _, _ => none
def memN (l : List Nat) (t : Nat) : Bool := match l with | [] => false | x :: l => bif Nat.beq x t then true else memN l t
noncomputable def allR {α : Type} (l : List α) (f : α → Bool) : Bool := List.rec (motive := fun _ => Bool) true (fun x _ ih => Bool.rec (motive := fun _ => Bool) false ih (f x)) l
/-- is the bit set? -/
def tb (m i : Nat) : Bool := Nat.beq (Nat.mod (Nat.div m (Nat.pow 2 i)) 2) 1
noncomputable def getN (bl : List Nat) (i : Nat) : Nat := match nth bl i with | some m => m | none => 0
noncomputable def edM (bl : List Nat) (l : List Edge) : Nat := List.rec (motive := fun _ => Nat) 0 (fun e _ ih => Bool.rec (motive := fun _ => Nat) ih (Nat.lor (Nat.lor (Nat.pow 2 e.on) (getN bl e.on)) ih) (Region.binds .any e)) l
/-- hints: what each operation is behind (as bits); new blocks told ahead; what comes first (it reckons, reads, or is told); the others in order, and what is looked at again behind each -/
structure Hint where
 bl : List Nat
 td : List Nat
 i1 : List Nat
 it : List (Nat × List Nat)
noncomputable def opAt (ops : Array Oper) (i : Nat) : Option Oper := nth ops.toList i
noncomputable def chkB (ops : Array Oper) (bl : List Nat) (ix : List Nat) : Bool := allR ix fun i => match opAt ops i with | some o => Nat.beq (getN bl i) (edM bl o.after.toList) && Nat.blt (getN bl i) (Nat.pow 2 ops.size) | none => false
noncomputable def chkA (ops : Array Oper) (bl : List Nat) (ix : List Nat) : Bool := allR ix fun j => allR ix fun i => bif Nat.ble j i then true else bif tb (getN bl j) i then true else bif tb (getN bl i) j then true else match opAt ops i, opAt ops j with | some x, some y => x.apart ops y | _, _ => false
noncomputable def chkR (ops : Array Oper) (bl : List Nat) (ix : List Nat) : Bool := allR ix fun w => match opAt ops w with
 | some o => bif isR o.op then (match o.dst with
   | some d => !(o.looksAt ops).contains d && allR ix fun i => bif Nat.beq i w then true else bif tb (getN bl w) i then true else match opAt ops i with
    | some p => (match p.dst with | some e => !(o.looksAt ops).contains e && o.dst != some e | none => true)
    | none => true
   | none => false) else true
 | none => true
/-- is it one that neither reads nor writes, or is told? -/
noncomputable def lightI (ops : Array Oper) (td : List Nat) (i : Nat) (o : Oper) : Bool := isP o.op || memN td i
/-- the order: S what came up already (as bits), Rs what was read -/
noncomputable def chkO (ops : Array Oper) (bl td ix : List Nat) (l : List (Nat × List Nat)) : Nat → List Nat → Bool :=
 List.rec (motive := fun _ => Nat → List Nat → Bool) (fun S _ => allR ix fun j => tb S j)
  (fun x _ ih S Rs => match opAt ops x.1 with
   | some o => bif tb S x.1 then false else bif allR ix (fun j => bif tb (getN bl x.1) j then tb S j else true) then
     bif lightI ops td x.1 o then ih (Nat.lor S (Nat.pow 2 x.1)) Rs
     else bif isR o.op then ih (Nat.lor S (Nat.pow 2 x.1)) (x.1 :: Rs)
     else bif allR ix (fun j => bif tb S j then true else bif Nat.beq j x.1 then true else tb (getN bl j) x.1) && allR Rs (fun w => bif tb (getN bl x.1) w then true else memN x.2 w) then ih (Nat.lor S (Nat.pow 2 x.1)) Rs
     else false
    else false
   | none => false) l
/-- what may come first: it reckons, reads, or is a new block that is told -/
noncomputable def okI (ops : Array Oper) (td : List Nat) (i : Nat) : Bool := match opAt ops i with | some o => (bif memN td i then isN o.op && o.guard.isNone else isP o.op || isR o.op) | none => false
noncomputable def itAll (h : Hint) : List (Nat × List Nat) := h.i1.map (fun i => (i, ([] : List Nat))) ++ h.it
noncomputable def chkD (ops : Array Oper) (nt : Nat) (ix : List Nat) : Bool := allR ix fun i => match opAt ops i with | some o => (match o.dst with | some d => Nat.blt d nt | none => true) | none => true
noncomputable def drawB (ops : Array Oper) (nt : Nat) (h : Hint) (ix : List Nat) : Bool :=
 Nat.beq (itAll h).length ops.size && chkD ops nt ix && allR h.it (fun x => !memN h.td x.1) &&
 chkB ops h.bl ix && chkA ops h.bl ix && chkR ops h.bl ix && allR h.i1 (okI ops h.td) && allR h.td (memN h.i1) && chkO ops h.bl h.td ix (itAll h) 0 []
noncomputable def xApp (r q : XR) : XR := fun K T M L k => r K T M L fun M L => q K T M L k
noncomputable def opsAt (ops : Array Oper) : List Nat → Option (List Oper)
 | [] => some []
 | i :: l => match opAt ops i, opsAt ops l with | some o, some m => some (o :: m) | _, _ => none
/-- what was read, looked at again -/
noncomputable def trCk (P : Program) (kp : List Nat) (ops : Array Oper) (env : Env) (n : Nat) (o : Oper) : Option XO :=
 match o.op, o.dst with
 | .load t x, some d => match P.underlying t, relO kp env n x, relO kp env n (.tmp d) with
  | some D, some sx, some sy => (match (bif D.isRow then (P.info? t).map (·.size) else some 0) with
   | some z => frcN z fun z => match o.guard with
    | none => some (xCk z D.isRow sx sy)
    | some (j, b) => match (ops[j]?).bind (·.dst) with
     | some u => (match relO kp env n (.tmp u) with | some y => some (xGd y b (xCk z D.isRow sx sy)) | none => none)
     | none => none
   | none => none)
  | _, _, _ => none
 | _, _ => none
noncomputable def trCks (P : Program) (kp : List Nat) (ops : Array Oper) (env : Env) : List Oper → Nat → Option (XR × Nat)
 | [], n => some (xEnd, n)
 | o :: l, n => match trCk P kp ops env n o with
  | some x => frcN (Nat.succ n) fun m => match trCks P kp ops env l m with
   | some (r, q) => some (xThen x r, q)
   | none => none
  | none => none
/-- a row of operations in an order that was looked at -/
noncomputable def trDr (P : Program) (ex : Xn) (kp : List Nat) (nt : Nat) (ops : Array Oper) : List (Nat × List Nat) → Env → Nat → Option (XR × Env × Nat)
 | [], env, n => some (xEnd, env, n)
 | (i, ws) :: rest, env, n => match opAt ops i, opsAt ops ws with
  | some o, some wo => match trSeq P ex kp nt ops [o] env n with
   | some (r1, env1, n1) => match trCks P kp ops env1 wo n1 with
    | some (r2, n2) => match trDr P ex kp nt ops rest env1 n2 with
     | some (r3, q) => some (xApp r1 (xApp r2 r3), q)
     | none => none
    | none => none
   | none => none
  | _, _ => none
noncomputable def trDraw (P : Program) (ex : Xn) (kp : List Nat) (nt : Nat) (ops : Array Oper) (h : Hint) : Option (XR × Env × Nat) :=
 bif drawB ops nt h (List.range ops.size) then trDr P ex kp nt ops (itAll h) [] 0 else none
def hintAt : List (Nat × Hint) → Nat → Option Hint
 | [], _ => none
 | x :: l, i => bif Nat.beq x.1 i then some x.2 else hintAt l i
/-- what is put back when a region ends -/
noncomputable def putsOf {γ : Type} (kp : List Nat) (n : Nat) : Env → List Nat → (XP → Option γ) → Option γ
 | [], _, k => k xPut0
 | (t, s) :: l, seen, k => bif memN seen t then putsOf kp n l seen k else match slotF t kp 0 with
  | some m => mkP m fun p => s.rel n fun x => putsOf kp n l (t :: seen) fun r => k (xPut p x r)
  | none => putsOf kp n l seen k
/-- it calls nothing and does not panic -/
def quietO (o : Oper) : Bool := match o.op with
 | .panic _ => false
 | .call ⟨.value _, _, _⟩ => false
 | .call ⟨.invoke _ _, _, _⟩ => false
 | _ => true
noncomputable def quiet (l : List Oper) : Bool := allR l quietO
/-- it puts none of these temporaries -/
noncomputable def safeR (rt : List Nat) (l : List Oper) : Bool := allR l fun o => match o.dst with | some d => !memN rt d | none => true
/-- the last operation, where it puts a call off -/
def splitD : List Oper → Option (List Oper × Oper)
 | [] => none
 | o :: l => match splitD l with
  | some (p, d) => some (o :: p, d)
  | none => match l, o.op with | [], .defer _ => some ([], o) | _, _ => none
/-- a call that is put off lies in the last place -/
noncomputable def pushD (f : Value) (args : List Value) (T : Tm) (k : Tm → Out) : Out := match f with
 | .func (.func g) ⟨[]⟩ c => (match T.c7.c7 with | .tuple ⟨l⟩ => up7 (.tuple ⟨.func (.func g) ⟨args⟩ c :: l⟩) T.c7 fun x => up7 x T k | _ => none)
 | _ => none
noncomputable def cDef (l : XR) (r : XP) (x : Sc) (xs : List Sc) : XC := fun K n T M kn ke kr => l K T M r0 fun M L => r T L T fun T' => pushD (x T L) (xs.map fun y => y T L) T' fun T' => kn T' M
noncomputable def trDef (P : Program) (ex : Xn) (kp : List Nat) (nt : Nat) (ops : Array Oper) (l : List Oper) (o : Oper) : Option XC :=
 match (match quiet l with | true => trSeq P ex kp nt ops l [] 0 | false => none) with
 | some (xr, env, n) => match o.op, o.guard, o.dst with
  | .defer ⟨.value f, args, _⟩, none, none => match relO kp env n f, resO2 (relO kp env n) args.toList with
   | some x, some xs => putsOf kp n env [] fun r => some (cDef xr r x xs)
   | _, _ => none
  | _, _, _ => none
 | none => none
noncomputable def trReg (P : Program) (ex : Xn) (kp rt : List Nat) (hd : List (Nat × Hint)) (nt : Nat) (id : Nat) (ops : Array Oper) (draw : Bool) : Option XC :=
 match quiet ops.toList || safeR rt ops.toList with
 | false => none
 | true =>
 match (match draw with | true => none | false => splitD ops.toList) with
 | some (l, o) => trDef P ex kp nt ops l o
 | none =>
 match (match draw with | true => (match hintAt hd id with | some h => trDraw P ex kp nt ops h | none => none) | false => trSeq P ex kp nt ops ops.toList [] 0) with
 | some (l, env, n) => putsOf kp n env [] fun r => some (cReg l r)
 | none => none
/-- code that is not known: nothing is told of it -/
noncomputable def cBad : XC := fun _ _ _ _ _ _ _ => none
noncomputable def trC (P : Program) (ex : Xn) (kp rt : List Nat) (hd : List (Nat × Hint)) (nt : Nat) : Code → Option XC
 | .skip => some cSkip
 | .label _ => some cSkip
 | .region id ops draw => match trReg P ex kp rt hd nt id ops draw with | some x => some x | none => some cBad
 | .seq a b => match trC P ex kp rt hd nt a, trC P ex kp rt hd nt b with | some x, some y => some (cSeq x y) | _, _ => none
 | .cond c a b => match relO kp [] 0 c, trC P ex kp rt hd nt a, trC P ex kp rt hd nt b with | some x, some y, some z => some (cIf x y z) | _, _, _ => none
 | .block id c => match trC P ex kp rt hd nt c with | some x => some (cBlock id x) | none => none
 | .loop c => match trC P ex kp rt hd nt c with | some x => some (cLoop x) | none => none
 | .scope c => trC P ex kp rt hd nt c
 | .exit id => some (cExit id)
 | .ret => some cRet
 | _ => some cBad
/-- a function, made ready: its code, how its arguments are put, its results -/
structure XF where
 code : XC
 args : List Pt
 res : List ((Tm → Value) × Option (Bool × Nat))
noncomputable def resP (P : Program) (kp : List Nat) : List ResultVar → Option (List ((Tm → Value) × Option (Bool × Nat)))
 | [] => some []
 | .tmp t :: l => match slotF t kp 0, resP P kp l with | some n, some r => mkG n fun g => some ((g, none) :: r) | _, _ => none
 | .cell a t :: l => match slotF a kp 0, P.underlying t, P.info? t, resP P kp l with | some n, some d, some i, some r => mkG n fun g => some ((g, some (d.isRow, i.size)) :: r) | _, _, _, _ => none
/-- the temporaries that tell where results lie -/
def rtOf : List ResultVar → List Nat
 | [] => []
 | .tmp _ :: l => rtOf l
 | .cell a _ :: l => a :: rtOf l
abbrev Kp := FuncId → List Nat
abbrev Hts := FuncId → List (Nat × Hint)
/-- how the first so many temporaries are put -/
noncomputable def argP (kp : List Nat) (n : Nat) : Nat → Option (List Pt) :=
 Nat.rec (motive := fun _ => Nat → Option (List Pt)) (fun _ => some []) (fun _ ih i => match slotF i kp 0, ih (Nat.succ i) with | some m, some r => mkP m fun p => some (p :: r) | _, _ => none) n
noncomputable def trF (P : Program) (ex : Xn) (kp : Kp) (hs : Hts) (f : FuncId) : Option XF :=
 match nth P.funcs.toList f with
 | some fn => match fn.body with
  | some c => bif Nat.ble (kp f).length 63 && Nat.ble (Nat.add fn.params.size fn.nfree) fn.ntmps && allR (kp f) (fun t => Nat.blt t fn.ntmps) then
   match trC P ex (kp f) (rtOf fn.results.toList) (hs f) fn.ntmps c, argP (kp f) (Nat.add fn.params.size fn.nfree) 0, resP P (kp f) fn.results.toList with
   | some x, some a, some r => some ⟨x, a, r⟩
   | _, _, _ => none
   else none
  | none => none
 | none => none
noncomputable def argK (ps : List Pt) : List Value → Tm → (Tm → Out) → Out :=
 List.rec (motive := fun _ => List Value → Tm → (Tm → Out) → Out) (fun vs T k => List.casesOn vs (k T) (fun _ _ => none)) (fun p _ ih vs T k => List.casesOn vs none (fun v vs => p v T fun T => ih vs T k)) ps
noncomputable def resK (rs : List ((Tm → Value) × Option (Bool × Nat))) : Tm → Me → (List Value → Out) → Out :=
 List.rec (motive := fun _ => Tm → Me → (List Value → Out) → Out) (fun _ _ k => k []) (fun x _ ih T M k => match x.2 with
  | none => ih T M fun l => k (x.1 T :: l)
  | some (row, n) => ldK n row (x.1 T) M fun u => ih T M fun l => k (u :: l)) rs
noncomputable def finK (l : List Value) (k : Value → Out) : Out := List.casesOn l (k (.tuple ⟨[]⟩)) fun v m => List.casesOn m (k v) fun u m => bif notTuple v && (u :: m).all notTuple then k (.tuple ⟨v :: u :: m⟩) else none
noncomputable def tupK (v : Value) (k : List Value → Out) : Out := match v with | .tuple ⟨l⟩ => k l | _ => none
/-- calls: how it goes on where they return, and where they panic -/
abbrev KP := FuncId → List Value → Me → (Value → Me → Out) → (Value → Me → Out) → Out
/-- the calls of a frame; H: what it does where it panics -/
noncomputable def frK (C : KP) (H : Tm → Value → Me → Out) : KC := fun T f vs M k => Bool.rec (motive := fun _ => Out) (C f vs M k (H T)) (List.casesOn vs none fun v _ => H T v M) (Nat.beq f panF)
abbrev Rsl := List ((Tm → Value) × Option (Bool × Nat))
/-- a function is entered; how it ends, how it panics -/
noncomputable def entK (P : Program) (ex : Xn) (kp : Kp) (hs : Hts) (fuel : Nat) (C : KP) (f : FuncId) (args : List Value) (M : Me) (kk : Rsl → Tm → Me → Out) (hh : Rsl → Tm → Value → Me → Out) : Out :=
 match trF P ex kp hs f with
 | some F => argK F.args args t0 fun T => F.code (frK C (hh F.res)) fuel T M (kk F.res) (fun _ _ _ => none) (kk F.res)
 | none => none
/-- how a call that was put off ends (it puts none off itself) -/
noncomputable def finD (k : Me → Out) (rs : Rsl) (T : Tm) (M : Me) : Out := tupK T.c7.c7 fun l => List.casesOn l (resK rs T M fun l => finK l fun _ => k M) fun _ _ => none
/-- a call that was put off -/
noncomputable def xdef (P : Program) (ex : Xn) (kp : Kp) (hs : Hts) (fuel : Nat) (C : KP) (f : FuncId) (args : List Value) (M : Me) (k : Me → Out) : Out :=
 entK P ex kp hs fuel C f args M (finD k) (fun _ _ _ _ => none)
/-- a function that begins with recover -/
structure XG where
 run : Value → XC
 args : List Pt
 res : Rsl
noncomputable def cRec (xr : XR) (r : XP) (x : XC) (pv : Value) : XC := fun K n T M kn ke kr => xr K T M (pushR pv r0) fun M L => r T L T fun T => x K n T M kn ke kr
/-- the operation recover, and where it puts what it tells -/
def recO (o : Oper) : Option Nat := match o.op, o.guard with
 | .call ⟨.builtin .recover, ⟨[]⟩, _⟩, none => o.dst
 | _, _ => none
noncomputable def trG (P : Program) (ex : Xn) (kp : Kp) (hs : Hts) (f : FuncId) : Option XG :=
 match nth P.funcs.toList f with
 | some fn => match fn.body with
  | some (.seq (.region _ ops false) c) => match ops.toList with
   | o :: l => match recO o with
    | some d => bif Nat.ble (kp f).length 63 && Nat.ble (Nat.add fn.params.size fn.nfree) fn.ntmps && allR (kp f) (fun t => Nat.blt t fn.ntmps) && Nat.blt d fn.ntmps && quiet l then
      match trSeq P ex (kp f) fn.ntmps ops l [(d, .s 0)] 1, trC P ex (kp f) (rtOf fn.results.toList) (hs f) fn.ntmps c, argP (kp f) (Nat.add fn.params.size fn.nfree) 0, resP P (kp f) fn.results.toList with
      | some (xr, env, n), some x, some a, some rs => putsOf (kp f) n env [] fun r => some ⟨cRec xr r x, a, rs⟩
      | _, _, _, _ => none
      else none
    | none => none
   | [] => none
  | _ => none
 | none => none
noncomputable def xrec (P : Program) (ex : Xn) (kp : Kp) (hs : Hts) (fuel : Nat) (C : KP) (f : FuncId) (args : List Value) (pv : Value) (M : Me) (k : Me → Out) : Out :=
 match trG P ex kp hs f with
 | some G => argK G.args args t0 fun T => G.run pv (frK C fun _ _ _ => none) fuel T M (finD k G.res) (fun _ _ _ => none) (finD k G.res)
 | none => none
/-- a call that was put off: it may begin with recover -/
noncomputable def xdfr (P : Program) (ex : Xn) (kp : Kp) (hs : Hts) (fuel : Nat) (C : KP) (f : FuncId) (args : List Value) (M : Me) (k : Me → Out) : Out :=
 match (trG P ex kp hs f).isSome with
 | true => xrec P ex kp hs fuel C f args .nilIface M k
 | false => xdef P ex kp hs fuel C f args M k
noncomputable def fnK (v : Value) (k : FuncId → List Value → Out) : Out := match v with | .func (.func f) ⟨a⟩ ⟨c⟩ => k f (a ++ c) | _ => none
/-- the calls that were put off, the last one first -/
noncomputable def dfK (C : FuncId → List Value → Me → (Me → Out) → Out) (l : List Value) : Me → (Me → Out) → Out :=
 List.rec (motive := fun _ => Me → (Me → Out) → Out) (fun M k => k M) (fun v _ ih M k => fnK v fun f args => C f args M fun M => ih M k) l
noncomputable def endK (P : Program) (ex : Xn) (kp : Kp) (hs : Hts) (fuel : Nat) (C : KP) (rs : Rsl) (T : Tm) (M : Me) (k : Value → Me → Out) : Out :=
 tupK T.c7.c7 fun l => dfK (xdfr P ex kp hs fuel C) l M fun M => resK rs T M fun l => finK l fun v => k v M
/-- a frame that panics: with one call that was put off, which recovers; with none it goes on -/
noncomputable def hanK (P : Program) (ex : Xn) (kp : Kp) (hs : Hts) (fuel : Nat) (C : KP) (k kq : Value → Me → Out) (rs : Rsl) (T : Tm) (pv : Value) (M : Me) : Out :=
 tupK T.c7.c7 fun l => List.casesOn l (kq pv M) fun d ds => List.casesOn ds (bif flat pv && rs.all (fun x => x.2.isSome) then (fnK d fun f args => xrec P ex kp hs fuel C f args pv M fun M => resK rs T M fun l => finK l fun v => k v M) else none) fun _ _ => none
/-- calls that are known otherwise: what they answer; the memory stays -/
abbrev Kn := FuncId → List Value → Me → Option Value
noncomputable def xcallN (kn : Kn) (P : Program) (ex : Xn) (kp : Kp) (hs : Hts) (fuel : Nat) (n : Nat) : KP :=
 Nat.rec (motive := fun _ => KP) (fun _ _ _ _ _ => none) (fun _ C f args M k kq =>
  Option.rec (motive := fun _ => Out) (entK P ex kp hs fuel C f args M (fun rs T M => endK P ex kp hs fuel C rs T M k) (hanK P ex kp hs fuel C k kq)) (fun v => k v M) (kn f args M)) n
noncomputable def xcall (P : Program) (ex : Xn) (kp : Kp) (hs : Hts) (fuel : Nat) (n : Nat) : KP := xcallN (fun _ _ _ => none) P ex kp hs fuel n
end Go.Proofs.YtfgfofedacehiaaGreat

/-
 OWN TEXT: an evaluator made for the kernel: what its rows of eight hold.
-/
namespace Go.Proofs.YtfgfofedacehiaaGreat
open Go.RowKit
set_option linter.unusedVariables false
set_option linter.unusedSimpArgs false
theorem nthK_eq {α β : Type} : ∀ (L : List β) (n : Nat) (k : β → Option α), nthK L n k = (L[n]?).bind k
 | [], n, k => by cases n <;> rfl
 | x :: L, 0, k => rfl
 | x :: L, n + 1, k => (nthK_eq L n k).trans (by simp)
section
variable {α β : Type}
def g8 (i : Nat) (x : N8 β) : β := match i with
 | 0 => x.c0
 | 1 => x.c1
 | 2 => x.c2
 | 3 => x.c3
 | 4 => x.c4
 | 5 => x.c5
 | 6 => x.c6
 | _ => x.c7
def p8 (i : Nat) (v : β) (x : N8 β) : N8 β := match i with
 | 0 => { x with c0 := v }
 | 1 => { x with c1 := v }
 | 2 => { x with c2 := v }
 | 3 => { x with c3 := v }
 | 4 => { x with c4 := v }
 | 5 => { x with c5 := v }
 | 6 => { x with c6 := v }
 | _ => { x with c7 := v }
theorem g8_p8 {i j : Nat} (hi : i < 8) (hj : j < 8) (v : β) (x : N8 β) : g8 j (p8 i v x) = if i = j then v else g8 j x := by
 rcases i with _ | _ | _ | _ | _ | _ | _ | _ | i <;> first | (exfalso; omega) | (rcases j with _ | _ | _ | _ | _ | _ | _ | _ | j <;> first | (exfalso; omega) | rfl)
theorem g8_ext {x y : N8 β} (h : ∀ i, i < 8 → g8 i x = g8 i y) : x = y := by
 obtain ⟨x0, x1, x2, x3, x4, x5, x6, x7⟩ := x
 obtain ⟨y0, y1, y2, y3, y4, y5, y6, y7⟩ := y
 have h0 : x0 = y0 := h 0 (by decide)
 have h1 : x1 = y1 := h 1 (by decide)
 have h2 : x2 = y2 := h 2 (by decide)
 have h3 : x3 = y3 := h 3 (by decide)
 have h4 : x4 = y4 := h 4 (by decide)
 have h5 : x5 = y5 := h 5 (by decide)
 have h6 : x6 = y6 := h 6 (by decide)
 have h7 : x7 = y7 := h 7 (by decide)
 subst h0 h1 h2 h3 h4 h5 h6 h7
 rfl
theorem bits8 (n : Nat) : n % 8 = 4 * (n / 4 % 2) + 2 * (n / 2 % 2) + n % 2 := by omega
theorem pr8_eq (n : Nat) (x : N8 β) : pr8 n x = g8 (n % 8) x := by
 have h := bits8 n
 have a : n / 4 % 2 = 0 ∨ n / 4 % 2 = 1 := by omega
 have b : n / 2 % 2 = 0 ∨ n / 2 % 2 = 1 := by omega
 have c : n % 2 = 0 ∨ n % 2 = 1 := by omega
 have ea : Nat.mod (Nat.div n 4) 2 = n / 4 % 2 := rfl
 have eb : Nat.mod (Nat.div n 2) 2 = n / 2 % 2 := rfl
 have ec : Nat.mod n 2 = n % 2 := rfl
 unfold pr8 prL prH prLL prLH prHL prHH
 rw [h, ea, eb, ec]
 rcases a with a | a <;> rcases b with b | b <;> rcases c with c | c <;> rw [a, b, c] <;> rfl
theorem up0_eq (v : β) (x : N8 β) (k : N8 β → α) : up0 v x k = k (p8 0 v x) := by cases x; rfl
theorem up1_eq (v : β) (x : N8 β) (k : N8 β → α) : up1 v x k = k (p8 1 v x) := by cases x; rfl
theorem up2_eq (v : β) (x : N8 β) (k : N8 β → α) : up2 v x k = k (p8 2 v x) := by cases x; rfl
theorem up3_eq (v : β) (x : N8 β) (k : N8 β → α) : up3 v x k = k (p8 3 v x) := by cases x; rfl
theorem up4_eq (v : β) (x : N8 β) (k : N8 β → α) : up4 v x k = k (p8 4 v x) := by cases x; rfl
theorem up5_eq (v : β) (x : N8 β) (k : N8 β → α) : up5 v x k = k (p8 5 v x) := by cases x; rfl
theorem up6_eq (v : β) (x : N8 β) (k : N8 β → α) : up6 v x k = k (p8 6 v x) := by cases x; rfl
theorem up7_eq (v : β) (x : N8 β) (k : N8 β → α) : up7 v x k = k (p8 7 v x) := by cases x; rfl
theorem up8_eq (n : Nat) (v : β) (x : N8 β) (k : N8 β → α) : up8 n v x k = k (p8 (n % 8) v x) := by
 have h := bits8 n
 have a : n / 4 % 2 = 0 ∨ n / 4 % 2 = 1 := by omega
 have b : n / 2 % 2 = 0 ∨ n / 2 % 2 = 1 := by omega
 have c : n % 2 = 0 ∨ n % 2 = 1 := by omega
 have ea : Nat.mod (Nat.div n 4) 2 = n / 4 % 2 := rfl
 have eb : Nat.mod (Nat.div n 2) 2 = n / 2 % 2 := rfl
 have ec : Nat.mod n 2 = n % 2 := rfl
 unfold up8
 rw [h, ea, eb, ec]
 cases x
 rcases a with a | a <;> rcases b with b | b <;> rcases c with c | c <;> rw [a, b, c] <;> rfl
end
/-- a temporary, told and put -/
def gT (i : Nat) (T : Tm) : Value := g8 (i % 8) (g8 (i / 8) T)
def pT (i : Nat) (v : Value) (T : Tm) : Tm := p8 (i / 8) (p8 (i % 8) v (g8 (i / 8) T)) T
theorem gT_pT {i j : Nat} (hi : i < 64) (hj : j < 64) (v : Value) (T : Tm) : gT j (pT i v T) = if i = j then v else gT j T := by
 unfold gT pT
 rw [g8_p8 (by omega) (by omega)]
 by_cases h : i / 8 = j / 8
 ·
  rw [if_pos h, g8_p8 (by omega) (by omega)]
  by_cases h2 : i % 8 = j % 8
  · rw [if_pos h2, if_pos (by omega)]
  · rw [if_neg h2, if_neg (by omega), h]
 · rw [if_neg h, if_neg (by omega)]
theorem gT_t0 {i : Nat} (hi : i < 64) : gT i t0 = undef := by
 unfold gT t0
 have h1 : ∀ {β : Type} (n : Nat) (x : β), g8 n (rep8 x) = x := by
  intro β n x
  rcases n with _ | _ | _ | _ | _ | _ | _ | n <;> rfl
 rw [h1, h1]
set_option maxHeartbeats 1000000
theorem gRows_ok {i j : Nat} {r : List (Tm → Value)} {g : (Tm → Value)} (h1 : gRows[i]? = some r) (h2 : r[j]? = some g) : i < 8 ∧ j < 8 ∧ ∀ T, g T = g8 j (g8 i T) := by
 unfold gRows at h1
 rcases i with _ | _ | _ | _ | _ | _ | _ | _ | i <;> simp only [Nat.zero_add, Nat.reduceAdd, List.getElem?_cons_zero, List.getElem?_cons_succ, List.getElem?_nil, Option.some.injEq, reduceCtorEq] at h1 <;> subst h1 <;> rcases j with _ | _ | _ | _ | _ | _ | _ | _ | j <;> simp only [Nat.zero_add, Nat.reduceAdd, List.getElem?_cons_zero, List.getElem?_cons_succ, List.getElem?_nil, Option.some.injEq, reduceCtorEq] at h2 <;> subst h2 <;> refine ⟨by decide, by decide, ?_⟩
 all_goals (intro T; rfl)
theorem sRows_ok {i j : Nat} {r : List Sc} {g : Sc} (h1 : sRows[i]? = some r) (h2 : r[j]? = some g) : i < 8 ∧ j < 8 ∧ ∀ T L, g T L = g8 j (g8 i T) := by
 unfold sRows at h1
 rcases i with _ | _ | _ | _ | _ | _ | _ | _ | i <;> simp only [Nat.zero_add, Nat.reduceAdd, List.getElem?_cons_zero, List.getElem?_cons_succ, List.getElem?_nil, Option.some.injEq, reduceCtorEq] at h1 <;> subst h1 <;> rcases j with _ | _ | _ | _ | _ | _ | _ | _ | j <;> simp only [Nat.zero_add, Nat.reduceAdd, List.getElem?_cons_zero, List.getElem?_cons_succ, List.getElem?_nil, Option.some.injEq, reduceCtorEq] at h2 <;> subst h2 <;> refine ⟨by decide, by decide, ?_⟩
 all_goals (intro T L; rfl)
theorem pRows_ok {i j : Nat} {r : List Pt} {g : Pt} (h1 : pRows[i]? = some r) (h2 : r[j]? = some g) : i < 8 ∧ j < 8 ∧ ∀ v T c, g v T c = c (p8 i (p8 j v (g8 i T)) T) := by
 unfold pRows at h1
 rcases i with _ | _ | _ | _ | _ | _ | _ | _ | i <;> simp only [Nat.zero_add, Nat.reduceAdd, List.getElem?_cons_zero, List.getElem?_cons_succ, List.getElem?_nil, Option.some.injEq, reduceCtorEq] at h1 <;> subst h1 <;> rcases j with _ | _ | _ | _ | _ | _ | _ | _ | j <;> simp only [Nat.zero_add, Nat.reduceAdd, List.getElem?_cons_zero, List.getElem?_cons_succ, List.getElem?_nil, Option.some.injEq, reduceCtorEq] at h2 <;> subst h2 <;> refine ⟨by decide, by decide, ?_⟩
 all_goals (intro v T c; simp only [up0_eq, up1_eq, up2_eq, up3_eq, up4_eq, up5_eq, up6_eq, up7_eq]; rfl)
theorem bind_some {α β : Type} {x : Option α} {k : α → Option β} {r : β} (h : x.bind k = some r) : ∃ y, x = some y ∧ k y = some r := by
 cases x with
 | none => cases h
 | some y => exact ⟨y, rfl, h⟩
theorem mkG_some {γ : Type} {n : Nat} {k : (Tm → Value) → Option γ} {r : γ} (h : mkG n k = some r) : n < 64 ∧ ∃ g, (∀ T, g T = gT n T) ∧ k g = some r := by
 unfold mkG at h
 rw [nthK_eq] at h
 obtain ⟨x, h1, h2⟩ := bind_some h
 rw [nthK_eq] at h2
 obtain ⟨g, h3, h4⟩ := bind_some h2
 obtain ⟨k1, k2, k3⟩ := gRows_ok h1 h3
 have e : Nat.div n 8 = n / 8 := rfl
 rw [e] at k1
 exact ⟨by omega, g, k3, h4⟩
theorem mkS_some {γ : Type} {n : Nat} {k : Sc → Option γ} {r : γ} (h : mkS n k = some r) : n < 64 ∧ ∃ g, (∀ T L, g T L = gT n T) ∧ k g = some r := by
 unfold mkS at h
 rw [nthK_eq] at h
 obtain ⟨x, h1, h2⟩ := bind_some h
 rw [nthK_eq] at h2
 obtain ⟨g, h3, h4⟩ := bind_some h2
 obtain ⟨k1, k2, k3⟩ := sRows_ok h1 h3
 have e : Nat.div n 8 = n / 8 := rfl
 rw [e] at k1
 exact ⟨by omega, g, k3, h4⟩
theorem mkP_some {γ : Type} {n : Nat} {k : Pt → Option γ} {r : γ} (h : mkP n k = some r) : n < 64 ∧ ∃ p : Pt, (∀ v T c, p v T c = c (pT n v T)) ∧ k p = some r := by
 unfold mkP at h
 rw [nthK_eq] at h
 obtain ⟨x, h1, h2⟩ := bind_some h
 rw [nthK_eq] at h2
 obtain ⟨g, h3, h4⟩ := bind_some h2
 obtain ⟨k1, k2, k3⟩ := pRows_ok h1 h3
 have e : Nat.div n 8 = n / 8 := rfl
 rw [e] at k1
 exact ⟨by omega, g, k3, h4⟩
/-- memory as a list -/
noncomputable def toMem (M : Me) : Mem := (List.range M.n).map (getB M)
theorem toMem_len (M : Me) : (toMem M).length = M.n := by simp [toMem]
theorem toMem_get (M : Me) (b : Nat) : (toMem M)[b]? = if b < M.n then some (getB M b) else none := by
 unfold toMem
 rw [List.getElem?_map]
 by_cases h : b < M.n
 · rw [if_pos h, List.getElem?_range h]; rfl
 · rw [if_neg h, List.getElem?_eq_none (by simpa using h)]; rfl
theorem getB_eq (M : Me) (b : Nat) : getB M b = g8 (b % 8) (g8 (b / 8 % 8) (g8 (b / 64 % 8) (g8 (b / 512 % 8) (g8 (b / 4096 % 8) M.t)))) := by
 unfold getB
 simp only [pr8_eq]
 rfl
/-- memory with a block set -/
def sM (M : Me) (b : Nat) (x : Option Blk) : Me := ⟨M.n, p8 (b / 4096 % 8) (p8 (b / 512 % 8) (p8 (b / 64 % 8) (p8 (b / 8 % 8) (p8 (b % 8) x (g8 (b / 8 % 8) (g8 (b / 64 % 8) (g8 (b / 512 % 8) (g8 (b / 4096 % 8) M.t))))) (g8 (b / 64 % 8) (g8 (b / 512 % 8) (g8 (b / 4096 % 8) M.t)))) (g8 (b / 512 % 8) (g8 (b / 4096 % 8) M.t))) (g8 (b / 4096 % 8) M.t)) M.t⟩
theorem setM_eq {α : Type} (M : Me) (b : Nat) (x : Option Blk) (k : Me → α) : setM M b x k = k (sM M b x) := by
 unfold setM sM
 simp only [up8_eq, pr8_eq]
 rfl
theorem getB_sM {b c : Nat} (hb : b < 32768) (hc : c < 32768) (M : Me) (x : Option Blk) : getB (sM M b x) c = if b = c then x else getB M c := by
 rw [getB_eq, getB_eq]
 unfold sM
 simp only
 rw [g8_p8 (by omega) (by omega)]
 by_cases h4 : b / 4096 % 8 = c / 4096 % 8
 ·
  rw [if_pos h4, g8_p8 (by omega) (by omega)]
  by_cases h3 : b / 512 % 8 = c / 512 % 8
  ·
   rw [if_pos h3, g8_p8 (by omega) (by omega)]
   by_cases h2 : b / 64 % 8 = c / 64 % 8
   ·
    rw [if_pos h2, g8_p8 (by omega) (by omega)]
    by_cases h1 : b / 8 % 8 = c / 8 % 8
    ·
     rw [if_pos h1, g8_p8 (by omega) (by omega)]
     by_cases h0 : b % 8 = c % 8
     · rw [if_pos h0, if_pos (by omega)]
     · rw [if_neg h0, if_neg (by omega), h1, h2, h3, h4]
    · rw [if_neg h1, if_neg (by omega), h2, h3, h4]
   · rw [if_neg h2, if_neg (by omega), h3, h4]
  · rw [if_neg h3, if_neg (by omega), h4]
 · rw [if_neg h4, if_neg (by omega)]
/-- what is not laid yet is none -/
structure Can (M : Me) : Prop where
 le : M.n ≤ 32768
 none : ∀ b, M.n ≤ b → b < 32768 → getB M b = none
theorem Can.ext {M N : Me} (h : Can M) (k : Can N) (e : toMem M = toMem N) : M = N := by
 have hn : M.n = N.n := by rw [← toMem_len, ← toMem_len, e]
 have hg : ∀ b, b < 32768 → getB M b = getB N b := by
  intro b hb
  rcases Nat.lt_or_ge b M.n with c | c
  ·
   have := congrArg (fun l => l[b]?) e
   simp only [toMem_get] at this
   rw [if_pos c, if_pos (by omega)] at this
   exact Option.some.inj this
  · rw [h.none b c hb, k.none b (by omega) hb]
 have ht : M.t = N.t := by
  refine g8_ext fun i4 h4 => g8_ext fun i3 h3 => g8_ext fun i2 h2 => g8_ext fun i1 h1 => g8_ext fun i0 h0 => ?_
  have := hg (i0 + 8 * i1 + 64 * i2 + 512 * i3 + 4096 * i4) (by omega)
  rw [getB_eq, getB_eq] at this
  rw [show (i0 + 8 * i1 + 64 * i2 + 512 * i3 + 4096 * i4) % 8 = i0 by omega, show (i0 + 8 * i1 + 64 * i2 + 512 * i3 + 4096 * i4) / 8 % 8 = i1 by omega, show (i0 + 8 * i1 + 64 * i2 + 512 * i3 + 4096 * i4) / 64 % 8 = i2 by omega, show (i0 + 8 * i1 + 64 * i2 + 512 * i3 + 4096 * i4) / 512 % 8 = i3 by omega, show (i0 + 8 * i1 + 64 * i2 + 512 * i3 + 4096 * i4) / 4096 % 8 = i4 by omega] at this
  exact this
 obtain ⟨m, t⟩ := M
 obtain ⟨n, u⟩ := N
 simp only at hn ht
 subst hn ht
 rfl
theorem Can.set {M : Me} (h : Can M) {b : Nat} (hb : b < M.n) (x : Option Blk) : Can (sM M b x) ∧ toMem (sM M b x) = (toMem M).set b x := by
 have hle := h.le
 refine ⟨⟨h.le, fun c h1 h2 => ?_⟩, ?_⟩
 · rw [getB_sM (by omega) h2, if_neg (by have : M.n ≤ c := h1; omega)]; exact h.none c h1 h2
 ·
  refine List.ext_getElem? fun c => ?_
  rw [toMem_get, List.getElem?_set, toMem_len, toMem_get]
  show (if c < M.n then _ else _) = _
  by_cases hc : c < M.n
  ·
   rw [if_pos hc, getB_sM (by omega) (by omega)]
   by_cases e : b = c
   · rw [if_pos e, if_pos e, if_pos hb]
   · rw [if_neg e, if_neg e, if_pos hc]
  · rw [if_neg hc, if_neg (by omega), if_neg hc]
/-- memory with a block more -/
def pM (M : Me) (x : Blk) : Me := ⟨M.n + 1, (sM M M.n (some x)).t⟩
theorem Can.push {M : Me} (h : Can M) (hlt : M.n < 32768) (x : Blk) : Can (pM M x) ∧ toMem (pM M x) = toMem M ++ [some x] := by
 have hle := h.le
 have hg : ∀ c, c < 32768 → getB (pM M x) c = if M.n = c then some x else getB M c := fun c hc => by
  have := getB_sM (b := M.n) (c := c) hlt hc M (some x)
  exact this
 refine ⟨⟨by show M.n + 1 ≤ 32768; omega, fun c h1 h2 => ?_⟩, ?_⟩
 ·
  have : M.n + 1 ≤ c := h1
  rw [hg c h2, if_neg (by omega)]; exact h.none c (by omega) h2
 ·
  refine List.ext_getElem? fun c => ?_
  rw [toMem_get]
  show (if c < M.n + 1 then _ else _) = _
  rcases Nat.lt_trichotomy c M.n with hc | hc | hc
  · rw [if_pos (by omega), hg c (by omega), if_neg (by omega), List.getElem?_append_left (by rw [toMem_len]; exact hc), toMem_get, if_pos hc]
  · rw [if_pos (by omega), hg c (by omega), if_pos hc.symm, List.getElem?_append_right (by rw [toMem_len]; omega), toMem_len, hc]; simp
  · rw [if_neg (by omega), List.getElem?_append_right (by rw [toMem_len]; omega), toMem_len, List.getElem?_eq_none (by simp; omega)]
theorem pushM_some {α : Type} {M : Me} {x : Blk} {k : Me → Option α} {r : α} (h : pushM M x k = some r) : M.n < 32768 ∧ ∀ k' : Me → Option α, pushM M x k' = k' (pM M x) := by
 unfold pushM at h ⊢
 have e : Nat.blt M.n 32768 = decide (M.n < 32768) := blt_iff _ _
 rw [e] at h ⊢
 by_cases c : M.n < 32768
 ·
  rw [decide_eq_true c] at h ⊢
  refine ⟨c, fun k' => ?_⟩
  show setM M M.n (some x) _ = _
  rw [setM_eq, frcN_eq]
  rfl
 · rw [decide_eq_false c] at h; cases h
end Go.Proofs.YtfgfofedacehiaaGreat

/-
 OWN TEXT: an evaluator made for the kernel: what an operation that was made ready does.
-/
namespace Go.Proofs.YtfgfofedacehiaaGreat
open Go.RowKit
set_option linter.unusedVariables false
set_option linter.unusedSimpArgs false
/-- calls as they come to their end, in both ways -/
def CGood (C : KP) (Ks Kp : Caller) : Prop := ∀ (f : FuncId) (vs : List Value) (M : Me) (k kq : Value → Me → Out) (out : Value × Me), Can M → C f vs M k kq = some out → (∃ v M', Can M' ∧ (∀ k kq, C f vs M k kq = k v M') ∧ Ks f vs (toMem M) = some (v, toMem M')) ∨ ∃ pv M', Can M' ∧ (∀ k kq, C f vs M k kq = kq pv M') ∧ Kp f vs (toMem M) = some (pv, toMem M')
/-- where an operation panics: with what -/
def evPan (Kp : Caller) (P : Program) (A : Mem) (e : Operand → Option Value) (o : Oper) : Option (Value × Mem) :=
 match o.op with
 | .panic x => match e x with | some (.iface t u) => if flat1 u then some (.iface t u, A) else none | _ => none
 | .call c => match c.callee with | .value f => evCallO Kp P A e f c.args.toList | .invoke x name => evInvO Kp P A e x name c.args.toList | _ => none
 | _ => none
/-- operands are where they are told -/
def Fits (res : Rs) (a : Act) (T : Tm) (L : Rg) : Prop := ∀ (x : Operand) (sc : Sc), res x = some sc → evalO a x = some (sc T L)
/-- it does what the operation does -/
def OpOk (P : Program) (Ks : Caller) (c : XO) (o : Oper) (res : Rs) : Prop := ∀ (K : KC) (T : Tm) (M : Me) (L : Rg) (k : Value → Me → Out) (out : Value × Me) (a : Act), True → Can M → Fits res a T L → c K T M L k = some out →
 ∃ v M', Can M' ∧ (∀ K k, c K T M L k = k v M') ∧ evOp Ks P (toMem M) (evalO a) o = some (v, toMem M')
/-- it does what the operation does, or panics as that does -/
def OpOk2 (P : Program) (Ks Kp : Caller) (c : XO) (o : Oper) (res : Rs) : Prop := ∀ (C : KP) (H : Tm → Value → Me → Out) (T : Tm) (M : Me) (L : Rg) (k : Value → Me → Out) (out : Value × Me) (a : Act), CGood C Ks Kp → Can M → Fits res a T L → c (frK C H) T M L k = some out →
 (∃ v M', Can M' ∧ (∀ H k, c (frK C H) T M L k = k v M') ∧ evOp Ks P (toMem M) (evalO a) o = some (v, toMem M')) ∨ ∃ pv M', Can M' ∧ (∀ (H : Tm → Value → Me → Out) k, c (frK C H) T M L k = H T pv M') ∧ evPan Kp P (toMem M) (evalO a) o = some (pv, toMem M')
theorem OpOk.two {P : Program} {Ks Kp : Caller} {c : XO} {o : Oper} {res : Rs} (h : OpOk P Ks c o res) : OpOk2 P Ks Kp c o res := fun C H T M L k out a _ hM hf hk => Or.inl (let ⟨v, M', h1, h2, h3⟩ := h (frK C H) T M L k out a trivial hM hf hk; ⟨v, M', h1, fun H k => h2 _ k, h3⟩)
section
variable {P : Program} {Ks : Caller} {o : Oper} {res : Rs}
theorem mk1_some {x : Operand} {k : Sc → XO} {c : XO} (h : mk1 res x k = some c) : ∃ sx, res x = some sx ∧ c = k sx := by
 unfold mk1 at h
 split at h
 · rename_i q; cases h; exact ⟨_, q, rfl⟩
 · cases h
theorem mk2_some {x y : Operand} {k : Sc → Sc → XO} {c : XO} (h : mk2 res x y k = some c) : ∃ sx sy, res x = some sx ∧ res y = some sy ∧ c = k sx sy := by
 unfold mk2 at h
 split at h
 · rename_i q1 q2; cases h; exact ⟨_, _, q1, q2, rfl⟩
 · cases h
theorem mk3_some {x y z : Operand} {k : Sc → Sc → Sc → XO} {c : XO} (h : mk3 res x y z k = some c) : ∃ sx sy sz, res x = some sx ∧ res y = some sy ∧ res z = some sz ∧ c = k sx sy sz := by
 unfold mk3 at h
 split at h
 · rename_i q1 q2 q3; cases h; exact ⟨_, _, _, q1, q2, q3, rfl⟩
 · cases h
theorem scsK_eq {α : Type} : ∀ (xs : List Sc) (T : Tm) (L : Rg) (k : List Value → Option α), scsK xs T L k = k (xs.map fun x => x T L)
 | [], _, _, _ => rfl
 | x :: xs, T, L, k => by
  show scsK xs T L (fun vs => k (x T L :: vs)) = _
  rw [scsK_eq xs]
  rfl
theorem ok_p1 {f : Value → (Value → Out) → Out} {x : Operand} {sx : Sc} (hx : res x = some sx)
  (hf : ∀ (a : Act) (v : Value) (k : Value → Out) (out : Value × Me), evalO a x = some v → f v k = some out → ∃ u, (∀ k, f v k = k u) ∧ ∀ A, evOp Ks P A (evalO a) o = some (u, A)) : OpOk P Ks (xP1 f sx) o res := by
 intro K T M L k out a hK hM hfit h
 obtain ⟨u, h1, h2⟩ := hf a _ _ out (hfit x sx hx) h
 exact ⟨u, M, hM, fun _ k => h1 _, h2 _⟩
theorem ok_p2 {f : Value → Value → (Value → Out) → Out} {x y : Operand} {sx sy : Sc} (hx : res x = some sx) (hy : res y = some sy)
  (hf : ∀ (a : Act) (v w : Value) (k : Value → Out) (out : Value × Me), evalO a x = some v → evalO a y = some w → f v w k = some out → ∃ u, (∀ k, f v w k = k u) ∧ ∀ A, evOp Ks P A (evalO a) o = some (u, A)) : OpOk P Ks (xP2 f sx sy) o res := by
 intro K T M L k out a hK hM hfit h
 obtain ⟨u, h1, h2⟩ := hf a _ _ _ out (hfit x sx hx) (hfit y sy hy) h
 exact ⟨u, M, hM, fun _ k => h1 _, h2 _⟩
theorem ok_p3 {f : Value → Value → Value → (Value → Out) → Out} {x y z : Operand} {sx sy sz : Sc} (hx : res x = some sx) (hy : res y = some sy) (hz : res z = some sz)
  (hf : ∀ (a : Act) (v w q : Value) (k : Value → Out) (out : Value × Me), evalO a x = some v → evalO a y = some w → evalO a z = some q → f v w q k = some out → ∃ u, (∀ k, f v w q k = k u) ∧ ∀ A, evOp Ks P A (evalO a) o = some (u, A)) : OpOk P Ks (xP3 f sx sy sz) o res := by
 intro K T M L k out a hK hM hfit h
 obtain ⟨u, h1, h2⟩ := hf a _ _ _ _ out (hfit x sx hx) (hfit y sy hy) (hfit z sz hz) h
 exact ⟨u, M, hM, fun _ k => h1 _, h2 _⟩
/-- operations that only reckon, at values without addresses -/
theorem evOp_flat {a : Act} {v : Value} (hp : isP o.op = true) (h : flatP P (evalO a) o = some v) (hm : ∀ x, o.op ≠ .move x) (hs : ∀ x, o.op ≠ .assign x) (he : ∀ x i, o.op ≠ .extract x i) (A : Mem) : evOp Ks P A (evalO a) o = some (v, A) := by
 have hE : evPN P (evalO a) o = some v := evPN_of (by unfold evP; rw [h])
 obtain ⟨dst, op, type, pos, after, guard⟩ := o
 cases op
 case move x => exact absurd rfl (hm x)
 case assign x => exact absurd rfl (hs x)
 case extract x i => exact absurd rfl (he x i)
 case call c =>
  obtain ⟨callee, args, argTypes⟩ := c
  cases callee with
  | value f => cases hp
  | invoke r m => cases hp
  | builtin b => cases b <;> first | (simp only [evOp, hE]; rfl) | cases hp
 all_goals first | (simp only [evOp, hE]; rfl) | cases hp
theorem flatP_none {e : Operand → Option Value} {x : Operand} {v : Value} (hx : x ∈ o.op.operands) (h : e x = some v) (hf : flat v = false) : flatP P e o = none := by
 unfold flatP
 have : o.op.operands.toList.all (flatO e) = false := by
  rw [List.all_eq_false]
  exact ⟨x, by simpa using hx, by unfold flatO; rw [h]; simp [hf]⟩
 rw [this, Bool.and_false]
 rfl
end
-- numbers
section
variable {α : Type}
theorem asI_some {v : Value} {k : IntKind → Int → Option α} {r : α} (h : asI v k = some r) : ∃ i n, v = .int i n ∧ k i n = some r := by
 cases v <;> first | cases h | exact ⟨_, _, rfl, h⟩
theorem asF_some {v : Value} {k : Nat → Option α} {r : α} (h : asF v k = some r) : ∃ n, v = .float .f64 n ∧ k n = some r := by
 cases v
 case float i n => cases i <;> first | cases h | exact ⟨_, rfl, h⟩
 all_goals cases h
theorem asB_some {v : Value} {k : Bool → Option α} {r : α} (h : asB v k = some r) : ∃ b, v = .bool b ∧ k b = some r := by
 cases v <;> first | cases h | exact ⟨_, rfl, h⟩
theorem wnK_some {b : Bool} {v : Value} {k : Bool → Option α} {r : α} (h : wnK b v k = some r) : ∃ c, ((∃ c', v = .bool c' ∧ c = (c' == b)) ∨ (v = undef ∧ c = false)) ∧ k c = some r := by
 unfold wnK at h
 split at h
 · rename_i c; exact ⟨_, Or.inl ⟨c, rfl, rfl⟩, h⟩
 · exact ⟨false, Or.inr ⟨rfl, rfl⟩, h⟩
 · cases h
theorem wnK_at {b : Bool} {v : Value} {c : Bool} (h : (∃ c', v = .bool c' ∧ c = (c' == b)) ∨ (v = undef ∧ c = false)) (k : Bool → Option α) : wnK b v k = k c := by
 rcases h with ⟨c', rfl, rfl⟩ | ⟨rfl, rfl⟩ <;> rfl
theorem wn_wanted {ops : Array Oper} {o : Oper} {a : Act} {j t : Nat} {b c : Bool} {v : Value} (hg : o.guard = some (j, b)) (ht : (ops[j]?).bind (·.dst) = some t) (hv : a.tmps[t]? = some v) (h : (∃ c', v = .bool c' ∧ c = (c' == b)) ∨ (v = undef ∧ c = false)) : Region.wanted o (yielded ops a.tmps) = c := by
 unfold Region.wanted
 rw [hg]
 simp only [yielded, ht, Option.bind_some, hv]
 rcases h with ⟨c', rfl, rfl⟩ | ⟨rfl, rfl⟩
 · cases c' <;> cases b <;> rfl
 · cases b <;> rfl
theorem ptrK_some {v : Value} {k : Nat → Nat → Option α} {r : α} (h : ptrK v k = some r) : ∃ b o, v = .pointer (some ⟨b, o, none⟩) ∧ k b o = some r := by
 cases v
 case pointer a =>
  cases a with
  | none => cases h
  | some a =>
   obtain ⟨b, o, s⟩ := a
   cases s with
   | none => exact ⟨b, o, rfl, h⟩
   | some s => cases h
 all_goals cases h
theorem eqK_eq (i j : IntKind) : eqK i j = decide (i = j) := by cases i <;> cases j <;> rfl
theorem addZ_eq (a b : Int) (k : Int → α) : addZ a b k = k (a + b) := by
 cases a with
 | ofNat m => cases b with
  | ofNat n => show frcN (Nat.add m n) (fun z => k (Int.ofNat z)) = _; rw [frcN_eq]; rfl
  | negSucc n => show frcZ (Int.add (.ofNat m) (.negSucc n)) k = _; rw [frcZ_eq]; rfl
 | negSucc m => show frcZ (Int.add (.negSucc m) b) k = _; rw [frcZ_eq]; rfl
theorem subZ_eq (a b : Int) (k : Int → α) : subZ a b k = k (a - b) := by
 cases a with
 | ofNat m => cases b with
  | ofNat n =>
   show cond (Nat.ble n m) _ _ = _
   rw [ble_iff]
   by_cases c : n ≤ m
   ·
    rw [decide_eq_true c, cond_true, frcN_eq]
    congr 1
    show ((m - n : Nat) : Int) = (m : Int) - (n : Int)
    omega
   ·
    rw [decide_eq_false c, cond_false, frcN_eq]
    congr 1
    show Int.negSucc (n - m - 1) = (m : Int) - (n : Int)
    rw [Int.negSucc_eq]
    omega
  | negSucc n => show frcZ (Int.sub (.ofNat m) (.negSucc n)) k = _; rw [frcZ_eq]; rfl
 | negSucc m => show frcZ (Int.sub (.negSucc m) b) k = _; rw [frcZ_eq]; rfl
theorem mulZ_eq (a b : Int) (k : Int → α) : mulZ a b k = k (a * b) := by
 cases a with
 | ofNat m => cases b with
  | ofNat n => show frcN (Nat.mul m n) (fun z => k (Int.ofNat z)) = _; rw [frcN_eq]; rfl
  | negSucc n => show frcZ (Int.mul (.ofNat m) (.negSucc n)) k = _; rw [frcZ_eq]; rfl
 | negSucc m => show frcZ (Int.mul (.negSucc m) b) k = _; rw [frcZ_eq]; rfl
theorem wrap_in (i : IntKind) (z : Int) (h1 : i.min ≤ z) (h2 : z ≤ i.max) : i.wrap z = z := by
 cases i <;> simp [IntKind.min, IntKind.max, IntKind.signed, IntKind.bits, IntKind.wrap] at * <;> omega
theorem wrapK_eq (i : IntKind) (z : Int) (k : Int → α) : wrapK i z k = k (i.wrap z) := by
 cases z with
 | ofNat m =>
  have e : ∀ j : IntKind, j.wrap (Int.ofNat m) = j.wrap (m : Int) := fun _ => rfl
  have go : ∀ (b : Nat) (y : α), (i.max = (b : Int)) → (¬ m ≤ b → y = k (i.wrap (m : Int))) → cond (Nat.ble m b) (k (Int.ofNat m)) y = k (i.wrap (m : Int)) := by
   intro b y hb hy
   rw [ble_iff]
   by_cases c : m ≤ b
   ·
    rw [decide_eq_true c, cond_true, wrap_in i m]
    · rfl
    ·
     have : i.min ≤ 0 := by cases i <;> decide
     omega
    · rw [hb]; omega
   · rw [decide_eq_false c, cond_false]; exact hy c
  rw [e]
  cases i
  case i8 => exact go 127 _ (by decide) fun _ => frcZ_eq _ _
  case i16 => exact go 32767 _ (by decide) fun _ => frcZ_eq _ _
  case i32 => exact go 2147483647 _ (by decide) fun _ => frcZ_eq _ _
  case i64 => exact go 9223372036854775807 _ (by decide) fun _ => frcZ_eq _ _
  case u8 => exact go 255 _ (by decide) fun _ => (frcN_eq _ _).trans (by rw [IntKind.wrap_u8]; rfl)
  case u16 => exact go 65535 _ (by decide) fun _ => (frcN_eq _ _).trans (by rw [IntKind.wrap_u16]; rfl)
  case u32 => exact go 4294967295 _ (by decide) fun _ => (frcN_eq _ _).trans (by rw [IntKind.wrap_u32]; rfl)
  case u64 => exact go 18446744073709551615 _ (by decide) fun _ => (frcN_eq _ _).trans (by rw [IntKind.wrap_u64]; rfl)
 | negSucc m =>
  have e : Int.negSucc m = -((m : Int) + 1) := Int.negSucc_eq m
  have go : ∀ (b : Nat), (m < b → i.min ≤ -(b : Int)) → cond (Nat.blt m b) (k (Int.negSucc m)) (frcZ (i.wrap (.negSucc m)) k) = k (i.wrap (.negSucc m)) := by
   intro b hb
   rw [blt_iff]
   by_cases c : m < b
   ·
    rw [decide_eq_true c, cond_true, wrap_in i (.negSucc m)]
    · have := hb c; omega
    ·
     have : 0 ≤ i.max := by cases i <;> decide
     omega
   · rw [decide_eq_false c, cond_false, frcZ_eq]
  cases i
  case i8 => exact go 128 (fun _ => by decide)
  case i16 => exact go 32768 (fun _ => by decide)
  case i32 => exact go 2147483648 (fun _ => by decide)
  case i64 => exact go 9223372036854775808 (fun _ => by decide)
  case u8 => exact go 0 (fun c => by omega)
  case u16 => exact go 0 (fun c => by omega)
  case u32 => exact go 0 (fun c => by omega)
  case u64 => exact go 0 (fun c => by omega)
theorem ltZ_eq (a b : Int) : ltZ a b = decide (a < b) := by
 cases a with
 | ofNat m => cases b with
  | ofNat n => show Nat.blt m n = _; rw [blt_iff]; congr 1; simp
  | negSucc n => show false = _; symm; rw [decide_eq_false_iff_not, Int.negSucc_eq]; show ¬ (m : Int) < _; omega
 | negSucc m => cases b with
  | ofNat n => show true = _; symm; rw [decide_eq_true_iff, Int.negSucc_eq]; show _ < (n : Int); omega
  | negSucc n => show Nat.blt n m = _; rw [blt_iff]; congr 1; rw [Int.negSucc_eq, Int.negSucc_eq, eq_iff_iff]; omega
theorem leZ_eq (a b : Int) : leZ a b = decide (a ≤ b) := by
 cases a with
 | ofNat m => cases b with
  | ofNat n => show Nat.ble m n = _; rw [ble_iff]; congr 1; simp
  | negSucc n => show false = _; symm; rw [decide_eq_false_iff_not, Int.negSucc_eq]; show ¬ (m : Int) ≤ _; omega
 | negSucc m => cases b with
  | ofNat n => show true = _; symm; rw [decide_eq_true_iff, Int.negSucc_eq]; show _ ≤ (n : Int); omega
  | negSucc n => show Nat.ble n m = _; rw [ble_iff]; congr 1; rw [Int.negSucc_eq, Int.negSucc_eq, eq_iff_iff]; omega
theorem eqZ_eq (a b : Int) : eqZ a b = (a == b) := by
 have hb : ∀ m n : Nat, Nat.beq m n = decide (m = n) := fun m n => by
  by_cases c : m = n
  · subst c; rw [Nat.beq_refl]; simp
  · rw [decide_eq_false c]; exact Bool.eq_false_iff.2 fun q => c (Nat.eq_of_beq_eq_true q)
 rw [show (a == b) = decide (a = b) from rfl]
 cases a with
 | ofNat m => cases b with
  | ofNat n => show Nat.beq m n = _; rw [hb]; congr 1; rw [eq_iff_iff]; show m = n ↔ (m : Int) = (n : Int); omega
  | negSucc n => show false = _; symm; rw [decide_eq_false_iff_not]; intro q; cases q
 | negSucc m => cases b with
  | ofNat n => show false = _; symm; rw [decide_eq_false_iff_not]; intro q; cases q
  | negSucc n => show Nat.beq m n = _; rw [hb]; congr 1; simp
end
end Go.Proofs.YtfgfofedacehiaaGreat

