/-
  OWN TEXT: an evaluator for calls without open arguments, made for the kernel: temporaries and memory in rows of eight; every step goes on from what is written out.
-/
import Derived.Test.YtmbjgakehghdjaaKae
namespace Go.Proofs.Ytmbjgakehghdjaa
open Go.RowKit
set_option linter.unusedVariables false
set_option linter.unusedSimpArgs false
noncomputable def nth {β : Type} (l : List β) (n : Nat) : Option β := List.rec (motive := fun _ => Nat → Option β) (fun _ => none) (fun x _ ih n => Nat.rec (motive := fun _ => Option β) (some x) (fun m _ => ih m) n) l n
theorem nth_eq {β : Type} : ∀ (l : List β) (n : Nat), nth l n = l[n]?
  | [], n => by cases n <;> rfl
  | x :: l, 0 => rfl
  | x :: l, n + 1 => (nth_eq l n).trans (by simp)
structure N8 (β : Type) where
  (c0 c1 c2 c3 c4 c5 c6 c7 : β)
section
variable {α β : Type}
/-- the part with this number (its last three bits) -/
noncomputable def prLL (n : Nat) (x : N8 β) : β := (Bool.rec (motive := fun _ => β) x.c1 x.c0 (Nat.beq (Nat.mod n 2) 0))
noncomputable def prLH (n : Nat) (x : N8 β) : β := (Bool.rec (motive := fun _ => β) x.c3 x.c2 (Nat.beq (Nat.mod n 2) 0))
noncomputable def prHL (n : Nat) (x : N8 β) : β := (Bool.rec (motive := fun _ => β) x.c5 x.c4 (Nat.beq (Nat.mod n 2) 0))
noncomputable def prHH (n : Nat) (x : N8 β) : β := (Bool.rec (motive := fun _ => β) x.c7 x.c6 (Nat.beq (Nat.mod n 2) 0))
noncomputable def prL (n : Nat) (x : N8 β) : β := (Bool.rec (motive := fun _ => β) (prLH n x) (prLL n x) (Nat.beq (Nat.mod (Nat.div n 2) 2) 0))
noncomputable def prH (n : Nat) (x : N8 β) : β := (Bool.rec (motive := fun _ => β) (prHH n x) (prHL n x) (Nat.beq (Nat.mod (Nat.div n 2) 2) 0))
noncomputable def pr8 (n : Nat) (x : N8 β) : β := (Bool.rec (motive := fun _ => β) (prH n x) (prL n x) (Nat.beq (Nat.mod (Nat.div n 4) 2) 0))
noncomputable def up0 : β → N8 β → (N8 β → α) → α := fun v x k => N8.rec (motive := fun _ => α) (fun c0 c1 c2 c3 c4 c5 c6 c7 => k ⟨v, c1, c2, c3, c4, c5, c6, c7⟩) x
noncomputable def up1 : β → N8 β → (N8 β → α) → α := fun v x k => N8.rec (motive := fun _ => α) (fun c0 c1 c2 c3 c4 c5 c6 c7 => k ⟨c0, v, c2, c3, c4, c5, c6, c7⟩) x
noncomputable def up2 : β → N8 β → (N8 β → α) → α := fun v x k => N8.rec (motive := fun _ => α) (fun c0 c1 c2 c3 c4 c5 c6 c7 => k ⟨c0, c1, v, c3, c4, c5, c6, c7⟩) x
noncomputable def up3 : β → N8 β → (N8 β → α) → α := fun v x k => N8.rec (motive := fun _ => α) (fun c0 c1 c2 c3 c4 c5 c6 c7 => k ⟨c0, c1, c2, v, c4, c5, c6, c7⟩) x
noncomputable def up4 : β → N8 β → (N8 β → α) → α := fun v x k => N8.rec (motive := fun _ => α) (fun c0 c1 c2 c3 c4 c5 c6 c7 => k ⟨c0, c1, c2, c3, v, c5, c6, c7⟩) x
noncomputable def up5 : β → N8 β → (N8 β → α) → α := fun v x k => N8.rec (motive := fun _ => α) (fun c0 c1 c2 c3 c4 c5 c6 c7 => k ⟨c0, c1, c2, c3, c4, v, c6, c7⟩) x
noncomputable def up6 : β → N8 β → (N8 β → α) → α := fun v x k => N8.rec (motive := fun _ => α) (fun c0 c1 c2 c3 c4 c5 c6 c7 => k ⟨c0, c1, c2, c3, c4, c5, v, c7⟩) x
noncomputable def up7 : β → N8 β → (N8 β → α) → α := fun v x k => N8.rec (motive := fun _ => α) (fun c0 c1 c2 c3 c4 c5 c6 c7 => k ⟨c0, c1, c2, c3, c4, c5, c6, v⟩) x
/-- the part with this number, set -/
noncomputable def up8 (n : Nat) : β → N8 β → (N8 β → α) → α := (Bool.rec (motive := fun _ => β → N8 β → (N8 β → α) → α) (Bool.rec (motive := fun _ => β → N8 β → (N8 β → α) → α) (Bool.rec (motive := fun _ => β → N8 β → (N8 β → α) → α) up7 up6 (Nat.beq (Nat.mod n 2) 0)) (Bool.rec (motive := fun _ => β → N8 β → (N8 β → α) → α) up5 up4 (Nat.beq (Nat.mod n 2) 0)) (Nat.beq (Nat.mod (Nat.div n 2) 2) 0)) (Bool.rec (motive := fun _ => β → N8 β → (N8 β → α) → α) (Bool.rec (motive := fun _ => β → N8 β → (N8 β → α) → α) up3 up2 (Nat.beq (Nat.mod n 2) 0)) (Bool.rec (motive := fun _ => β → N8 β → (N8 β → α) → α) up1 up0 (Nat.beq (Nat.mod n 2) 0)) (Nat.beq (Nat.mod (Nat.div n 2) 2) 0)) (Nat.beq (Nat.mod (Nat.div n 4) 2) 0))
end
abbrev M5 := N8 (N8 (N8 (N8 (N8 (Option Blk)))))
structure Me where
  n : Nat
  t : M5
abbrev Out := Option (Value × Me)
noncomputable def nthK {α β : Type} (L : List β) : Nat → (β → Option α) → Option α :=
  List.rec (motive := fun _ => Nat → (β → Option α) → Option α) (fun _ _ => none) (fun x _ ih n => Nat.rec (motive := fun _ => (β → Option α) → Option α) (fun k => k x) (fun m _ k => ih m k) n) L
abbrev Tm := N8 (N8 Value)
/-- the region's own values, the last one first -/
abbrev Rg := Nat → Value
noncomputable def pushR (v : Value) (L : Rg) : Rg := fun n => Nat.rec (motive := fun _ => Value) v (fun m _ => L m) n
/-- where an operand's value is -/
abbrev Sc := Tm → Rg → Value
/-- the temporary with this number, told and put -/
abbrev Pt := Value → Tm → (Tm → Option (Value × Me)) → Option (Value × Me)
def gRows : List (List (Tm → Value)) := [[(fun T => T.c0.c0), (fun T => T.c0.c1), (fun T => T.c0.c2), (fun T => T.c0.c3), (fun T => T.c0.c4), (fun T => T.c0.c5), (fun T => T.c0.c6), (fun T => T.c0.c7)], [(fun T => T.c1.c0), (fun T => T.c1.c1), (fun T => T.c1.c2), (fun T => T.c1.c3), (fun T => T.c1.c4), (fun T => T.c1.c5), (fun T => T.c1.c6), (fun T => T.c1.c7)], [(fun T => T.c2.c0), (fun T => T.c2.c1), (fun T => T.c2.c2), (fun T => T.c2.c3), (fun T => T.c2.c4), (fun T => T.c2.c5), (fun T => T.c2.c6), (fun T => T.c2.c7)], [(fun T => T.c3.c0), (fun T => T.c3.c1), (fun T => T.c3.c2), (fun T => T.c3.c3), (fun T => T.c3.c4), (fun T => T.c3.c5), (fun T => T.c3.c6), (fun T => T.c3.c7)], [(fun T => T.c4.c0), (fun T => T.c4.c1), (fun T => T.c4.c2), (fun T => T.c4.c3), (fun T => T.c4.c4), (fun T => T.c4.c5), (fun T => T.c4.c6), (fun T => T.c4.c7)], [(fun T => T.c5.c0), (fun T => T.c5.c1), (fun T => T.c5.c2), (fun T => T.c5.c3), (fun T => T.c5.c4), (fun T => T.c5.c5), (fun T => T.c5.c6), (fun T => T.c5.c7)], [(fun T => T.c6.c0), (fun T => T.c6.c1), (fun T => T.c6.c2), (fun T => T.c6.c3), (fun T => T.c6.c4), (fun T => T.c6.c5), (fun T => T.c6.c6), (fun T => T.c6.c7)], [(fun T => T.c7.c0), (fun T => T.c7.c1), (fun T => T.c7.c2), (fun T => T.c7.c3), (fun T => T.c7.c4), (fun T => T.c7.c5), (fun T => T.c7.c6), (fun T => T.c7.c7)]]
def sRows : List (List Sc) := [[(fun T _ => T.c0.c0), (fun T _ => T.c0.c1), (fun T _ => T.c0.c2), (fun T _ => T.c0.c3), (fun T _ => T.c0.c4), (fun T _ => T.c0.c5), (fun T _ => T.c0.c6), (fun T _ => T.c0.c7)], [(fun T _ => T.c1.c0), (fun T _ => T.c1.c1), (fun T _ => T.c1.c2), (fun T _ => T.c1.c3), (fun T _ => T.c1.c4), (fun T _ => T.c1.c5), (fun T _ => T.c1.c6), (fun T _ => T.c1.c7)], [(fun T _ => T.c2.c0), (fun T _ => T.c2.c1), (fun T _ => T.c2.c2), (fun T _ => T.c2.c3), (fun T _ => T.c2.c4), (fun T _ => T.c2.c5), (fun T _ => T.c2.c6), (fun T _ => T.c2.c7)], [(fun T _ => T.c3.c0), (fun T _ => T.c3.c1), (fun T _ => T.c3.c2), (fun T _ => T.c3.c3), (fun T _ => T.c3.c4), (fun T _ => T.c3.c5), (fun T _ => T.c3.c6), (fun T _ => T.c3.c7)], [(fun T _ => T.c4.c0), (fun T _ => T.c4.c1), (fun T _ => T.c4.c2), (fun T _ => T.c4.c3), (fun T _ => T.c4.c4), (fun T _ => T.c4.c5), (fun T _ => T.c4.c6), (fun T _ => T.c4.c7)], [(fun T _ => T.c5.c0), (fun T _ => T.c5.c1), (fun T _ => T.c5.c2), (fun T _ => T.c5.c3), (fun T _ => T.c5.c4), (fun T _ => T.c5.c5), (fun T _ => T.c5.c6), (fun T _ => T.c5.c7)], [(fun T _ => T.c6.c0), (fun T _ => T.c6.c1), (fun T _ => T.c6.c2), (fun T _ => T.c6.c3), (fun T _ => T.c6.c4), (fun T _ => T.c6.c5), (fun T _ => T.c6.c6), (fun T _ => T.c6.c7)], [(fun T _ => T.c7.c0), (fun T _ => T.c7.c1), (fun T _ => T.c7.c2), (fun T _ => T.c7.c3), (fun T _ => T.c7.c4), (fun T _ => T.c7.c5), (fun T _ => T.c7.c6), (fun T _ => T.c7.c7)]]
noncomputable def pRows : List (List Pt) := [[(fun v T k => up0 v T.c0 fun x => up0 x T k), (fun v T k => up1 v T.c0 fun x => up0 x T k), (fun v T k => up2 v T.c0 fun x => up0 x T k), (fun v T k => up3 v T.c0 fun x => up0 x T k), (fun v T k => up4 v T.c0 fun x => up0 x T k), (fun v T k => up5 v T.c0 fun x => up0 x T k), (fun v T k => up6 v T.c0 fun x => up0 x T k), (fun v T k => up7 v T.c0 fun x => up0 x T k)], [(fun v T k => up0 v T.c1 fun x => up1 x T k), (fun v T k => up1 v T.c1 fun x => up1 x T k), (fun v T k => up2 v T.c1 fun x => up1 x T k), (fun v T k => up3 v T.c1 fun x => up1 x T k), (fun v T k => up4 v T.c1 fun x => up1 x T k), (fun v T k => up5 v T.c1 fun x => up1 x T k), (fun v T k => up6 v T.c1 fun x => up1 x T k), (fun v T k => up7 v T.c1 fun x => up1 x T k)], [(fun v T k => up0 v T.c2 fun x => up2 x T k), (fun v T k => up1 v T.c2 fun x => up2 x T k), (fun v T k => up2 v T.c2 fun x => up2 x T k), (fun v T k => up3 v T.c2 fun x => up2 x T k), (fun v T k => up4 v T.c2 fun x => up2 x T k), (fun v T k => up5 v T.c2 fun x => up2 x T k), (fun v T k => up6 v T.c2 fun x => up2 x T k), (fun v T k => up7 v T.c2 fun x => up2 x T k)], [(fun v T k => up0 v T.c3 fun x => up3 x T k), (fun v T k => up1 v T.c3 fun x => up3 x T k), (fun v T k => up2 v T.c3 fun x => up3 x T k), (fun v T k => up3 v T.c3 fun x => up3 x T k), (fun v T k => up4 v T.c3 fun x => up3 x T k), (fun v T k => up5 v T.c3 fun x => up3 x T k), (fun v T k => up6 v T.c3 fun x => up3 x T k), (fun v T k => up7 v T.c3 fun x => up3 x T k)], [(fun v T k => up0 v T.c4 fun x => up4 x T k), (fun v T k => up1 v T.c4 fun x => up4 x T k), (fun v T k => up2 v T.c4 fun x => up4 x T k), (fun v T k => up3 v T.c4 fun x => up4 x T k), (fun v T k => up4 v T.c4 fun x => up4 x T k), (fun v T k => up5 v T.c4 fun x => up4 x T k), (fun v T k => up6 v T.c4 fun x => up4 x T k), (fun v T k => up7 v T.c4 fun x => up4 x T k)], [(fun v T k => up0 v T.c5 fun x => up5 x T k), (fun v T k => up1 v T.c5 fun x => up5 x T k), (fun v T k => up2 v T.c5 fun x => up5 x T k), (fun v T k => up3 v T.c5 fun x => up5 x T k), (fun v T k => up4 v T.c5 fun x => up5 x T k), (fun v T k => up5 v T.c5 fun x => up5 x T k), (fun v T k => up6 v T.c5 fun x => up5 x T k), (fun v T k => up7 v T.c5 fun x => up5 x T k)], [(fun v T k => up0 v T.c6 fun x => up6 x T k), (fun v T k => up1 v T.c6 fun x => up6 x T k), (fun v T k => up2 v T.c6 fun x => up6 x T k), (fun v T k => up3 v T.c6 fun x => up6 x T k), (fun v T k => up4 v T.c6 fun x => up6 x T k), (fun v T k => up5 v T.c6 fun x => up6 x T k), (fun v T k => up6 v T.c6 fun x => up6 x T k), (fun v T k => up7 v T.c6 fun x => up6 x T k)], [(fun v T k => up0 v T.c7 fun x => up7 x T k), (fun v T k => up1 v T.c7 fun x => up7 x T k), (fun v T k => up2 v T.c7 fun x => up7 x T k), (fun v T k => up3 v T.c7 fun x => up7 x T k), (fun v T k => up4 v T.c7 fun x => up7 x T k), (fun v T k => up5 v T.c7 fun x => up7 x T k), (fun v T k => up6 v T.c7 fun x => up7 x T k), (fun v T k => up7 v T.c7 fun x => up7 x T k)]]
noncomputable def mkG {γ : Type} (n : Nat) (k : (Tm → Value) → Option γ) : Option γ := nthK gRows (Nat.div n 8) fun r => nthK r (Nat.mod n 8) k
noncomputable def mkS {γ : Type} (n : Nat) (k : Sc → Option γ) : Option γ := nthK sRows (Nat.div n 8) fun r => nthK r (Nat.mod n 8) k
noncomputable def mkP {γ : Type} (n : Nat) (k : Pt → Option γ) : Option γ := nthK pRows (Nat.div n 8) fun r => nthK r (Nat.mod n 8) k
noncomputable def getB (M : Me) (b : Nat) : Option Blk := pr8 b (pr8 (Nat.div b 8) (pr8 (Nat.div b 64) (pr8 (Nat.div b 512) (pr8 (Nat.div b 4096) M.t))))
noncomputable def setM {α : Type} (M : Me) (b : Nat) (x : Option Blk) (k : Me → α) : α :=
  up8 b x (pr8 (Nat.div b 8) (pr8 (Nat.div b 64) (pr8 (Nat.div b 512) (pr8 (Nat.div b 4096) M.t)))) fun y =>
  up8 (Nat.div b 8) y (pr8 (Nat.div b 64) (pr8 (Nat.div b 512) (pr8 (Nat.div b 4096) M.t))) fun y =>
  up8 (Nat.div b 64) y (pr8 (Nat.div b 512) (pr8 (Nat.div b 4096) M.t)) fun y =>
  up8 (Nat.div b 512) y (pr8 (Nat.div b 4096) M.t) fun y =>
  up8 (Nat.div b 4096) y M.t fun y => k ⟨M.n, y⟩
/-- one way or the other -/
noncomputable abbrev bi {α : Type} (b : Bool) (x y : α) : α := Bool.rec (motive := fun _ => α) y x b
noncomputable def pushM {α : Type} (M : Me) (x : Blk) (k : Me → Option α) : Option α := Bool.rec (motive := fun _ => Option α) none (setM M M.n (some x) fun N => frcN (Nat.succ M.n) fun m => k ⟨m, N.t⟩) (Nat.blt M.n 32768)
def rep8 {β : Type} (x : β) : N8 β := ⟨x, x, x, x, x, x, x, x⟩
def m0 : M5 := rep8 (rep8 (rep8 (rep8 (rep8 none))))
def t0 : Tm := rep8 (rep8 undef)
noncomputable def r0 : Rg := fun _ => undef
/-- operands, one behind the other -/
noncomputable def scsK {α : Type} (xs : List Sc) : Tm → Rg → (List Value → Option α) → Option α :=
  List.rec (motive := fun _ => Tm → Rg → (List Value → Option α) → Option α) (fun _ _ k => k []) (fun x _ ih T L k => ih T L fun vs => k (x T L :: vs)) xs
abbrev KC := FuncId → List Value → Me → (Value → Me → Out) → Out
/-- an operation, made ready -/
abbrev XO := KC → Tm → Me → Rg → (Value → Me → Out) → Out
/-- cells, so many from there on -/
noncomputable def cutK {α β : Type} (l : List β) : Nat → Nat → (List β → Option α) → Option α :=
  List.rec (motive := fun _ => Nat → Nat → (List β → Option α) → Option α) (fun o n k => Nat.rec (motive := fun _ => Option α) (Nat.rec (motive := fun _ => Option α) (k []) (fun _ _ => none) n) (fun _ _ => none) o)
    (fun x _ ih o n k => Nat.rec (motive := fun _ => Option α) (Nat.rec (motive := fun _ => Option α) (k []) (fun m _ => ih 0 m fun r => k (x :: r)) n) (fun o _ => ih o n k) o) l
/-- cells written over others from there on -/
noncomputable def layK {α β : Type} (l : List β) : Nat → List β → (List β → Option α) → Option α :=
  List.rec (motive := fun _ => Nat → List β → (List β → Option α) → Option α) (fun o m k => Nat.rec (motive := fun _ => Option α) (List.rec (motive := fun _ => Option α) (k []) (fun _ _ _ => none) m) (fun _ _ => none) o)
    (fun x t ih o m k => Nat.rec (motive := fun _ => Option α) (List.rec (motive := fun _ => Option α) (k (x :: t)) (fun y m _ => ih 0 m fun r => k (y :: r)) m) (fun o _ => ih o m fun r => k (x :: r)) o) l
noncomputable def ptrK {α : Type} (v : Value) (k : Nat → Nat → Option α) : Option α :=
  Value.casesOn v (fun _ => none) (fun _ _ => none) (fun _ _ => none) (fun _ _ _ => none) (fun _ => none) (fun a => Option.rec (motive := fun _ => Option α) none (fun a => Addr.rec (motive := fun _ => Option α) (fun b o s => Option.rec (motive := fun _ => Option α) (k b o) (fun _ => none) s) a) a) (fun _ _ _ => none) (fun _ => none) (fun _ => none) (fun _ _ _ => none) none (fun _ _ => none) none (fun _ => none) (fun _ => none)
/-- what a read gives -/
noncomputable def ldK {α : Type} (n : Nat) (row : Bool) (v : Value) (M : Me) (k : Value → Option α) : Option α :=
  ptrK v fun b o => Bool.rec (motive := fun _ => Option α) none (Option.rec (motive := fun _ => Option α)
    (Bool.rec (motive := fun _ => Option α) (nthK roTab b fun x => nthK x.2 o k) none row)
    (fun blk => Bool.rec (motive := fun _ => Option α) (nthK blk.cells o k) (cutK blk.cells o n fun l => k (.agg ⟨l⟩)) row)
    (getB M b)) (Nat.blt b M.n)
noncomputable def cellsK {α : Type} (v : Value) (k : List Value → Option α) : Option α :=
  match v with
  | .agg ⟨l⟩ => k l
  | .tuple _ => none
  | .iface _ _ => none
  | v => k [v]
noncomputable def stM {α : Type} (n : Nat) (v u : Value) (M : Me) (k : Me → Option α) : Option α :=
  ptrK v fun b o => cellsK u fun l => Bool.rec (motive := fun _ => Option α) none (Option.rec (motive := fun _ => Option α) none
    (fun blk => layK blk.cells o l fun c => setM M b (some ⟨c, blk.elem⟩) k) (getB M b)) (Nat.beq l.length n && Nat.blt b M.n)
noncomputable def funK {α : Type} (v : Value) (k : FuncId → List Value → Option α) : Option α :=
  match v with
  | .func (.func f) ⟨[]⟩ ⟨l⟩ => k f l
  | _ => none
noncomputable def xP1 (f : Value → (Value → Out) → Out) (x : Sc) : XO := fun _ T M L k => f (x T L) fun u => k u M
noncomputable def xP2 (f : Value → Value → (Value → Out) → Out) (x y : Sc) : XO := fun _ T M L k => f (x T L) (y T L) fun u => k u M
noncomputable def xP3 (f : Value → Value → Value → (Value → Out) → Out) (x y z : Sc) : XO := fun _ T M L k => f (x T L) (y T L) (z T L) fun u => k u M
noncomputable def xPn (f : List Value → (Value → Out) → Out) (xs : List Sc) : XO := fun _ T M L k => scsK xs T L fun vs => f vs fun u => k u M
noncomputable def xLd (n : Nat) (row : Bool) (x : Sc) : XO := fun _ T M L k => ldK n row (x T L) M fun u => k u M
noncomputable def xSt (n : Nat) (x y : Sc) : XO := fun _ T M L k => stM n (x T L) (y T L) M fun M => k undef M
noncomputable def xNw (f : Nat → List Value → (Value → Blk → Out) → Out) (xs : List Sc) : XO := fun _ T M L k => scsK xs T L fun vs => f M.n vs fun v b => pushM M b fun M => k v M
noncomputable def xMm (f : Me → List Value → (Value → Me → Out) → Out) (xs : List Sc) : XO := fun _ T M L k => scsK xs T L fun vs => f M vs k
noncomputable def xCl (f : FuncId) (xs : List Sc) : XO := fun K T M L k => scsK xs T L fun vs => K f vs M k
noncomputable def xCv (x : Sc) (xs : List Sc) : XO := fun K T M L k => funK (x T L) fun f l => scsK xs T L fun vs => catK vs l fun vs => K f vs M k
noncomputable def asB {α : Type} (v : Value) (k : Bool → Option α) : Option α := Value.casesOn v (fun b => k b) (fun _ _ => none) (fun _ _ => none) (fun _ _ _ => none) (fun _ => none) (fun _ => none) (fun _ _ _ => none) (fun _ => none) (fun _ => none) (fun _ _ _ => none) none (fun _ _ => none) none (fun _ => none) (fun _ => none)
noncomputable def xGd (x : Sc) (b : Bool) (o : XO) : XO := fun K T M L k => asB (x T L) fun c => Bool.rec (motive := fun _ => Out) (k undef M) (o K T M L k) (c == b)
noncomputable def xCk (n : Nat) (row : Bool) (x y : Sc) : XO := fun _ T M L k => ldK n row (x T L) M fun u => Bool.rec (motive := fun _ => Out) none (k undef M) (eq3 u (y T L))
/-- a row of operations -/
abbrev XR := KC → Tm → Me → Rg → (Me → Rg → Out) → Out
noncomputable def xEnd : XR := fun _ _ M L k => k M L
noncomputable def xThen (o : XO) (r : XR) : XR := fun K T M L k => o K T M L fun v M => r K T M (pushR v L) k
/-- what is put when a row ends -/
abbrev XP := Tm → Rg → Tm → (Tm → Out) → Out
noncomputable def xPut0 : XP := fun _ _ T k => k T
noncomputable def xPut (p : Pt) (x : Sc) (r : XP) : XP := fun T0 L T k => p (x T0 L) T fun T => r T0 L T k
/-- code, made ready -/
abbrev KS := Tm → Me → Out
abbrev XC := KC → Nat → Tm → Me → KS → (Nat → KS) → KS → Out
noncomputable def cSkip : XC := fun _ _ T M kn _ _ => kn T M
noncomputable def cReg (r : XR) (p : XP) : XC := fun K _ T M kn _ _ => r K T M r0 fun M L => p T L T fun T => kn T M
noncomputable def cSeq (a b : XC) : XC := fun K n T M kn ke kr => a K n T M (fun T M => b K n T M kn ke kr) ke kr
noncomputable def cIf (x : Sc) (a b : XC) : XC := fun K n T M kn ke kr => asB (x T r0) fun t => Bool.rec (motive := fun _ => Out) (b K n T M kn ke kr) (a K n T M kn ke kr) t
noncomputable def cBlock (id : Nat) (c : XC) : XC := fun K n T M kn ke kr => c K n T M kn (fun i T M => Bool.rec (motive := fun _ => Out) (ke i T M) (kn T M) (Nat.beq i id)) kr
noncomputable def xloop (n : Nat) : (Tm → Me → KS → Out) → Tm → Me → Out :=
  Nat.rec (motive := fun _ => (Tm → Me → KS → Out) → Tm → Me → Out) (fun _ _ _ => none) (fun _ ih f T M => f T M (ih f)) n
noncomputable def cLoop (c : XC) : XC := fun K n T M kn ke kr => xloop n (fun T M kn => c K n T M kn ke kr) T M
noncomputable def cExit (id : Nat) : XC := fun _ _ T M _ ke _ => ke id T M
noncomputable def cRet : XC := fun _ _ T M _ _ kr => kr T M
end Go.Proofs.Ytmbjgakehghdjaa
/-
  OWN TEXT: an evaluator made for the kernel: operations on numbers, addresses, lists, each going on from what is written out.
-/
namespace Go.Proofs.Ytmbjgakehghdjaa
open Go.RowKit
set_option linter.unusedVariables false
set_option linter.unusedSimpArgs false
section
variable {α : Type}
noncomputable def asI (v : Value) (k : IntKind → Int → Option α) : Option α := Value.casesOn v (fun _ => none) (fun i n => k i n) (fun _ _ => none) (fun _ _ _ => none) (fun _ => none) (fun _ => none) (fun _ _ _ => none) (fun _ => none) (fun _ => none) (fun _ _ _ => none) none (fun _ _ => none) none (fun _ => none) (fun _ => none)
noncomputable def asF (v : Value) (k : Nat → Option α) : Option α := Value.casesOn v (fun _ => none) (fun _ _ => none) (fun i n => FloatKind.casesOn i none (k n)) (fun _ _ _ => none) (fun _ => none) (fun _ => none) (fun _ _ _ => none) (fun _ => none) (fun _ => none) (fun _ _ _ => none) none (fun _ _ => none) none (fun _ => none) (fun _ => none)
noncomputable def asC (v : Value) (k : Nat → Nat → Option α) : Option α := match v with | .complex .f64 n m => k n m | _ => none
def ikN (i : IntKind) : Nat := IntKind.casesOn i 0 1 2 3 4 5 6 7
def eqK (i j : IntKind) : Bool := Nat.beq (ikN i) (ikN j)
noncomputable def addZ (a b : Int) (k : Int → α) : α := Int.casesOn a (fun m => Int.casesOn b (fun n => frcN (Nat.add m n) fun z => k (.ofNat z)) (fun n => frcZ (Int.add (.ofNat m) (.negSucc n)) k)) (fun m => frcZ (Int.add (.negSucc m) b) k)
noncomputable def subZ (a b : Int) (k : Int → α) : α := Int.casesOn a (fun m => Int.casesOn b (fun n => bif Nat.ble n m then frcN (Nat.sub m n) fun z => k (.ofNat z) else frcN (Nat.sub (Nat.sub n m) 1) fun z => k (.negSucc z)) (fun n => frcZ (Int.sub (.ofNat m) (.negSucc n)) k)) (fun m => frcZ (Int.sub (.negSucc m) b) k)
noncomputable def mulZ (a b : Int) (k : Int → α) : α := Int.casesOn a (fun m => Int.casesOn b (fun n => frcN (Nat.mul m n) fun z => k (.ofNat z)) (fun n => frcZ (Int.mul (.ofNat m) (.negSucc n)) k)) (fun m => frcZ (Int.mul (.negSucc m) b) k)
/-- wrapped to a kind -/
noncomputable def wrapK (i : IntKind) (z : Int) (k : Int → α) : α :=
  Int.casesOn z
    (fun m => bif Nat.ble m (IntKind.casesOn i 127 32767 2147483647 9223372036854775807 255 65535 4294967295 18446744073709551615) then k (.ofNat m)
      else IntKind.casesOn i (frcZ (IntKind.i8.wrap (.ofNat m)) k) (frcZ (IntKind.i16.wrap (.ofNat m)) k) (frcZ (IntKind.i32.wrap (.ofNat m)) k) (frcZ (IntKind.i64.wrap (.ofNat m)) k) (frcN (Nat.mod m 256) fun r => k (.ofNat r)) (frcN (Nat.mod m 65536) fun r => k (.ofNat r)) (frcN (Nat.mod m 4294967296) fun r => k (.ofNat r)) (frcN (Nat.mod m 18446744073709551616) fun r => k (.ofNat r)))
    (fun m => bif Nat.blt m (IntKind.casesOn i 128 32768 2147483648 9223372036854775808 0 0 0 0) then k (.negSucc m) else frcZ (i.wrap (.negSucc m)) k)
def ltZ (a b : Int) : Bool := Int.casesOn a (fun m => Int.casesOn b (fun n => Nat.blt m n) (fun _ => false)) (fun m => Int.casesOn b (fun _ => true) (fun n => Nat.blt n m))
def leZ (a b : Int) : Bool := Int.casesOn a (fun m => Int.casesOn b (fun n => Nat.ble m n) (fun _ => false)) (fun m => Int.casesOn b (fun _ => true) (fun n => Nat.ble n m))
def eqZ (a b : Int) : Bool := Int.casesOn a (fun m => Int.casesOn b (fun n => Nat.beq m n) (fun _ => false)) (fun m => Int.casesOn b (fun _ => false) (fun n => Nat.beq m n))
noncomputable def iOp (f : Int → Int → (Int → Option α) → Option α) (x y : Value) (c : Value → Option α) : Option α := asI x fun i a => asI y fun j b => Bool.rec (motive := fun _ => Option α) none (f a b fun z => wrapK i z fun z => c (.int i z)) (eqK i j)
noncomputable def iCmp (f : Int → Int → Bool) (x y : Value) (c : Value → Option α) : Option α := asI x fun i a => asI y fun j b => Bool.rec (motive := fun _ => Option α) none (frcB (f a b) fun t => c (.bool t)) (eqK i j)
noncomputable def fOp (f : Nat → Nat → Option Nat) (x y : Value) (c : Value → Option α) : Option α := asF x fun a => asF y fun b => Option.rec (motive := fun _ => Option α) none (fun r => frcN r fun r => c (.float .f64 r)) (f a b)
noncomputable def fCmp (f : Nat → Nat → Bool) (x y : Value) (c : Value → Option α) : Option α := asF x fun a => asF y fun b => frcB (f a b) fun t => c (.bool t)
/-- of two whole numbers without signs, 64 bits -/
noncomputable def uOp (f : Nat → Nat → Nat) (x y : Value) (c : Value → Option α) : Option α := match x with
  | .int .u64 a => Int.casesOn a (fun m => asI y fun j b => Int.casesOn b (fun n => bif eqK j .u64 && Nat.ble m 18446744073709551615 && Nat.ble n 18446744073709551615 then frcN (f m n) fun z => c (.int .u64 (.ofNat z)) else none) (fun _ => none)) (fun _ => none)
  | _ => none
noncomputable def shlU (x y : Value) (c : Value → Option α) : Option α := match x with
  | .int .u64 a => Int.casesOn a (fun m => asI y fun j b => Int.casesOn b (fun n => bif Nat.ble n 64 then frcN (Nat.mod (Nat.mul m (Nat.pow 2 n)) 18446744073709551616) fun z => c (.int .u64 (.ofNat z)) else c (.int .u64 (.ofNat 0))) (fun _ => none)) (fun _ => none)
  | _ => none
noncomputable def shrU (x y : Value) (c : Value → Option α) : Option α := asI x fun i a => bif eqK i .u64 then Int.casesOn a (fun m => asI y fun j b => Int.casesOn b (fun n => bif Nat.ble n 64 then frcN (Nat.div m (Nat.pow 2 n)) fun z => c (.int i (.ofNat z)) else none) (fun _ => none)) (fun _ => none) else none
noncomputable def notK (x : Value) (c : Value → Option α) : Option α := match x with | .bool b => frcB (!b) fun t => c (.bool t) | _ => none
noncomputable def convI (k : IntKind) (x : Value) (c : Value → Option α) : Option α := asI x fun _ n => wrapK k n fun z => c (.int k z)
noncomputable def reK (x : Value) (c : Value → Option α) : Option α := asC x fun n _ => c (.float .f64 n)
noncomputable def imK (x : Value) (c : Value → Option α) : Option α := asC x fun _ n => c (.float .f64 n)
noncomputable def cxK (x y : Value) (c : Value → Option α) : Option α := asF x fun n => asF y fun m => c (.complex .f64 n m)
noncomputable def lenK (x : Value) (c : Value → Option α) : Option α := match x with | .slice _ n _ => c (.int .i64 (.ofNat n)) | _ => none
noncomputable def fldK (off : Nat) (x : Value) (c : Value → Option α) : Option α := ptrK x fun b o => frcN (Nat.add o off) fun o => c (.pointer (some ⟨b, o, none⟩))
noncomputable def idxK (sz : Nat) (x y : Value) (c : Value → Option α) : Option α := match x with
  | .slice (some a) len _ => asI y fun _ i => Int.casesOn i (fun m => bif Nat.blt m len then frcN (Nat.add a.off (Nat.mul m sz)) fun o => c (.pointer (some ⟨a.block, o, none⟩)) else none) (fun _ => none)
  | _ => none
noncomputable def idxA (len sz : Nat) (x y : Value) (c : Value → Option α) : Option α := ptrK x fun b o => asI y fun _ i => Int.casesOn i (fun m => bif Nat.blt m len then frcN (Nat.add o (Nat.mul m sz)) fun o => c (.pointer (some ⟨b, o, none⟩)) else none) (fun _ => none)
noncomputable def extK (i : Nat) (x : Value) (c : Value → Option α) : Option α := match x with | .tuple ⟨l⟩ => nthK l i c | _ => none
noncomputable def pickK (x y z : Value) (c : Value → Option α) : Option α := match x with | .bool t => bif flat y && flat z then bif t then c y else c z else none | _ => none
noncomputable def boxK (el : TypeId) (id : Nat) (vs : List Value) (k : Value → Blk → Option α) : Option α := match vs with | [v] => cellsK v fun l => k (.pointer (some ⟨id, 0, none⟩)) ⟨l, el⟩ | _ => none
noncomputable def newK (el : TypeId) (l : List Value) (id : Nat) (vs : List Value) (k : Value → Blk → Option α) : Option α := k (.pointer (some ⟨id, 0, none⟩)) ⟨l, el⟩
end
/-- operands, by their temporaries' values -/
def evalL (l : List (Nat × Value)) : Operand → Option Value
  | .tmp t => tvT l t
  | .const v => if flat v then some v else none
  | .func f => some (.func (.func f) #[] #[])
  | .global g => (roIx g roTab 0).map fun i => .pointer (some ⟨i, 0, none⟩)
where
  tvT : List (Nat × Value) → Nat → Option Value
    | [], _ => none
    | x :: l, t => bif Nat.beq x.1 t then some x.2 else tvT l t
def tmpsOf : List Operand → List Nat
  | [] => []
  | .tmp t :: l => t :: tmpsOf l
  | _ :: l => tmpsOf l
noncomputable def genP (P : Program) (o : Oper) (vs : List Value) (c : Value → Out) : Out := match evP P (evalL ((tmpsOf o.op.operands.toList).zip vs)) o with | some v => frc v c | none => none
noncomputable def genF (P : Program) (o : Oper) (vs : List Value) (c : Value → Out) : Out := match flatP P (evalL ((tmpsOf o.op.operands.toList).zip vs)) o with | some v => frc v c | none => none
noncomputable def genN (P : Program) (o : Oper) (id : Nat) (vs : List Value) (k : Value → Blk → Out) : Out := match evN P id (evalL ((tmpsOf o.op.operands.toList).zip vs)) o with | some (v, b) => frc v fun v => frcK b fun b => k v b | none => none
/-- memory, as a function -/
abbrev Gt := Nat → Option (Option Blk)
noncomputable def getM (M : Me) (b : Nat) : Option (Option Blk) := bif Nat.blt b M.n then some (getB M b) else none
def partsG (A : Gt) (size n : Nat) : Value → Option (List Value)
  | .slice none _ _ => if n = 0 then some [] else none
  | .slice (some ⟨b, off, _⟩) _ _ => match A b with | some (some blk) => if off + n * size ≤ blk.cells.length then some ((blk.cells.drop off).take (n * size)) else none | _ => none
  | _ => none
def growG (P : Program) (A : Gt) (top : Nat) (i : TypeInfo) (z : Value) (el : TypeId) (a : Option Addr) (len cap n : Nat) (news : List Value) : Option (Value × Dl) :=
  if z.cells.size = i.size ∧ (len + n) * i.bytes ≤ 140737488355328 ∧ len + n ≤ 9223372036854775807 ∧ i.size ≠ 0 ∧ cap < len + n ∧ szOf P el = i.size then
    match partsG A i.size len (.slice a len cap) with
    | some olds =>
      match a with
      | none | some ⟨_, _, none⟩ => some (.slice (some ⟨top, 0, some 0⟩) (len + n) (len + n), .push ⟨olds ++ news, el⟩)
      | some ⟨b, off, some _⟩ =>
        match A b with
        | some (some blk) => if off = 0 ∧ blk.elem = el ∧ cap * i.size ≤ blk.cells.length ∧ len ≤ cap then some (.slice (some ⟨top, 0, some 0⟩) (len + n) (len + n), .turn b ⟨olds ++ news, el⟩) else none
        | _ => none
    | none => none
  else none
def appendG (P : Program) (A : Gt) (top : Nat) (e : Operand → Option Value) (o : Oper) : Option (Value × Dl) :=
  match o.op with
  | .call c =>
    match c.callee, c.args.toList, c.argTypes.toList with
    | .builtin .append, [s, x], [t, tx] =>
      match e s, e x, P.underlying t, P.underlying tx with
      | some (.slice a len cap), some (.slice xa n xc), some (.slice el), some (.slice _) =>
        match P.info? el with
        | some i => match i.zero with
          | some z =>
            match partsG A i.size n (.slice xa n xc) with
            | some news =>
              if len + n ≤ cap then
                match a with
                | none => if n = 0 then some (.slice none len cap, .same) else none
                | some ⟨b, off, sp⟩ =>
                  match A b with
                  | some (some blk) => if off + len * i.size + news.length ≤ blk.cells.length then some (.slice (some ⟨b, off, sp⟩) (len + n) cap, .set b ⟨blk.cells.take (off + len * i.size) ++ news ++ blk.cells.drop (off + len * i.size + news.length), blk.elem⟩) else none
                  | _ => none
              else growG P A top i z el a len cap n news
            | none => none
          | none => none
        | none => none
      | _, _, _, _ => none
    | _, _, _ => none
  | _ => none
def copyG (P : Program) (A : Gt) (e : Operand → Option Value) (o : Oper) : Option (Value × Dl) :=
  match o.op with
  | .call c =>
    match c.callee, c.args.toList, c.argTypes.toList with
    | .builtin .copy, [d, s], [dT, sT] =>
      match e d, e s, P.underlying dT with
      | some (.slice (some ⟨b, off, _⟩) dl _), some (.slice a sl sc), some (.slice el) =>
        match A b, partsG A (szOf P el) (Nat.min sl dl) (.slice a sl sc) with
        | some (some blk), some l => if szOf P el ≠ 0 ∧ off + l.length ≤ blk.cells.length then some (.int .i64 (Nat.min sl dl : Nat), .set b ⟨blk.cells.take off ++ l ++ blk.cells.drop (off + l.length), blk.elem⟩) else none
        | _, _ => none
      | _, _, _ => none
    | _, _, _ => none
  | _ => none
noncomputable def dlM (d : Dl) (M : Me) (k : Me → Out) : Out := match d with
  | .same => k M
  | .push b => frcK b fun b => pushM M b fun M => k M
  | .set i b => frcK b fun b => bif Nat.blt i M.n then setM M i (some b) k else none
  | .turn i b => frcK b fun b => bif Nat.blt i M.n then setM M i none fun M => pushM M b fun M => k M else none
  | .whole _ => none
noncomputable def genA (P : Program) (o : Oper) (M : Me) (vs : List Value) (k : Value → Me → Out) : Out := match appendG P (getM M) M.n (evalL ((tmpsOf o.op.operands.toList).zip vs)) o with | some (v, d) => frc v fun v => dlM d M fun M => k v M | none => none
noncomputable def genC (P : Program) (o : Oper) (M : Me) (vs : List Value) (k : Value → Me → Out) : Out := match copyG P (getM M) (evalL ((tmpsOf o.op.operands.toList).zip vs)) o with | some (v, d) => frc v fun v => dlM d M fun M => k v M | none => none
end Go.Proofs.Ytmbjgakehghdjaa
/-
  OWN TEXT: an evaluator made for the kernel: code made ready.
-/
namespace Go.Proofs.Ytmbjgakehghdjaa
open Go.RowKit
set_option linter.unusedVariables false
set_option linter.unusedSimpArgs false
/-- where a value is, counted from the region's beginning -/
inductive Sa where
  | t (p : Nat)
  | s (n : Nat)
  | c (v : Value)
noncomputable def Sa.rel {γ : Type} (n : Nat) (x : Sa) : (Sc → Option γ) → Option γ := Sa.casesOn x (fun p k => mkS p k) (fun m k => frcN (Nat.sub n (Nat.succ m)) fun m => k fun _ L => L m) (fun v k => k fun _ _ => v)
/-- a temporary's place among the kept ones -/
def slotF (t : Nat) : List Nat → Nat → Option Nat
  | [], _ => none
  | x :: l, n => bif Nat.beq x t then some n else slotF t l (Nat.succ n)
abbrev Env := List (Nat × Sa)
def look : Env → Nat → Option Sa
  | [], _ => none
  | x :: l, t => bif Nat.beq x.1 t then some x.2 else look l t
def resA (kp : List Nat) (env : Env) : Operand → Option Sa
  | .tmp t => match look env t with | some s => some s | none => match slotF t kp 0 with | some n => some (.t n) | none => none
  | .const v => if flat v then some (.c v) else none
  | .func f => some (.c (.func (.func f) #[] #[]))
  | .global g => (roIx g roTab 0).map fun i => .c (.pointer (some ⟨i, 0, none⟩))
abbrev Rs := Operand → Option Sc
def resT (res : Rs) : List Nat → Option (List Sc)
  | [] => some []
  | t :: l => match res (.tmp t), resT res l with | some x, some xs => some (x :: xs) | _, _ => none
def resO2 (res : Rs) : List Operand → Option (List Sc)
  | [] => some []
  | t :: l => match res t, resO2 res l with | some x, some xs => some (x :: xs) | _, _ => none
noncomputable def mk1 (res : Rs) (x : Operand) (k : Sc → XO) : Option XO := match res x with | some x => some (k x) | none => none
noncomputable def mk2 (res : Rs) (x y : Operand) (k : Sc → Sc → XO) : Option XO := match res x, res y with | some x, some y => some (k x y) | _, _ => none
noncomputable def mk3 (res : Rs) (x y z : Operand) (k : Sc → Sc → Sc → XO) : Option XO := match res x, res y, res z with | some x, some y, some z => some (k x y z) | _, _, _ => none
noncomputable def mkL (res : Rs) (o : Oper) (k : List Sc → XO) : Option XO := match resT res (tmpsOf o.op.operands.toList) with | some xs => some (k xs) | none => none
noncomputable def binI (op : BinOp) : Option (Value → Value → (Value → Out) → Out) := match op with
  | .add => some (iOp addZ) | .sub => some (iOp subZ) | .mul => some (iOp mulZ)
  | .eql => some (iCmp eqZ) | .neq => some (iCmp fun a b => !eqZ a b) | .lss => some (iCmp ltZ) | .leq => some (iCmp leZ) | .gtr => some (iCmp fun a b => ltZ b a) | .geq => some (iCmp fun a b => leZ b a)
  | _ => none
noncomputable def binU (op : BinOp) : Option (Value → Value → (Value → Out) → Out) := match op with
  | .and => some (uOp Nat.land) | .or => some (uOp Nat.lor) | .xor => some (uOp Nat.xor) | .andNot => some (uOp fun m n => Nat.land m (Nat.sub 18446744073709551615 n))
  | .shl => some shlU | .shr => some shrU
  | _ => none
noncomputable def binF (op : BinOp) : Option (Value → Value → (Value → Out) → Out) := match op with
  | .add => some (fOp addR) | .sub => some (fOp subR) | .mul => some (fOp mulR) | .quo => some (fOp FloatKind.f64.format.div)
  | .eql => some (fCmp Fl.eqF) | .neq => some (fCmp fun a b => !Fl.eqF a b) | .lss => some (fCmp Fl.ltF) | .leq => some (fCmp Fl.leF) | .gtr => some (fCmp fun a b => Fl.ltF b a) | .geq => some (fCmp fun a b => Fl.leF b a)
  | _ => none
noncomputable def binX (P : Program) (op : BinOp) (t : TypeId) : Option (Value → Value → (Value → Out) → Out) := match P.underlying t with
  | some (.int .u64) => match binI op with | some f => some f | none => binU op
  | some (.int _) => binI op
  | some (.float .f64) => binF op
  | _ => none
def isSliceT (P : Program) (t : TypeId) : Bool := match P.underlying t with | some (.slice _) => true | _ => false
/-- functions without a body, as they answer -/
abbrev Xn := FuncId → Option (List Value → (Value → Out) → Out)
abbrev Tr := Program → Xn → Rs → Oper → Option XO
noncomputable def trGen : Tr := fun P _ res o => mkL res o (xPn (genP P o))
noncomputable def trBin (op : BinOp) (t : TypeId) (x y : Operand) : Tr := fun P _ res o => match binX P op t with | some f => mk2 res x y (xP2 f) | none => mkL res o (xPn (genP P o))
noncomputable def trPick (c a b : Operand) : Tr := fun _ _ res _ => mk3 res c a b (xP3 pickK)
noncomputable def trUn (op : UnOp) (x : Operand) : Tr := fun P _ res o => UnOp.casesOn op (mkL res o (xPn (genP P o))) (mkL res o (xPn (genP P o))) (mk1 res x (xP1 notK)) (mkL res o (xPn (genP P o)))
noncomputable def trConv (s d : TypeId) (x : Operand) : Tr := fun P _ res o => match P.underlying s, P.underlying d with
    | some (.int _), some (.int k) => frcI k fun k => mk1 res x (xP1 (convI k))
    | _, _ => mkL res o (xPn (genP P o))
noncomputable def trLoad (t : TypeId) (x : Operand) : Tr := fun P _ res _ => match P.underlying t with
    | some d => bif d.isRow then (match P.info? t with | some i => frcN i.size fun n => mk1 res x (xLd n true) | none => none) else mk1 res x (xLd 0 false)
    | none => none
noncomputable def trStore (t : TypeId) (x y : Operand) : Tr := fun P _ res _ => match P.info? t with | some i => frcN i.size fun n => mk2 res x y (xSt n) | none => none
noncomputable def trAlloc (el : TypeId) : Tr := fun P _ res _ => match P.info? el with
    | some i => match i.zero with
      | some z => if z.cells.toList.all flat1 then frcL z.cells.toList fun l => some (xNw (newK el l) []) else none
      | none => none
    | none => none
noncomputable def trBox (el : TypeId) (x : Operand) : Tr := fun _ _ res _ => mk1 res x fun x => xNw (boxK el) [x]
noncomputable def trNew : Tr := fun P _ res o => mkL res o (xNw (genN P o))
noncomputable def trExt (x : Operand) (i : Nat) : Tr := fun _ _ res _ => mk1 res x (xP1 (extK i))
noncomputable def trFld (s : TypeId) (x : Operand) (f : Nat) : Tr := fun P _ res _ => match P.underlying s with
    | some (.struct fields) => match nth fields.toList f with
      | some fl => if szOf P fl.type ≠ 0 then frcN fl.offset fun n => mk1 res x (xP1 (fldK n)) else none
      | none => none
    | _ => none
noncomputable def trIdx (t : TypeId) (x ix : Operand) : Tr := fun P _ res _ => match P.underlying t with
    | some (.slice el) => if szOf P el ≠ 0 then frcN (szOf P el) fun n => mk2 res x ix (xP2 (idxK n)) else none
    | some (.array len el) => if szOf P el ≠ 0 then frcN (szOf P el) fun n => frcN len fun m => mk2 res x ix (xP2 (idxA m n)) else none
    | _ => none
noncomputable def trCallF (f : FuncId) (args : List Operand) : Tr := fun P ex res o => match nth P.funcs.toList f with
      | some fn => bif fn.body.isSome then (match resO2 res args with | some xs => some (xCl f xs) | none => none) else (match ex f with | some g => (match resO2 res args with | some xs => some (xPn g xs) | none => none) | none => mkL res o (xPn (genF P o)))
      | none => none
noncomputable def trCallV (f : Operand) (args : List Operand) : Tr := fun P ex res o => match res f, resO2 res args with | some x, some xs => some (xCv x xs) | _, _ => none
noncomputable def trVal (f : Operand) : List Operand → Tr := match f with
  | .func f => trCallF f
  | f => trCallV f
noncomputable def trBu (b : Builtin) : List Operand → List TypeId → Tr := match b with
  | .append => fun _ _ P _ res o => mkL res o (xMm (genA P o))
  | .copy => fun _ _ P _ res o => mkL res o (xMm (genC P o))
  | .len => fun xs ts P _ res o => match xs, ts with
      | [x], [t] => bif isSliceT P t then mk1 res x (xP1 lenK) else mkL res o (xPn (genP P o))
      | _, _ => none
  | .real => fun xs _ _ _ res _ => match xs with | [x] => mk1 res x (xP1 reK) | _ => none
  | .imag => fun xs _ _ _ res _ => match xs with | [x] => mk1 res x (xP1 imK) | _ => none
  | .complex => fun xs _ _ _ res _ => match xs with | [x, y] => mk2 res x y (xP2 cxK) | _ => none
  | _ => fun _ _ => trGen
noncomputable def trCe (c : Callee) : List Operand → List TypeId → Tr := match c with
  | .value f => fun xs _ => trVal f xs
  | .builtin b => trBu b
  | _ => fun _ _ => trGen
noncomputable def trCall (c : Call) : Tr := match c with | ⟨callee, args, ts⟩ => trCe callee args.toList ts.toList
noncomputable def trD (op : Op) : Tr := match op with
  | .binOp op t x y _ => trBin op t x y
  | .pick c a b => trPick c a b
  | .unOp op _ x => trUn op x
  | .convert s d x => trConv s d x
  | .load t x => trLoad t x
  | .store t x y => trStore t x y
  | .alloc el => trAlloc el
  | .box el x => trBox el x
  | .makeSlice _ _ _ => trNew
  | .buildSlice _ _ _ => trNew
  | .extract x i => trExt x i
  | .fieldAddr s x f => trFld s x f
  | .indexAddr t x ix => trIdx t x ix
  | .call c => trCall c
  | _ => trGen
/-- an operation, made ready -/
noncomputable def trOp (P : Program) (ex : Xn) (res : Rs) (o : Oper) : Option XO := trD o.op P ex res o
/-- moves that need nothing but a name -/
def mvO : Op → Option Operand
  | .move x | .assign x => some x
  | _ => none
noncomputable def relO (kp : List Nat) (env : Env) (n : Nat) (x : Operand) : Option Sc := match resA kp env x with | some s => s.rel n some | none => none
def addE (nt : Nat) (d : Option Tmp) (s : Sa) (env : Env) : Option Env := match d with | some d => (bif Nat.blt d nt then some ((d, s) :: env) else none) | none => some env
/-- a row of operations, one behind the other -/
noncomputable def trSeq (P : Program) (ex : Xn) (kp : List Nat) (nt : Nat) (ops : Array Oper) : List Oper → Env → Nat → Option (XR × Env × Nat)
  | [], env, n => some (xEnd, env, n)
  | o :: rest, env, n =>
    match o.guard with
    | none =>
      match mvO o.op with
      | some x => match resA kp env x with
        | some s => match addE nt o.dst s env with
          | some env => trSeq P ex kp nt ops rest env n
          | none => none
        | none => none
      | none => match trOp P ex (relO kp env n) o, addE nt o.dst (.s n) env with
        | some x, some env => frcN (Nat.succ n) fun m => match trSeq P ex kp nt ops rest env m with
          | some (l, r) => some (xThen x l, r)
          | none => none
        | _, _ => none
    | some (j, b) =>
      match (match mvO o.op with | some x => mk1 (relO kp env n) x (xP1 fun v k => k v) | none => trOp P ex (relO kp env n) o), (ops[j]?).bind (·.dst), addE nt o.dst (.s n) env with
      | some x, some t, some env' => match relO kp env n (.tmp t) with
        | some y => frcN (Nat.succ n) fun m => match trSeq P ex kp nt ops rest env' m with
          | some (l, r) => some (xThen (xGd y b x) l, r)
          | none => none
        | none => none
      | _, _, _ => none
def memN (l : List Nat) (t : Nat) : Bool := match l with | [] => false | x :: l => bif Nat.beq x t then true else memN l t
noncomputable def allR {α : Type} (l : List α) (f : α → Bool) : Bool := List.rec (motive := fun _ => Bool) true (fun x _ ih => Bool.rec (motive := fun _ => Bool) false ih (f x)) l
/-- is the bit set? -/
def tb (m i : Nat) : Bool := Nat.beq (Nat.mod (Nat.div m (Nat.pow 2 i)) 2) 1
noncomputable def getN (bl : List Nat) (i : Nat) : Nat := match nth bl i with | some m => m | none => 0
noncomputable def edM (bl : List Nat) (l : List Edge) : Nat := List.rec (motive := fun _ => Nat) 0 (fun e _ ih => Bool.rec (motive := fun _ => Nat) ih (Nat.lor (Nat.lor (Nat.pow 2 e.on) (getN bl e.on)) ih) (Region.binds .any e)) l
/-- hints: what each operation is behind (as bits); new blocks told ahead; what comes first (it reckons, reads, or is told); the others in order, and what is looked at again behind each -/
structure Hint where
  bl : List Nat
  td : List Nat
  i1 : List Nat
  it : List (Nat × List Nat)
noncomputable def opAt (ops : Array Oper) (i : Nat) : Option Oper := nth ops.toList i
noncomputable def chkB (ops : Array Oper) (bl : List Nat) (ix : List Nat) : Bool := allR ix fun i => match opAt ops i with | some o => Nat.beq (getN bl i) (edM bl o.after.toList) && Nat.blt (getN bl i) (Nat.pow 2 ops.size) | none => false
noncomputable def chkA (ops : Array Oper) (bl : List Nat) (ix : List Nat) : Bool := allR ix fun j => allR ix fun i => bif Nat.ble j i then true else bif tb (getN bl j) i then true else bif tb (getN bl i) j then true else match opAt ops i, opAt ops j with | some x, some y => x.apart ops y | _, _ => false
noncomputable def chkR (ops : Array Oper) (bl : List Nat) (ix : List Nat) : Bool := allR ix fun w => match opAt ops w with
  | some o => bif isR o.op then (match o.dst with
      | some d => !(o.looksAt ops).contains d && allR ix fun i => bif Nat.beq i w then true else bif tb (getN bl w) i then true else match opAt ops i with
        | some p => (match p.dst with | some e => !(o.looksAt ops).contains e && o.dst != some e | none => true)
        | none => true
      | none => false) else true
  | none => true
/-- is it one that neither reads nor writes, or is told? -/
noncomputable def lightI (ops : Array Oper) (td : List Nat) (i : Nat) (o : Oper) : Bool := isP o.op || memN td i
/-- the order: S what came up already (as bits), Rs what was read -/
noncomputable def chkO (ops : Array Oper) (bl td ix : List Nat) (l : List (Nat × List Nat)) : Nat → List Nat → Bool :=
  List.rec (motive := fun _ => Nat → List Nat → Bool) (fun S _ => allR ix fun j => tb S j)
    (fun x _ ih S Rs => match opAt ops x.1 with
      | some o => bif tb S x.1 then false else bif allR ix (fun j => bif tb (getN bl x.1) j then tb S j else true) then
          bif lightI ops td x.1 o then ih (Nat.lor S (Nat.pow 2 x.1)) Rs
          else bif isR o.op then ih (Nat.lor S (Nat.pow 2 x.1)) (x.1 :: Rs)
          else bif allR ix (fun j => bif tb S j then true else bif Nat.beq j x.1 then true else tb (getN bl j) x.1) && allR Rs (fun w => bif tb (getN bl x.1) w then true else memN x.2 w) then ih (Nat.lor S (Nat.pow 2 x.1)) Rs
          else false
        else false
      | none => false) l
def eqNL : List Nat → List Nat → Bool
  | [], [] => true
  | x :: l, y :: m => bif Nat.beq x y then eqNL l m else false
  | _, _ => false
/-- what may come first: it reckons, reads, or is a new block that is told -/
noncomputable def okI (ops : Array Oper) (td : List Nat) (i : Nat) : Bool := match opAt ops i with | some o => (bif memN td i then isN o.op && o.guard.isNone else isP o.op || isR o.op) | none => false
noncomputable def itAll (h : Hint) : List (Nat × List Nat) := h.i1.map (fun i => (i, ([] : List Nat))) ++ h.it
noncomputable def chkD (ops : Array Oper) (nt : Nat) (ix : List Nat) : Bool := allR ix fun i => match opAt ops i with | some o => (match o.dst with | some d => Nat.blt d nt | none => true) | none => true
noncomputable def drawB (ops : Array Oper) (nt : Nat) (h : Hint) (ix : List Nat) : Bool :=
  Nat.beq (itAll h).length ops.size && chkD ops nt ix && allR h.it (fun x => !memN h.td x.1) &&
  chkB ops h.bl ix && chkA ops h.bl ix && chkR ops h.bl ix && allR h.i1 (okI ops h.td) && allR h.td (memN h.i1) && chkO ops h.bl h.td ix (itAll h) 0 []
noncomputable def xApp (r q : XR) : XR := fun K T M L k => r K T M L fun M L => q K T M L k
noncomputable def opsAt (ops : Array Oper) : List Nat → Option (List Oper)
  | [] => some []
  | i :: l => match opAt ops i, opsAt ops l with | some o, some m => some (o :: m) | _, _ => none
/-- what was read, looked at again -/
noncomputable def trCk (P : Program) (kp : List Nat) (ops : Array Oper) (env : Env) (n : Nat) (o : Oper) : Option XO :=
  match o.op, o.dst with
  | .load t x, some d => match P.underlying t, relO kp env n x, relO kp env n (.tmp d) with
    | some D, some sx, some sy => (match (bif D.isRow then (P.info? t).map (·.size) else some 0) with
      | some z => frcN z fun z => match o.guard with
        | none => some (xCk z D.isRow sx sy)
        | some (j, b) => match (ops[j]?).bind (·.dst) with
          | some u => (match relO kp env n (.tmp u) with | some y => some (xGd y b (xCk z D.isRow sx sy)) | none => none)
          | none => none
      | none => none)
    | _, _, _ => none
  | _, _ => none
noncomputable def trCks (P : Program) (kp : List Nat) (ops : Array Oper) (env : Env) : List Oper → Nat → Option (XR × Nat)
  | [], n => some (xEnd, n)
  | o :: l, n => match trCk P kp ops env n o with
    | some x => frcN (Nat.succ n) fun m => match trCks P kp ops env l m with
      | some (r, q) => some (xThen x r, q)
      | none => none
    | none => none
/-- a row of operations in an order that was looked at -/
noncomputable def trDr (P : Program) (ex : Xn) (kp : List Nat) (nt : Nat) (ops : Array Oper) : List (Nat × List Nat) → Env → Nat → Option (XR × Env × Nat)
  | [], env, n => some (xEnd, env, n)
  | (i, ws) :: rest, env, n => match opAt ops i, opsAt ops ws with
    | some o, some wo => match trSeq P ex kp nt ops [o] env n with
      | some (r1, env1, n1) => match trCks P kp ops env1 wo n1 with
        | some (r2, n2) => match trDr P ex kp nt ops rest env1 n2 with
          | some (r3, q) => some (xApp r1 (xApp r2 r3), q)
          | none => none
        | none => none
      | none => none
    | _, _ => none
noncomputable def trDraw (P : Program) (ex : Xn) (kp : List Nat) (nt : Nat) (ops : Array Oper) (h : Hint) : Option (XR × Env × Nat) :=
  bif drawB ops nt h (List.range ops.size) then trDr P ex kp nt ops (itAll h) [] 0 else none
def hintAt : List (Nat × Hint) → Nat → Option Hint
  | [], _ => none
  | x :: l, i => bif Nat.beq x.1 i then some x.2 else hintAt l i
/-- what is put back when a region ends -/
noncomputable def putsOf (kp : List Nat) (n : Nat) : Env → List Nat → (XP → Option XC) → Option XC
  | [], _, k => k xPut0
  | (t, s) :: l, seen, k => bif memN seen t then putsOf kp n l seen k else match slotF t kp 0 with
    | some m => mkP m fun p => s.rel n fun x => putsOf kp n l (t :: seen) fun r => k (xPut p x r)
    | none => putsOf kp n l seen k
/-- the last operation, where it puts a call off -/
def splitD : List Oper → Option (List Oper × Oper)
  | [] => none
  | o :: l => match splitD l with
    | some (p, d) => some (o :: p, d)
    | none => match l, o.op with | [], .defer _ => some ([], o) | _, _ => none
/-- a call that is put off lies in the last place -/
noncomputable def pushD (f : Value) (args : List Value) (T : Tm) (k : Tm → Out) : Out := match f with
  | .func (.func g) ⟨[]⟩ c => (match T.c7.c7 with | .tuple ⟨l⟩ => up7 (.tuple ⟨.func (.func g) ⟨args⟩ c :: l⟩) T.c7 fun x => up7 x T k | _ => none)
  | _ => none
noncomputable def cDef (l : XR) (r : XP) (x : Sc) (xs : List Sc) : XC := fun K n T M kn ke kr => l K T M r0 fun M L => r T L T fun T' => pushD (x T L) (xs.map fun y => y T L) T' fun T' => kn T' M
noncomputable def trDef (P : Program) (ex : Xn) (kp : List Nat) (nt : Nat) (ops : Array Oper) (l : List Oper) (o : Oper) : Option XC :=
  match trSeq P ex kp nt ops l [] 0 with
  | some (xr, env, n) => match o.op, o.guard, o.dst with
    | .defer ⟨.value f, args, _⟩, none, none => match relO kp env n f, resO2 (relO kp env n) args.toList with
      | some x, some xs => putsOf kp n env [] fun r => some (cDef xr r x xs)
      | _, _ => none
    | _, _, _ => none
  | none => none
noncomputable def trReg (P : Program) (ex : Xn) (kp : List Nat) (hd : List (Nat × Hint)) (nt : Nat) (id : Nat) (ops : Array Oper) (draw : Bool) : Option XC :=
  match (match draw with | true => none | false => splitD ops.toList) with
  | some (l, o) => trDef P ex kp nt ops l o
  | none =>
  match (match draw with | true => (match hintAt hd id with | some h => trDraw P ex kp nt ops h | none => none) | false => trSeq P ex kp nt ops ops.toList [] 0) with
  | some (l, env, n) => putsOf kp n env [] fun r => some (cReg l r)
  | none => none
noncomputable def trC (P : Program) (ex : Xn) (kp : List Nat) (hd : List (Nat × Hint)) (nt : Nat) : Code → Option XC
  | .skip => some cSkip
  | .label _ => some cSkip
  | .region id ops draw => trReg P ex kp hd nt id ops draw
  | .seq a b => match trC P ex kp hd nt a, trC P ex kp hd nt b with | some x, some y => some (cSeq x y) | _, _ => none
  | .cond c a b => match relO kp [] 0 c, trC P ex kp hd nt a, trC P ex kp hd nt b with | some x, some y, some z => some (cIf x y z) | _, _, _ => none
  | .block id c => match trC P ex kp hd nt c with | some x => some (cBlock id x) | none => none
  | .loop c => match trC P ex kp hd nt c with | some x => some (cLoop x) | none => none
  | .scope c => trC P ex kp hd nt c
  | .exit id => some (cExit id)
  | .ret => some cRet
  | _ => none
/-- a function, made ready: its code, how its arguments are put, its results -/
structure XF where
  code : XC
  args : List Pt
  res : List ((Tm → Value) × Option (Bool × Nat))
noncomputable def resP (P : Program) (kp : List Nat) : List ResultVar → Option (List ((Tm → Value) × Option (Bool × Nat)))
  | [] => some []
  | .tmp t :: l => match slotF t kp 0, resP P kp l with | some n, some r => mkG n fun g => some ((g, none) :: r) | _, _ => none
  | .cell a t :: l => match slotF a kp 0, P.underlying t, P.info? t, resP P kp l with | some n, some d, some i, some r => mkG n fun g => some ((g, some (d.isRow, i.size)) :: r) | _, _, _, _ => none
abbrev Kp := FuncId → List Nat
abbrev Hs := FuncId → List (Nat × Hint)
/-- how the first so many temporaries are put -/
noncomputable def argP (kp : List Nat) (n : Nat) : Nat → Option (List Pt) :=
  Nat.rec (motive := fun _ => Nat → Option (List Pt)) (fun _ => some []) (fun _ ih i => match slotF i kp 0, ih (Nat.succ i) with | some m, some r => mkP m fun p => some (p :: r) | _, _ => none) n
noncomputable def trF (P : Program) (ex : Xn) (kp : Kp) (hs : Hs) (f : FuncId) : Option XF :=
  match nth P.funcs.toList f with
  | some fn => match fn.body with
    | some c => bif Nat.ble (kp f).length 63 && Nat.ble (Nat.add fn.params.size fn.nfree) fn.ntmps && allR (kp f) (fun t => Nat.blt t fn.ntmps) then
      match trC P ex (kp f) (hs f) fn.ntmps c, argP (kp f) (Nat.add fn.params.size fn.nfree) 0, resP P (kp f) fn.results.toList with
      | some x, some a, some r => some ⟨x, a, r⟩
      | _, _, _ => none
      else none
    | none => none
  | none => none
noncomputable def argK (ps : List Pt) : List Value → Tm → (Tm → Out) → Out :=
  List.rec (motive := fun _ => List Value → Tm → (Tm → Out) → Out) (fun vs T k => List.casesOn vs (k T) (fun _ _ => none)) (fun p _ ih vs T k => List.casesOn vs none (fun v vs => p v T fun T => ih vs T k)) ps
noncomputable def resK (rs : List ((Tm → Value) × Option (Bool × Nat))) : Tm → Me → (List Value → Out) → Out :=
  List.rec (motive := fun _ => Tm → Me → (List Value → Out) → Out) (fun _ _ k => k []) (fun x _ ih T M k => match x.2 with
    | none => ih T M fun l => k (x.1 T :: l)
    | some (row, n) => ldK n row (x.1 T) M fun u => ih T M fun l => k (u :: l)) rs
noncomputable def finK (l : List Value) (k : Value → Out) : Out := List.casesOn l (k (.tuple ⟨[]⟩)) fun v m => List.casesOn m (k v) fun u m => bif notTuple v && (u :: m).all notTuple then k (.tuple ⟨v :: u :: m⟩) else none
noncomputable def tupK (v : Value) (k : List Value → Out) : Out := match v with | .tuple ⟨l⟩ => k l | _ => none
/-- a function is entered; how it ends -/
noncomputable def entK (P : Program) (ex : Xn) (kp : Kp) (hs : Hs) (fuel : Nat) (K : KC) (f : FuncId) (args : List Value) (M : Me) (kk : List ((Tm → Value) × Option (Bool × Nat)) → Tm → Me → Out) : Out :=
  match trF P ex kp hs f with
  | some F => argK F.args args t0 fun T => F.code K fuel T M (kk F.res) (fun _ _ _ => none) (kk F.res)
  | none => none
/-- a call that was put off (one that puts none off itself) -/
noncomputable def xdef (P : Program) (ex : Xn) (kp : Kp) (hs : Hs) (fuel : Nat) (K : KC) (f : FuncId) (args : List Value) (M : Me) (k : Me → Out) : Out :=
  entK P ex kp hs fuel K f args M fun rs T M => tupK T.c7.c7 fun l => List.casesOn l (resK rs T M fun l => finK l fun _ => k M) fun _ _ => none
noncomputable def fnK (v : Value) (k : FuncId → List Value → Out) : Out := match v with | .func (.func f) ⟨a⟩ ⟨c⟩ => k f (a ++ c) | _ => none
/-- the calls that were put off, the last one first -/
noncomputable def dfK (C : FuncId → List Value → Me → (Me → Out) → Out) (l : List Value) : Me → (Me → Out) → Out :=
  List.rec (motive := fun _ => Me → (Me → Out) → Out) (fun M k => k M) (fun v _ ih M k => fnK v fun f args => C f args M fun M => ih M k) l
noncomputable def endK (P : Program) (ex : Xn) (kp : Kp) (hs : Hs) (fuel : Nat) (K : KC) (rs : List ((Tm → Value) × Option (Bool × Nat))) (T : Tm) (M : Me) (k : Value → Me → Out) : Out :=
  tupK T.c7.c7 fun l => dfK (xdef P ex kp hs fuel K) l M fun M => resK rs T M fun l => finK l fun v => k v M
noncomputable def xcall (P : Program) (ex : Xn) (kp : Kp) (hs : Hs) (fuel : Nat) (n : Nat) : KC :=
  Nat.rec (motive := fun _ => KC) (fun _ _ _ _ => none) (fun _ K f args M k =>
    entK P ex kp hs fuel K f args M fun rs T M => endK P ex kp hs fuel K rs T M k) n
end Go.Proofs.Ytmbjgakehghdjaa
