/-
  OWN TEXT: an evaluator for calls without open arguments, made for the kernel: temporaries and memory in rows of eight; every step goes on from what is written out.
-/
import Derived.Test.YtgaigfmboomnkaaGreatXvN
namespace Go.Proofs.YtgaigfmboomnkaaGreat
open Go.RowKit
set_option linter.unusedVariables false
set_option linter.unusedSimpArgs false
noncomputable def nth {β : Type} (l : List β) (n : Nat) : Option β := List.rec (motive := fun _ => Nat → Option β) (fun _ => none) (fun x _ ih n => Nat.rec (motive := fun _ => Option β) (some x) (fun m _ => ih m) n) l n
theorem nth_eq {β : Type} : ∀ (l : List β) (n : Nat), nth l n = l[n]?
  | [], n => by cases n <;> rfl
  | x :: l, 0 => rfl
  | x :: l, n + 1 => (nth_eq l n).trans (by simp)
structure N8 (β : Type) where
  (c0 c1 c2 c3 c4 c5 c6 c7 : β)
section
variable {α β : Type}
/-- the part with this number (its last three bits) -/
noncomputable def prLL (n : Nat) (x : N8 β) : β := (Bool.rec (motive := fun _ => β) x.c1 x.c0 (Nat.beq (Nat.mod n 2) 0))
noncomputable def prLH (n : Nat) (x : N8 β) : β := (Bool.rec (motive := fun _ => β) x.c3 x.c2 (Nat.beq (Nat.mod n 2) 0))
noncomputable def prHL (n : Nat) (x : N8 β) : β := (Bool.rec (motive := fun _ => β) x.c5 x.c4 (Nat.beq (Nat.mod n 2) 0))
noncomputable def prHH (n : Nat) (x : N8 β) : β := (Bool.rec (motive := fun _ => β) x.c7 x.c6 (Nat.beq (Nat.mod n 2) 0))
noncomputable def prL (n : Nat) (x : N8 β) : β := (Bool.rec (motive := fun _ => β) (prLH n x) (prLL n x) (Nat.beq (Nat.mod (Nat.div n 2) 2) 0))
noncomputable def prH (n : Nat) (x : N8 β) : β := (Bool.rec (motive := fun _ => β) (prHH n x) (prHL n x) (Nat.beq (Nat.mod (Nat.div n 2) 2) 0))
noncomputable def pr8 (n : Nat) (x : N8 β) : β := (Bool.rec (motive := fun _ => β) (prH n x) (prL n x) (Nat.beq (Nat.mod (Nat.div n 4) 2) 0))
noncomputable def up0 : β → N8 β → (N8 β → α) → α := fun v x k => N8.rec (motive := fun _ => α) (fun c0 c1 c2 c3 c4 c5 c6 c7 => k ⟨v, c1, c2, c3, c4, c5, c6, c7⟩) x
noncomputable def up1 : β → N8 β → (N8 β → α) → α := fun v x k => N8.rec (motive := fun _ => α) (fun c0 c1 c2 c3 c4 c5 c6 c7 => k ⟨c0, v, c2, c3, c4, c5, c6, c7⟩) x
noncomputable def up2 : β → N8 β → (N8 β → α) → α := fun v x k => N8.rec (motive := fun _ => α) (fun c0 c1 c2 c3 c4 c5 c6 c7 => k ⟨c0, c1, v, c3, c4, c5, c6, c7⟩) x
noncomputable def up3 : β → N8 β → (N8 β → α) → α := fun v x k => N8.rec (motive := fun _ => α) (fun c0 c1 c2 c3 c4 c5 c6 c7 => k ⟨c0, c1, c2, v, c4, c5, c6, c7⟩) x
noncomputable def up4 : β → N8 β → (N8 β → α) → α := fun v x k => N8.rec (motive := fun _ => α) (fun c0 c1 c2 c3 c4 c5 c6 c7 => k ⟨c0, c1, c2, c3, v, c5, c6, c7⟩) x
noncomputable def up5 : β → N8 β → (N8 β → α) → α := fun v x k => N8.rec (motive := fun _ => α) (fun c0 c1 c2 c3 c4 c5 c6 c7 => k ⟨c0, c1, c2, c3, c4, v, c6, c7⟩) x
noncomputable def up6 : β → N8 β → (N8 β → α) → α := fun v x k => N8.rec (motive := fun _ => α) (fun c0 c1 c2 c3 c4 c5 c6 c7 => k ⟨c0, c1, c2, c3, c4, c5, v, c7⟩) x
noncomputable def up7 : β → N8 β → (N8 β → α) → α := fun v x k => N8.rec (motive := fun _ => α) (fun c0 c1 c2 c3 c4 c5 c6 c7 => k ⟨c0, c1, c2, c3, c4, c5, c6, v⟩) x
/-- the part with this number, set -/
noncomputable def up8 (n : Nat) : β → N8 β → (N8 β → α) → α := (Bool.rec (motive := fun _ => β → N8 β → (N8 β → α) → α) (Bool.rec (motive := fun _ => β → N8 β → (N8 β → α) → α) (Bool.rec (motive := fun _ => β → N8 β → (N8 β → α) → α) up7 up6 (Nat.beq (Nat.mod n 2) 0)) (Bool.rec (motive := fun _ => β → N8 β → (N8 β → α) → α) up5 up4 (Nat.beq (Nat.mod n 2) 0)) (Nat.beq (Nat.mod (Nat.div n 2) 2) 0)) (Bool.rec (motive := fun _ => β → N8 β → (N8 β → α) → α) (Bool.rec (motive := fun _ => β → N8 β → (N8 β → α) → α) up3 up2 (Nat.beq (Nat.mod n 2) 0)) (Bool.rec (motive := fun _ => β → N8 β → (N8 β → α) → α) up1 up0 (Nat.beq (Nat.mod n 2) 0)) (Nat.beq (Nat.mod (Nat.div n 2) 2) 0)) (Nat.beq (Nat.mod (Nat.div n 4) 2) 0))
end
abbrev M5 := N8 (N8 (N8 (N8 (N8 (Option Blk)))))
structure Me where
  n : Nat
  t : M5
abbrev Out := Option (Value × Me)
noncomputable def nthK {α β : Type} (L : List β) : Nat → (β → Option α) → Option α :=
  List.rec (motive := fun _ => Nat → (β → Option α) → Option α) (fun _ _ => none) (fun x _ ih n => Nat.rec (motive := fun _ => (β → Option α) → Option α) (fun k => k x) (fun m _ k => ih m k) n) L
abbrev Tm := N8 (N8 Value)
/-- the region's own values, the last one first -/
abbrev Rg := Nat → Value
noncomputable def pushR (v : Value) (L : Rg) : Rg := fun n => Nat.rec (motive := fun _ => Value) v (fun m _ => L m) n
/-- where an operand's value is -/
abbrev Sc := Tm → Rg → Value
/-- the temporary with this number, told and put -/
abbrev Pt := Value → Tm → (Tm → Option (Value × Me)) → Option (Value × Me)
def gRows : List (List (Tm → Value)) := [[(fun T => T.c0.c0), (fun T => T.c0.c1), (fun T => T.c0.c2), (fun T => T.c0.c3), (fun T => T.c0.c4), (fun T => T.c0.c5), (fun T => T.c0.c6), (fun T => T.c0.c7)], [(fun T => T.c1.c0), (fun T => T.c1.c1), (fun T => T.c1.c2), (fun T => T.c1.c3), (fun T => T.c1.c4), (fun T => T.c1.c5), (fun T => T.c1.c6), (fun T => T.c1.c7)], [(fun T => T.c2.c0), (fun T => T.c2.c1), (fun T => T.c2.c2), (fun T => T.c2.c3), (fun T => T.c2.c4), (fun T => T.c2.c5), (fun T => T.c2.c6), (fun T => T.c2.c7)], [(fun T => T.c3.c0), (fun T => T.c3.c1), (fun T => T.c3.c2), (fun T => T.c3.c3), (fun T => T.c3.c4), (fun T => T.c3.c5), (fun T => T.c3.c6), (fun T => T.c3.c7)], [(fun T => T.c4.c0), (fun T => T.c4.c1), (fun T => T.c4.c2), (fun T => T.c4.c3), (fun T => T.c4.c4), (fun T => T.c4.c5), (fun T => T.c4.c6), (fun T => T.c4.c7)], [(fun T => T.c5.c0), (fun T => T.c5.c1), (fun T => T.c5.c2), (fun T => T.c5.c3), (fun T => T.c5.c4), (fun T => T.c5.c5), (fun T => T.c5.c6), (fun T => T.c5.c7)], [(fun T => T.c6.c0), (fun T => T.c6.c1), (fun T => T.c6.c2), (fun T => T.c6.c3), (fun T => T.c6.c4), (fun T => T.c6.c5), (fun T => T.c6.c6), (fun T => T.c6.c7)], [(fun T => T.c7.c0), (fun T => T.c7.c1), (fun T => T.c7.c2), (fun T => T.c7.c3), (fun T => T.c7.c4), (fun T => T.c7.c5), (fun T => T.c7.c6), (fun T => T.c7.c7)]]
def sRows : List (List Sc) := [[(fun T _ => T.c0.c0), (fun T _ => T.c0.c1), (fun T _ => T.c0.c2), (fun T _ => T.c0.c3), (fun T _ => T.c0.c4), (fun T _ => T.c0.c5), (fun T _ => T.c0.c6), (fun T _ => T.c0.c7)], [(fun T _ => T.c1.c0), (fun T _ => T.c1.c1), (fun T _ => T.c1.c2), (fun T _ => T.c1.c3), (fun T _ => T.c1.c4), (fun T _ => T.c1.c5), (fun T _ => T.c1.c6), (fun T _ => T.c1.c7)], [(fun T _ => T.c2.c0), (fun T _ => T.c2.c1), (fun T _ => T.c2.c2), (fun T _ => T.c2.c3), (fun T _ => T.c2.c4), (fun T _ => T.c2.c5), (fun T _ => T.c2.c6), (fun T _ => T.c2.c7)], [(fun T _ => T.c3.c0), (fun T _ => T.c3.c1), (fun T _ => T.c3.c2), (fun T _ => T.c3.c3), (fun T _ => T.c3.c4), (fun T _ => T.c3.c5), (fun T _ => T.c3.c6), (fun T _ => T.c3.c7)], [(fun T _ => T.c4.c0), (fun T _ => T.c4.c1), (fun T _ => T.c4.c2), (fun T _ => T.c4.c3), (fun T _ => T.c4.c4), (fun T _ => T.c4.c5), (fun T _ => T.c4.c6), (fun T _ => T.c4.c7)], [(fun T _ => T.c5.c0), (fun T _ => T.c5.c1), (fun T _ => T.c5.c2), (fun T _ => T.c5.c3), (fun T _ => T.c5.c4), (fun T _ => T.c5.c5), (fun T _ => T.c5.c6), (fun T _ => T.c5.c7)], [(fun T _ => T.c6.c0), (fun T _ => T.c6.c1), (fun T _ => T.c6.c2), (fun T _ => T.c6.c3), (fun T _ => T.c6.c4), (fun T _ => T.c6.c5), (fun T _ => T.c6.c6), (fun T _ => T.c6.c7)], [(fun T _ => T.c7.c0), (fun T _ => T.c7.c1), (fun T _ => T.c7.c2), (fun T _ => T.c7.c3), (fun T _ => T.c7.c4), (fun T _ => T.c7.c5), (fun T _ => T.c7.c6), (fun T _ => T.c7.c7)]]
noncomputable def pRows : List (List Pt) := [[(fun v T k => up0 v T.c0 fun x => up0 x T k), (fun v T k => up1 v T.c0 fun x => up0 x T k), (fun v T k => up2 v T.c0 fun x => up0 x T k), (fun v T k => up3 v T.c0 fun x => up0 x T k), (fun v T k => up4 v T.c0 fun x => up0 x T k), (fun v T k => up5 v T.c0 fun x => up0 x T k), (fun v T k => up6 v T.c0 fun x => up0 x T k), (fun v T k => up7 v T.c0 fun x => up0 x T k)], [(fun v T k => up0 v T.c1 fun x => up1 x T k), (fun v T k => up1 v T.c1 fun x => up1 x T k), (fun v T k => up2 v T.c1 fun x => up1 x T k), (fun v T k => up3 v T.c1 fun x => up1 x T k), (fun v T k => up4 v T.c1 fun x => up1 x T k), (fun v T k => up5 v T.c1 fun x => up1 x T k), (fun v T k => up6 v T.c1 fun x => up1 x T k), (fun v T k => up7 v T.c1 fun x => up1 x T k)], [(fun v T k => up0 v T.c2 fun x => up2 x T k), (fun v T k => up1 v T.c2 fun x => up2 x T k), (fun v T k => up2 v T.c2 fun x => up2 x T k), (fun v T k => up3 v T.c2 fun x => up2 x T k), (fun v T k => up4 v T.c2 fun x => up2 x T k), (fun v T k => up5 v T.c2 fun x => up2 x T k), (fun v T k => up6 v T.c2 fun x => up2 x T k), (fun v T k => up7 v T.c2 fun x => up2 x T k)], [(fun v T k => up0 v T.c3 fun x => up3 x T k), (fun v T k => up1 v T.c3 fun x => up3 x T k), (fun v T k => up2 v T.c3 fun x => up3 x T k), (fun v T k => up3 v T.c3 fun x => up3 x T k), (fun v T k => up4 v T.c3 fun x => up3 x T k), (fun v T k => up5 v T.c3 fun x => up3 x T k), (fun v T k => up6 v T.c3 fun x => up3 x T k), (fun v T k => up7 v T.c3 fun x => up3 x T k)], [(fun v T k => up0 v T.c4 fun x => up4 x T k), (fun v T k => up1 v T.c4 fun x => up4 x T k), (fun v T k => up2 v T.c4 fun x => up4 x T k), (fun v T k => up3 v T.c4 fun x => up4 x T k), (fun v T k => up4 v T.c4 fun x => up4 x T k), (fun v T k => up5 v T.c4 fun x => up4 x T k), (fun v T k => up6 v T.c4 fun x => up4 x T k), (fun v T k => up7 v T.c4 fun x => up4 x T k)], [(fun v T k => up0 v T.c5 fun x => up5 x T k), (fun v T k => up1 v T.c5 fun x => up5 x T k), (fun v T k => up2 v T.c5 fun x => up5 x T k), (fun v T k => up3 v T.c5 fun x => up5 x T k), (fun v T k => up4 v T.c5 fun x => up5 x T k), (fun v T k => up5 v T.c5 fun x => up5 x T k), (fun v T k => up6 v T.c5 fun x => up5 x T k), (fun v T k => up7 v T.c5 fun x => up5 x T k)], [(fun v T k => up0 v T.c6 fun x => up6 x T k), (fun v T k => up1 v T.c6 fun x => up6 x T k), (fun v T k => up2 v T.c6 fun x => up6 x T k), (fun v T k => up3 v T.c6 fun x => up6 x T k), (fun v T k => up4 v T.c6 fun x => up6 x T k), (fun v T k => up5 v T.c6 fun x => up6 x T k), (fun v T k => up6 v T.c6 fun x => up6 x T k), (fun v T k => up7 v T.c6 fun x => up6 x T k)], [(fun v T k => up0 v T.c7 fun x => up7 x T k), (fun v T k => up1 v T.c7 fun x => up7 x T k), (fun v T k => up2 v T.c7 fun x => up7 x T k), (fun v T k => up3 v T.c7 fun x => up7 x T k), (fun v T k => up4 v T.c7 fun x => up7 x T k), (fun v T k => up5 v T.c7 fun x => up7 x T k), (fun v T k => up6 v T.c7 fun x => up7 x T k), (fun v T k => up7 v T.c7 fun x => up7 x T k)]]
noncomputable def mkG {γ : Type} (n : Nat) (k : (Tm → Value) → Option γ) : Option γ := nthK gRows (Nat.div n 8) fun r => nthK r (Nat.mod n 8) k
noncomputable def mkS {γ : Type} (n : Nat) (k : Sc → Option γ) : Option γ := nthK sRows (Nat.div n 8) fun r => nthK r (Nat.mod n 8) k
noncomputable def mkP {γ : Type} (n : Nat) (k : Pt → Option γ) : Option γ := nthK pRows (Nat.div n 8) fun r => nthK r (Nat.mod n 8) k
noncomputable def getB (M : Me) (b : Nat) : Option Blk := pr8 b (pr8 (Nat.div b 8) (pr8 (Nat.div b 64) (pr8 (Nat.div b 512) (pr8 (Nat.div b 4096) M.t))))
noncomputable def setM {α : Type} (M : Me) (b : Nat) (x : Option Blk) (k : Me → α) : α :=
  up8 b x (pr8 (Nat.div b 8) (pr8 (Nat.div b 64) (pr8 (Nat.div b 512) (pr8 (Nat.div b 4096) M.t)))) fun y =>
  up8 (Nat.div b 8) y (pr8 (Nat.div b 64) (pr8 (Nat.div b 512) (pr8 (Nat.div b 4096) M.t))) fun y =>
  up8 (Nat.div b 64) y (pr8 (Nat.div b 512) (pr8 (Nat.div b 4096) M.t)) fun y =>
  up8 (Nat.div b 512) y (pr8 (Nat.div b 4096) M.t) fun y =>
  up8 (Nat.div b 4096) y M.t fun y => k ⟨M.n, y⟩
/-- one way or the other -/
noncomputable abbrev bi {α : Type} (b : Bool) (x y : α) : α := Bool.rec (motive := fun _ => α) y x b
noncomputable def pushM {α : Type} (M : Me) (x : Blk) (k : Me → Option α) : Option α := Bool.rec (motive := fun _ => Option α) none (setM M M.n (some x) fun N => frcN (Nat.succ M.n) fun m => k ⟨m, N.t⟩) (Nat.blt M.n 32768)
def rep8 {β : Type} (x : β) : N8 β := ⟨x, x, x, x, x, x, x, x⟩
def m0 : M5 := rep8 (rep8 (rep8 (rep8 (rep8 none))))
def t0 : Tm := rep8 (rep8 undef)
noncomputable def r0 : Rg := fun _ => undef
/-- operands, one behind the other -/
noncomputable def scsK {α : Type} (xs : List Sc) : Tm → Rg → (List Value → Option α) → Option α :=
  List.rec (motive := fun _ => Tm → Rg → (List Value → Option α) → Option α) (fun _ _ k => k []) (fun x _ ih T L k => ih T L fun vs => k (x T L :: vs)) xs
abbrev KC := Tm → FuncId → List Value → Me → (Value → Me → Out) → Out
/-- an operation, made ready -/
abbrev XO := KC → Tm → Me → Rg → (Value → Me → Out) → Out
/-- cells, so many from there on -/
noncomputable def cutK {α β : Type} (l : List β) : Nat → Nat → (List β → Option α) → Option α :=
  List.rec (motive := fun _ => Nat → Nat → (List β → Option α) → Option α) (fun o n k => Nat.rec (motive := fun _ => Option α) (Nat.rec (motive := fun _ => Option α) (k []) (fun _ _ => none) n) (fun _ _ => none) o)
    (fun x _ ih o n k => Nat.rec (motive := fun _ => Option α) (Nat.rec (motive := fun _ => Option α) (k []) (fun m _ => ih 0 m fun r => k (x :: r)) n) (fun o _ => ih o n k) o) l
/-- cells written over others from there on -/
noncomputable def layK {α β : Type} (l : List β) : Nat → List β → (List β → Option α) → Option α :=
  List.rec (motive := fun _ => Nat → List β → (List β → Option α) → Option α) (fun o m k => Nat.rec (motive := fun _ => Option α) (List.rec (motive := fun _ => Option α) (k []) (fun _ _ _ => none) m) (fun _ _ => none) o)
    (fun x t ih o m k => Nat.rec (motive := fun _ => Option α) (List.rec (motive := fun _ => Option α) (k (x :: t)) (fun y m _ => ih 0 m fun r => k (y :: r)) m) (fun o _ => ih o m fun r => k (x :: r)) o) l
noncomputable def ptrK {α : Type} (v : Value) (k : Nat → Nat → Option α) : Option α :=
  Value.casesOn v (fun _ => none) (fun _ _ => none) (fun _ _ => none) (fun _ _ _ => none) (fun _ => none) (fun a => Option.rec (motive := fun _ => Option α) none (fun a => Addr.rec (motive := fun _ => Option α) (fun b o s => Option.rec (motive := fun _ => Option α) (k b o) (fun _ => none) s) a) a) (fun _ _ _ => none) (fun _ => none) (fun _ => none) (fun _ _ _ => none) none (fun _ _ => none) none (fun _ => none) (fun _ => none)
/-- what a read gives -/
noncomputable def ldK {α : Type} (n : Nat) (row : Bool) (v : Value) (M : Me) (k : Value → Option α) : Option α :=
  ptrK v fun b o => Bool.rec (motive := fun _ => Option α) none (Option.rec (motive := fun _ => Option α)
    (Bool.rec (motive := fun _ => Option α) (nthK roTab b fun x => nthK x.2 o k) none row)
    (fun blk => Bool.rec (motive := fun _ => Option α) (nthK blk.cells o k) (cutK blk.cells o n fun l => k (.agg ⟨l⟩)) row)
    (getB M b)) (Nat.blt b M.n)
noncomputable def cellsK {α : Type} (v : Value) (k : List Value → Option α) : Option α :=
  match v with
  | .agg ⟨l⟩ => k l
  | .tuple _ => none
  | .iface _ _ => none
  | v => k [v]
noncomputable def stM {α : Type} (n : Nat) (v u : Value) (M : Me) (k : Me → Option α) : Option α :=
  ptrK v fun b o => cellsK u fun l => Bool.rec (motive := fun _ => Option α) none (Option.rec (motive := fun _ => Option α) none
    (fun blk => layK blk.cells o l fun c => setM M b (some ⟨c, blk.elem⟩) k) (getB M b)) (Nat.beq l.length n && Nat.blt b M.n)
noncomputable def funK {α : Type} (v : Value) (k : FuncId → List Value → Option α) : Option α :=
  match v with
  | .func (.func f) ⟨[]⟩ ⟨l⟩ => k f l
  | _ => none
noncomputable def xP1 (f : Value → (Value → Out) → Out) (x : Sc) : XO := fun _ T M L k => f (x T L) fun u => k u M
noncomputable def xP2 (f : Value → Value → (Value → Out) → Out) (x y : Sc) : XO := fun _ T M L k => f (x T L) (y T L) fun u => k u M
noncomputable def xP3 (f : Value → Value → Value → (Value → Out) → Out) (x y z : Sc) : XO := fun _ T M L k => f (x T L) (y T L) (z T L) fun u => k u M
noncomputable def xPn (f : List Value → (Value → Out) → Out) (xs : List Sc) : XO := fun _ T M L k => scsK xs T L fun vs => f vs fun u => k u M
noncomputable def xLd (n : Nat) (row : Bool) (x : Sc) : XO := fun _ T M L k => ldK n row (x T L) M fun u => k u M
noncomputable def xSt (n : Nat) (x y : Sc) : XO := fun _ T M L k => stM n (x T L) (y T L) M fun M => k undef M
noncomputable def xNw (f : Nat → List Value → (Value → Blk → Out) → Out) (xs : List Sc) : XO := fun _ T M L k => scsK xs T L fun vs => f M.n vs fun v b => pushM M b fun M => k v M
noncomputable def xMm (f : Me → List Value → (Value → Me → Out) → Out) (xs : List Sc) : XO := fun _ T M L k => scsK xs T L fun vs => f M vs k
noncomputable def xCl (f : FuncId) (xs : List Sc) : XO := fun K T M L k => scsK xs T L fun vs => K T f vs M k
/-- the number by which a frame is told that it panics -/
def panF : FuncId := 4294967296
noncomputable def xCv (x : Sc) (xs : List Sc) : XO := fun K T M L k => funK (x T L) fun f l => Bool.rec (motive := fun _ => Out) (scsK xs T L fun vs => catK vs l fun vs => K T f vs M k) none (Nat.beq f panF)
/-- a panic: its value holds no address -/
noncomputable def panK (v : Value) (k : Value → Out) : Out := match v with | .iface t u => bif flat1 u then k (.iface t u) else none | _ => none
noncomputable def xPan (x : Sc) : XO := fun K T M L k => panK (x T L) fun v => K T panF [v] M k
noncomputable def asB {α : Type} (v : Value) (k : Bool → Option α) : Option α := Value.casesOn v (fun b => k b) (fun _ _ => none) (fun _ _ => none) (fun _ _ _ => none) (fun _ => none) (fun _ => none) (fun _ _ _ => none) (fun _ => none) (fun _ => none) (fun _ _ _ => none) none (fun _ _ => none) none (fun _ => none) (fun _ => none)
/-- is the guard's answer the one that is wanted? (of what was passed over there is none) -/
noncomputable def wnK {α : Type} (b : Bool) (v : Value) (k : Bool → Option α) : Option α := match v with
  | .bool c => k (c == b)
  | .tuple ⟨[]⟩ => k false
  | _ => none
noncomputable def xGd (x : Sc) (b : Bool) (o : XO) : XO := fun K T M L k => wnK b (x T L) fun c => Bool.rec (motive := fun _ => Out) (k undef M) (o K T M L k) c
noncomputable def xCk (n : Nat) (row : Bool) (x y : Sc) : XO := fun _ T M L k => ldK n row (x T L) M fun u => Bool.rec (motive := fun _ => Out) none (k undef M) (eq3 u (y T L))
/-- a row of operations -/
abbrev XR := KC → Tm → Me → Rg → (Me → Rg → Out) → Out
noncomputable def xEnd : XR := fun _ _ M L k => k M L
noncomputable def xThen (o : XO) (r : XR) : XR := fun K T M L k => o K T M L fun v M => r K T M (pushR v L) k
/-- what is put when a row ends -/
abbrev XP := Tm → Rg → Tm → (Tm → Out) → Out
noncomputable def xPut0 : XP := fun _ _ T k => k T
noncomputable def xPut (p : Pt) (x : Sc) (r : XP) : XP := fun T0 L T k => p (x T0 L) T fun T => r T0 L T k
/-- code, made ready -/
abbrev KS := Tm → Me → Out
abbrev XC := KC → Nat → Tm → Me → KS → (Nat → KS) → KS → Out
noncomputable def cSkip : XC := fun _ _ T M kn _ _ => kn T M
noncomputable def cReg (r : XR) (p : XP) : XC := fun K _ T M kn _ _ => r K T M r0 fun M L => p T L T fun T => kn T M
noncomputable def cSeq (a b : XC) : XC := fun K n T M kn ke kr => a K n T M (fun T M => b K n T M kn ke kr) ke kr
noncomputable def cIf (x : Sc) (a b : XC) : XC := fun K n T M kn ke kr => asB (x T r0) fun t => Bool.rec (motive := fun _ => Out) (b K n T M kn ke kr) (a K n T M kn ke kr) t
noncomputable def cBlock (id : Nat) (c : XC) : XC := fun K n T M kn ke kr => c K n T M kn (fun i T M => Bool.rec (motive := fun _ => Out) (ke i T M) (kn T M) (Nat.beq i id)) kr
noncomputable def xloop (n : Nat) : (Tm → Me → KS → Out) → Tm → Me → Out :=
  Nat.rec (motive := fun _ => (Tm → Me → KS → Out) → Tm → Me → Out) (fun _ _ _ => none) (fun _ ih f T M => f T M (ih f)) n
noncomputable def cLoop (c : XC) : XC := fun K n T M kn ke kr => xloop n (fun T M kn => c K n T M kn ke kr) T M
noncomputable def cExit (id : Nat) : XC := fun _ _ T M _ ke _ => ke id T M
noncomputable def cRet : XC := fun _ _ T M _ _ kr => kr T M
end Go.Proofs.YtgaigfmboomnkaaGreat
