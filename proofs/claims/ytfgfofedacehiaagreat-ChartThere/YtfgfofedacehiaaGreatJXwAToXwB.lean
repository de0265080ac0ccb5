/-
 OWN TEXT: an evaluator for calls without open arguments, made for the kernel: temporaries and memory in rows of eight; every step goes on from what is written out.
-/
import Derived.Test.YtfgfofedacehiaaGreatJXvN
namespace Go.Proofs.YtfgfofedacehiaaGreat
open Go.RowKit
set_option linter.unusedVariables false
set_option linter.unusedSimpArgs false
noncomputable def nth {β : Type} (l : List β) (n : Nat) : Option β := List.rec (motive := fun _ => Nat → Option β) (fun _ => none) (fun x _ ih n => Nat.rec (motive := fun _ => Option β) (some x) (fun m _ => ih m) n) l n
theorem nth_eq {β : Type} : ∀ (l : List β) (n : Nat), nth l n = l[n]?
 | [], n => by cases n <;> rfl
 | x :: l, 0 => rfl
 | x :: l, n + 1 => (nth_eq l n).trans (by simp)
structure N8 (β : Type) where
 (c0 c1 c2 c3 c4 c5 c6 c7 : β)
section
variable {α β : Type}
/-- the part with this number (its last three bits) -/
noncomputable def prLL (n : Nat) (x : N8 β) : β := (Bool.rec (motive := fun _ => β) x.c1 x.c0 (Nat.beq (Nat.mod n 2) 0))
noncomputable def prLH (n : Nat) (x : N8 β) : β := (Bool.rec (motive := fun _ => β) x.c3 x.c2 (Nat.beq (Nat.mod n 2) 0))
noncomputable def prHL (n : Nat) (x : N8 β) : β := (Bool.rec (motive := fun _ => β) x.c5 x.c4 (Nat.beq (Nat.mod n 2) 0))
noncomputable def prHH (n : Nat) (x : N8 β) : β := (Bool.rec (motive := fun _ => β) x.c7 x.c6 (Nat.beq (Nat.mod n 2) 0))
noncomputable def prL (n : Nat) (x : N8 β) : β := (Bool.rec (motive := fun _ => β) (prLH n x) (prLL n x) (Nat.beq (Nat.mod (Nat.div n 2) 2) 0))
noncomputable def prH (n : Nat) (x : N8 β) : β := (Bool.rec (motive := fun _ => β) (prHH n x) (prHL n x) (Nat.beq (Nat.mod (Nat.div n 2) 2) 0))
noncomputable def pr8 (n : Nat) (x : N8 β) : β := (Bool.rec (motive := fun _ => β) (prH n x) (prL n x) (Nat.beq (Nat.mod (Nat.div n 4) 2) 0))
noncomputable def up0 : β → N8 β → (N8 β → α) → α := fun v x k => N8.rec (motive := fun _ => α) (fun c0 c1 c2 c3 c4 c5 c6 c7 => k ⟨v, c1, c2, c3, c4, c5, c6, c7⟩) x
noncomputable def up1 : β → N8 β → (N8 β → α) → α := fun v x k => N8.rec (motive := fun _ => α) (fun c0 c1 c2 c3 c4 c5 c6 c7 => k ⟨c0, v, c2, c3, c4, c5, c6, c7⟩) x
noncomputable def up2 : β → N8 β → (N8 β → α) → α := fun v x k => N8.rec (motive := fun _ => α) (fun c0 c1 c2 c3 c4 c5 c6 c7 => k ⟨c0, c1, v, c3, c4, c5, c6, c7⟩) x
noncomputable def up3 : β → N8 β → (N8 β → α) → α := fun v x k => N8.rec (motive := fun _ => α) (fun c0 c1 c2 c3 c4 c5 c6 c7 => k ⟨c0, c1, c2, v, c4, c5, c6, c7⟩) x
noncomputable def up4 : β → N8 β → (N8 β → α) → α := fun v x k => N8.rec (motive := fun _ => α) (fun c0 c1 c2 c3 c4 c5 c6 c7 => k ⟨c0, c1, c2, c3, v, c5, c6, c7⟩) x
noncomputable def up5 : β → N8 β → (N8 β → α) → α := fun v x k => N8.rec (motive := fun _ => α) (fun c0 c1 c2 c3 c4 c5 c6 c7 => k ⟨c0, c1, c2, c3, c4, v, c6, c7⟩) x
noncomputable def up6 : β → N8 β → (N8 β → α) → α := fun v x k => N8.rec (motive := fun _ => α) (fun c0 c1 c2 c3 c4 c5 c6 c7 => k ⟨c0, c1, c2, c3, c4, c5, v, c7⟩) x
noncomputable def up7 : β → N8 β → (N8 β → α) → α := fun v x k => N8.rec (motive := fun _ => α) (fun c0 c1 c2 c3 c4 c5 c6 c7 => k ⟨c0, c1, c2, c3, c4, c5, c6, v⟩) x
/-- the part with this number, set -/
noncomputable def up8 (n : Nat) : β → N8 β → (N8 β → α) → α := (Bool.rec (motive := fun _ => β → N8 β → (N8 β → α) → α) (Bool.rec (motive := fun _ => β → N8 β → (N8 β → α) → α) (Bool.rec (motive := fun _ => β → N8 β → (N8 β → α) → α) up7 up6 (Nat.beq (Nat.mod n 2) 0)) (Bool.rec (motive := fun _ => β → N8 β → (N8 β → α) → α) up5 up4 (Nat.beq (Nat.mod n 2) 0)) (Nat.beq (Nat.mod (Nat.div n 2) 2) 0)) (Bool.rec (motive := fun _ => β → N8 β → (N8 β → α) → α) (Bool.rec (motive := fun _ => β → N8 β → (N8 β → α) → α) up3 up2 (Nat.beq (Nat.mod n 2) 0)) (Bool.rec (motive := fun _ => β → N8 β → (N8 β → α) → α) up1 up0 (Nat.beq (Nat.mod n 2) 0)) (Nat.beq (Nat.mod (Nat.div n 2) 2) 0)) (Nat.beq (Nat.mod (Nat.div n 4) 2) 0))
end
abbrev M5 := N8 (N8 (N8 (N8 (N8 (Option Blk)))))
structure Me where
 n : Nat
 t : M5
abbrev Out := Option (Value × Me)
noncomputable def nthK {α β : Type} (L : List β) : Nat → (β → Option α) → Option α :=
 List.rec (motive := fun _ => Nat → (β → Option α) → Option α) (fun _ _ => none) (fun x _ ih n => Nat.rec (motive := fun _ => (β → Option α) → Option α) (fun k => k x) (fun m _ k => ih m k) n) L
abbrev Tm := N8 (N8 Value)
/-- the region's own values, the last one first -/
abbrev Rg := Nat → Value
noncomputable def pushR (v : Value) (L : Rg) : Rg := fun n => Nat.rec (motive := fun _ => Value) v (fun m _ => L m) n
/-- where an operand's value is -/
abbrev Sc := Tm → Rg → Value
/-- the temporary with this number, told and put -/
abbrev Pt := Value → Tm → (Tm → Option (Value × Me)) → Option (Value × Me)
def gRows : List (List (Tm → Value)) := [[(fun T => T.c0.c0), (fun T => T.c0.c1), (fun T => T.c0.c2), (fun T => T.c0.c3), (fun T => T.c0.c4), (fun T => T.c0.c5), (fun T => T.c0.c6), (fun T => T.c0.c7)], [(fun T => T.c1.c0), (fun T => T.c1.c1), (fun T => T.c1.c2), (fun T => T.c1.c3), (fun T => T.c1.c4), (fun T => T.c1.c5), (fun T => T.c1.c6), (fun T => T.c1.c7)], [(fun T => T.c2.c0), (fun T => T.c2.c1), (fun T => T.c2.c2), (fun T => T.c2.c3), (fun T => T.c2.c4), (fun T => T.c2.c5), (fun T => T.c2.c6), (fun T => T.c2.c7)], [(fun T => T.c3.c0), (fun T => T.c3.c1), (fun T => T.c3.c2), (fun T => T.c3.c3), (fun T => T.c3.c4), (fun T => T.c3.c5), (fun T => T.c3.c6), (fun T => T.c3.c7)], [(fun T => T.c4.c0), (fun T => T.c4.c1), (fun T => T.c4.c2), (fun T => T.c4.c3), (fun T => T.c4.c4), (fun T => T.c4.c5), (fun T => T.c4.c6), (fun T => T.c4.c7)], [(fun T => T.c5.c0), (fun T => T.c5.c1), (fun T => T.c5.c2), (fun T => T.c5.c3), (fun T => T.c5.c4), (fun T => T.c5.c5), (fun T => T.c5.c6), (fun T => T.c5.c7)], [(fun T => T.c6.c0), (fun T => T.c6.c1), (fun T => T.c6.c2), (fun T => T.c6.c3), (fun T => T.c6.c4), (fun T => T.c6.c5), (fun T => T.c6.c6), (fun T => T.c6.c7)], [(fun T => T.c7.c0), (fun T => T.c7.c1), (fun T => T.c7.c2), (fun T => T.c7.c3), (fun T => T.c7.c4), (fun T => T.c7.c5), (fun T => T.c7.c6), (fun T => T.c7.c7)]]
def sRows : List (List Sc) := [[(fun T _ => T.c0.c0), (fun T _ => T.c0.c1), (fun T _ => T.c0.c2), (fun T _ => T.c0.c3), (fun T _ => T.c0.c4), (fun T _ => T.c0.c5), (fun T _ => T.c0.c6), (fun T _ => T.c0.c7)], [(fun T _ => T.c1.c0), (fun T _ => T.c1.c1), (fun T _ => T.c1.c2), (fun T _ => T.c1.c3), (fun T _ => T.c1.c4), (fun T _ => T.c1.c5), (fun T _ => T.c1.c6), (fun T _ => T.c1.c7)], [(fun T _ => T.c2.c0), (fun T _ => T.c2.c1), (fun T _ => T.c2.c2), (fun T _ => T.c2.c3), (fun T _ => T.c2.c4), (fun T _ => T.c2.c5), (fun T _ => T.c2.c6), (fun T _ => T.c2.c7)], [(fun T _ => T.c3.c0), (fun T _ => T.c3.c1), (fun T _ => T.c3.c2), (fun T _ => T.c3.c3), (fun T _ => T.c3.c4), (fun T _ => T.c3.c5), (fun T _ => T.c3.c6), (fun T _ => T.c3.c7)], [(fun T _ => T.c4.c0), (fun T _ => T.c4.c1), (fun T _ => T.c4.c2), (fun T _ => T.c4.c3), (fun T _ => T.c4.c4), (fun T _ => T.c4.c5), (fun T _ => T.c4.c6), (fun T _ => T.c4.c7)], [(fun T _ => T.c5.c0), (fun T _ => T.c5.c1), (fun T _ => T.c5.c2), (fun T _ => T.c5.c3), (fun T _ => T.c5.c4), (fun T _ => T.c5.c5), (fun T _ => T.c5.c6), (fun T _ => T.c5.c7)], [(fun T _ => T.c6.c0), (fun T _ => T.c6.c1), (fun T _ => T.c6.c2), (fun T _ => T.c6.c3), (fun T _ => T.c6.c4), (fun T _ => T.c6.c5), (fun T _ => T.c6.c6), (fun T _ => T.c6.c7)], [(fun T _ => T.c7.c0), (fun T _ => T.c7.c1), (fun T _ => T.c7.c2), (fun T _ => T.c7.c3), (fun T _ => T.c7.c4), (fun T _ => T.c7.c5), (fun T _ => T.c7.c6), (fun T _ => T.c7.c7)]]
noncomputable def pRows : List (List Pt) := [[(fun v T k => up0 v T.c0 fun x => up0 x T k), (fun v T k => up1 v T.c0 fun x => up0 x T k), (fun v T k => up2 v T.c0 fun x => up0 x T k), (fun v T k => up3 v T.c0 fun x => up0 x T k), (fun v T k => up4 v T.c0 fun x => up0 x T k), (fun v T k => up5 v T.c0 fun x => up0 x T k), (fun v T k => up6 v T.c0 fun x => up0 x T k), (fun v T k => up7 v T.c0 fun x => up0 x T k)], [(fun v T k => up0 v T.c1 fun x => up1 x T k), (fun v T k => up1 v T.c1 fun x => up1 x T k), (fun v T k => up2 v T.c1 fun x => up1 x T k), (fun v T k => up3 v T.c1 fun x => up1 x T k), (fun v T k => up4 v T.c1 fun x => up1 x T k), (fun v T k => up5 v T.c1 fun x => up1 x T k), (fun v T k => up6 v T.c1 fun x => up1 x T k), (fun v T k => up7 v T.c1 fun x => up1 x T k)], [(fun v T k => up0 v T.c2 fun x => up2 x T k), (fun v T k => up1 v T.c2 fun x => up2 x T k), (fun v T k => up2 v T.c2 fun x => up2 x T k), (fun v T k => up3 v T.c2 fun x => up2 x T k), (fun v T k => up4 v T.c2 fun x => up2 x T k), (fun v T k => up5 v T.c2 fun x => up2 x T k), (fun v T k => up6 v T.c2 fun x => up2 x T k), (fun v T k => up7 v T.c2 fun x => up2 x T k)], [(fun v T k => up0 v T.c3 fun x => up3 x T k), (fun v T k => up1 v T.c3 fun x => up3 x T k), (fun v T k => up2 v T.c3 fun x => up3 x T k), (fun v T k => up3 v T.c3 fun x => up3 x T k), (fun v T k => up4 v T.c3 fun x => up3 x T k), (fun v T k => up5 v T.c3 fun x => up3 x T k), (fun v T k => up6 v T.c3 fun x => up3 x T k), (fun v T k => up7 v T.c3 fun x => up3 x T k)], [(fun v T k => up0 v T.c4 fun x => up4 x T k), (fun v T k => up1 v T.c4 fun x => up4 x T k), (fun v T k => up2 v T.c4 fun x => up4 x T k), (fun v T k => up3 v T.c4 fun x => up4 x T k), (fun v T k => up4 v T.c4 fun x => up4 x T k), (fun v T k => up5 v T.c4 fun x => up4 x T k), (fun v T k => up6 v T.c4 fun x => up4 x T k), (fun v T k => up7 v T.c4 fun x => up4 x T k)], [(fun v T k => up0 v T.c5 fun x => up5 x T k), (fun v T k => up1 v T.c5 fun x => up5 x T k), (fun v T k => up2 v T.c5 fun x => up5 x T k), (fun v T k => up3 v T.c5 fun x => up5 x T k), (fun v T k => up4 v T.c5 fun x => up5 x T k), (fun v T k => up5 v T.c5 fun x => up5 x T k), (fun v T k => up6 v T.c5 fun x => up5 x T k), (fun v T k => up7 v T.c5 fun x => up5 x T k)], [(fun v T k => up0 v T.c6 fun x => up6 x T k), (fun v T k => up1 v T.c6 fun x => up6 x T k), (fun v T k => up2 v T.c6 fun x => up6 x T k), (fun v T k => up3 v T.c6 fun x => up6 x T k), (fun v T k => up4 v T.c6 fun x => up6 x T k), (fun v T k => up5 v T.c6 fun x => up6 x T k), (fun v T k => up6 v T.c6 fun x => up6 x T k), (fun v T k => up7 v T.c6 fun x => up6 x T k)], [(fun v T k => up0 v T.c7 fun x => up7 x T k), (fun v T k => up1 v T.c7 fun x => up7 x T k), (fun v T k => up2 v T.c7 fun x => up7 x T k), (fun v T k => up3 v T.c7 fun x => up7 x T k), (fun v T k => up4 v T.c7 fun x => up7 x T k), (fun v T k => up5 v T.c7 fun x => up7 x T k), (fun v T k => up6 v T.c7 fun x => up7 x T k), (fun v T k => up7 v T.c7 fun x => up7 x T k)]]
noncomputable def mkG {γ : Type} (n : Nat) (k : (Tm → Value) → Option γ) : Option γ := nthK gRows (Nat.div n 8) fun r => nthK r (Nat.mod n 8) k
noncomputable def mkS {γ : Type} (n : Nat) (k : Sc → Option γ) : Option γ := nthK sRows (Nat.div n 8) fun r => nthK r (Nat.mod n 8) k
noncomputable def mkP {γ : Type} (n : Nat) (k : Pt → Option γ) : Option γ := nthK pRows (Nat.div n 8) fun r => nthK r (Nat.mod n 8) k
noncomputable def getB (M : Me) (b : Nat) : Option Blk := pr8 b (pr8 (Nat.div b 8) (pr8 (Nat.div b 64) (pr8 (Nat.div b 512) (pr8 (Nat.div b 4096) M.t))))
noncomputable def setM {α : Type} (M : Me) (b : Nat) (x : Option Blk) (k : Me → α) : α :=
 up8 b x (pr8 (Nat.div b 8) (pr8 (Nat.div b 64) (pr8 (Nat.div b 512) (pr8 (Nat.div b 4096) M.t)))) fun y =>
 up8 (Nat.div b 8) y (pr8 (Nat.div b 64) (pr8 (Nat.div b 512) (pr8 (Nat.div b 4096) M.t))) fun y =>
 up8 (Nat.div b 64) y (pr8 (Nat.div b 512) (pr8 (Nat.div b 4096) M.t)) fun y =>
 up8 (Nat.div b 512) y (pr8 (Nat.div b 4096) M.t) fun y =>
 up8 (Nat.div b 4096) y M.t fun y => k ⟨M.n, y⟩
/-- one way or the other -/
noncomputable abbrev bi {α : Type} (b : Bool) (x y : α) : α := Bool.rec (motive := fun _ => α) y x b
noncomputable def pushM {α : Type} (M : Me) (x : Blk) (k : Me → Option α) : Option α := Bool.rec (motive := fun _ => Option α) none (setM M M.n (some x) fun N => frcN (Nat.succ M.n) fun m => k ⟨m, N.t⟩) (Nat.blt M.n 32768)
def rep8 {β : Type} (x : β) : N8 β := ⟨x, x, x, x, x, x, x, x⟩
def m0 : M5 := rep8 (rep8 (rep8 (rep8 (rep8 none))))
def t0 : Tm := rep8 (rep8 undef)
noncomputable def r0 : Rg := fun _ => undef
/-- operands, one behind the other -/
noncomputable def scsK {α : Type} (xs : List Sc) : Tm → Rg → (List Value → Option α) → Option α :=
 List.rec (motive := fun _ => Tm → Rg → (List Value → Option α) → Option α) (fun _ _ k => k []) (fun x _ ih T L k => ih T L fun vs => k (x T L :: vs)) xs
abbrev KC := Tm → FuncId → List Value → Me → (Value → Me → Out) → Out
/-- an operation, made ready -/
abbrev XO := KC → Tm → Me → Rg → (Value → Me → Out) → Out
/-- cells, so many from there on -/
noncomputable def cutK {α β : Type} (l : List β) : Nat → Nat → (List β → Option α) → Option α :=
 List.rec (motive := fun _ => Nat → Nat → (List β → Option α) → Option α) (fun o n k => Nat.rec (motive := fun _ => Option α) (Nat.rec (motive := fun _ => Option α) (k []) (fun _ _ => none) n) (fun _ _ => none) o)
  (fun x _ ih o n k => Nat.rec (motive := fun _ => Option α) (Nat.rec (motive := fun _ => Option α) (k []) (fun m _ => ih 0 m fun r => k (x :: r)) n) (fun o _ => ih o n k) o) l
/-- cells written over others from there on -/
noncomputable def layK {α β : Type} (l : List β) : Nat → List β → (List β → Option α) → Option α :=
 List.rec (motive := fun _ => Nat → List β → (List β → Option α) → Option α) (fun o m k => Nat.rec (motive := fun _ => Option α) (List.rec (motive := fun _ => Option α) (k []) (fun _ _ _ => none) m) (fun _ _ => none) o)
  (fun x t ih o m k => Nat.rec (motive := fun _ => Option α) (List.rec (motive := fun _ => Option α) (k (x :: t)) (fun y m _ => ih 0 m fun r => k (y :: r)) m) (fun o _ => ih o m fun r => k (x :: r)) o) l
noncomputable def ptrK {α : Type} (v : Value) (k : Nat → Nat → Option α) : Option α :=
 Value.casesOn v (fun _ => none) (fun _ _ => none) (fun _ _ => none) (fun _ _ _ => none) (fun _ => none) (fun a => Option.rec (motive := fun _ => Option α) none (fun a => Addr.rec (motive := fun _ => Option α) (fun b o s => Option.rec (motive := fun _ => Option α) (k b o) (fun _ => none) s) a) a) (fun _ _ _ => none) (fun _ => none) (fun _ => none) (fun _ _ _ => none) none (fun _ _ => none) none (fun _ => none) (fun _ => none)
/-- what a read gives -/
noncomputable def ldK {α : Type} (n : Nat) (row : Bool) (v : Value) (M : Me) (k : Value → Option α) : Option α :=
 ptrK v fun b o => Bool.rec (motive := fun _ => Option α) none (Option.rec (motive := fun _ => Option α)
  (Bool.rec (motive := fun _ => Option α) (nthK roTab b fun x => nthK x.2 o k) none row)
  (fun blk => Bool.rec (motive := fun _ => Option α) (nthK blk.cells o k) (cutK blk.cells o n fun l => k (.agg ⟨l⟩)) row)
  (getB M b)) (Nat.blt b M.n)
noncomputable def cellsK {α : Type} (v : Value) (k : List Value → Option α) : Option α :=
 match v with
 | .agg ⟨l⟩ => k l
 | .tuple _ => none
 | .iface _ _ => none
 | v => k [v]
noncomputable def stM {α : Type} (n : Nat) (v u : Value) (M : Me) (k : Me → Option α) : Option α :=
 ptrK v fun b o => cellsK u fun l => Bool.rec (motive := fun _ => Option α) none (Option.rec (motive := fun _ => Option α) none
  (fun blk => layK blk.cells o l fun c => setM M b (some ⟨c, blk.elem⟩) k) (getB M b)) (Nat.beq l.length n && Nat.blt b M.n)
noncomputable def funK {α : Type} (v : Value) (k : FuncId → List Value → List Value → Option α) : Option α :=
 match v with
 | .func (.func f) ⟨m⟩ ⟨l⟩ => k f m l
 | _ => none
noncomputable def xP1 (f : Value → (Value → Out) → Out) (x : Sc) : XO := fun _ T M L k => f (x T L) fun u => k u M
noncomputable def xP2 (f : Value → Value → (Value → Out) → Out) (x y : Sc) : XO := fun _ T M L k => f (x T L) (y T L) fun u => k u M
noncomputable def xP3 (f : Value → Value → Value → (Value → Out) → Out) (x y z : Sc) : XO := fun _ T M L k => f (x T L) (y T L) (z T L) fun u => k u M
noncomputable def xPn (f : List Value → (Value → Out) → Out) (xs : List Sc) : XO := fun _ T M L k => scsK xs T L fun vs => f vs fun u => k u M
noncomputable def xLd (n : Nat) (row : Bool) (x : Sc) : XO := fun _ T M L k => ldK n row (x T L) M fun u => k u M
noncomputable def xSt (n : Nat) (x y : Sc) : XO := fun _ T M L k => stM n (x T L) (y T L) M fun M => k undef M
noncomputable def xNw (f : Nat → List Value → (Value → Blk → Out) → Out) (xs : List Sc) : XO := fun _ T M L k => scsK xs T L fun vs => f M.n vs fun v b => pushM M b fun M => k v M
noncomputable def xMm (f : Me → List Value → (Value → Me → Out) → Out) (xs : List Sc) : XO := fun _ T M L k => scsK xs T L fun vs => f M vs k
noncomputable def xCl (f : FuncId) (xs : List Sc) : XO := fun K T M L k => scsK xs T L fun vs => K T f vs M k
/-- the number by which a frame is told that it panics -/
def panF : FuncId := 4294967296
noncomputable def xCv (x : Sc) (xs : List Sc) : XO := fun K T M L k => funK (x T L) fun f m l => Bool.rec (motive := fun _ => Out) (scsK xs T L fun vs => catK vs l fun vs => catK m vs fun vs => K T f vs M k) none (Nat.beq f panF)
/-- a call through an interface -/
noncomputable def xInv (P : Program) (name : String) (x : Sc) (xs : List Sc) : XO := fun K T M L k => match invF P (x T L) name with
 | some (f, u) => bif flat u then Bool.rec (motive := fun _ => Out) (scsK xs T L fun vs => K T f (u :: vs) M k) none (Nat.beq f panF) else none
 | none => none
/-- a panic: its value holds no address -/
noncomputable def panK (v : Value) (k : Value → Out) : Out := match v with | .iface t u => bif flat1 u then k (.iface t u) else none | _ => none
noncomputable def xPan (x : Sc) : XO := fun K T M L k => panK (x T L) fun v => K T panF [v] M k
noncomputable def asB {α : Type} (v : Value) (k : Bool → Option α) : Option α := Value.casesOn v (fun b => k b) (fun _ _ => none) (fun _ _ => none) (fun _ _ _ => none) (fun _ => none) (fun _ => none) (fun _ _ _ => none) (fun _ => none) (fun _ => none) (fun _ _ _ => none) none (fun _ _ => none) none (fun _ => none) (fun _ => none)
/-- is the guard's answer the one that is wanted? (of what was passed over there is none) -/
noncomputable def wnK {α : Type} (b : Bool) (v : Value) (k : Bool → Option α) : Option α := match v with
 | .bool c => k (c == b)
 | .tuple ⟨[]⟩ => k false
 | _ => none
noncomputable def xGd (x : Sc) (b : Bool) (o : XO) : XO := fun K T M L k => wnK b (x T L) fun c => Bool.rec (motive := fun _ => Out) (k undef M) (o K T M L k) c
noncomputable def xCk (n : Nat) (row : Bool) (x y : Sc) : XO := fun _ T M L k => ldK n row (x T L) M fun u => Bool.rec (motive := fun _ => Out) none (k undef M) (eq3 u (y T L))
/-- a row of operations -/
abbrev XR := KC → Tm → Me → Rg → (Me → Rg → Out) → Out
noncomputable def xEnd : XR := fun _ _ M L k => k M L
noncomputable def xThen (o : XO) (r : XR) : XR := fun K T M L k => o K T M L fun v M => r K T M (pushR v L) k
/-- what is put when a row ends -/
abbrev XP := Tm → Rg → Tm → (Tm → Out) → Out
noncomputable def xPut0 : XP := fun _ _ T k => k T
noncomputable def xPut (p : Pt) (x : Sc) (r : XP) : XP := fun T0 L T k => p (x T0 L) T fun T => r T0 L T k
/-- code, made ready -/
abbrev KS := Tm → Me → Out
abbrev XC := KC → Nat → Tm → Me → KS → (Nat → KS) → KS → Out
noncomputable def cSkip : XC := fun _ _ T M kn _ _ => kn T M
noncomputable def cReg (r : XR) (p : XP) : XC := fun K _ T M kn _ _ => r K T M r0 fun M L => p T L T fun T => kn T M
noncomputable def cSeq (a b : XC) : XC := fun K n T M kn ke kr => a K n T M (fun T M => b K n T M kn ke kr) ke kr
noncomputable def cIf (x : Sc) (a b : XC) : XC := fun K n T M kn ke kr => asB (x T r0) fun t => Bool.rec (motive := fun _ => Out) (b K n T M kn ke kr) (a K n T M kn ke kr) t
noncomputable def cBlock (id : Nat) (c : XC) : XC := fun K n T M kn ke kr => c K n T M kn (fun i T M => Bool.rec (motive := fun _ => Out) (ke i T M) (kn T M) (Nat.beq i id)) kr
noncomputable def xloop (n : Nat) : (Tm → Me → KS → Out) → Tm → Me → Out :=
 Nat.rec (motive := fun _ => (Tm → Me → KS → Out) → Tm → Me → Out) (fun _ _ _ => none) (fun _ ih f T M => f T M (ih f)) n
noncomputable def cLoop (c : XC) : XC := fun K n T M kn ke kr => xloop n (fun T M kn => c K n T M kn ke kr) T M
noncomputable def cExit (id : Nat) : XC := fun _ _ T M _ ke _ => ke id T M
noncomputable def cRet : XC := fun _ _ T M _ _ kr => kr T M
end Go.Proofs.YtfgfofedacehiaaGreat

/-
 OWN TEXT: an evaluator made for the kernel: operations on numbers, addresses, lists, each going on from what is written out.
-/
namespace Go.Proofs.YtfgfofedacehiaaGreat
open Go.RowKit
set_option linter.unusedVariables false
set_option linter.unusedSimpArgs false
section
variable {α : Type}
noncomputable def asI (v : Value) (k : IntKind → Int → Option α) : Option α := Value.casesOn v (fun _ => none) (fun i n => k i n) (fun _ _ => none) (fun _ _ _ => none) (fun _ => none) (fun _ => none) (fun _ _ _ => none) (fun _ => none) (fun _ => none) (fun _ _ _ => none) none (fun _ _ => none) none (fun _ => none) (fun _ => none)
noncomputable def asF (v : Value) (k : Nat → Option α) : Option α := Value.casesOn v (fun _ => none) (fun _ _ => none) (fun i n => FloatKind.casesOn i none (k n)) (fun _ _ _ => none) (fun _ => none) (fun _ => none) (fun _ _ _ => none) (fun _ => none) (fun _ => none) (fun _ _ _ => none) none (fun _ _ => none) none (fun _ => none) (fun _ => none)
noncomputable def asC (v : Value) (k : Nat → Nat → Option α) : Option α := match v with | .complex .f64 n m => k n m | _ => none
def ikN (i : IntKind) : Nat := IntKind.casesOn i 0 1 2 3 4 5 6 7
def eqK (i j : IntKind) : Bool := Nat.beq (ikN i) (ikN j)
noncomputable def addZ (a b : Int) (k : Int → α) : α := Int.casesOn a (fun m => Int.casesOn b (fun n => frcN (Nat.add m n) fun z => k (.ofNat z)) (fun n => frcZ (Int.add (.ofNat m) (.negSucc n)) k)) (fun m => frcZ (Int.add (.negSucc m) b) k)
noncomputable def subZ (a b : Int) (k : Int → α) : α := Int.casesOn a (fun m => Int.casesOn b (fun n => bif Nat.ble n m then frcN (Nat.sub m n) fun z => k (.ofNat z) else frcN (Nat.sub (Nat.sub n m) 1) fun z => k (.negSucc z)) (fun n => frcZ (Int.sub (.ofNat m) (.negSucc n)) k)) (fun m => frcZ (Int.sub (.negSucc m) b) k)
noncomputable def mulZ (a b : Int) (k : Int → α) : α := Int.casesOn a (fun m => Int.casesOn b (fun n => frcN (Nat.mul m n) fun z => k (.ofNat z)) (fun n => frcZ (Int.mul (.ofNat m) (.negSucc n)) k)) (fun m => frcZ (Int.mul (.negSucc m) b) k)
/-- wrapped to a kind -/
noncomputable def wrapK (i : IntKind) (z : Int) (k : Int → α) : α :=
 Int.casesOn z
  (fun m => bif Nat.ble m (IntKind.casesOn i 127 32767 2147483647 9223372036854775807 255 65535 4294967295 18446744073709551615) then k (.ofNat m)
   else IntKind.casesOn i (frcZ (IntKind.i8.wrap (.ofNat m)) k) (frcZ (IntKind.i16.wrap (.ofNat m)) k) (frcZ (IntKind.i32.wrap (.ofNat m)) k) (frcZ (IntKind.i64.wrap (.ofNat m)) k) (frcN (Nat.mod m 256) fun r => k (.ofNat r)) (frcN (Nat.mod m 65536) fun r => k (.ofNat r)) (frcN (Nat.mod m 4294967296) fun r => k (.ofNat r)) (frcN (Nat.mod m 18446744073709551616) fun r => k (.ofNat r)))
  (fun m => bif Nat.blt m (IntKind.casesOn i 128 32768 2147483648 9223372036854775808 0 0 0 0) then k (.negSucc m) else frcZ (i.wrap (.negSucc m)) k)
def ltZ (a b : Int) : Bool := Int.casesOn a (fun m => Int.casesOn b (fun n => Nat.blt m n) (fun _ => false)) (fun m => Int.casesOn b (fun _ => true) (fun n => Nat.blt n m))
def leZ (a b : Int) : Bool := Int.casesOn a (fun m => Int.casesOn b (fun n => Nat.ble m n) (fun _ => false)) (fun m => Int.casesOn b (fun _ => true) (fun n => Nat.ble n m))
def eqZ (a b : Int) : Bool := Int.casesOn a (fun m => Int.casesOn b (fun n => Nat.beq m n) (fun _ => false)) (fun m => Int.casesOn b (fun _ => false) (fun n => Nat.beq m n))
noncomputable def iOp (f : Int → Int → (Int → Option α) → Option α) (x y : Value) (c : Value → Option α) : Option α := asI x fun i a => asI y fun j b => Bool.rec (motive := fun _ => Option α) none (f a b fun z => wrapK i z fun z => c (.int i z)) (eqK i j)
noncomputable def iCmp (f : Int → Int → Bool) (x y : Value) (c : Value → Option α) : Option α := asI x fun i a => asI y fun j b => Bool.rec (motive := fun _ => Option α) none (frcB (f a b) fun t => c (.bool t)) (eqK i j)
/-- of two whole numbers without signs, 64 bits -/
noncomputable def uOp (f : Nat → Nat → Nat) (x y : Value) (c : Value → Option α) : Option α := match x with
 | .int .u64 a => Int.casesOn a (fun m => asI y fun j b => Int.casesOn b (fun n => bif eqK j .u64 && Nat.ble m 18446744073709551615 && Nat.ble n 18446744073709551615 then frcN (f m n) fun z => c (.int .u64 (.ofNat z)) else none) (fun _ => none)) (fun _ => none)
 | _ => none
noncomputable def shlU (x y : Value) (c : Value → Option α) : Option α := match x with
 | .int .u64 a => Int.casesOn a (fun m => asI y fun j b => Int.casesOn b (fun n => bif Nat.ble n 64 then frcN (Nat.mod (Nat.mul m (Nat.pow 2 n)) 18446744073709551616) fun z => c (.int .u64 (.ofNat z)) else c (.int .u64 (.ofNat 0))) (fun _ => none)) (fun _ => none)
 | _ => none
noncomputable def shrU (x y : Value) (c : Value → Option α) : Option α := asI x fun i a => bif eqK i .u64 then Int.casesOn a (fun m => asI y fun j b => Int.casesOn b (fun n => bif Nat.ble n 64 then frcN (Nat.div m (Nat.pow 2 n)) fun z => c (.int i (.ofNat z)) else none) (fun _ => none)) (fun _ => none) else none
noncomputable def notK (x : Value) (c : Value → Option α) : Option α := match x with | .bool b => frcB (!b) fun t => c (.bool t) | _ => none
noncomputable def convI (k : IntKind) (x : Value) (c : Value → Option α) : Option α := asI x fun _ n => wrapK k n fun z => c (.int k z)
noncomputable def lenK (x : Value) (c : Value → Option α) : Option α := match x with | .slice _ n _ => c (.int .i64 (.ofNat n)) | _ => none
noncomputable def fldK (off : Nat) (x : Value) (c : Value → Option α) : Option α := ptrK x fun b o => frcN (Nat.add o off) fun o => c (.pointer (some ⟨b, o, none⟩))
noncomputable def idxK (sz : Nat) (x y : Value) (c : Value → Option α) : Option α := match x with
 | .slice (some a) len _ => asI y fun _ i => Int.casesOn i (fun m => bif Nat.blt m len then frcN (Nat.add a.off (Nat.mul m sz)) fun o => c (.pointer (some ⟨a.block, o, none⟩)) else none) (fun _ => none)
 | _ => none
noncomputable def idxA (len sz : Nat) (x y : Value) (c : Value → Option α) : Option α := ptrK x fun b o => asI y fun _ i => Int.casesOn i (fun m => bif Nat.blt m len then frcN (Nat.add o (Nat.mul m sz)) fun o => c (.pointer (some ⟨b, o, none⟩)) else none) (fun _ => none)
noncomputable def extK (i : Nat) (x : Value) (c : Value → Option α) : Option α := match x with | .tuple ⟨l⟩ => nthK l i c | _ => none
noncomputable def pickK (x y z : Value) (c : Value → Option α) : Option α := match x with | .bool t => bif flat y && flat z then bif t then c y else c z else none | _ => none
noncomputable def boxK (el : TypeId) (id : Nat) (vs : List Value) (k : Value → Blk → Option α) : Option α := match vs with | [v] => cellsK v fun l => k (.pointer (some ⟨id, 0, none⟩)) ⟨l, el⟩ | _ => none
noncomputable def newK (el : TypeId) (l : List Value) (id : Nat) (vs : List Value) (k : Value → Blk → Option α) : Option α := k (.pointer (some ⟨id, 0, none⟩)) ⟨l, el⟩
end
-- floats: what is no number goes the slow way
noncomputable def asFE {α : Type} (v : Value) (z : Option α) (k : Nat → Option α) : Option α := Value.casesOn v (fun _ => z) (fun _ _ => z) (fun i n => FloatKind.casesOn i z (k n)) (fun _ _ _ => z) (fun _ => z) (fun _ => z) (fun _ _ _ => z) (fun _ => z) (fun _ => z) (fun _ _ _ => z) z (fun _ _ => z) z (fun _ => z) (fun _ => z)
noncomputable def slowF (op : BinOp) (x y : Value) (c : Value → Out) : Out := match flO x, flO y with | some a, some b => (match binFN op a b with | some v => frc v c | none => none) | _, _ => none
noncomputable def slowC (x y : Value) (c : Value → Out) : Out := match flO x, flO y with | some a, some b => frc (cxV a b) c | _, _ => none
noncomputable def fOp (op : BinOp) (f : Nat → Nat → Option Nat) (x y : Value) (c : Value → Out) : Out := asFE x (slowF op x y c) fun a => asFE y (slowF op x y c) fun b => Option.rec (motive := fun _ => Out) (slowF op x y c) (fun r => frcN r fun r => c (.float .f64 r)) (f a b)
noncomputable def fCmp (op : BinOp) (f : Nat → Nat → Bool) (x y : Value) (c : Value → Out) : Out := asFE x (slowF op x y c) fun a => asFE y (slowF op x y c) fun b => frcB (f a b) fun t => c (.bool t)
noncomputable def reK (x : Value) (c : Value → Out) : Out := match x with | .complex .f64 n m => c (.float .f64 n) | .pointer (some ⟨a, b, some 0⟩) => frc (flV a) c | _ => none
noncomputable def imK (x : Value) (c : Value → Out) : Out := match x with | .complex .f64 n m => c (.float .f64 m) | .pointer (some ⟨a, b, some 0⟩) => frc (flV b) c | _ => none
noncomputable def cxK (x y : Value) (c : Value → Out) : Out := asFE x (slowC x y c) fun n => asFE y (slowC x y c) fun m => c (.complex .f64 n m)
/-- operands, by their temporaries' values -/
def evalL (l : List (Nat × Value)) : Operand → Option Value
 | .tmp t => tvT l t
 | .const v => if flat v then some v else none
 | .func f => some (.func (.func f) #[] #[])
 | .global g => (roIx g roTab 0).map fun i => .pointer (some ⟨i, 0, none⟩)
where
 tvT : List (Nat × Value) → Nat → Option Value
  | [], _ => none
  | x :: l, t => bif Nat.beq x.1 t then some x.2 else tvT l t
def tmpsOf : List Operand → List Nat
 | [] => []
 | .tmp t :: l => t :: tmpsOf l
 | _ :: l => tmpsOf l
noncomputable def genP (P : Program) (o : Oper) (vs : List Value) (c : Value → Out) : Out := match evPN P (evalL ((tmpsOf o.op.operands.toList).zip vs)) o with | some v => frc v c | none => none
noncomputable def genF (P : Program) (o : Oper) (vs : List Value) (c : Value → Out) : Out := match flatP P (evalL ((tmpsOf o.op.operands.toList).zip vs)) o with | some v => frc v c | none => none
noncomputable def genN (P : Program) (o : Oper) (id : Nat) (vs : List Value) (k : Value → Blk → Out) : Out := match evN P id (evalL ((tmpsOf o.op.operands.toList).zip vs)) o with | some (v, b) => frc v fun v => frcK b fun b => k v b | none => none
/-- memory, as a function -/
abbrev Gt := Nat → Option (Option Blk)
noncomputable def getM (M : Me) (b : Nat) : Option (Option Blk) := bif Nat.blt b M.n then some (getB M b) else none
def partsG (A : Gt) (size n : Nat) : Value → Option (List Value)
 | .slice none _ _ => if n = 0 then some [] else none
 | .slice (some ⟨b, off, _⟩) _ _ => match A b with | some (some blk) => if off + n * size ≤ blk.cells.length then some ((blk.cells.drop off).take (n * size)) else none | _ => none
 | _ => none
def growG (P : Program) (A : Gt) (top : Nat) (i : TypeInfo) (z : Value) (el : TypeId) (a : Option Addr) (len cap n : Nat) (news : List Value) : Option (Value × Dl) :=
 if z.cells.size = i.size ∧ (len + n) * i.bytes ≤ 140737488355328 ∧ len + n ≤ 9223372036854775807 ∧ i.size ≠ 0 ∧ cap < len + n ∧ szOf P el = i.size then
  match partsG A i.size len (.slice a len cap) with
  | some olds =>
   match a with
   | none | some ⟨_, _, none⟩ => some (.slice (some ⟨top, 0, some 0⟩) (len + n) (len + n), .push ⟨olds ++ news, el⟩)
   | some ⟨b, off, some _⟩ =>
    match A b with
    | some (some blk) => if off = 0 ∧ blk.elem = el ∧ cap * i.size ≤ blk.cells.length ∧ len ≤ cap then some (.slice (some ⟨top, 0, some 0⟩) (len + n) (len + n), .turn b ⟨olds ++ news, el⟩) else none
    | _ => none
  | none => none
 else none
def zeroG (P : Program) (A : Gt) (el : TypeId) (b off : Nat) (sp : Option Nat) (len cap n : Nat) : Option (Value × Dl) :=
 match P.info? el with
 | some i => match i.zero with
  | some z => match z.cells.toList with
   | [z0] => match A b with
    | some (some blk) => if i.size = 1 ∧ flat1 z0 = true ∧ n * i.bytes ≤ 140737488355328 ∧ n ≤ 9223372036854775807 ∧ len + n ≤ cap ∧ off + len + n ≤ blk.cells.length then some (.slice (some ⟨b, off, sp⟩) (len + n) cap, .set b ⟨blk.cells.take (off + len) ++ List.replicate n z0 ++ blk.cells.drop (off + len + n), blk.elem⟩) else none
    | _ => none
   | _ => none
  | none => none
 | none => none
def appendG (P : Program) (A : Gt) (top : Nat) (e : Operand → Option Value) (o : Oper) : Option (Value × Dl) :=
 match o.op with
 | .call c =>
  match c.callee, c.args.toList, c.argTypes.toList with
  | .builtin .append, [s, x], [t, tx] =>
   match e s, e x, P.underlying t, P.underlying tx with
   | some (.slice a len cap), some (.slice xa n xc), some (.slice el), some (.slice _) =>
    match P.info? el with
    | some i => match i.zero with
     | some z =>
      match partsG A i.size n (.slice xa n xc) with
      | some news =>
       if len + n ≤ cap then
        match a with
        | none => if n = 0 then some (.slice none len cap, .same) else none
        | some ⟨b, off, sp⟩ =>
         match A b with
         | some (some blk) => if off + len * i.size + news.length ≤ blk.cells.length then some (.slice (some ⟨b, off, sp⟩) (len + n) cap, .set b ⟨blk.cells.take (off + len * i.size) ++ news ++ blk.cells.drop (off + len * i.size + news.length), blk.elem⟩) else none
         | _ => none
       else growG P A top i z el a len cap n news
      | none => none
     | none => none
    | none => none
   | some (.slice (some ⟨b, off, sp⟩) len cap), some (.int _ (.ofNat n)), some (.slice el), some (.int _) => zeroG P A el b off sp len cap n
   | _, _, _, _ => none
  | _, _, _ => none
 | _ => none
def copyG (P : Program) (A : Gt) (e : Operand → Option Value) (o : Oper) : Option (Value × Dl) :=
 match o.op with
 | .call c =>
  match c.callee, c.args.toList, c.argTypes.toList with
  | .builtin .copy, [d, s], [dT, sT] =>
   match e d, e s, P.underlying dT with
   | some (.slice (some ⟨b, off, _⟩) dl _), some (.slice a sl sc), some (.slice el) =>
    match A b, partsG A (szOf P el) (Nat.min sl dl) (.slice a sl sc) with
    | some (some blk), some l => if szOf P el ≠ 0 ∧ off + l.length ≤ blk.cells.length then some (.int .i64 (Nat.min sl dl : Nat), .set b ⟨blk.cells.take off ++ l ++ blk.cells.drop (off + l.length), blk.elem⟩) else none
    | _, _ => none
   | _, _, _ => none
  | _, _, _ => none
 | _ => none
noncomputable def dlM (d : Dl) (M : Me) (k : Me → Out) : Out := match d with
 | .same => k M
 | .push b => frcK b fun b => pushM M b fun M => k M
 | .set i b => frcK b fun b => bif Nat.blt i M.n then setM M i (some b) k else none
 | .turn i b => frcK b fun b => bif Nat.blt i M.n then setM M i none fun M => pushM M b fun M => k M else none
 | .whole _ => none
noncomputable def genA (P : Program) (o : Oper) (M : Me) (vs : List Value) (k : Value → Me → Out) : Out := match appendG P (getM M) M.n (evalL ((tmpsOf o.op.operands.toList).zip vs)) o with | some (v, d) => frc v fun v => dlM d M fun M => k v M | none => none
noncomputable def genC (P : Program) (o : Oper) (M : Me) (vs : List Value) (k : Value → Me → Out) : Out := match copyG P (getM M) (evalL ((tmpsOf o.op.operands.toList).zip vs)) o with | some (v, d) => frc v fun v => dlM d M fun M => k v M | none => none
end Go.Proofs.YtfgfofedacehiaaGreat

