/-
  OWN TEXT: an evaluator for calls without open arguments. The same, with each state written out before it is gone on from (for the kernel).
-/
import Derived.Test.YtgaigfmboomnkaaGreatXvK
namespace Go.Proofs.YtgaigfmboomnkaaGreat
open Go.RowKit
set_option linter.unusedVariables false
set_option linter.unusedSimpArgs false
section
variable {α : Type}
noncomputable def frcN (n : Nat) (k : Nat → α) : α := Nat.rec (motive := fun _ => α) (k 0) (fun m _ => k (Nat.succ m)) n
theorem frcN_eq (n : Nat) (k : Nat → α) : frcN n k = k n := by cases n <;> rfl
noncomputable def frcZ (n : Int) (k : Int → α) : α := match n with | .ofNat m => frcN m fun m => k (.ofNat m) | .negSucc m => frcN m fun m => k (.negSucc m)
theorem frcZ_eq (n : Int) (k : Int → α) : frcZ n k = k n := by cases n <;> simp only [frcZ, frcN_eq]
def frcB (b : Bool) (k : Bool → α) : α := match b with | true => k true | false => k false
theorem frcB_eq (b : Bool) (k : Bool → α) : frcB b k = k b := by cases b <;> rfl
noncomputable def frcA (a : Option Addr) (k : Option Addr → α) : α := match a with
  | none => k none
  | some ⟨b, o, none⟩ => frcN b fun b => frcN o fun o => k (some ⟨b, o, none⟩)
  | some ⟨b, o, some s⟩ => frcN b fun b => frcN o fun o => frcN s fun s => k (some ⟨b, o, some s⟩)
theorem frcA_eq (a : Option Addr) (k : Option Addr → α) : frcA a k = k a := by
  unfold frcA
  split <;> simp only [frcN_eq]
def frcI (i : IntKind) (k : IntKind → α) : α := match i with | .i8 => k .i8 | .i16 => k .i16 | .i32 => k .i32 | .i64 => k .i64 | .u8 => k .u8 | .u16 => k .u16 | .u32 => k .u32 | .u64 => k .u64
theorem frcI_eq (i : IntKind) (k : IntKind → α) : frcI i k = k i := by cases i <;> rfl
noncomputable def frc1 (v : Value) (k : Value → α) : α := match v with
  | .bool b => frcB b fun b => k (.bool b)
  | .int i n => frcI i fun i => frcZ n fun n => k (.int i n)
  | .float i n => frcN n fun n => k (.float i n)
  | .complex i n m => frcN n fun n => frcN m fun m => k (.complex i n m)
  | .pointer a => frcA a fun a => k (.pointer a)
  | .slice a n c => frcA a fun a => frcN n fun n => frcN c fun c => k (.slice a n c)
  | v => k v
theorem frc1_eq (v : Value) (k : Value → α) : frc1 v k = k v := by
  unfold frc1
  split <;> simp only [frcB_eq, frcI_eq, frcZ_eq, frcN_eq, frcA_eq]
noncomputable def frcL (l : List Value) (k : List Value → α) : α := match l with | [] => k [] | v :: l => frc1 v fun v => frcL l fun l => k (v :: l)
theorem frcL_eq (l : List Value) : ∀ (k : List Value → α), frcL l k = k l := by
  induction l with
  | nil => intro k; rfl
  | cons v l ih => intro k; simp only [frcL, frc1_eq, ih]
noncomputable def frc2 (v : Value) (k : Value → α) : α := match v with
  | .agg ⟨l⟩ => frcL l fun l => k (.agg ⟨l⟩)
  | v => frc1 v k
theorem frc2_eq (v : Value) (k : Value → α) : frc2 v k = k v := by
  unfold frc2
  split
  · rw [frcL_eq]
  · exact frc1_eq _ _
noncomputable def frcT (l : List Value) (k : List Value → α) : α := match l with | [] => k [] | v :: l => frc2 v fun v => frcT l fun l => k (v :: l)
theorem frcT_eq (l : List Value) : ∀ (k : List Value → α), frcT l k = k l := by
  induction l with
  | nil => intro k; rfl
  | cons v l ih => intro k; simp only [frcT, frc2_eq, ih]
noncomputable def frc (v : Value) (k : Value → α) : α := match v with
  | .tuple ⟨l⟩ => frcT l fun l => k (.tuple ⟨l⟩)
  | v => frc2 v k
theorem frc_eq (v : Value) (k : Value → α) : frc v k = k v := by
  unfold frc
  split
  · rw [frcT_eq]
  · exact frc2_eq _ _
/-- set, and go on from what is written out -/
noncomputable def setK {β : Type} (l : List β) (n : Nat) (v : β) (k : List β → α) : α := List.rec (motive := fun _ => Nat → (List β → α) → α) (fun _ k => k []) (fun x t ih n k => Nat.rec (motive := fun _ => α) (k (v :: t)) (fun m _ => ih m (fun r => k (x :: r))) n) l n k
theorem setK_eq {β : Type} (l : List β) : ∀ (n : Nat) (v : β) (k : List β → α), setK l n v k = k (l.set n v) := by
  induction l with
  | nil => intro n v k; cases n <;> rfl
  | cons x l ih => intro n v k; cases n with
    | zero => rfl
    | succ n => exact ih n v (fun r => k (x :: r))
noncomputable def putK (a : Act) (d : Option Tmp) (v : Value) (k : Act → α) : α := match d with
  | none => k a
  | some d => match a with | ⟨⟨l⟩, ds⟩ => frc v fun v => setK l d v fun l => k ⟨⟨l⟩, ds⟩
theorem putK_eq (a : Act) (d : Option Tmp) (v : Value) (k : Act → α) : putK a d v k = k (a.put d v) := by
  cases d with
  | none => rfl
  | some d =>
    obtain ⟨⟨l⟩, ds⟩ := a
    simp only [putK, frc_eq, setK_eq, Act.put]
    congr 2
    apply Array.ext'
    simp
noncomputable def catK {β : Type} (l m : List β) (k : List β → α) : α := List.rec (motive := fun _ => (List β → α) → α) (fun k => k m) (fun x _ ih k => ih fun r => k (x :: r)) l k
theorem catK_eq {β : Type} (l : List β) : ∀ (m : List β) (k : List β → α), catK l m k = k (l ++ m) := by
  induction l with
  | nil => intro m k; rfl
  | cons x l ih => intro m k; exact ih m fun r => k (x :: r)
end
noncomputable def frcK {α : Type} (b : Blk) (k : Blk → α) : α := match b with | ⟨l, e⟩ => frcL l fun l => k ⟨l, e⟩
theorem frcK_eq {α : Type} (b : Blk) (k : Blk → α) : frcK b k = k b := by cases b; simp only [frcK, frcL_eq]
noncomputable def Dl.appK {α : Type} (A : Mem) (d : Dl) (k : Mem → α) : α := match d with
  | .same => k A
  | .push b => frcK b fun b => catK A [some b] k
  | .set i b => frcK b fun b => setK A i (some b) k
  | .turn i b => frcK b fun b => setK A i none fun A => catK A [some b] k
  | .whole B => k B
theorem Dl.appK_eq {α : Type} (A : Mem) (d : Dl) (k : Mem → α) : d.appK A k = k (d.app A) := by
  cases d <;> simp only [Dl.appK, Dl.app, frcK_eq, setK_eq, catK_eq]
end Go.Proofs.YtgaigfmboomnkaaGreat
