/-
  OWN TEXT: functions without a body that the evaluator knows: a float's bits, there and back, and its root.
-/
import Derived.Test.YtgaigfmboomnkaaGreatXwS
import Derived.Test.YtgaigfmboomnkaaGreatRows
import Derived.WalkKit
namespace Go.Proofs.YtgaigfmboomnkaaGreat
set_option linter.unusedVariables false
set_option maxRecDepth 100000
theorem plainX : Plain Tryz.prog := xPlain_of (by decide +kernel)
theorem mixedX : Tryz.prog.follows .mixedOrders = true := by kernel_rfl
noncomputable def exBits (vs : List Value) (c : Value → Out) : Out := match vs with | [v] => asF v fun n => c (.int .u64 (.ofNat n)) | _ => none
noncomputable def exFrom (vs : List Value) (c : Value → Out) : Out := match vs with | [.int .u64 n] => Int.casesOn n (fun m => c (.float .f64 m)) (fun _ => none) | _ => none
noncomputable def exRoot (vs : List Value) (c : Value → Out) : Out := match vs with | [v] => (asF v fun n => Option.rec (motive := fun _ => Out) none (fun r => frcN r fun r => c (.float .f64 r)) (FloatKind.f64.format.sqrt n)) | _ => none
theorem bits_run (n : Nat) : pureRun Tryz.prog (callFunc 81 #[.float .f64 n]) = some (.value (.int .u64 n)) := by kernel_rfl
theorem from_run (n : Nat) : pureRun Tryz.prog (callFunc 80 #[.int .u64 (.ofNat n)]) = some (.value (.float .f64 n)) := by kernel_rfl
noncomputable def xnCons (f0 : FuncId) (g : List Value → (Value → Out) → Out) (ex : Xn) : Xn := fun f => bif Nat.beq f f0 then some g else ex f
def XOk1 (P : Program) (f : FuncId) (g : List Value → (Value → Out) → Out) : Prop := ∀ (vs : List Value) (k : Value → Out) (out : Value × Me), g vs k = some out → ∃ v, (∀ k, g vs k = k v) ∧ flat v = true ∧ (∀ u ∈ vs, flat u = true) ∧ pureRun P (callFunc f ⟨vs⟩) = some (.value v)
theorem xnCons_ok {P : Program} {f0 : FuncId} {g : List Value → (Value → Out) → Out} {ex : Xn} (h1 : XOk1 P f0 g) (h2 : XnOk P ex) : XnOk P (xnCons f0 g ex) := by
  intro f g' h vs k out hk
  unfold xnCons at h
  rw [beq_iff] at h
  by_cases c : f = f0
  · rw [decide_eq_true c, cond_true] at h
    cases h
    subst c
    exact h1 vs k out hk
  · rw [decide_eq_false c, cond_false] at h
    exact h2 f g' h vs k out hk
theorem xnNil_ok {P : Program} : XnOk P (fun _ => none) := fun f g h => by cases h
theorem bits_ok : XOk1 Tryz.prog 81 exBits := by
  intro vs k out hk
  unfold exBits at hk
  split at hk
  · rename_i v
    obtain ⟨n, rfl, _⟩ := asF_some hk
    exact ⟨.int .u64 (n : Int), fun k => rfl, rfl, fun u hu => by simp at hu; subst hu; rfl, bits_run n⟩
  · cases hk
theorem from_ok : XOk1 Tryz.prog 80 exFrom := by
  intro vs k out hk
  unfold exFrom at hk
  split at hk
  · rename_i n
    cases n with
    | negSucc m => cases hk
    | ofNat m => exact ⟨.float .f64 m, fun k => rfl, rfl, fun u hu => by simp at hu; subst hu; rfl, from_run m⟩
  · cases hk
noncomputable def exF : Xn :=
  xnCons 81 exBits <|
  xnCons 80 exFrom <|
  fun _ => none
theorem exF_ok : XnOk Tryz.prog exF :=
  xnCons_ok bits_ok <|
  xnCons_ok from_ok <|
  xnNil_ok
end Go.Proofs.YtgaigfmboomnkaaGreat
