/-
  OWN TEXT: functions without a body that the evaluator knows: a float's bits, there and back, and its root.
-/
import Derived.Test.YtggphakliiodeaaGreatDoorXwS
import Derived.Test.YtggphakliiodeaaGreatDoorRows
import Derived.WalkKit
namespace Go.Proofs.YtggphakliiodeaaGreatDoor
set_option linter.unusedVariables false
set_option maxRecDepth 100000
theorem plainX : Plain Tryz.prog := xPlain_of (by decide +kernel)
theorem mixedX : Tryz.prog.follows .mixedOrders = true := by kernel_rfl
noncomputable def exBits (vs : List Value) (c : Value → Out) : Out := match vs with | [v] => asF v fun n => c (.int .u64 (.ofNat n)) | _ => none
noncomputable def exFrom (vs : List Value) (c : Value → Out) : Out := match vs with | [.int .u64 n] => Int.casesOn n (fun m => c (.float .f64 m)) (fun _ => none) | _ => none
noncomputable def exRoot (vs : List Value) (c : Value → Out) : Out := match vs with | [v] => (asF v fun n => Option.rec (motive := fun _ => Out) none (fun r => frcN r fun r => c (.float .f64 r)) (FloatKind.f64.format.sqrt n)) | _ => none
theorem bits_run (n : Nat) : pureRun Tryz.prog (callFunc 91 #[.float .f64 n]) = some (.value (.int .u64 n)) := by kernel_rfl
theorem from_run (n : Nat) : pureRun Tryz.prog (callFunc 78 #[.int .u64 (.ofNat n)]) = some (.value (.float .f64 n)) := by kernel_rfl
theorem root_sem (n : Nat) : pureRun Tryz.prog (callFunc 122 #[.float .f64 n]) = pureRun Tryz.prog (do pure (.value (← Extern.MathSqrt.sqrt #[.float .f64 n]))) := by kernel_rfl
theorem root_run {n r : Nat} (h : FloatKind.f64.format.sqrt n = some r) : pureRun Tryz.prog (callFunc 122 #[.float .f64 n]) = some (.value (.float .f64 r)) := by
  rw [root_sem]
  show pureRun Tryz.prog (do pure (.value (← (match FloatKind.f64.format.sqrt n with | some r => pure (.float .f64 r) | none => (do pure (.float .f64 (← choose _)))))) : Sem Next) = _
  rw [h]
  rfl
noncomputable def exF : Xn := fun f => bif Nat.beq f 91 then some exBits else bif Nat.beq f 78 then some exFrom else bif Nat.beq f 122 then some exRoot else none
theorem exF_ok : XnOk Tryz.prog exF := by
  intro f g h vs k out hk
  unfold exF at h
  rw [beq_iff, beq_iff, beq_iff] at h
  by_cases c1 : f = 91
  · rw [decide_eq_true c1, cond_true] at h
    cases h
    subst c1
    unfold exBits at hk
    split at hk
    · rename_i v
      obtain ⟨n, rfl, _⟩ := asF_some hk
      exact ⟨.int .u64 (n : Int), fun k => rfl, rfl, fun u hu => by simp at hu; subst hu; rfl, bits_run n⟩
    · cases hk
  · rw [decide_eq_false c1, cond_false] at h
    by_cases c2 : f = 78
    · rw [decide_eq_true c2, cond_true] at h
      cases h
      subst c2
      unfold exFrom at hk
      split at hk
      · rename_i n
        cases n with
        | negSucc m => cases hk
        | ofNat m => exact ⟨.float .f64 m, fun k => rfl, rfl, fun u hu => by simp at hu; subst hu; rfl, from_run m⟩
      · cases hk
    · rw [decide_eq_false c2, cond_false] at h
      by_cases c3 : f = 122
      · rw [decide_eq_true c3, cond_true] at h
        cases h
        subst c3
        unfold exRoot at hk
        split at hk
        · rename_i v
          obtain ⟨n, rfl, hk1⟩ := asF_some hk
          cases q : FloatKind.f64.format.sqrt n with
          | none => rw [q] at hk1; cases hk1
          | some r =>
            refine ⟨.float .f64 r, fun k => ?_, rfl, fun u hu => by simp at hu; subst hu; rfl, root_run q⟩
            show Option.rec (motive := fun _ => Out) none (fun r => frcN r fun r => k (.float .f64 r)) (FloatKind.f64.format.sqrt n) = _
            rw [q]
            exact frcN_eq _ _
        · cases hk
      · rw [decide_eq_false c3] at h; cases h
end Go.Proofs.YtggphakliiodeaaGreatDoor
