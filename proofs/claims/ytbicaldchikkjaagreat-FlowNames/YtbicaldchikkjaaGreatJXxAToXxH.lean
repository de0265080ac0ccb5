/-
  OWN TEXT: functions without a body that the evaluator knows: a float's bits, there and back, and its root.
-/
import Derived.Test.YtbicaldchikkjaaGreatJXwS
import Derived.Test.YtbicaldchikkjaaGreatRows
import Derived.WalkKit
namespace Go.Proofs.YtbicaldchikkjaaGreat
set_option linter.unusedVariables false
set_option maxRecDepth 100000
theorem plainX : Plain Tryz.prog := xPlain_of (by decide +kernel)
theorem mixedX : Tryz.prog.follows .mixedOrders = true := by kernel_rfl
noncomputable def exBits (vs : List Value) (c : Value → Out) : Out := match vs with | [v] => asF v fun n => c (.int .u64 (.ofNat n)) | _ => none
noncomputable def exFrom (vs : List Value) (c : Value → Out) : Out := match vs with | [.int .u64 n] => Int.casesOn n (fun m => c (.float .f64 m)) (fun _ => none) | _ => none
noncomputable def exRoot (vs : List Value) (c : Value → Out) : Out := match vs with | [v] => (asF v fun n => Option.rec (motive := fun _ => Out) none (fun r => frcN r fun r => c (.float .f64 r)) (FloatKind.f64.format.sqrt n)) | _ => none
theorem bits_run (n : Nat) : pureRun Tryz.prog (callFunc 66 #[.float .f64 n]) = some (.value (.int .u64 n)) := by kernel_rfl
theorem from_run (n : Nat) : pureRun Tryz.prog (callFunc 22 #[.int .u64 (.ofNat n)]) = some (.value (.float .f64 n)) := by kernel_rfl
theorem root_sem (n : Nat) : pureRun Tryz.prog (callFunc 164 #[.float .f64 n]) = pureRun Tryz.prog (do pure (.value (← Extern.MathSqrt.sqrt #[.float .f64 n]))) := by kernel_rfl
theorem root_run {n r : Nat} (h : FloatKind.f64.format.sqrt n = some r) : pureRun Tryz.prog (callFunc 164 #[.float .f64 n]) = some (.value (.float .f64 r)) := by
  rw [root_sem]
  show pureRun Tryz.prog (do pure (.value (← (match FloatKind.f64.format.sqrt n with | some r => pure (.float .f64 r) | none => (do pure (.float .f64 (← choose _)))))) : Sem Next) = _
  rw [h]
  rfl
noncomputable def xnCons (f0 : FuncId) (g : List Value → (Value → Out) → Out) (ex : Xn) : Xn := fun f => bif Nat.beq f f0 then some g else ex f
def XOk1 (P : Program) (f : FuncId) (g : List Value → (Value → Out) → Out) : Prop := ∀ (vs : List Value) (k : Value → Out) (out : Value × Me), g vs k = some out → ∃ v, (∀ k, g vs k = k v) ∧ flat v = true ∧ (∀ u ∈ vs, flat u = true) ∧ pureRun P (callFunc f ⟨vs⟩) = some (.value v)
theorem xnCons_ok {P : Program} {f0 : FuncId} {g : List Value → (Value → Out) → Out} {ex : Xn} (h1 : XOk1 P f0 g) (h2 : XnOk P ex) : XnOk P (xnCons f0 g ex) := by
  intro f g' h vs k out hk
  unfold xnCons at h
  rw [beq_iff] at h
  by_cases c : f = f0
  · rw [decide_eq_true c, cond_true] at h
    cases h
    subst c
    exact h1 vs k out hk
  · rw [decide_eq_false c, cond_false] at h
    exact h2 f g' h vs k out hk
theorem xnNil_ok {P : Program} : XnOk P (fun _ => none) := fun f g h => by cases h
theorem bits_ok : XOk1 Tryz.prog 66 exBits := by
  intro vs k out hk
  unfold exBits at hk
  split at hk
  · rename_i v
    obtain ⟨n, rfl, _⟩ := asF_some hk
    exact ⟨.int .u64 (n : Int), fun k => rfl, rfl, fun u hu => by simp at hu; subst hu; rfl, bits_run n⟩
  · cases hk
theorem from_ok : XOk1 Tryz.prog 22 exFrom := by
  intro vs k out hk
  unfold exFrom at hk
  split at hk
  · rename_i n
    cases n with
    | negSucc m => cases hk
    | ofNat m => exact ⟨.float .f64 m, fun k => rfl, rfl, fun u hu => by simp at hu; subst hu; rfl, from_run m⟩
  · cases hk
theorem root_ok : XOk1 Tryz.prog 164 exRoot := by
  intro vs k out hk
  unfold exRoot at hk
  split at hk
  · rename_i v
    obtain ⟨n, rfl, hk1⟩ := asF_some hk
    cases q : FloatKind.f64.format.sqrt n with
    | none => rw [q] at hk1; cases hk1
    | some r =>
      refine ⟨.float .f64 r, fun k => ?_, rfl, fun u hu => by simp at hu; subst hu; rfl, root_run q⟩
      show Option.rec (motive := fun _ => Out) none (fun r => frcN r fun r => k (.float .f64 r)) (FloatKind.f64.format.sqrt n) = _
      rw [q]
      exact frcN_eq _ _
  · cases hk
noncomputable def exF : Xn :=
  xnCons 66 exBits <|
  xnCons 22 exFrom <|
  xnCons 164 exRoot <|
  fun _ => none
theorem exF_ok : XnOk Tryz.prog exF :=
  xnCons_ok bits_ok <|
  xnCons_ok from_ok <|
  xnCons_ok root_ok <|
  xnNil_ok
end Go.Proofs.YtbicaldchikkjaaGreat
/-
  OWN TEXT: hints for the evaluator: which temporaries are kept, and an order for each region whose order is drawn (typed by hints.py).
-/
namespace Go.Proofs.YtbicaldchikkjaaGreat
def kpT : List (List Nat) := [[], [], [], [0, 1, 2, 3, 5, 7, 8, 9, 10, 11, 12, 13, 14, 15, 16, 17, 19, 20, 21, 22, 23, 24, 25, 26, 27, 28, 29, 30, 32, 33, 34, 35, 36, 86, 87, 88], [0, 2], [0, 2], [0, 2], [0, 1, 2, 4, 5, 6, 7, 15], [0], [0, 1, 2, 4, 5, 6, 7, 15], [0, 1, 2, 4, 5, 6, 7], [0, 1, 2, 3, 6, 7, 8, 9, 10, 11, 24, 26, 37, 48], [0, 1, 2, 3, 4, 5, 6, 7, 8, 12, 18, 28], [0, 1, 2, 3, 4, 5, 7, 11, 14, 15, 16, 17, 28], [0, 2, 3], [0, 1, 4], [0, 1, 2, 3, 4, 5, 6, 7, 8, 10, 11, 12, 16, 21, 30, 35, 36, 37, 38, 48, 58], [0, 1, 2, 3, 4, 5, 6, 7, 8], [0, 1, 2, 4, 5, 9, 11, 12, 13, 14, 20], [0, 1, 2, 4, 5, 6, 10, 15], [0, 1, 2, 4, 5, 6, 7, 8, 9, 15, 16, 17, 31, 38], [0, 1, 2, 6, 7], [], [0, 2], [0, 1, 2, 4, 5, 6, 7, 15], [0, 2], [0, 2, 3, 4], [0, 2], [0, 1, 2, 3, 4, 6, 13], [0, 1, 4, 5, 6, 7, 8, 9, 10, 16], [0, 1], [0, 1, 4, 5, 12], [0, 1], [0, 2, 4, 5, 6, 7, 8, 19], [0, 2, 3, 4, 6, 7, 8, 9, 10, 11, 12, 18], [0, 1, 2, 3, 4, 5, 6, 8, 9, 11, 12, 22, 40, 71], [0, 1, 4, 5, 6, 7, 8, 9, 14, 20, 25, 26, 27, 28], [0, 1, 2, 4], [0, 2, 3, 4, 7, 13, 14, 15], [0, 1, 2, 4, 5, 6, 7, 15], [0, 2], [0, 1, 2, 6, 7], [0, 1, 4], [0, 2], [0, 1, 2, 3, 4, 5, 11, 14, 31], [0, 2, 3, 5, 6, 8, 9, 11, 12], [0, 1, 4], [0, 1, 2, 6, 7, 8, 9, 13, 30, 35, 54], [0, 1, 4, 5, 9], [0, 2], [0, 2], [0, 1, 2, 4, 5, 7], [0, 1, 2, 6, 14], [0, 2, 3, 4, 6, 9, 12, 14, 15, 16, 17], [0, 1, 2, 3, 4, 5, 7, 8, 9, 10], [0, 1, 4, 5, 6, 7, 8, 9, 14, 23, 32, 36, 37, 38], [0, 1, 4, 5, 6, 7, 14], [0, 1, 4], [0, 1, 2, 3, 4, 5], [0, 1, 4, 5, 6, 10, 11, 12], [0, 1, 4, 5, 9], [0, 2, 3], [0, 2, 3, 4, 16, 23], [0, 1, 4], [0, 1, 2, 4, 5, 6, 7, 19], [0, 2, 3, 6], [], [0, 1, 2, 4, 5, 6, 7, 15], [0, 1, 4], [0, 1, 2, 3, 5, 6, 11, 16, 21], [0, 2], [0, 1, 4], [0, 1, 2, 3, 8, 9, 14, 34], [0, 1, 2, 3, 4, 10, 11, 12, 13, 14, 15, 16, 17, 18, 19, 20, 21, 22, 23, 24, 28, 33, 50, 58, 80, 85, 103, 110, 140, 151, 171, 185, 199, 213], [0, 2, 4, 5, 6, 7, 8, 13], [0, 1, 4, 5, 6, 7, 27], [0, 2], [0, 2], [0], [0, 1, 2, 6, 7, 8, 9, 10, 37], [0, 2, 4], [0, 2, 3, 12, 21], [0, 2], [0, 1, 4], [0, 1, 2, 3, 4, 10, 11, 20, 23], [0, 2], [0, 2], [0, 1, 4, 5, 6, 7, 8], [0, 2, 4], [0, 1, 2, 3, 4, 10, 13], [0, 2], [], [], [], [], [], [], [], [], [], [], [], [], [], [], [], [], [0, 1, 2], [0, 1, 2, 4], [], [0, 1, 2, 4], [0, 2], [0, 1, 2], [0, 1, 2, 4], [], [0, 1, 2, 4], [0, 1, 2, 3, 4, 8, 9, 10, 21, 32], [0, 1, 4], [0, 2], [0, 1, 4, 5, 8], [0, 1, 4, 6], [0, 2], [0, 1, 4, 5, 6, 7, 8, 9, 10, 11, 12, 25], [0, 1, 4, 5, 6, 7, 12, 13, 14, 26], [0, 2, 3, 4, 5, 6, 13], [0, 2], [], [0, 2, 4, 8, 14], [0, 2, 3, 4, 5, 6, 7, 11, 15], [0, 2, 3, 4, 5, 15, 16, 18, 20], [0, 2, 3, 4, 5, 6, 7, 8, 12, 16, 28], [0, 2, 3, 4, 14, 18], [0, 1, 4, 5, 6, 7, 13, 24, 29, 31], [0, 2], [0, 2], [0, 2, 3, 5], [0, 2], [0, 1], [0, 1, 4], [0, 1, 4, 5, 6, 8, 9, 10], [0, 2, 3, 4, 7, 14], [0, 2, 3, 4, 5, 6, 10, 11], [0, 2, 3, 4, 5, 6, 10, 11], [0, 2, 3], [0, 2, 3, 4, 5, 6, 10, 11], [0, 1, 4, 6, 10], [0, 2], [0, 2], [0, 2, 4], [0, 2], [0, 1, 4], [0, 1, 4, 5, 6, 11, 14, 23], [0, 2], [0, 2, 3, 4], [0, 1, 4], [0, 2], [0, 1, 2, 6, 8, 9, 10, 11], [0, 2, 3], [0, 2], [0, 2, 3, 4, 6], [0, 1, 4], [0, 1, 4, 5, 6, 7, 8, 12, 38, 42, 44, 48], [0, 2, 3], [0, 2, 3, 4, 5, 9], [], [0, 2, 3, 4, 5, 9, 10], [0, 2, 3, 6], [0, 1, 4], [0, 1, 2], [0, 1, 2, 4], [], [0, 1, 2, 4], [0, 1, 2, 3], [0, 1, 2], [0, 1, 2, 4], [], [0, 1, 2, 4], [0, 1, 2, 3, 4, 8, 9], []]
def hsT : List (List (Nat × Hint)) := [[], [], [], [(4, ⟨[0, 0, 2, 7, 15, 31, 31, 63, 255], [], [0], [(1, [0]), (2, []), (3, []), (4, []), (5, []), (6, []), (7, []), (8, [])]⟩)], [], [], [], [], [], [], [], [], [(10, ⟨[0, 0, 2, 7, 0, 16, 63, 127, 255, 511], [], [0, 1, 4, 2, 5], [(3, [5]), (6, []), (7, []), (8, []), (9, [])]⟩)], [], [], [], [], [], [], [], [], [], [], [], [], [], [], [], [], [], [], [], [], [], [], [(6, ⟨[0, 1, 0, 4, 12, 31, 0, 0, 255, 511, 1023, 1023, 4095, 8191], [], [0, 2, 3, 4, 1, 6, 7], [(5, [7, 6]), (8, []), (9, []), (10, []), (11, []), (12, []), (13, [])]⟩), (8, ⟨[0, 1, 0, 4, 12, 31, 0, 0, 255, 511, 1023, 1023, 4095, 8191], [], [0, 2, 1, 3, 4, 6, 7], [(5, [7, 6]), (8, []), (9, []), (10, []), (11, []), (12, []), (13, [])]⟩), (9, ⟨[0, 1, 0, 4, 15, 0, 32, 0, 128, 384, 896, 2047, 4095, 8191, 16383, 16383, 32767, 131071], [], [0, 2, 5, 7, 1, 3, 6, 8, 9, 10], [(4, [8, 6]), (11, []), (12, []), (13, []), (14, []), (15, []), (16, []), (17, [])]⟩)], [], [], [], [], [], [], [], [], [], [(7, ⟨[0, 1, 3, 7, 0, 31], [], [0, 1, 4, 2, 3, 5], []⟩)], [], [], [], [], [], [], [(2, ⟨[0, 0, 0, 4, 12, 28, 0, 64, 252, 0, 512, 1536, 3584, 0, 8192, 32764, 65533, 131069, 262141, 524287, 1048575, 2097151], [7, 14], [0, 1, 2, 3, 4, 6, 9, 10, 11, 13, 5, 12, 7, 14], [(8, [12]), (15, []), (16, []), (17, []), (18, []), (19, []), (20, []), (21, [])]⟩), (3, ⟨[0, 1, 3, 7, 0, 0, 32, 96, 224, 0, 992, 2016, 0, 8160, 16383, 32767], [], [0, 1, 2, 4, 5, 6, 7, 9, 12, 3, 8, 10, 11, 13, 14], [(15, [])]⟩)], [], [], [], [], [], [(2, ⟨[0, 0, 2, 0, 8, 30, 63, 127, 0, 318, 1023, 2047, 4095], [], [0, 1, 3, 2, 4, 8], [(5, [8]), (6, []), (7, []), (9, [7]), (10, []), (11, []), (12, [])]⟩)], [], [], [], [], [], [], [], [], [], [], [], [], [], [(4, ⟨[0, 0, 3, 7, 15, 15, 15, 111, 239, 15, 15, 1039, 3599, 7695, 16383, 32767, 65535], [], [0, 1, 2, 3, 4, 5, 6, 7, 9, 10, 11, 12, 8, 13], [(14, []), (15, []), (16, [])]⟩), (6, ⟨[0, 0, 0, 0, 8, 0, 0, 64, 224, 480, 0, 0, 3072, 7168, 16355, 32739, 65535, 131071], [], [0, 1, 2, 3, 4, 5, 6, 7, 8, 10, 11, 12, 9, 13, 14], [(15, []), (16, []), (17, [])]⟩)], [(5, ⟨[0, 0, 0, 6, 14, 0, 0, 96, 224, 511, 1023], [], [0, 1, 2, 3, 5, 6, 7, 4, 8], [(9, []), (10, [])]⟩), (11, ⟨[0, 0, 0, 0, 8, 0, 0, 64, 224, 480, 0, 0, 3072, 7168, 16355, 32739, 65535, 131071], [], [0, 1, 2, 3, 4, 5, 6, 7, 8, 10, 11, 12, 9, 13, 14], [(15, []), (16, []), (17, [])]⟩), (17, ⟨[0, 0, 0, 6, 14, 0, 0, 96, 224, 511, 1023, 2047], [], [0, 1, 2, 3, 5, 6, 7, 4, 8], [(9, []), (10, []), (11, [])]⟩), (23, ⟨[0, 0, 0, 0, 8, 0, 0, 64, 224, 480, 0, 0, 3072, 7168, 16355, 32739, 65535, 131071], [], [0, 1, 2, 3, 4, 5, 6, 7, 8, 10, 11, 12, 9, 13, 14], [(15, []), (16, []), (17, [])]⟩), (35, ⟨[0, 0, 0, 0, 12, 30, 62, 0, 0, 384, 896, 2047, 4095, 8191], [], [0, 1, 2, 3, 4, 5, 7, 8, 9, 6, 10], [(11, []), (12, []), (13, [])]⟩)], [], [(8, ⟨[0, 0, 3, 7, 0, 0, 0, 96, 224, 496, 1023, 2047, 4095], [], [0, 1, 2, 4, 5, 6, 7, 3, 8], [(9, [3]), (10, []), (11, []), (12, [])]⟩)], [], [], [], [(2, ⟨[0, 0, 3, 7, 0, 0, 0, 96, 240, 496, 1023, 2047], [], [0, 1, 2, 4, 5, 6, 7, 8, 3, 9], [(10, []), (11, [])]⟩), (6, ⟨[0, 0, 0, 6, 14, 0, 0, 0, 192, 480, 992, 2046, 4095, 8191], [], [0, 1, 2, 3, 5, 6, 7, 8, 9, 4, 10], [(11, []), (12, []), (13, [])]⟩)], [], [], [], [], [], [], [], [], [], [(3, ⟨[0, 0, 0, 6, 0, 0, 0, 96, 0, 0, 0, 1536, 3840, 7936, 0, 0, 0, 98304, 245760, 507904, 1048335, 2096911, 4194303, 8388607], [], [0, 1, 2, 3, 4, 5, 6, 7, 8, 9, 10, 11, 12, 14, 15, 16, 17, 18, 13, 19, 20], [(21, []), (22, []), (23, [])]⟩)], [], [], [], [], [], [], [], [], [], [], [], [], [], [], [], [], [], [], [], [], [], [], [], [], [], [], [], [], [], [], [], [], [], [], [], [], [], [], [], [], [], [], [], [], [], [], [], [], [], [], [], [], [], [], [], [], [], [], [], [], [], [], [], [], [], [], [], [], [], [], [], [], [], [], [], [], [], [], [], [(1, ⟨[0, 1, 0, 0, 8, 24, 63, 127, 255, 511], [], [2, 3, 4, 0, 5], [(1, [5]), (6, []), (7, []), (8, []), (9, [])]⟩)], [], [(1, ⟨[0, 1, 0, 0, 8, 24, 63, 127, 255], [], [2, 3, 4, 0, 5], [(1, [5]), (6, []), (7, []), (8, [])]⟩)], [], [], [], [], [], [(2, ⟨[0, 1, 3, 0, 15, 0, 0, 64, 192, 448, 0, 1984, 4095, 8191, 16383], [], [0, 1, 3, 5, 6, 7, 10, 2, 8, 9, 11], [(4, [8]), (12, []), (13, []), (14, [])]⟩)], []]
noncomputable def kpF : Kp := fun f => match nth kpT f with | some l => l | none => []
noncomputable def hsF : Hts := fun f => match nth hsT f with | some l => l | none => []
end Go.Proofs.YtbicaldchikkjaaGreat
