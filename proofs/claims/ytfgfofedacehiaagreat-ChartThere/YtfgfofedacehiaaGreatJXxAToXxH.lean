/-
 OWN TEXT: functions without a body that the evaluator knows: a float's bits, there and back, and its root.
-/
import Derived.Test.YtfgfofedacehiaaGreatJXwS
import Derived.Test.YtfgfofedacehiaaGreatRows
import Derived.WalkKit
namespace Go.Proofs.YtfgfofedacehiaaGreat
set_option linter.unusedVariables false
set_option maxRecDepth 100000
theorem plainX : Plain Tryz.prog := xPlain_of (by decide +kernel)
theorem mixedX : Tryz.prog.follows .mixedOrders = true := by kernel_rfl
noncomputable def exBits (vs : List Value) (c : Value → Out) : Out := match vs with | [v] => asF v fun n => c (.int .u64 (.ofNat n)) | _ => none
noncomputable def exFrom (vs : List Value) (c : Value → Out) : Out := match vs with | [.int .u64 n] => Int.casesOn n (fun m => c (.float .f64 m)) (fun _ => none) | _ => none
noncomputable def exRoot (vs : List Value) (c : Value → Out) : Out := match vs with | [v] => (asF v fun n => Option.rec (motive := fun _ => Out) none (fun r => frcN r fun r => c (.float .f64 r)) (FloatKind.f64.format.sqrt n)) | _ => none
theorem bits_run (n : Nat) : pureRun Tryz.prog (callFunc 39 #[.float .f64 n]) = some (.value (.int .u64 n)) := by kernel_rfl
theorem from_run (n : Nat) : pureRun Tryz.prog (callFunc 38 #[.int .u64 (.ofNat n)]) = some (.value (.float .f64 n)) := by kernel_rfl
theorem root_sem (n : Nat) : pureRun Tryz.prog (callFunc 101 #[.float .f64 n]) = pureRun Tryz.prog (do pure (.value (← Extern.MathSqrt.sqrt #[.float .f64 n]))) := by kernel_rfl
theorem root_run {n r : Nat} (h : FloatKind.f64.format.sqrt n = some r) : pureRun Tryz.prog (callFunc 101 #[.float .f64 n]) = some (.value (.float .f64 r)) := by
 rw [root_sem]
 show pureRun Tryz.prog (do pure (.value (← (match FloatKind.f64.format.sqrt n with | some r => pure (.float .f64 r) | none => (do pure (.float .f64 (← choose _)))))) : Sem Next) = _
 rw [h]
 rfl
noncomputable def xnCons (f0 : FuncId) (g : List Value → (Value → Out) → Out) (ex : Xn) : Xn := fun f => bif Nat.beq f f0 then some g else ex f
def XOk1 (P : Program) (f : FuncId) (g : List Value → (Value → Out) → Out) : Prop := ∀ (vs : List Value) (k : Value → Out) (out : Value × Me), g vs k = some out → ∃ v, (∀ k, g vs k = k v) ∧ flat v = true ∧ (∀ u ∈ vs, flat u = true) ∧ pureRun P (callFunc f ⟨vs⟩) = some (.value v)
theorem xnCons_ok {P : Program} {f0 : FuncId} {g : List Value → (Value → Out) → Out} {ex : Xn} (h1 : XOk1 P f0 g) (h2 : XnOk P ex) : XnOk P (xnCons f0 g ex) := by
 intro f g' h vs k out hk
 unfold xnCons at h
 rw [beq_iff] at h
 by_cases c : f = f0
 ·
  rw [decide_eq_true c, cond_true] at h
  cases h
  subst c
  exact h1 vs k out hk
 ·
  rw [decide_eq_false c, cond_false] at h
  exact h2 f g' h vs k out hk
theorem xnNil_ok {P : Program} : XnOk P (fun _ => none) := fun f g h => by cases h
theorem bits_ok : XOk1 Tryz.prog 39 exBits := by
 intro vs k out hk
 unfold exBits at hk
 split at hk
 ·
  rename_i v
  obtain ⟨n, rfl, _⟩ := asF_some hk
  exact ⟨.int .u64 (n : Int), fun k => rfl, rfl, fun u hu => by simp at hu; subst hu; rfl, bits_run n⟩
 · cases hk
theorem from_ok : XOk1 Tryz.prog 38 exFrom := by
 intro vs k out hk
 unfold exFrom at hk
 split at hk
 ·
  rename_i n
  cases n with
  | negSucc m => cases hk
  | ofNat m => exact ⟨.float .f64 m, fun k => rfl, rfl, fun u hu => by simp at hu; subst hu; rfl, from_run m⟩
 · cases hk
theorem root_ok : XOk1 Tryz.prog 101 exRoot := by
 intro vs k out hk
 unfold exRoot at hk
 split at hk
 ·
  rename_i v
  obtain ⟨n, rfl, hk1⟩ := asF_some hk
  cases q : FloatKind.f64.format.sqrt n with
  | none => rw [q] at hk1; cases hk1
  | some r =>
   refine ⟨.float .f64 r, fun k => ?_, rfl, fun u hu => by simp at hu; subst hu; rfl, root_run q⟩
   show Option.rec (motive := fun _ => Out) none (fun r => frcN r fun r => k (.float .f64 r)) (FloatKind.f64.format.sqrt n) = _
   rw [q]
   exact frcN_eq _ _
 · cases hk
noncomputable def exF : Xn :=
 xnCons 39 exBits <|
 xnCons 38 exFrom <|
 xnCons 101 exRoot <|
 fun _ => none
theorem exF_ok : XnOk Tryz.prog exF :=
 xnCons_ok bits_ok <|
 xnCons_ok from_ok <|
 xnCons_ok root_ok <|
 xnNil_ok
end Go.Proofs.YtfgfofedacehiaaGreat

/-
 OWN TEXT: hints for the evaluator: which temporaries are kept, and an order for each region whose order is drawn (typed by hints.py).
-/
namespace Go.Proofs.YtfgfofedacehiaaGreat
def kpT : List (List Nat) := [[], [], [], [0, 1, 2, 3, 4, 5, 6, 7, 8, 9, 10, 11, 12, 13, 14, 15, 16, 17, 18, 19, 20, 21, 24, 37, 49, 63, 74, 100], [0, 1, 2, 3, 4, 5, 6, 7, 8, 9, 10, 11, 12, 13, 14, 15, 16, 17, 18, 19, 20, 21, 22, 23, 26, 60, 104], [0, 1, 2, 3, 4, 5, 6, 7, 8, 9, 10, 11, 12, 13, 16, 18, 32, 90, 94, 96, 116], [0, 1, 2, 4, 5, 6, 7, 8, 10, 11, 12, 14, 15, 16, 17], [0, 1, 2], [0, 1, 2, 4], [0, 1, 2], [0, 1, 2], [0, 1, 2, 4, 5], [0, 1, 2, 3, 6, 7, 8], [0, 1, 2, 6], [0, 1, 2, 11, 40, 47], [0, 1, 2, 3, 4, 5, 7, 8, 11, 12, 13, 18, 29], [0, 1, 2, 3, 4], [0, 1, 2, 3, 4, 8, 13], [0, 1, 4], [0, 1, 4, 5, 6, 7, 8], [0, 1, 4], [0, 1, 2, 3, 4, 5, 6, 7, 8, 16, 23, 32, 42, 51], [0], [0, 1, 4], [0, 1, 2, 3, 8, 9, 11, 12, 13, 18, 19, 20, 24, 34, 46], [0, 1, 2, 3, 4, 8, 9, 10, 11, 12, 16, 20, 33, 37], [0, 2], [0, 2], [0, 2, 3, 4, 14, 18], [0], [0, 1, 2, 3, 4, 8], [0, 1, 2, 3, 8], [0, 1, 2, 3, 8], [0, 2], [0, 1, 4], [0, 1, 2, 4, 5, 6, 7, 11], [0, 1, 2, 3, 4, 5], [0, 1, 2, 3, 4, 5, 6, 7], [], [], [0, 2], [0, 1, 4, 5, 6, 7, 8, 9, 10, 11, 12, 25], [0], [0, 2], [0, 1, 4], [0, 1, 4, 6, 10], [0, 2, 3, 5], [0, 2], [0], [0, 2], [0, 2, 4], [0, 1, 4], [0, 2], [0, 1, 4], [0, 1, 2], [0, 1, 2], [0, 1, 2], [0, 1, 2], [0, 1, 4], [0, 2], [0, 1, 4], [0, 2], [0, 1, 2, 4, 5, 6, 11], [0, 1, 2, 4, 5, 6, 11], [0, 1, 2, 4, 5, 6, 15], [0, 1, 4, 5], [0, 1, 2, 4, 5, 7], [0, 1, 2, 4, 5, 7], [0, 1, 2, 4, 5], [0, 1, 2, 4, 5], [0, 1, 2, 4, 5, 6, 11, 22], [0, 1, 2, 4, 5, 6, 7, 17, 28, 36], [0, 1, 2, 4, 5, 6, 7], [0, 1, 2, 4, 5, 6, 7, 10], [0, 1, 2, 4, 5], [0, 1, 2, 4, 5], [0, 1, 2, 4, 5, 6, 11], [0, 1, 2, 4, 5, 6, 7, 8, 13, 20], [0, 1, 4], [0, 2], [0, 2, 3], [0, 1, 4], [0, 2], [0, 2, 3, 4], [0, 1, 2], [0, 2, 4], [0, 1, 2, 4], [0, 1, 4, 5, 8], [0, 1, 2], [0, 1, 2, 4, 5, 6, 30], [0, 1, 2], [0, 1, 4, 6], [0, 1, 4], [0, 1, 2, 4, 5, 6, 10, 15, 18], [0, 2, 3, 4, 5, 6, 13], [0, 1, 2, 4, 7], [0, 2], [0, 1, 4, 5, 6, 7, 9, 22], [0, 2, 3], [0, 1, 4], [0, 1, 4, 5, 6, 7, 8, 12, 38, 42, 44, 48], [], [0, 2], [0, 1, 4, 5, 6, 7, 12, 13, 14, 26], [0, 2, 3, 4, 5, 10, 16, 22, 28, 36], [0, 2], [0, 1, 2, 4, 5], [0, 2, 3, 4, 5, 6, 7, 11, 15], [0, 2, 3, 4, 5, 15, 16, 18, 20], [0, 2, 3, 4, 5, 6, 7, 8, 12, 16, 28], [0, 1, 4, 5, 6, 7, 13, 24, 29, 31], [0, 1], [0, 2, 3], [0, 2, 3, 4, 5, 9], [0, 2, 3, 6], [0, 2, 4, 8, 14], [0, 1, 4, 5, 9], [0, 2, 3, 4, 5], [0, 1, 4, 5, 9], [], [0, 2, 3, 4, 5, 16, 19, 27], [0, 2], [0, 2], [0, 1], [0, 1, 4, 5, 6, 8, 9, 10], [0, 2, 3, 4, 7, 14], [0, 2, 3, 4, 5, 6, 10, 11], [0, 2, 3, 4, 5, 6, 10, 11], [0, 2], [0, 2, 3, 4, 5, 6, 10, 11], [0, 1, 4, 5, 6, 11, 14, 23], [0, 2], [0, 2, 3, 4], [0, 2, 3], [0, 2], [0, 2], [0, 1, 2, 6, 8, 9, 10, 11], [0, 2, 3, 4, 6], [0, 2], [], [0, 2, 3, 4, 5, 9, 10], [], [0, 2, 3, 4, 7, 17], [], [], [], [], [], [], [], [], [], [], [], [], [], [], [], [], []]
def hsT : List (List (Nat × Hint)) := [[], [], [], [], [(17, ⟨[0, 1, 0, 4, 15, 0, 32, 0, 128, 511, 1023, 2047], [], [0, 2, 5, 7, 1, 3, 6, 8], [(4, [8, 6]), (9, []), (10, []), (11, [])]⟩)], [(20, ⟨[0, 0, 2, 6, 15, 31, 63, 63, 127, 511], [], [1, 2, 0, 3], [(4, []), (5, []), (6, []), (7, []), (8, []), (9, [])]⟩)], [], [], [], [], [(1, ⟨[0, 1, 3, 0, 8, 31, 0, 64, 255, 0, 512, 2047, 4095, 8191], [], [0, 3, 6, 9, 1, 4, 7, 10], [(2, [10, 7, 4]), (5, [10, 7]), (8, [10]), (11, []), (12, []), (13, [])]⟩)], [], [], [], [(5, ⟨[0, 0, 2, 7, 0, 31, 63], [], [1, 2, 4], [(0, [4, 2]), (3, []), (5, []), (6, [])]⟩)], [(10, ⟨[0, 1, 0, 4, 0, 16, 0, 64, 255, 0, 512, 0, 2048, 0, 8192, 0, 32768, 131071, 0, 262144, 0, 1048576, 0, 4194304, 0, 16777216, 67108863, 0, 134217728, 0, 536870912, 0, 2147483648, 0, 8589934592, 34359738367, 68719476735, 137438953471, 274877906943, 274877906943, 1099511627775, 2199023255551], [], [0, 2, 4, 6, 9, 11, 13, 15, 18, 20, 22, 24, 27, 29, 31, 33, 1, 3, 5, 7, 10, 12, 14, 16, 19, 21, 23, 25, 28, 30, 32, 34], [(8, [34, 32, 30, 28, 25, 23, 21, 19, 16, 14, 12, 10]), (17, [34, 32, 30, 28, 25, 23, 21, 19]), (26, [34, 32, 30, 28]), (35, []), (36, []), (37, []), (38, []), (39, []), (40, []), (41, [])]⟩)], [], [(6, ⟨[0, 1, 0, 4, 12, 0, 32, 124, 0, 256, 1023, 2047, 4095, 4095, 16383, 32767], [], [0, 2, 5, 8, 1, 3, 6, 9], [(4, [9, 6, 1]), (7, [9, 1]), (10, []), (11, []), (12, []), (13, []), (14, []), (15, [])]⟩)], [], [], [], [], [], [], [], [(6, ⟨[0, 0, 2, 7, 0, 31, 0, 0, 255, 511, 1023, 1023, 2047, 8191], [], [1, 4, 7, 2, 6], [(0, [6, 2]), (3, []), (5, []), (8, []), (9, []), (10, []), (11, []), (12, []), (13, [])]⟩)], [], [], [], [], [], [], [], [], [], [], [(1, ⟨[0, 1, 0, 4, 0, 16, 3, 79, 255], [], [0, 2, 4, 1, 6, 3, 7, 5, 8], []⟩)], [(1, ⟨[0, 1, 0, 4, 0, 16, 3, 79, 255], [], [0, 2, 4, 1, 6, 3, 7, 5, 8], []⟩)], [], [], [], [], [], [], [], [], [], [], [], [], [], [], [], [], [], [], [], [], [], [], [], [], [(4, ⟨[0, 1, 0, 7, 0, 16, 63, 0, 255, 511, 1023], [], [0, 2, 4, 7, 1, 5], [(3, [5]), (6, []), (8, []), (9, []), (10, [])]⟩)], [], [(1, ⟨[0, 1, 0, 4, 0, 28, 63, 127], [], [0, 2, 4, 1, 3], [(5, [1]), (6, []), (7, [])]⟩), (4, ⟨[0, 1, 0, 7, 0, 16, 63, 0, 255, 511, 1023], [], [0, 2, 4, 7, 1, 5], [(3, [5]), (6, []), (8, []), (9, []), (10, [])]⟩)], [], [], [], [], [(1, ⟨[0, 1, 0, 0, 15, 31, 63, 127], [], [3, 0, 2], [(1, [2]), (4, []), (5, []), (6, []), (7, [])]⟩)], [(3, ⟨[0, 1, 0, 0, 8, 24, 60, 127, 255, 511], [], [0, 2, 3, 1, 4, 5], [(6, [1]), (7, []), (8, []), (9, [])]⟩), (6, ⟨[0, 1, 0, 0, 8, 28, 63, 127, 255], [], [0, 2, 3, 1, 4], [(5, [1]), (6, []), (7, []), (8, [])]⟩)], [(1, ⟨[0, 0, 2, 7, 0, 16, 0, 64, 255, 511, 1023], [], [0, 1, 4, 6, 2, 5, 7], [(3, [7, 5]), (8, []), (9, []), (10, [])]⟩)], [], [], [(1, ⟨[0, 1, 0, 4, 0, 28, 60, 127, 255, 511], [], [0, 2, 4, 1, 3], [(5, [1]), (6, [1]), (7, []), (8, []), (9, [])]⟩)], [(1, ⟨[0, 1, 0, 4, 15, 0, 32, 0, 255, 511, 1023, 2047, 4095], [], [0, 2, 5, 7, 1, 3, 6], [(4, [6]), (8, []), (9, []), (10, []), (11, []), (12, [])]⟩)], [(4, ⟨[0, 1, 0, 4, 15, 31, 63], [], [0, 2, 3], [(1, [3]), (4, []), (5, []), (6, [])]⟩)], [], [], [], [], [], [], [], [(1, ⟨[0, 1, 0, 4, 15, 0, 32, 0, 128, 511, 1023, 2047], [], [0, 2, 5, 7, 1, 3, 6, 8], [(4, [8, 6]), (9, []), (10, []), (11, [])]⟩)], [], [(1, ⟨[0, 1, 0, 7, 0, 16, 63, 127], [], [0, 2, 4, 1, 5], [(3, [5]), (6, []), (7, [])]⟩)], [], [], [], [(1, ⟨[0, 1, 0, 4, 12, 31, 63], [], [0, 2, 1, 3], [(4, [1]), (5, []), (6, [])]⟩)], [], [], [], [], [], [], [], [], [], [], [], [], [], [], [], [(2, ⟨[0, 1, 0, 4, 15, 31, 0, 64, 0, 448, 1023, 2047], [], [0, 1, 2, 3, 6, 8, 7, 9], [(4, [7]), (5, [7]), (10, []), (11, [])]⟩)], [], [], [], [], [], [], [], [], [], [], [], [], [], [], [], [], [], [], [], [], [], [], [], [], [], [], [], [], [], [], [], [], [], [], [], [], [], [], [], [], [], [], [], [], [], [], [], [], [], [], [], [], []]
noncomputable def kpF : Kp := fun f => match nth kpT f with | some l => l | none => []
noncomputable def hsF : Hts := fun f => match nth hsT f with | some l => l | none => []
end Go.Proofs.YtfgfofedacehiaaGreat

