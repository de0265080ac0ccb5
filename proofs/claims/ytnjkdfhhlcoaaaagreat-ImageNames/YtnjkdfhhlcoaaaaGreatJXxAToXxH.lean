/-
 OWN TEXT: functions without a body that the evaluator knows: a float's bits, there and back, and its root.
-/
import Derived.Test.YtnjkdfhhlcoaaaaGreatJXwS
import Derived.Test.YtnjkdfhhlcoaaaaGreatRows
import Derived.WalkKit
namespace Go.Proofs.YtnjkdfhhlcoaaaaGreat
set_option linter.unusedVariables false
set_option maxRecDepth 100000
theorem plainX : Plain Tryz.prog := xPlain_of (by decide +kernel)
theorem mixedX : Tryz.prog.follows .mixedOrders = true := by kernel_rfl
noncomputable def exBits (vs : List Value) (c : Value → Out) : Out := match vs with | [v] => asF v fun n => c (.int .u64 (.ofNat n)) | _ => none
noncomputable def exFrom (vs : List Value) (c : Value → Out) : Out := match vs with | [.int .u64 n] => Int.casesOn n (fun m => c (.float .f64 m)) (fun _ => none) | _ => none
noncomputable def exRoot (vs : List Value) (c : Value → Out) : Out := match vs with | [v] => (asF v fun n => Option.rec (motive := fun _ => Out) none (fun r => frcN r fun r => c (.float .f64 r)) (FloatKind.f64.format.sqrt n)) | _ => none
theorem bits_run (n : Nat) : pureRun Tryz.prog (callFunc 38 #[.float .f64 n]) = some (.value (.int .u64 n)) := by kernel_rfl
theorem from_run (n : Nat) : pureRun Tryz.prog (callFunc 37 #[.int .u64 (.ofNat n)]) = some (.value (.float .f64 n)) := by kernel_rfl
theorem root_sem (n : Nat) : pureRun Tryz.prog (callFunc 77 #[.float .f64 n]) = pureRun Tryz.prog (do pure (.value (← Extern.MathSqrt.sqrt #[.float .f64 n]))) := by kernel_rfl
theorem root_run {n r : Nat} (h : FloatKind.f64.format.sqrt n = some r) : pureRun Tryz.prog (callFunc 77 #[.float .f64 n]) = some (.value (.float .f64 r)) := by
 rw [root_sem]
 show pureRun Tryz.prog (do pure (.value (← (match FloatKind.f64.format.sqrt n with | some r => pure (.float .f64 r) | none => (do pure (.float .f64 (← choose _)))))) : Sem Next) = _
 rw [h]
 rfl
noncomputable def xnCons (f0 : FuncId) (g : List Value → (Value → Out) → Out) (ex : Xn) : Xn := fun f => bif Nat.beq f f0 then some g else ex f
def XOk1 (P : Program) (f : FuncId) (g : List Value → (Value → Out) → Out) : Prop := ∀ (vs : List Value) (k : Value → Out) (out : Value × Me), g vs k = some out → ∃ v, (∀ k, g vs k = k v) ∧ flat v = true ∧ (∀ u ∈ vs, flat u = true) ∧ pureRun P (callFunc f ⟨vs⟩) = some (.value v)
theorem xnCons_ok {P : Program} {f0 : FuncId} {g : List Value → (Value → Out) → Out} {ex : Xn} (h1 : XOk1 P f0 g) (h2 : XnOk P ex) : XnOk P (xnCons f0 g ex) := by
 intro f g' h vs k out hk
 unfold xnCons at h
 rw [beq_iff] at h
 by_cases c : f = f0
 ·
  rw [decide_eq_true c, cond_true] at h
  cases h
  subst c
  exact h1 vs k out hk
 ·
  rw [decide_eq_false c, cond_false] at h
  exact h2 f g' h vs k out hk
theorem xnNil_ok {P : Program} : XnOk P (fun _ => none) := fun f g h => by cases h
theorem bits_ok : XOk1 Tryz.prog 38 exBits := by
 intro vs k out hk
 unfold exBits at hk
 split at hk
 ·
  rename_i v
  obtain ⟨n, rfl, _⟩ := asF_some hk
  exact ⟨.int .u64 (n : Int), fun k => rfl, rfl, fun u hu => by simp at hu; subst hu; rfl, bits_run n⟩
 · cases hk
theorem from_ok : XOk1 Tryz.prog 37 exFrom := by
 intro vs k out hk
 unfold exFrom at hk
 split at hk
 ·
  rename_i n
  cases n with
  | negSucc m => cases hk
  | ofNat m => exact ⟨.float .f64 m, fun k => rfl, rfl, fun u hu => by simp at hu; subst hu; rfl, from_run m⟩
 · cases hk
theorem root_ok : XOk1 Tryz.prog 77 exRoot := by
 intro vs k out hk
 unfold exRoot at hk
 split at hk
 ·
  rename_i v
  obtain ⟨n, rfl, hk1⟩ := asF_some hk
  cases q : FloatKind.f64.format.sqrt n with
  | none => rw [q] at hk1; cases hk1
  | some r =>
   refine ⟨.float .f64 r, fun k => ?_, rfl, fun u hu => by simp at hu; subst hu; rfl, root_run q⟩
   show Option.rec (motive := fun _ => Out) none (fun r => frcN r fun r => k (.float .f64 r)) (FloatKind.f64.format.sqrt n) = _
   rw [q]
   exact frcN_eq _ _
 · cases hk
noncomputable def exF : Xn :=
 xnCons 38 exBits <|
 xnCons 37 exFrom <|
 xnCons 77 exRoot <|
 fun _ => none
theorem exF_ok : XnOk Tryz.prog exF :=
 xnCons_ok bits_ok <|
 xnCons_ok from_ok <|
 xnCons_ok root_ok <|
 xnNil_ok
end Go.Proofs.YtnjkdfhhlcoaaaaGreat

/-
 OWN TEXT: hints for the evaluator: which temporaries are kept, and an order for each region whose order is drawn (typed by hints.py).
-/
namespace Go.Proofs.YtnjkdfhhlcoaaaaGreat
def kpT : List (List Nat) := [[], [], [], [0, 1, 2, 3, 4, 5, 7, 8, 9, 11, 12, 13, 14, 16, 17, 18, 20, 21, 23, 25, 27, 30, 35, 86, 144, 170], [0, 1, 2, 3, 4, 6, 7, 8, 9, 10, 11, 12, 13, 83], [0, 1, 4], [0, 1, 2, 3, 6, 7, 8, 9, 10, 14, 24], [0, 1, 2, 3, 4, 5, 6, 10, 15], [0, 1, 2, 3, 6, 7, 8, 9, 10, 11, 12, 13, 14, 15, 19, 28, 30, 31, 32, 33, 44, 60], [0, 1, 2, 3, 8], [0, 1, 2, 4, 5, 13], [0, 1, 2, 6, 7, 8, 9, 12, 20], [0, 1, 4], [0, 1, 2, 4, 5, 9, 11, 12, 13, 14, 20], [0, 1, 4, 5, 6, 7, 10], [0, 1, 2, 4, 5, 6, 7, 8, 10, 11, 12, 15, 16, 17, 18, 32], [0, 1, 2], [0, 1, 4, 5, 7, 8, 9, 10, 11, 14, 15, 16, 17, 18, 23, 29, 33, 34, 35, 36, 49], [0, 1, 2, 4, 5, 6, 7, 15], [0, 1, 4], [0, 2], [0, 1, 4, 5, 6, 7, 8], [0, 2], [0, 2], [0, 2, 3, 6], [0, 1, 2, 4], [0, 1, 2, 4, 5], [0, 1, 4], [0, 1, 2, 4], [0, 2, 3, 4, 5, 8, 15], [0], [0, 2, 3, 5, 6, 9, 11, 12, 13, 14, 20], [0, 1, 2, 4, 5, 6, 10, 15], [0, 1, 2, 4, 5, 6, 7, 8, 9, 15, 16, 17, 31, 38], [0, 1, 2, 6, 7], [], [0, 1, 4, 5, 13, 21, 30, 35], [], [], [0, 2], [0, 1, 4], [0, 1, 4], [0, 1, 2, 4], [0, 2], [0, 1, 4], [0, 1, 4], [0, 1, 2, 3, 4, 5, 11, 14, 31], [0, 2, 3, 4, 11], [0, 2], [0, 2, 3, 4, 7, 13, 14, 15], [0, 1, 2, 4, 5, 6, 7, 15], [0, 1, 4, 6, 10], [0, 2, 3, 5], [0, 2], [0], [0, 2], [0, 1, 4], [0, 1, 2, 3, 6], [0, 1, 2], [0, 2], [0, 2, 4], [0, 1, 2, 3, 5, 6, 11, 16, 21], [0, 2], [0, 2], [0, 1, 4], [0, 2, 4], [0, 2], [0, 1, 2, 4, 5, 6, 7, 19], [0, 2, 3, 6], [0, 1, 4, 5, 6, 7, 8, 9, 10, 11, 12, 25], [0, 2], [0, 1, 4], [0, 2, 3], [0, 2], [0, 2, 3, 4], [0, 1, 4], [0, 2, 3], [], [0, 1, 4], [0, 1, 4, 5, 6, 7, 8, 12, 38, 42, 44, 48], [0, 2, 3], [0, 2, 3, 4, 5, 9], [0, 2, 3, 6], [0, 1, 4], [], [], [], [], [], [], [], [], [], [], [], [], [], [], [], [], [0, 1, 4, 5], [0, 1, 2, 3, 4, 5, 6], [0, 1, 2, 3, 4, 5], [0, 1, 2, 3, 4, 5], [0, 1, 4, 5, 8], [0, 1, 2, 3, 4, 6, 7, 8], [0, 1, 4], [0, 1, 4, 5, 6, 7, 12, 13, 14, 26], [0, 1, 2, 4], [0, 2, 4, 8, 14], [0, 1, 4, 5], [0, 1, 2, 3, 4, 5, 6, 7, 8, 9, 10, 11, 12, 13, 34, 35, 36], [0, 1, 2, 3, 4, 5, 6, 7], [0, 1, 2, 3, 4, 5, 6, 7], [0, 1, 2, 4], [0, 2], [0, 2, 3, 4, 14, 18], [0, 2], [], [0, 1, 2], [], [], [0, 1, 2, 4], [0, 2], [0, 1, 2], [], [], [0, 1, 2, 4], [0, 1, 2, 3], [0, 1], [0, 2], [0, 1, 2], [], [], [0, 1, 2, 4], [0, 2], [0, 1, 2, 3, 4, 8, 9], [0, 2], [], [0, 1, 2], [], [], [0, 1, 2, 4], [0, 1, 2, 3, 4, 8, 9, 10, 21, 32], [0, 1, 4, 6], [0, 2, 3, 4, 5, 6, 13], [0, 2], [0, 2, 3, 4, 5, 6, 7, 11, 15], [0, 2, 3, 4, 5, 15, 16, 18, 20], [0, 2, 3, 4, 5, 6, 7, 8, 12, 16, 28], [0, 1, 4, 5, 6, 7, 13, 24, 29, 31], [0, 2], [0, 2], [0, 1], [0, 1, 4, 5, 6, 8, 9, 10], [0, 2, 3, 4, 7, 14], [0, 2, 3, 4, 5, 6, 10, 11], [0, 2, 3, 4, 5, 6, 10, 11], [0, 2, 3, 4, 5, 6, 10, 11], [0, 1, 4, 5, 6, 11, 14, 23], [0, 2], [0, 2, 3, 4], [0, 2], [0, 1, 2, 6, 8, 9, 10, 11], [0, 2, 3, 4, 6], [0, 2, 3, 4, 5, 9, 10], []]
def hsT : List (List (Nat × Hint)) := [[], [], [], [(23, ⟨[0, 0, 2, 0, 8, 31, 63, 127, 127, 255, 1023], [], [0, 1, 2, 3, 4], [(5, []), (6, []), (7, []), (8, []), (9, []), (10, [])]⟩), (24, ⟨[0, 0, 2, 0, 8, 31, 63, 127, 127, 255, 1023], [], [0, 1, 2, 3, 4], [(5, []), (6, []), (7, []), (8, []), (9, []), (10, [])]⟩)], [(9, ⟨[0, 1, 3, 7, 15, 0, 63, 127, 255, 511, 1023, 2047, 4095, 255, 16383, 32767, 65535, 131071, 262143, 524287, 1048575, 2097151, 4194303, 8388607, 16777215, 33554431, 67108863, 134217727, 268435455, 536870911, 33554431, 2147483647, 4294967295, 8589934591, 17179869183, 34359738367, 68719476735, 137438953471, 274877906943, 17179869183, 1099511627775, 2199023255551, 4398046511103], [], [0, 1, 2, 3, 4], [(5, [4, 1]), (6, []), (7, []), (8, []), (9, []), (10, []), (11, []), (12, []), (13, [12, 9]), (14, []), (15, []), (16, []), (17, []), (18, []), (19, []), (20, []), (21, []), (22, []), (23, []), (24, []), (25, []), (26, []), (27, []), (28, []), (29, []), (30, [29, 26]), (31, []), (32, []), (33, []), (34, []), (35, []), (36, []), (37, []), (38, []), (39, [38, 35]), (40, []), (41, []), (42, [])]⟩)], [], [], [], [], [], [], [], [], [], [], [], [], [], [], [], [], [], [], [], [], [(1, ⟨[0, 1, 3, 0, 0, 24, 63, 127], [], [0, 1, 4, 2, 3], [(5, [2]), (6, []), (7, [])]⟩)], [(2, ⟨[0, 1, 0, 0, 0, 16, 56, 120, 252, 511, 1023], [], [0, 2, 3, 4, 1, 5], [(6, [1]), (7, [1]), (8, [1]), (9, []), (10, [])]⟩)], [], [], [], [], [], [], [], [], [], [], [], [], [], [], [], [(1, ⟨[0, 0, 2, 6, 0, 31, 63], [], [4, 0, 1], [(2, [0]), (3, []), (5, []), (6, [])]⟩)], [], [], [], [], [], [], [], [], [], [], [], [], [], [], [], [], [], [], [], [], [], [], [], [], [], [], [], [], [], [], [], [], [], [], [], [], [], [], [], [], [], [], [], [], [], [], [], [], [], [], [], [], [], [], [], [], [], [], [(2, ⟨[0, 0, 0, 4, 12, 0, 60, 127, 255, 255, 1023, 2047], [], [2, 5, 0, 1, 3], [(4, [1, 0]), (6, [1, 0]), (7, []), (8, []), (9, []), (10, []), (11, [])]⟩)], [(1, ⟨[0, 0, 0, 4, 12, 31, 63, 63, 255, 511], [], [2, 0, 1, 3], [(4, [1, 0]), (5, []), (6, []), (7, []), (8, []), (9, [])]⟩)], [(1, ⟨[0, 1, 3, 0, 8, 0, 32, 127, 255, 511, 1023, 2047], [], [0, 3, 5, 1, 4, 6], [(2, [6, 4]), (7, []), (8, []), (9, []), (10, []), (11, [])]⟩)], [], [(3, ⟨[0, 0, 2, 7, 0, 0, 32, 112, 255, 511], [2], [5, 0, 1, 4, 6, 2, 3], [(7, [1, 0]), (8, []), (9, [])]⟩)], [], [], [(1, ⟨[0, 1, 3, 0, 0, 16, 63, 127, 255, 511, 1023], [], [0, 3, 4, 1, 5], [(2, [5]), (6, []), (7, []), (8, []), (9, []), (10, [])]⟩)], [], [], [(3, ⟨[0, 1, 3, 0, 0, 16, 63, 0, 255, 511, 1023], [], [0, 4, 7, 1, 3, 5], [(2, [5, 3]), (6, []), (8, []), (9, []), (10, [])]⟩), (14, ⟨[0, 0, 3, 0, 0, 16, 56, 127, 255], [], [1, 4, 0, 2, 3, 5], [(6, [0]), (7, []), (8, [])]⟩)], [(2, ⟨[0, 0, 2, 7, 0, 31, 0, 64, 192, 0, 527, 1999, 4095, 8191], [], [1, 4, 6, 7, 9, 0, 2, 8], [(3, [8]), (5, []), (10, [8]), (11, []), (12, []), (13, [])]⟩), (3, ⟨[0, 0, 3, 0, 0, 16, 56, 127, 255], [], [1, 4, 0, 2, 3, 5], [(6, [0]), (7, []), (8, [])]⟩)], [(1, ⟨[0, 1, 3, 0, 15, 31, 63], [], [0, 1, 3], [(2, [3]), (4, []), (5, []), (6, [])]⟩)], [(1, ⟨[0, 0, 2, 6, 15, 31, 0, 64, 192, 511, 1023], [], [0, 1, 2, 6, 7, 3, 8], [(4, [8]), (5, [8]), (9, []), (10, [])]⟩)], [], [], [], [], [], [], [], [], [], [], [], [], [(1, ⟨[0, 1, 0, 0, 8, 24, 63, 127, 255], [], [2, 3, 4, 0, 5], [(1, [5]), (6, []), (7, []), (8, [])]⟩)], [], [], [], [], [], [], [], [], [(2, ⟨[0, 1, 3, 0, 15, 0, 0, 64, 192, 448, 0, 1984, 4095, 8191, 16383], [], [0, 1, 3, 5, 6, 7, 10, 2, 8, 9, 11], [(4, [8]), (12, []), (13, []), (14, [])]⟩)], [], [], [], [], [], [], [], [], [], [], [], [], [], [], [], [], [], [], [], [], [], [], [], [], [], [], [], [], [], []]
noncomputable def kpF : Kp := fun f => match nth kpT f with | some l => l | none => []
noncomputable def hsF : Hts := fun f => match nth hsT f with | some l => l | none => []
end Go.Proofs.YtnjkdfhhlcoaaaaGreat

