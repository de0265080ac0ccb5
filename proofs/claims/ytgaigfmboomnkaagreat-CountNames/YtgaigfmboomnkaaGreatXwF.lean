/-
  OWN TEXT: an evaluator made for the kernel: numbers.
-/
import Derived.Test.YtgaigfmboomnkaaGreatXwE
namespace Go.Proofs.YtgaigfmboomnkaaGreat
open Go.RowKit
set_option linter.unusedVariables false
set_option linter.unusedSimpArgs false
theorem iOp_some {f : Int → Int → (Int → Out) → Out} {F : Int → Int → Int} (hf : ∀ a b k, f a b k = k (F a b)) {x y : Value} {k : Value → Out} {out : Value × Me} (h : iOp f x y k = some out) :
    ∃ i a b, x = .int i a ∧ y = .int i b ∧ ∀ k : Value → Out, iOp f x y k = k (.int i (i.wrap (F a b))) := by
  unfold iOp at h
  obtain ⟨i, a, rfl, h1⟩ := asI_some h
  clear h
  obtain ⟨j, b, rfl, h⟩ := asI_some h1
  clear h1
  rw [eqK_eq] at h
  by_cases c : i = j
  · subst c
    refine ⟨i, a, b, rfl, rfl, fun k => ?_⟩
    show Bool.rec (motive := fun _ => Out) none (f a b fun z => wrapK i z fun z => k (.int i z)) (eqK i i) = _
    rw [eqK_eq, decide_eq_true rfl]
    show f a b (fun z => wrapK i z fun z => k (.int i z)) = _
    rw [hf, wrapK_eq]
  · rw [decide_eq_false c] at h; cases h
theorem iCmp_some {f : Int → Int → Bool} {x y : Value} {k : Value → Out} {out : Value × Me} (h : iCmp f x y k = some out) :
    ∃ i a b, x = .int i a ∧ y = .int i b ∧ ∀ k : Value → Out, iCmp f x y k = k (.bool (f a b)) := by
  unfold iCmp at h
  obtain ⟨i, a, rfl, h1⟩ := asI_some h
  clear h
  obtain ⟨j, b, rfl, h⟩ := asI_some h1
  clear h1
  rw [eqK_eq] at h
  by_cases c : i = j
  · subst c
    refine ⟨i, a, b, rfl, rfl, fun k => ?_⟩
    show Bool.rec (motive := fun _ => Out) none (frcB (f a b) fun t => k (.bool t)) (eqK i i) = _
    rw [eqK_eq, decide_eq_true rfl]
    show frcB (f a b) (fun t => k (.bool t)) = _
    rw [frcB_eq]
  · rw [decide_eq_false c] at h; cases h
theorem fOp_some {f : Nat → Nat → Option Nat} {x y : Value} {k : Value → Out} {out : Value × Me} (h : fOp f x y k = some out) :
    ∃ a b r, x = .float .f64 a ∧ y = .float .f64 b ∧ f a b = some r ∧ ∀ k : Value → Out, fOp f x y k = k (.float .f64 r) := by
  unfold fOp at h
  obtain ⟨a, rfl, h1⟩ := asF_some h
  clear h
  obtain ⟨b, rfl, h⟩ := asF_some h1
  clear h1
  cases q : f a b with
  | none => rw [q] at h; cases h
  | some r =>
    refine ⟨a, b, r, rfl, rfl, q, fun k => ?_⟩
    show Option.rec (motive := fun _ => Out) none (fun r => frcN r fun r => k (.float .f64 r)) (f a b) = _
    rw [q]
    show frcN r (fun r => k (.float .f64 r)) = _
    rw [frcN_eq]
theorem fCmp_some {f : Nat → Nat → Bool} {x y : Value} {k : Value → Out} {out : Value × Me} (h : fCmp f x y k = some out) :
    ∃ a b, x = .float .f64 a ∧ y = .float .f64 b ∧ ∀ k : Value → Out, fCmp f x y k = k (.bool (f a b)) := by
  unfold fCmp at h
  obtain ⟨a, rfl, h1⟩ := asF_some h
  clear h
  obtain ⟨b, rfl, h⟩ := asF_some h1
  clear h1
  refine ⟨a, b, rfl, rfl, fun k => ?_⟩
  show frcB (f a b) (fun t => k (.bool t)) = _
  rw [frcB_eq]
theorem binI_fast {op : BinOp} {f : Value → Value → (Value → Out) → Out} (hb : binI op = some f) {x y : Value} {k : Value → Out} {out : Value × Me} (h : f x y k = some out) : ∃ u, (∀ k, f x y k = k u) ∧ fastBin op x y = some u := by
  unfold binI at hb
  split at hb <;> cases hb
  · obtain ⟨i, a, b, rfl, rfl, e⟩ := iOp_some addZ_eq h; exact ⟨_, e, by simp [fastBin, wrapF_eq]⟩
  · obtain ⟨i, a, b, rfl, rfl, e⟩ := iOp_some subZ_eq h; exact ⟨_, e, by simp [fastBin, wrapF_eq]⟩
  · obtain ⟨i, a, b, rfl, rfl, e⟩ := iOp_some mulZ_eq h; exact ⟨_, e, by simp [fastBin, wrapF_eq]⟩
  · obtain ⟨i, a, b, rfl, rfl, e⟩ := iCmp_some h; exact ⟨_, e, by simp [fastBin, eqZ_eq]⟩
  · obtain ⟨i, a, b, rfl, rfl, e⟩ := iCmp_some h; exact ⟨_, e, by simp only [fastBin, eqZ_eq, if_true]; rfl⟩
  · obtain ⟨i, a, b, rfl, rfl, e⟩ := iCmp_some h; exact ⟨_, e, by simp [fastBin, ltZ_eq]⟩
  · obtain ⟨i, a, b, rfl, rfl, e⟩ := iCmp_some h; exact ⟨_, e, by simp [fastBin, leZ_eq]⟩
  · obtain ⟨i, a, b, rfl, rfl, e⟩ := iCmp_some h; exact ⟨_, e, by simp [fastBin, ltZ_eq]⟩
  · obtain ⟨i, a, b, rfl, rfl, e⟩ := iCmp_some h; exact ⟨_, e, by simp [fastBin, leZ_eq]⟩
theorem binF_fast {op : BinOp} {f : Value → Value → (Value → Out) → Out} (hb : binF op = some f) {x y : Value} {k : Value → Out} {out : Value × Me} (h : f x y k = some out) : ∃ u, (∀ k, f x y k = k u) ∧ fastBin op x y = some u := by
  unfold binF at hb
  split at hb <;> cases hb
  · obtain ⟨a, b, r, rfl, rfl, q, e⟩ := fOp_some h; exact ⟨_, e, by simp [fastBin, q]⟩
  · obtain ⟨a, b, r, rfl, rfl, q, e⟩ := fOp_some h; exact ⟨_, e, by simp [fastBin, q]⟩
  · obtain ⟨a, b, r, rfl, rfl, q, e⟩ := fOp_some h; exact ⟨_, e, by simp [fastBin, q]⟩
  · obtain ⟨a, b, r, rfl, rfl, q, e⟩ := fOp_some h; exact ⟨_, e, by simp [fastBin, q]⟩
  · obtain ⟨a, b, rfl, rfl, e⟩ := fCmp_some h; exact ⟨_, e, by simp [fastBin]⟩
  · obtain ⟨a, b, rfl, rfl, e⟩ := fCmp_some h; exact ⟨_, e, by simp [fastBin]⟩
  · obtain ⟨a, b, rfl, rfl, e⟩ := fCmp_some h; exact ⟨_, e, by simp [fastBin]⟩
  · obtain ⟨a, b, rfl, rfl, e⟩ := fCmp_some h; exact ⟨_, e, by simp [fastBin]⟩
  · obtain ⟨a, b, rfl, rfl, e⟩ := fCmp_some h; exact ⟨_, e, by simp [fastBin]⟩
  · obtain ⟨a, b, rfl, rfl, e⟩ := fCmp_some h; exact ⟨_, e, by simp [fastBin]⟩
-- bits
theorem uOp_some {f : Nat → Nat → Nat} {x y : Value} {k : Value → Out} {out : Value × Me} (h : uOp f x y k = some out) :
    ∃ m n : Nat, x = .int .u64 (m : Int) ∧ y = .int .u64 (n : Int) ∧ m < 18446744073709551616 ∧ n < 18446744073709551616 ∧ ∀ k : Value → Out, uOp f x y k = k (.int .u64 ((f m n : Nat) : Int)) := by
  unfold uOp at h
  split at h
  · rename_i a
    cases a with
    | negSucc m => cases h
    | ofNat m =>
      obtain ⟨j, b, rfl, h1⟩ := asI_some h
      clear h
      have h := h1
      clear h1
      cases b with
      | negSucc n => cases h
      | ofNat n =>
        have e1 : ∀ (q : Bool) (u v : Out), (bif q then u else v) = cond q u v := fun _ _ _ => rfl
        simp only [eqK_eq, ble_iff] at h
        by_cases c : (decide (j = IntKind.u64) && decide (m ≤ 18446744073709551615) && decide (n ≤ 18446744073709551615)) = true
        · have c' := c
          simp only [Bool.and_eq_true, decide_eq_true_eq] at c
          obtain ⟨⟨rfl, c2⟩, c3⟩ := c
          refine ⟨m, n, rfl, rfl, by omega, by omega, fun k => ?_⟩
          show cond (eqK .u64 .u64 && Nat.ble m 18446744073709551615 && Nat.ble n 18446744073709551615) _ _ = _
          rw [eqK_eq, ble_iff, ble_iff, c', cond_true, frcN_eq]
          rfl
        · rw [Bool.eq_false_iff.2 c] at h; cases h
  · cases h
theorem shlU_some {x y : Value} {k : Value → Out} {out : Value × Me} (h : shlU x y k = some out) :
    ∃ (m n : Nat) (j : IntKind), x = .int .u64 (m : Int) ∧ y = .int j (n : Int) ∧ ∀ k : Value → Out, shlU x y k = k (.int .u64 ((m * 2 ^ (min n 64) % 18446744073709551616 : Nat) : Int)) := by
  unfold shlU at h
  split at h
  · rename_i a
    cases a with
    | negSucc m => cases h
    | ofNat m =>
      obtain ⟨j, b, rfl, h1⟩ := asI_some h
      clear h
      have h := h1
      clear h1
      cases b with
      | negSucc n => cases h
      | ofNat n =>
        refine ⟨m, n, j, rfl, rfl, fun k => ?_⟩
        show cond (Nat.ble n 64) _ _ = _
        rw [ble_iff]
        by_cases c : n ≤ 64
        · rw [decide_eq_true c, cond_true, frcN_eq, Nat.min_eq_left c]; rfl
        · rw [decide_eq_false c, cond_false, Nat.min_eq_right (by omega)]
          have : m * 2 ^ 64 % 18446744073709551616 = 0 := by
            have : (2 : Nat) ^ 64 = 18446744073709551616 := by decide
            rw [this]; exact Nat.mul_mod_left m _
          rw [this]; rfl
  · cases h
theorem shrU_some {x y : Value} {k : Value → Out} {out : Value × Me} (h : shrU x y k = some out) :
    ∃ (m n : Nat) (j : IntKind), x = .int .u64 (m : Int) ∧ y = .int j (n : Int) ∧ n ≤ 64 ∧ ∀ k : Value → Out, shrU x y k = k (.int .u64 ((m / 2 ^ n : Nat) : Int)) := by
  unfold shrU at h
  obtain ⟨i, a, rfl, h1⟩ := asI_some h
  clear h
  have h := h1
  clear h1
  simp only [eqK_eq] at h
  by_cases c0 : i = .u64
  · subst c0
    rw [decide_eq_true rfl, cond_true] at h
    cases a with
    | negSucc m => cases h
    | ofNat m =>
      obtain ⟨j, b, rfl, h1⟩ := asI_some h
      clear h
      have h := h1
      clear h1
      cases b with
      | negSucc n => cases h
      | ofNat n =>
        have h' : cond (Nat.ble n 64) (frcN (Nat.div m (Nat.pow 2 n)) fun z => k (.int .u64 (.ofNat z))) none = some out := h
        rw [ble_iff] at h'
        by_cases c : n ≤ 64
        · refine ⟨m, n, j, rfl, rfl, c, fun k => ?_⟩
          show cond (eqK .u64 .u64) (cond (Nat.ble n 64) (frcN (Nat.div m (Nat.pow 2 n)) fun z => k (.int .u64 (.ofNat z))) none) none = _
          rw [eqK_eq, ble_iff, decide_eq_true rfl, cond_true, decide_eq_true c, cond_true, frcN_eq]
          rfl
        · rw [decide_eq_false c] at h'; cases h'
  · rw [decide_eq_false c0] at h; cases h
theorem ofInt_u64 {m : Nat} (h : m < 18446744073709551616) : (BitVec.ofInt 64 (m : Int)).toNat = m := by
  rw [BitVec.toNat_ofInt]
  have : (2 : Nat) ^ 64 = 18446744073709551616 := by decide
  rw [this]
  omega
theorem run_bits {P : Program} {op : BinOp} {m n r : Nat} (hm : m < 18446744073709551616) (hn : n < 18446744073709551616) (hr : r < 18446744073709551616)
    (hop : (op = .and ∧ r = m &&& n) ∨ (op = .or ∧ r = m ||| n) ∨ (op = .xor ∧ r = m ^^^ n) ∨ (op = .andNot ∧ r = m &&& (18446744073709551615 - n))) (t : TypeId) (ox oy : Operand) :
    pureRun P (do eqGuard op t ox oy (.int .u64 (m : Int)) (.int .u64 (n : Int)); binOp op t (.int .u64 (m : Int)) (.int .u64 (n : Int))) = some (.int .u64 (r : Int)) := by
  have w : IntKind.u64.wrap (r : Int) = (r : Int) := wrap_u64_in (by omega) (by omega)
  have hb : IntKind.u64.bits = 64 := rfl
  have e1 := ofInt_u64 hm
  have e2 := ofInt_u64 hn
  rcases hop with ⟨rfl, rfl⟩ | ⟨rfl, rfl⟩ | ⟨rfl, rfl⟩ | ⟨rfl, rfl⟩
  · show some (Value.int .u64 (IntKind.u64.wrap ((BitVec.ofInt 64 (m : Int) &&& BitVec.ofInt 64 (n : Int)).toNat))) = _
    rw [BitVec.toNat_and, e1, e2, w]
  · show some (Value.int .u64 (IntKind.u64.wrap ((BitVec.ofInt 64 (m : Int) ||| BitVec.ofInt 64 (n : Int)).toNat))) = _
    rw [BitVec.toNat_or, e1, e2, w]
  · show some (Value.int .u64 (IntKind.u64.wrap ((BitVec.ofInt 64 (m : Int) ^^^ BitVec.ofInt 64 (n : Int)).toNat))) = _
    rw [BitVec.toNat_xor, e1, e2, w]
  · show some (Value.int .u64 (IntKind.u64.wrap ((BitVec.ofInt 64 (m : Int) &&& ~~~ BitVec.ofInt 64 (n : Int)).toNat))) = _
    rw [BitVec.toNat_and, BitVec.toNat_not, e1, e2]
    have : (2 : Nat) ^ 64 - 1 - n = 18446744073709551615 - n := by
      have : (2 : Nat) ^ 64 = 18446744073709551616 := by decide
      rw [this]
    rw [this, w]
theorem run_shl {P : Program} (m n : Nat) (j : IntKind) (t : TypeId) (ox oy : Operand) :
    pureRun P (do eqGuard .shl t ox oy (.int .u64 (m : Int)) (.int j (n : Int)); binOp .shl t (.int .u64 (m : Int)) (.int j (n : Int))) = some (.int .u64 ((m * 2 ^ (min n 64) % 18446744073709551616 : Nat) : Int)) := by
  show pureRun P (Op.shift .shl .u64 (m : Int) j (n : Int)) = _
  unfold Op.shift
  rw [if_neg (by omega)]
  show some (Value.int .u64 (IntKind.u64.wrap ((m : Int) * 2 ^ (min (n : Int).toNat 64)))) = _
  rw [IntKind.wrap_u64, Int.toNat_natCast]
  have : (m : Int) * 2 ^ min n 64 = ((m * 2 ^ min n 64 : Nat) : Int) := by simp
  rw [this]
  rfl
theorem run_shr {P : Program} (m n : Nat) (hn : n ≤ 64) (j : IntKind) (t : TypeId) (ox oy : Operand) :
    pureRun P (do eqGuard .shr t ox oy (.int .u64 (m : Int)) (.int j (n : Int)); binOp .shr t (.int .u64 (m : Int)) (.int j (n : Int))) = some (.int .u64 ((m / 2 ^ n : Nat) : Int)) := by
  show pureRun P (Op.shift .shr .u64 (m : Int) j (n : Int)) = _
  unfold Op.shift
  rw [if_neg (by omega)]
  show some (Value.int .u64 ((m : Int).fdiv (2 ^ (min (n : Int).toNat 64)))) = _
  rw [Int.toNat_natCast, Nat.min_eq_left hn]
  have : (2 : Int) ^ n = ((2 ^ n : Nat) : Int) := by simp
  rw [this, Int.fdiv_eq_ediv_of_nonneg _ (Int.natCast_nonneg _)]
  rfl
theorem binU_run {P : Program} {op : BinOp} {f : Value → Value → (Value → Out) → Out} (hb : binU op = some f) {x y : Value} {k : Value → Out} {out : Value × Me} (h : f x y k = some out) (t : TypeId) (ox oy : Operand) :
    ∃ u, (∀ k, f x y k = k u) ∧ pureRun P (do eqGuard op t ox oy x y; binOp op t x y) = some u ∧ flat x = true ∧ flat y = true ∧ flat u = true := by
  unfold binU at hb
  have p64 : (2 : Nat) ^ 64 = 18446744073709551616 := by decide
  split at hb <;> cases hb
  · obtain ⟨m, n, rfl, rfl, hm, hn, e⟩ := uOp_some h
    exact ⟨_, e, run_bits hm hn (Nat.lt_of_le_of_lt Nat.and_le_left hm) (Or.inl ⟨rfl, rfl⟩) t ox oy, rfl, rfl, rfl⟩
  · obtain ⟨m, n, rfl, rfl, hm, hn, e⟩ := uOp_some h
    exact ⟨_, e, run_bits hm hn (by rw [← p64] at *; exact Nat.or_lt_two_pow hm hn) (Or.inr (Or.inl ⟨rfl, rfl⟩)) t ox oy, rfl, rfl, rfl⟩
  · obtain ⟨m, n, rfl, rfl, hm, hn, e⟩ := uOp_some h
    exact ⟨_, e, run_bits hm hn (by rw [← p64] at *; exact Nat.xor_lt_two_pow hm hn) (Or.inr (Or.inr (Or.inl ⟨rfl, rfl⟩))) t ox oy, rfl, rfl, rfl⟩
  · obtain ⟨m, n, rfl, rfl, hm, hn, e⟩ := uOp_some h
    exact ⟨_, e, run_bits hm hn (Nat.lt_of_le_of_lt Nat.and_le_left hm) (Or.inr (Or.inr (Or.inr ⟨rfl, rfl⟩))) t ox oy, rfl, rfl, rfl⟩
  · obtain ⟨m, n, j, rfl, rfl, e⟩ := shlU_some h
    exact ⟨_, e, run_shl m n j t ox oy, rfl, rfl, rfl⟩
  · obtain ⟨m, n, j, rfl, rfl, hn, e⟩ := shrU_some h
    exact ⟨_, e, run_shr m n hn j t ox oy, rfl, rfl, rfl⟩
end Go.Proofs.YtgaigfmboomnkaaGreat
