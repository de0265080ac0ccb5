/-
  OWN TEXT: the law ElemLogs over a list of floats.
-/
import Derived.Test.YthcohikeomkmeaaEpC
import Derived.Test.YthcohikeomkmeaaEoD
namespace Go.Proofs.Ythcohikeomkmeaa
open Go.ChangeShapes Go.WideShapes Go.ChangeAt Go.RowKit
set_option linter.unusedVariables false
attribute [local go_sem] frombits_call tobits_call run_neg
theorem f4_any (x : Nat) (w : World) : Calls Try.prog 20 #[.int .u64 (x : Int)] w fun e w' => e = .returned (.float .f64 x) ∧ w' = w := by
  go_enter Try.func20, Try.ntmps20
  go_wp2
  go_ret
  exact ⟨rfl, rfl⟩
set_option maxHeartbeats 8000000 in
set_option maxRecDepth 100000 in
theorem elemlogs_any (a : Option Addr) (len cap : Nat) (F : Nat → Nat) (w : World) (hreach : len * 8 ≤ 140737488351232) (hF : ∀ j, j < len → F j < 18446744073709551616)
    (hc : 0 < len → ∃ b off, a = some ⟨b, off, none⟩ ∧ b < w.heap.size ∧ ∀ j, j < len → w.cell? ⟨b, off + j, none⟩ = some (.int .u64 (F j : Int))) :
    Calls Try.prog 4 #[.slice a len cap] w fun e w' => e = .returned (.bool true) ∧ Below w.heap.size w w' := by
  have HC : Hid (0 < len → ∃ b off, a = some ⟨b, off, none⟩ ∧ b < w.heap.size ∧ ∀ j, j < len → w.cell? ⟨b, off + j, none⟩ = some (.int .u64 (F j : Int))) := hc
  have HF : Hid (∀ j, j < len → F j < 18446744073709551616) := hF
  clear hc hF
  go_enter Try.func4, Try.ntmps4
  go_wp2_with fail
  refine (log_any 4613937818241073152 _ (by decide)).mono ?_
  rintro e w0 ⟨y0, rfl, hy0, g0⟩
  have HY0 : Hid (logR 4613937818241073152 y0) := hy0
  clear hy0
  go_wp2_with fail
  go_loopw [4] (fun i wr => ∃ k : Nat, k ≤ len ∧ i = .int .i64 k ∧ Bw w wr) (fun i _ => len - (intOf i).toNat)
  case atStart => exact ⟨0, Nat.zero_le _, rfl, g0⟩
  case round =>
    obtain ⟨k, hk, rfl, hbl⟩ := hrel
    by_cases hk1 : k < len
    · have hsz := Below.size hbl
      obtain ⟨b, off, rfl, hb, hcc⟩ := HC.out (by omega)
      have hcx : wr.cell? ⟨b, off + k, none⟩ = some (.int .u64 (F k : Int)) := (Below.cell hbl hb).trans (hcc k hk1)
      have hFk := HF.out k hk1
      clear hcc HC HF
      generalize F k = x at *
      go_wp2_with fail
      refine (f4_any x _).mono ?_
      rintro e wr ⟨rfl, rfl⟩
      go_wp2_with fail
      refine (log_any x _ hFk).mono ?_
      rintro e w1 ⟨y1, rfl, hy1, b1⟩
      have HY1 : Hid (logR x y1) := hy1
      have B1 := bw_trans hbl b1
      clear hy1 b1 hbl hcx
      go_wp2_with fail
      refine (rlog_any x _ hFk).mono ?_
      rintro e w2 ⟨y2, rfl, hy2, b2⟩
      have hs := (HY1.out.sim hy2).same
      have B2 := bw_trans B1 b2
      clear hy2 b2 B1 HY1
      go_wp2_with fail
      refine (rsame_any y1 y2 _).mono ?_
      rintro e w3 ⟨rfl, hw3⟩
      rw [hs]
      subst hw3
      clear hs
      go_wp2_with fail
      refine (more_any x _ hFk).mono ?_
      rintro e w4 ⟨y3, rfl, hy3, b3⟩
      have HY3 : Hid (moreR x y3) := hy3
      have B3 := bw_trans B2 b3
      clear hy3 b3 B2
      go_wp2_with fail
      refine (rmore_any x _ hFk).mono ?_
      rintro e w5 ⟨y4, rfl, hy4, b4⟩
      have hs := (HY3.out.sim hy4).same
      have B4 := bw_trans B3 b4
      clear hy4 b4 B3 HY3
      go_wp2_with fail
      refine (rsame_any y3 y4 _).mono ?_
      rintro e w6 ⟨rfl, hw6⟩
      rw [hs]
      subst hw6
      clear hs
      go_wp2
      go_roundw
      case rel => exact ⟨k + 1, by omega, by simp, B4⟩
      case measure => simp [intOf]; omega
    · have hkl : k = len := by omega
      subst hkl
      go_wp2_with fail
      refine (rlog_any 4613937818241073152 _ (by decide)).mono ?_
      rintro e w1 ⟨y1, rfl, hy1, b1⟩
      have hs := (HY0.out.sim hy1).same
      have B1 := bw_trans hbl b1
      clear hy1 b1 hbl
      go_wp2_with fail
      refine (rsame_any y0 y1 _).mono ?_
      rintro e w3 ⟨rfl, hw3⟩
      rw [hs]
      subst hw3
      clear hs
      go_wp2
      go_ret
      exact ⟨rfl, B1⟩
end Go.Proofs.Ythcohikeomkmeaa
