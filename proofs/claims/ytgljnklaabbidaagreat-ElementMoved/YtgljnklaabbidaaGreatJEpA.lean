/-
  OWN TEXT: the program's odd sum and its two floats (elem.odd, elem.Two), for every float.
-/
import Derived.Test.YtgljnklaabbidaaGreatJEoA
namespace Go.Proofs.YtgljnklaabbidaaGreat
open Go.ChangeShapes Go.WideShapes Go.ChangeAt Go.RowKit
set_option linter.unusedVariables false
attribute [local go_sem] frombits_call tobits_call run_neg
theorem two_any (w : World) : Calls Tryz.prog 86 #[] w fun e w' => e = .returned (.tuple #[.float .f64 4604418534311723008, .float .f64 4461442080421002358]) ∧ w' = w := by
  go_enter Tryz.func86, Tryz.ntmps86
  go_wp2
  go_ret2
  exact ⟨rfl, rfl⟩
set_option maxHeartbeats 4000000 in
theorem odd_any (f : Nat) (w : World) : Calls Tryz.prog 95 #[.float .f64 f] w fun e w' => ∃ y, e = .returned (.float .f64 y) ∧ oddR f y ∧ Bw w w' := by
  obtain ⟨s, w1, hs, e1, g1⟩ := op_run .mul (Or.inr (Or.inr (Or.inl rfl))) f f w
  go_enter Tryz.func95, Tryz.ntmps95
  go_wp2
  go_loopw [4, 10] (fun q k wr => ∃ (i n : Nat), i ≤ 11 ∧ q = .float .f64 n ∧ k = .int .i64 (i : Int) ∧ oddQ s i n ∧ Bw w wr) (fun _ k _ => 11 - (intOf k).toNat)
  case atStart => exact ⟨0, 4585925428558828667, by omega, rfl, rfl, rfl, g1⟩
  case round =>
    obtain ⟨i, n, hi, rfl, rfl, hq, hg⟩ := hrel
    have HQ : Hid (oddQ s i n) := hq
    clear hq e1
    by_cases c : i < 11
    · obtain ⟨d, w2, hd, e2, g2⟩ := op_run .quo (Or.inr (Or.inr (Or.inr rfl))) 4607182418800017408 (floatOfInt .f64 (23 - 2 * (i : Int))) wr
      obtain ⟨p, w3, hp, e3, g3⟩ := op_run .mul (Or.inr (Or.inr (Or.inl rfl))) s n w2
      obtain ⟨q', w4, hq', e4, g4⟩ := op_run .add (Or.inl rfl) d p w3
      have hgg := bw_trans (bw_trans (bw_trans hg g2) g3) g4
      have R : ∃ (i' n' : Nat), i' ≤ 11 ∧ Value.float .f64 q' = .float .f64 n' ∧ Value.int .i64 ((i : Int) + 1) = .int .i64 (i' : Int) ∧ oddQ s i' n' ∧ Bw w w4 :=
        ⟨i + 1, q', by omega, rfl, by rw [show (i : Int) + 1 = ((i + 1 : Nat) : Int) by omega], ⟨n, d, p, HQ.out, hd, hp, hq'⟩, hgg⟩
      have HR : Hid _ := R
      clear R hd hp hq' g2 g3 g4 hg HQ hgg
      go_wp2
      go_roundw
      case rel => exact HR.out
      case measure => simp [intOf]; omega
    · have hi' : i = 11 := by omega
      subst hi'
      obtain ⟨a, w2, ha, e2, g2⟩ := op_run .mul (Or.inr (Or.inr (Or.inl rfl))) 4611686018427387904 f wr
      obtain ⟨p, w3, hp, e3, g3⟩ := op_run .mul (Or.inr (Or.inr (Or.inl rfl))) s n w2
      obtain ⟨r, w4, hr, e4, g4⟩ := op_run .mul (Or.inr (Or.inr (Or.inl rfl))) a p w3
      obtain ⟨y, w5, hy, e5, g5⟩ := op_run .add (Or.inl rfl) a r w4
      have hgg := bw_trans (bw_trans (bw_trans (bw_trans hg g2) g3) g4) g5
      have HF : Hid (oddR f y) := ⟨s, n, a, p, r, hs, HQ.out, ha, hp, hr, hy⟩
      clear g2 g3 g4 g5 hg HQ ha hp hr hy hs
      go_wp2
      go_ret
      exact ⟨y, rfl, HF.out, hgg⟩
end Go.Proofs.YtgljnklaabbidaaGreat
