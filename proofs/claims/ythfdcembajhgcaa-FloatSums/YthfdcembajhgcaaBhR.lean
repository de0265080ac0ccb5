/-
  OWN TEXT: what the reference's sum with its loss (eddyref01.Exact) answers.
-/
import Derived.Test.YthfdcembajhgcaaBhQ
import Derived.Test.YthfdcembajhgcaaFnSame
import Derived.Test.YthfdcembajhgcaaFnExact2
namespace Go.Proofs.Ythfdcembajhgcaa
open Go.ChangeShapes Go.WideShapes Go.ChangeAt Go.RowKit
open Bg
set_option linter.unusedVariables false
attribute [local go_sem] frombits_call tobits_call run_neg
/-- what the reference tells of a sum -/
def RxO (x y s l : Nat) : Prop :=
  (Ieee.double.add x y = none ∧ Fl.nan s = true ∧ s < 18446744073709551616 ∧ l = 0) ∨
  (Ieee.double.add x y = some s ∧ Fl.finB s = false ∧ l = 0) ∨
  (Fl.rg x < 9218868437227405312 ∧ Fl.rg y < 9218868437227405312 ∧ s = Fl.aw x y ∧ Fl.finB s = true ∧ l = Fl.lw (Fl.val x + Fl.val y - Fl.val s))
theorem rexact_none (x y : Nat) (w : World) (h : floatBits .add .f64 x y = none) :
    Calls Try.prog 10 #[.float .f64 x, .float .f64 y] w fun e w' => ∃ z, e = .returned (.tuple #[.float .f64 z, .float .f64 0]) ∧ Fl.nan z = true ∧ z < 18446744073709551616 ∧ Fr w w' := by
  obtain ⟨z, hz, nz, rz⟩ := run_arith_none Try.prog .add x y w (by simp) h
  have hf : Fl.finB z = false := by
    have := Fl.nan_lt nz
    unfold Fl.finB
    exact decide_eq_false (by omega)
  clear h
  have HN : Hid (Fl.nan z = true) := nz
  clear nz
  go_enter Try.func10, Try.ntmps10
  go_wp2_with (go_at_call 31; refine (rfinite_any _ _).mono ?_; rintro e w' ⟨rfl, rfl⟩)
  go_ret2
  exact ⟨z, rfl, HN.out, hz, (Fr.refl _).drew⟩
theorem rexact_far (x y s : Nat) (w : World) (h : floatBits .add .f64 x y = some s) (hf : Fl.finB s = false) :
    Calls Try.prog 10 #[.float .f64 x, .float .f64 y] w fun e w' => e = .returned (.tuple #[.float .f64 s, .float .f64 0]) ∧ w' = w := by
  have hs := floatBits_lt h
  have e1 := fun (t : TypeId) w => run_float_arith (P := Try.prog) w .add t .f64 _ _ _ h
  clear h
  go_enter Try.func10, Try.ntmps10
  go_wp2_with (go_at_call 31; refine (rfinite_any _ _).mono ?_; rintro e w' ⟨rfl, rfl⟩)
  go_ret2
  exact ⟨rfl, rfl⟩
set_option maxHeartbeats 8000000 in
theorem rexact_fin (x y s c : Nat) (w : World) (hx : x < 18446744073709551616) (hy : y < 18446744073709551616) (fx : Fl.rg x < 9218868437227405312) (fy : Fl.rg y < 9218868437227405312) (h : floatBits .add .f64 x y = some s) (hf : Fl.finB s = true) (hc : c = 1074) :
    Calls Try.prog 10 #[.float .f64 x, .float .f64 y] w fun e w' => e = .returned (.tuple #[.float .f64 s, .float .f64 (Fl.lw (Fl.val x + Fl.val y - Fl.val s))]) ∧ Fr w w' := by
  have hs := floatBits_lt h
  have fs : Fl.rg s < 9218868437227405312 := of_decide_eq_true hf
  have e1 := fun (t : TypeId) w => run_float_arith (P := Try.prog) w .add t .f64 _ _ _ h
  have HC : Hid (c = 1074) := hc
  have HP : Hid (0 < 2 ^ c) := Nat.two_pow_pos c
  clear h hc
  have hm1 := rt_made w
  have hF1 : Fr w (w.alloc (.cells #[.bool false, .slice none 0 0, .slice none 0 0] 46)) := (Fr.refl w).alloc _ _
  obtain ⟨B1, hB1⟩ : ∃ B1, B1 = w.heap.size := ⟨_, rfl⟩
  have HB1 : Hid (B1 = w.heap.size) := hB1
  rw [← hB1] at hm1
  clear hB1
  go_enter Try.func10, Try.ntmps10
  go_wp2_with (first | (go_at_call 31; refine (rfinite_any _ _).mono ?_; rintro e w ⟨rfl, rfl⟩) | fail)
  rw [← HB1.out]
  generalize w.alloc (.cells #[.bool false, .slice none 0 0, .slice none 0 0] 46) = w1 at *
  refine (setfloat_any B1 x c _ _ _ _ hm1 hx fx HC.out).mono ?_
  rintro e w2 ⟨rfl, hsv⟩
  have hfr1 := hsv.fr hF1 (by have := HB1.out; omega)
  have hrv1 := hsv.2.1
  clear hsv hm1 hF1
  have hm2 := rt_made w2
  have hF2 : Fr w2 (w2.alloc (.cells #[.bool false, .slice none 0 0, .slice none 0 0] 46)) := (Fr.refl w2).alloc _ _
  obtain ⟨B2, hB2⟩ : ∃ B2, B2 = w2.heap.size := ⟨_, rfl⟩
  have HB2 : Hid (B2 = w2.heap.size) := hB2
  rw [← hB2] at hm2
  clear hB2
  go_wp2_with fail
  rw [← HB2.out]
  generalize w2.alloc (.cells #[.bool false, .slice none 0 0, .slice none 0 0] 46) = w3 at *
  refine (setfloat_any B2 y c _ _ _ _ hm2 hy fy HC.out).mono ?_
  rintro e w4 ⟨rfl, hsv⟩
  have hfr2 := hsv.fr hF2 (by have := HB2.out; omega)
  have hrv2 := hsv.2.1
  have hrv1' := hrv1.mono hfr2
  clear hsv hm2 hF2 hrv1
  go_wp2_with fail
  obtain ⟨s1, A1, D1, hR1⟩ : ∃ s1 A1 D1, Rt w4 B1 s1 A1 D1 := by obtain ⟨s, A, D, h1, _⟩ := hrv1'; exact ⟨s, A, D, h1⟩
  refine (radd_any B1 B1 B2 _ _ _ _ 2200 2200 _ s1 A1 D1 hR1 hrv1' hrv2 (by omega)).mono ?_
  rintro e w5 hsv
  have hfr3 : Fr w w5 := hsv.fr (hfr1.trans hfr2) (by have := HB1.out; omega)
  have hrv3 : Rv w5 B1 (Fl.val x + Fl.val y) (2 ^ c) 4402 := hsv.2.1.conv (Nat.mul_pos HP.out HP.out) (by rw [Int.natCast_mul]; grind)
  obtain ⟨rfl, _, _⟩ := hsv
  clear hfr1 hfr2 hrv1' hrv2 hR1
  have hm3 := rt_made w5
  have hF3 : Fr w5 (w5.alloc (.cells #[.bool false, .slice none 0 0, .slice none 0 0] 46)) := (Fr.refl w5).alloc _ _
  obtain ⟨B3, hB3⟩ : ∃ B3, B3 = w5.heap.size := ⟨_, rfl⟩
  have HB3 : Hid (B3 = w5.heap.size) := hB3
  rw [← hB3] at hm3
  clear hB3
  go_wp2_with fail
  rw [← HB3.out]
  generalize w5.alloc (.cells #[.bool false, .slice none 0 0, .slice none 0 0] 46) = w6 at *
  refine (setfloat_any B3 s c _ _ _ _ hm3 hs fs HC.out).mono ?_
  rintro e w7 ⟨rfl, hsv⟩
  have hfr4 := hsv.fr hF3 (by have := HB3.out; omega)
  have hrv4 := hsv.2.1
  have hrv3' := hrv3.mono hfr4
  clear hsv hm3 hF3 hrv3
  go_wp2_with fail
  obtain ⟨s1, A1, D1, hR1⟩ : ∃ s1 A1 D1, Rt w7 B1 s1 A1 D1 := by obtain ⟨s, A, D, h1, _⟩ := hrv3'; exact ⟨s, A, D, h1⟩
  refine (rsub_any B1 B1 B3 _ _ _ _ 4402 2200 _ s1 A1 D1 hR1 hrv3' hrv4 (by omega)).mono ?_
  rintro e w8 hsv
  have hfr5 : Fr w w8 := hsv.fr (hfr3.trans hfr4) (by have := HB1.out; omega)
  have hrv5 : Rv w8 B1 (Fl.val x + Fl.val y - Fl.val s) (2 ^ c) 6604 := hsv.2.1.conv (Nat.mul_pos HP.out HP.out) (by rw [Int.natCast_mul]; grind)
  obtain ⟨rfl, _, _⟩ := hsv
  clear hfr3 hfr4 hrv3' hrv4 hR1
  go_wp2_with fail
  refine (ratfloat_any B1 6604 c _ _ hrv5 (by omega) HC.out).mono ?_
  rintro e w9 ⟨b, rfl, hfr6⟩
  have hfr7 := hfr5.trans hfr6
  clear hfr5 hfr6 hrv5
  go_wp2
  go_ret2
  exact ⟨rfl, hfr7⟩
theorem rexact_any (x y : Nat) (w : World) (hx : x < 18446744073709551616) (hy : y < 18446744073709551616) :
    Calls Try.prog 10 #[.float .f64 x, .float .f64 y] w fun e w' => ∃ s l, e = .returned (.tuple #[.float .f64 s, .float .f64 l]) ∧ RxO x y s l ∧ Fr w w' := by
  by_cases c : Fl.rg x < 9218868437227405312 ∧ Fl.rg y < 9218868437227405312
  · obtain ⟨fx, fy⟩ := c
    have ha : Ieee.double.add x y = some (Fl.aw x y) := Fl.add_fin fx fy
    cases hf : Fl.finB (Fl.aw x y)
    · refine (rexact_far x y (Fl.aw x y) w ha hf).mono ?_
      rintro e w' ⟨rfl, rfl⟩
      exact ⟨_, _, rfl, Or.inr (Or.inl ⟨ha, hf, rfl⟩), Fr.refl _⟩
    · refine (rexact_fin x y (Fl.aw x y) 1074 w hx hy fx fy ha hf rfl).mono ?_
      rintro e w' ⟨rfl, hg⟩
      exact ⟨_, _, rfl, Or.inr (Or.inr ⟨fx, fy, rfl, hf, rfl⟩), hg⟩
  · rcases Fl.add_ng_far hx hy (by omega) with ⟨h1, _⟩ | ⟨b, h1, _⟩
    · refine (rexact_none x y w h1).mono ?_
      rintro e w' ⟨z, rfl, nz, hz, hg⟩
      exact ⟨_, _, rfl, Or.inl ⟨h1, nz, hz, rfl⟩, hg⟩
    · have hf : Fl.finB (Fl.wd b 9218868437227405312) = false := by unfold Fl.finB; rw [Fl.rg_wd _ _ (by omega)]; decide
      refine (rexact_far x y _ w h1 hf).mono ?_
      rintro e w' ⟨rfl, rfl⟩
      exact ⟨_, _, rfl, Or.inr (Or.inl ⟨h1, hf, rfl⟩), Fr.refl _⟩
/-- both tell the same -/
theorem ex_same {x y s l t g : Nat} (h : ExO x y s l) (k : RxO x y t g) : Fl.sameB s t = true ∧ Fl.sameB l g = true := by
  have refl : ∀ z, Fl.sameB z z = true := by
    intro z; unfold Fl.sameB; simp
  rcases h with ⟨h1, h2, _, h3⟩ | ⟨h1, h2, h3⟩ | ⟨hx, hy, h1, h2, h3, _⟩
  · rcases k with ⟨_, k2, _, k3⟩ | ⟨k1, _⟩ | ⟨kx, ky, _⟩
    · exact ⟨by unfold Fl.sameB; rw [h2, k2]; rfl, by rw [h3, k3]; exact refl _⟩
    · rw [h1] at k1; cases k1
    · rw [Fl.add_fin kx ky] at h1; cases h1
  · rcases k with ⟨k1, _⟩ | ⟨k1, k2, k3⟩ | ⟨kx, ky, k1, k2, k3⟩
    · rw [h1] at k1; cases k1
    · rw [h1] at k1
      have := Option.some.inj k1
      subst this
      exact ⟨refl _, by rw [h3, k3]; exact refl _⟩
    · have ha : Ieee.double.add x y = some (Fl.aw x y) := Fl.add_fin kx ky
      rw [ha] at h1
      have := Option.some.inj h1
      rw [← k1] at this
      subst this
      rw [h2] at k2; cases k2
  · rcases k with ⟨k1, _⟩ | ⟨k1, k2, k3⟩ | ⟨kx, ky, k1, k2, k3⟩
    · rw [Fl.add_fin hx hy] at k1; cases k1
    · have ha : Ieee.double.add x y = some (Fl.aw x y) := Fl.add_fin hx hy
      rw [ha] at k1
      have := Option.some.inj k1
      rw [← h1] at this
      subst this
      rw [h2] at k2; cases k2
    · rw [← k1] at h1
      subst h1
      exact ⟨refl _, by rw [h3, k3]; exact refl _⟩
end Go.Proofs.Ythfdcembajhgcaa
