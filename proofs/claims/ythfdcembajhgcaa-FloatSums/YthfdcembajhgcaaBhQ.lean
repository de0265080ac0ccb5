/-
  OWN TEXT: what the method Float64 of package eddybig's fractions answers, where the fraction is worth a whole number of units of 2^-1074.
-/
import Derived.Test.YthfdcembajhgcaaBhP
namespace Go.Proofs.Ythfdcembajhgcaa
open Go.ChangeShapes Go.WideShapes Go.ChangeAt Go.RowKit
open Bg
set_option linter.unusedVariables false
theorem near_zero (m : Bool) (a d : Value) (w : World) (ha : Nm w a 0) : Calls Try.prog 54 #[.bool m, a, d] w fun x w' => NearP w 0 x w' := by
  obtain ⟨va, vn, vc, rfl, hvn⟩ := nm_slice ha
  have h0 : vn = 0 := hvn.2 rfl
  subst h0
  go_enter Try.func54, Try.ntmps54
  go_wp2
  go_ret2
  exact ⟨_, rfl, Fr.refl _⟩
theorem near_sv (s : Bool) (a d : Value) (A D c : Nat) (T : Int) (w : World) (ha : Nm w a A) (hd : Nm w d D) (hD : 0 < D) (lA : A.log2 < 16000) (lD : D.log2 < 16000) (hc : c = 1074) (h : sv s A * ((2 ^ c : Nat) : Int) = T * D) :
    Calls Try.prog 54 #[.bool s, a, d] w fun x w' => NearP w (Fl.lw T) x w' := by
  have hp := Nat.two_pow_pos c
  by_cases z : A = 0
  · subst z
    have hT : T = 0 := by
      have h1 : T * (D : Int) = 0 := by rw [← h]; cases s <;> simp [sv]
      rcases Int.mul_eq_zero.1 h1 with e | e
      · exact e
      · omega
    rw [hT, Fl.lw_zero]
    exact near_zero s a d w ha
  · have h1 : A * 2 ^ (c + 0) = D * T.natAbs := by
      have := congrArg Int.natAbs h
      rw [Int.natAbs_mul, Int.natAbs_mul] at this
      have e1 : (sv s A).natAbs = A := by cases s <;> simp [sv]
      rw [e1, show ((2 ^ c : Nat) : Int).natAbs = 2 ^ c from rfl, show ((D : Nat) : Int).natAbs = D from rfl] at this
      rw [Nat.add_zero, this, Nat.mul_comm]
    have hs : decide (T < 0) = s := by
      have hA : (0 : Int) < A := by omega
      have hP : (0 : Int) < ((2 ^ c : Nat) : Int) := by omega
      have hDD : (0 : Int) < D := by omega
      have hm := Int.mul_pos hA hP
      cases s
      · refine decide_eq_false fun hT => ?_
        have := Int.mul_neg_of_neg_of_pos hT hDD
        rw [← h] at this
        have e1 : sv false A = A := by simp [sv]
        rw [e1] at this
        omega
      · refine decide_eq_true ?_
        refine Int.not_le.1 fun hT => ?_
        have := Int.mul_nonneg hT (Int.le_of_lt hDD)
        rw [← h] at this
        have e1 : sv true A = -A := by simp [sv]
        rw [e1, Int.neg_mul] at this
        omega
    have := near_dy s a d A D T.natAbs 0 c w ha hd (by omega) hD lA lD hc h1
    have e2 : Fl.lw T = Fl.wd s (Fl.rq T.natAbs 0) := by unfold Fl.lw; rw [hs]
    rw [e2]
    exact this
set_option maxHeartbeats 8000000 in
theorem ratfloat_any (B k c : Nat) (T : Int) (w : World) (hx : Rv w B T (2 ^ c) k) (hk : k ≤ 16000) (hc : c = 1074) :
    Calls Try.prog 34 #[.pointer (some ⟨B, 0, none⟩)] w fun e w' => NearP w (Fl.lw T) e w' := by
  obtain ⟨s, A, D, hR, h2, h3, h4⟩ := hx
  obtain ⟨v, h1, hv⟩ := hR.c1
  have h0 := hR.c0
  obtain ⟨va, vn, vc, rfl, _⟩ := nm_slice hv
  have CE : ∀ w', Fr w w' → w'.cell? ⟨B, 0, none⟩ = some (.bool s) ∧ w'.cell? ⟨B, 1, none⟩ = some (.slice va vn vc) := fun w' f =>
    ⟨(f.1.cell (p := ⟨B, 0, none⟩) hR.nw.1).trans h0, (f.1.cell (p := ⟨B, 1, none⟩) hR.nw.1).trans h1⟩
  have BL : Hid (∀ wz, Fr w wz → Calls Try.prog 44 #[.pointer (some ⟨B, 0, none⟩)] wz fun e w' => ∃ x, e = .returned x ∧ Nm w' x (den D) ∧ Fr w w' ∧ w'.cell? ⟨B, 0, none⟩ = some (.bool s) ∧ w'.cell? ⟨B, 1, none⟩ = some (.slice va vn vc)) := by
    intro wz hz'
    refine (below_any B s A D wz (hR.mono hz')).mono ?_
    rintro e w' ⟨x, rfl, hx', hf⟩
    exact ⟨x, rfl, hx', hz'.trans hf, CE _ (hz'.trans hf)⟩
  have NE : Hid (∀ wz dv, Fr w wz → Nm wz dv (den D) → Calls Try.prog 54 #[.bool s, .slice va vn vc, dv] wz fun e w' => ∃ b, e = .returned (.tuple #[.float .f64 (Fl.lw T), .bool b]) ∧ Fr w w' ∧ w'.cell? ⟨B, 0, none⟩ = some (.bool s) ∧ w'.cell? ⟨B, 1, none⟩ = some (.slice va vn vc)) := by
    intro wz dv hz' hd
    refine (near_sv s _ dv A (den D) c T wz (hv.mono hz') hd (den_pos _) (by omega) (by omega) hc h2).mono ?_
    rintro e w' ⟨b, rfl, hf⟩
    exact ⟨b, rfl, hz'.trans hf, CE _ (hz'.trans hf)⟩
  clear CE h2 hc
  go_enter Try.func34, Try.ntmps34
  go_wp2_with fail
  go_region_held (fun w' => w'.cell? ⟨B, 0, none⟩ = some (.bool s) ∧ w'.cell? ⟨B, 1, none⟩ = some (.slice va vn vc)) (go_keep) (first
    | (go_at_call 44; refine (BL.out _ ?_).mono ?_; exact (Fr.refl _).drew; rintro e w1 ⟨b1, rfl, hb1, f1, g1, g2⟩)
    | (go_at_call 54; refine (NE.out _ _ f1 hb1).mono ?_; rintro e w2 ⟨b2, rfl, f2, g3, g4⟩))
  all_goals (try go_wp2)
  all_goals go_ret2
  all_goals exact ⟨_, rfl, f2⟩
end Go.Proofs.Ythfdcembajhgcaa
