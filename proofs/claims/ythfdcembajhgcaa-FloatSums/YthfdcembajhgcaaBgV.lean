/-
  OWN TEXT: what the methods below, Sign, Cmp of package eddybig's fractions return; sums of its whole numbers.
-/
import Derived.Test.YthfdcembajhgcaaBgU
import Derived.Deep.RegionHeld
namespace Go.Proofs.Ythfdcembajhgcaa
open Go.ChangeShapes Go.WideShapes Go.ChangeAt Go.RowKit
open Bg
set_option linter.unusedVariables false
def sv (s : Bool) (A : Nat) : Int := if s then -(A : Int) else A
def sgI (s : Bool) (A : Nat) : Int := if A = 0 then 0 else if s then -1 else 1
def crI (x y : Int) : Int := if x < y then -1 else if x = y then 0 else 1
theorem nm_ones (w : World) : Nm (w.alloc (.cells #[.int .u32 1] 71)) (.slice (some ⟨w.heap.size, 0, none⟩) 1 1) 1 := by
  refine ⟨_, [1], 1, rfl, Nat.le_refl _, by omega, Or.inr ⟨w.heap.size, 0, rfl, by simp, fun i hi => ?_⟩, ?_, by simp [vL], by simp [tn]⟩
  · have : i = 0 := by simpa using hi
    subst this
    simp
  · intro i
    rcases i with _ | i <;> simp
set_option maxHeartbeats 4000000 in
theorem below_any (B : Nat) (s : Bool) (A D : Nat) (w : World) (h : Rt w B s A D) :
    Calls Try.prog 44 #[.pointer (some ⟨B, 0, none⟩)] w fun e w' => ∃ v, e = .returned v ∧ Nm w' v (den D) ∧ Fr w w' := by
  obtain ⟨v, h1, h2⟩ := h.c2
  obtain ⟨a, n, c, rfl, hn⟩ := nm_slice h2
  by_cases hD : D = 0
  · have hn0 : n = 0 := hn.2 hD
    subst hn0
    subst hD
    go_enter Try.func44, Try.ntmps44
    go_wp2
    go_ret
    refine ⟨_, rfl, ?_, (Fr.refl _).alloc _ _⟩
    exact nm_ones w
  · have hn0 : (n : Int) ≠ 0 := by have := mt hn.1 hD; omega
    have hn0B : ((n : Int) == 0) = false := beq_eq_false_iff_ne.2 hn0
    go_enter Try.func44, Try.ntmps44
    go_wp2
    go_ret
    refine ⟨_, rfl, ?_, Fr.refl _⟩
    rw [show den D = D by unfold den; rw [if_neg hD]]
    exact h2
theorem isign_any (B : Nat) (s : Bool) (A : Nat) (w : World) (v : Value) (h0 : w.cell? ⟨B, 0, none⟩ = some (.bool s)) (h1 : w.cell? ⟨B, 1, none⟩ = some v) (h2 : Nm w v A) :
    Calls Try.prog 66 #[.pointer (some ⟨B, 0, none⟩)] w fun e w' => e = .returned (.int .i64 (sgI s A)) ∧ w' = w := by
  obtain ⟨a, n, c, rfl, hn⟩ := nm_slice h2
  by_cases hD : A = 0
  · have hn0 : n = 0 := hn.2 hD
    subst hn0
    subst hD
    go_enter Try.func66, Try.ntmps66
    go_wp2
    go_ret
    exact ⟨rfl, rfl⟩
  · have hn0 : (n : Int) ≠ 0 := by have := mt hn.1 hD; omega
    have hn0B : ((n : Int) == 0) = false := beq_eq_false_iff_ne.2 hn0
    cases s
    all_goals
      go_enter Try.func66, Try.ntmps66
      go_wp2
      go_ret
      exact ⟨by unfold sgI; rw [if_neg hD]; rfl, rfl⟩
theorem sign_any (B : Nat) (s : Bool) (A D : Nat) (w : World) (h : Rt w B s A D) :
    Calls Try.prog 45 #[.pointer (some ⟨B, 0, none⟩)] w fun e w' => e = .returned (.int .i64 (sgI s A)) ∧ w' = w := by
  obtain ⟨v, h1, h2⟩ := h.c1
  go_enter Try.func45, Try.ntmps45
  go_wp2_with fail
  refine (isign_any B s A _ v h.c0 h1 h2).mono ?_
  rintro e w1 ⟨rfl, rfl⟩
  go_wp2
  go_ret
  exact ⟨rfl, rfl⟩
theorem sgI_cases (s : Bool) (A : Nat) : (sgI s A = -1 ∧ A ≠ 0 ∧ s = true) ∨ (sgI s A = 0 ∧ A = 0) ∨ (sgI s A = 1 ∧ A ≠ 0 ∧ s = false) := by
  unfold sgI
  by_cases h : A = 0
  · simp [h]
  · cases s <;> simp [h]
theorem log2_mul (a b : Nat) : (a * b).log2 ≤ a.log2 + b.log2 + 1 := by
  by_cases z : a * b = 0
  · rw [z]; simp
  · have h1 := Nat.lt_log2_self (n := a)
    have h2 := Nat.lt_log2_self (n := b)
    have h3 : a * b < 2 ^ (a.log2 + 1) * 2 ^ (b.log2 + 1) := Nat.mul_lt_mul_of_lt_of_lt h1 h2
    rw [← Nat.pow_add] at h3
    have := (Nat.log2_lt z).2 h3
    omega
theorem cr_lt (s t : Bool) (A E d f : Nat) (hd : 0 < d) (hf : 0 < f) (h : sgI s A < sgI t E) : crI (sv s A * f) (sv t E * d) = -1 := by
  have : sv s A * f < sv t E * d := by
    rcases sgI_cases s A with ⟨a, b, c⟩ | ⟨a, b⟩ | ⟨a, b, c⟩ <;> rcases sgI_cases t E with ⟨a', b', c'⟩ | ⟨a', b'⟩ | ⟨a', b', c'⟩ <;> rw [a, a'] at h <;> (try omega)
    · subst b' c
      have := Nat.mul_pos (Nat.pos_of_ne_zero b) hf
      have e1 : sv true A * (f : Int) = -((A * f : Nat) : Int) := by simp [sv, Int.neg_mul]
      have e2 : sv t 0 * (d : Int) = 0 := by cases t <;> simp [sv]
      rw [e1, e2]; omega
    · subst c c'
      have := Nat.mul_pos (Nat.pos_of_ne_zero b) hf
      have := Nat.mul_pos (Nat.pos_of_ne_zero b') hd
      have e1 : sv true A * (f : Int) = -((A * f : Nat) : Int) := by simp [sv, Int.neg_mul]
      have e2 : sv false E * (d : Int) = ((E * d : Nat) : Int) := by simp [sv]
      rw [e1, e2]; omega
    · subst b c'
      have := Nat.mul_pos (Nat.pos_of_ne_zero b') hd
      have e2 : sv false E * (d : Int) = ((E * d : Nat) : Int) := by simp [sv]
      rw [e2]; simp [sv]; omega
  unfold crI
  rw [if_pos this]
theorem crI_swap (x y : Int) : crI x y = - crI y x := by
  unfold crI
  split <;> (try split) <;> (try split) <;> omega
theorem cr_gt (s t : Bool) (A E d f : Nat) (hd : 0 < d) (hf : 0 < f) (h : sgI t E < sgI s A) : crI (sv s A * f) (sv t E * d) = 1 := by
  rw [crI_swap, cr_lt t s E A f d hf hd h]; rfl
theorem cr_no (s t : Bool) (d f : Nat) : crI (sv s 0 * f) (sv t 0 * d) = 0 := by
  have : sv s 0 = 0 := by cases s <;> rfl
  have h2 : sv t 0 = 0 := by cases t <;> rfl
  rw [this, h2]; simp [crI]
theorem cr_same (s : Bool) (A E d f : Nat) : crI (sv s A * f) (sv s E * d) = if s then - cmpI (A * f) (E * d) else cmpI (A * f) (E * d) := by
  cases s
  · have e1 : sv false A * (f : Int) = ((A * f : Nat) : Int) := by simp [sv]
    have e2 : sv false E * (d : Int) = ((E * d : Nat) : Int) := by simp [sv]
    rw [e1, e2]
    unfold crI cmpI
    generalize A * f = a
    generalize E * d = b
    simp only [Bool.false_eq_true, if_false]
    split <;> (try split) <;> (try split) <;> (try split) <;> omega
  · have e1 : sv true A * (f : Int) = -((A * f : Nat) : Int) := by simp [sv, Int.neg_mul]
    have e2 : sv true E * (d : Int) = -((E * d : Nat) : Int) := by simp [sv, Int.neg_mul]
    rw [e1, e2]
    unfold crI cmpI
    generalize A * f = a
    generalize E * d = b
    simp only [if_true]
    split <;> (try split) <;> (try split) <;> (try split) <;> omega
set_option maxHeartbeats 8000000 in
theorem cmp_any (B C : Nat) (s t : Bool) (A D E F : Nat) (w : World) (h : Rt w B s A D) (k : Rt w C t E F) (hA : A.log2 < 32000000) (hD : (den D).log2 < 32000000) (hE : E.log2 < 32000000) (hF : (den F).log2 < 32000000) :
    Calls Try.prog 26 #[.pointer (some ⟨B, 0, none⟩), .pointer (some ⟨C, 0, none⟩)] w fun e w' => e = .returned (.int .i64 (crI (sv s A * den F) (sv t E * den D))) ∧ Fr w w' := by
  obtain ⟨v, h1, h2⟩ := h.c1
  obtain ⟨u, k1, k2⟩ := k.c1
  have h0 := h.c0
  have k0 := k.c0
  have S1 : Hid (Calls Try.prog 45 #[.pointer (some ⟨B, 0, none⟩)] w fun e w' => e = .returned (.int .i64 (sgI s A)) ∧ w' = w) := sign_any B s A D w h
  have S2 : Hid (Calls Try.prog 45 #[.pointer (some ⟨C, 0, none⟩)] w fun e w' => e = .returned (.int .i64 (sgI t E)) ∧ w' = w) := sign_any C t E F w k
  have HLT : Hid _ := cr_lt s t A E (den D) (den F) (den_pos _) (den_pos _)
  have HGT : Hid _ := cr_gt s t A E (den D) (den F) (den_pos _) (den_pos _)
  by_cases hc : sgI s A ≠ sgI t E ∨ sgI s A = 0
  · have HR : Hid (crI (sv s A * den F) (sv t E * den D) = if sgI s A < sgI t E then -1 else if sgI t E < sgI s A then 1 else 0) := by
      show _ = _
      split
      · next c => exact HLT.out c
      · split
        · next c => exact HGT.out c
        · have e1 : sgI s A = 0 := by rcases hc with c | c <;> omega
          have e2 : sgI t E = 0 := by omega
          rcases sgI_cases s A with ⟨a, _⟩ | ⟨_, b⟩ | ⟨a, _⟩ <;> rcases sgI_cases t E with ⟨a', _⟩ | ⟨_, b'⟩ | ⟨a', _⟩ <;> (try omega)
          subst b b'
          exact cr_no _ _ _ _
    rw [HR.out]
    clear HLT HGT HR
    have hr1 : -1 ≤ sgI s A ∧ sgI s A ≤ 1 := by rcases sgI_cases s A with ⟨a, _⟩ | ⟨a, _⟩ | ⟨a, _⟩ <;> omega
    have hr2 : -1 ≤ sgI t E ∧ sgI t E ≤ 1 := by rcases sgI_cases t E with ⟨a, _⟩ | ⟨a, _⟩ | ⟨a, _⟩ <;> omega
    generalize sgI s A = x at *
    generalize sgI t E = y at *
    obtain ⟨r1, r2⟩ := hr1
    obtain ⟨r3, r4⟩ := hr2
    have hx : x = -1 ∨ x = 0 ∨ x = 1 := by omega
    have hy : y = -1 ∨ y = 0 ∨ y = 1 := by omega
    clear r1 r2 r3 r4
    rcases hx with rfl | rfl | rfl <;> rcases hy with rfl | rfl | rfl <;> (try (exfalso; omega))
    all_goals
      clear hc
      go_enter Try.func26, Try.ntmps26
      go_wp2_with (first
        | (go_at_call_of 45 B; refine S1.out.mono ?_; rintro e wq ⟨rfl, rfl⟩)
        | (go_at_call_of 45 C; refine S2.out.mono ?_; rintro e wq ⟨rfl, rfl⟩))
      go_ret
      exact ⟨rfl, Fr.refl _⟩
  · have e1 : sgI s A = sgI t E := by omega
    have e2 : sgI s A ≠ 0 := by omega
    have hst : s = t := by
      rcases sgI_cases s A with ⟨a, _, c⟩ | ⟨a, _⟩ | ⟨a, _, c⟩ <;> rcases sgI_cases t E with ⟨a', _, c'⟩ | ⟨a', _⟩ | ⟨a', _, c'⟩ <;> (try omega)
      · rw [c, c']
      · rw [c, c']
    subst hst
    rw [cr_same]
    rw [← e1] at S2
    have hr1 : sgI s A = if s then -1 else 1 := by
      rcases sgI_cases s A with ⟨a, _, c⟩ | ⟨a, _⟩ | ⟨a, _, c⟩
      · rw [a, c]; rfl
      · exact absurd a e2
      · rw [a, c]; rfl
    rw [hr1] at S1 S2
    clear HLT HGT hc e1 e2 hr1
    obtain ⟨va, vn, vc, rfl, _⟩ := nm_slice h2
    obtain ⟨ua, un, uc, rfl, _⟩ := nm_slice k2
    have CE : ∀ w', Fr w w' → w'.cell? ⟨B, 1, none⟩ = some (.slice va vn vc) ∧ w'.cell? ⟨C, 1, none⟩ = some (.slice ua un uc) ∧ w'.cell? ⟨B, 0, none⟩ = some (.bool s) := fun w' f =>
      ⟨(f.1.cell (p := ⟨B, 1, none⟩) h.nw.1).trans h1, (f.1.cell (p := ⟨C, 1, none⟩) k.nw.1).trans k1, (f.1.cell (p := ⟨B, 0, none⟩) h.nw.1).trans h0⟩
    have BL2 : Hid (∀ wz, Fr w wz → Calls Try.prog 44 #[.pointer (some ⟨C, 0, none⟩)] wz fun e w' => ∃ x, e = .returned x ∧ Nm w' x (den F) ∧ Fr wz w' ∧ Fr w w' ∧ w'.cell? ⟨B, 1, none⟩ = some (.slice va vn vc) ∧ w'.cell? ⟨C, 1, none⟩ = some (.slice ua un uc) ∧ w'.cell? ⟨B, 0, none⟩ = some (.bool s)) := by
      intro wz hz
      refine (below_any C s E F wz (k.mono hz)).mono ?_
      rintro e w' ⟨x, rfl, hx, hf⟩
      exact ⟨x, rfl, hx, hf, hz.trans hf, CE _ (hz.trans hf)⟩
    have BL1 : Hid (∀ wz, Fr w wz → Calls Try.prog 44 #[.pointer (some ⟨B, 0, none⟩)] wz fun e w' => ∃ x, e = .returned x ∧ Nm w' x (den D) ∧ Fr wz w' ∧ Fr w w' ∧ w'.cell? ⟨B, 1, none⟩ = some (.slice va vn vc) ∧ w'.cell? ⟨C, 1, none⟩ = some (.slice ua un uc) ∧ w'.cell? ⟨B, 0, none⟩ = some (.bool s)) := by
      intro wz hz
      refine (below_any B s A D wz (h.mono hz)).mono ?_
      rintro e w' ⟨x, rfl, hx, hf⟩
      exact ⟨x, rfl, hx, hf, hz.trans hf, CE _ (hz.trans hf)⟩
    have M1 : Hid (∀ wz v1, Fr w wz → Nm wz v1 (den F) → Calls Try.prog 43 #[.slice va vn vc, v1] wz fun e w' => ∃ x, e = .returned x ∧ Nm w' x (A * den F) ∧ Fr wz w' ∧ Fr w w' ∧ w'.cell? ⟨B, 1, none⟩ = some (.slice va vn vc) ∧ w'.cell? ⟨C, 1, none⟩ = some (.slice ua un uc) ∧ w'.cell? ⟨B, 0, none⟩ = some (.bool s)) := by
      intro wz v1 hz hm
      refine (mulWords_any _ v1 A (den F) wz (h2.mono hz) hm hA hF).mono ?_
      rintro e w' ⟨x, rfl, hx, hf⟩
      exact ⟨x, rfl, hx, hf, hz.trans hf, CE _ (hz.trans hf)⟩
    have M2 : Hid (∀ wz v1, Fr w wz → Nm wz v1 (den D) → Calls Try.prog 43 #[.slice ua un uc, v1] wz fun e w' => ∃ x, e = .returned x ∧ Nm w' x (E * den D) ∧ Fr wz w' ∧ Fr w w' ∧ w'.cell? ⟨B, 1, none⟩ = some (.slice va vn vc) ∧ w'.cell? ⟨C, 1, none⟩ = some (.slice ua un uc) ∧ w'.cell? ⟨B, 0, none⟩ = some (.bool s)) := by
      intro wz v1 hz hm
      refine (mulWords_any _ v1 E (den D) wz (k2.mono hz) hm hE hD).mono ?_
      rintro e w' ⟨x, rfl, hx, hf⟩
      exact ⟨x, rfl, hx, hf, hz.trans hf, CE _ (hz.trans hf)⟩
    have CM : Hid (∀ wz a b, Fr w wz → Nm wz a (A * den F) → Nm wz b (E * den D) → Calls Try.prog 46 #[a, b] wz fun e w' => e = .returned (.int .i64 (cmpI (A * den F) (E * den D))) ∧ Fr w w' ∧ w'.cell? ⟨B, 0, none⟩ = some (.bool s) ∧ w'.cell? ⟨B, 1, none⟩ = some (.slice va vn vc) ∧ w'.cell? ⟨C, 1, none⟩ = some (.slice ua un uc)) := by
      intro wz a b hz ha hb
      refine (cmpWords_any a b _ _ wz ha hb).mono ?_
      rintro e w' ⟨rfl, hf⟩
      exact ⟨rfl, hz.trans hf, (CE _ (hz.trans hf)).2.2, (CE _ (hz.trans hf)).1, (CE _ (hz.trans hf)).2.1⟩
    have hci : -1 ≤ cmpI (A * den F) (E * den D) ∧ cmpI (A * den F) (E * den D) ≤ 1 := by
      unfold cmpI; split
      · omega
      · split <;> omega
    generalize cmpI (A * den F) (E * den D) = ci at *
    generalize A * den F = x1 at *
    generalize E * den D = x2 at *
    obtain ⟨ci1, ci2⟩ := hci
    clear CE hA hD hE hF h k
    have hsg : ∃ σ : Int, σ = (if s then -1 else 1) ∧ ((σ == 0) = false) ∧ σ ≠ 0 := by cases s <;> exact ⟨_, rfl, rfl, by decide⟩
    obtain ⟨σ, hσ, hσ1, hσ2⟩ := hsg
    rw [← hσ] at S1 S2
    clear hσ
    go_enter Try.func26, Try.ntmps26
    go_wp2_with (first
      | (go_at_call_of 45 B; refine S1.out.mono ?_; rintro e wq ⟨rfl, rfl⟩)
      | (go_at_call_of 45 C; refine S2.out.mono ?_; rintro e wq ⟨rfl, rfl⟩))
    go_region_held (fun w' => w'.cell? ⟨B, 1, none⟩ = some (.slice va vn vc) ∧ w'.cell? ⟨C, 1, none⟩ = some (.slice ua un uc)) (go_keep) (first
      | (go_at_call_of 44 C; refine (BL2.out _ ?_).mono ?_; exact (Fr.refl _).drew; rintro e w1 ⟨b1, rfl, hb1, f1, f1', g11, g12, g13⟩)
      | (go_at_call_of 43 b1; refine (M1.out _ _ f1' hb1).mono ?_; rintro e w2 ⟨m1, rfl, hm1, f2, f2', g21, g22, g23⟩)
      | (go_at_call_of 44 B; refine (BL1.out _ f2').mono ?_; rintro e w3 ⟨b2, rfl, hb2, f3, f3', g31, g32, g33⟩)
      | (go_at_call_of 43 b2; refine (M2.out _ _ f3' hb2).mono ?_; rintro e w4 ⟨m2, rfl, hm2, f4, f4', g41, g42, g43⟩)
      | (go_at_call 46; refine (CM.out _ _ _ f4' ((hm1.mono f3).mono f4) hm2).mono ?_; rintro e w5 ⟨rfl, f5', g53, g51, g52⟩))
    all_goals cases s
    all_goals (try go_wp2)
    all_goals go_ret
    all_goals exact ⟨by simp, f5'⟩
end Go.Proofs.Ythfdcembajhgcaa
