/-
  OWN TEXT: sines and cosines of fit floats, as they come out, are at most 1 without their signs.
-/
import Derived.Test.YtdbfhbpillgacaaJnAr
import Derived.Test.YtdbfhbpillgacaaRmD
set_option linter.unusedVariables false
set_option exponentiation.threshold 3000
namespace Go.Proofs.Ytdbfhbpillgacaa
/-- how far rounding goes -/
theorem rq_err (n d : Nat) (hf : Fl.rq n d < 9218868437227405312) : ∃ e, Fl.vl (Fl.rq n d) * 2 ^ d ≤ n + e ∧ n ≤ Fl.vl (Fl.rq n d) * 2 ^ d + e ∧ 4503599627370496 * e ≤ n + 4503599627370496 * 2 ^ d := by
  by_cases z : n = 0
  · subst z
    have : Fl.rq 0 d = 0 := by unfold Fl.rq; rfl
    rw [this, show Fl.vl 0 = 0 by decide]
    exact ⟨0, by omega, by omega, by omega⟩
  · obtain ⟨k, hk⟩ : ∃ k, k = n.log2 - (52 + d) := ⟨_, rfl⟩
    have hl := Fl.log2_lt n z
    have hl2 := Fl.log2_le n z
    have hp := Nat.two_pow_pos (k + d)
    have m1 : Fl.rne n (k + d) ≤ 9007199254740992 := by
      refine Fl.rne_le _ _ _ ?_
      rw [show (9007199254740992 : Nat) = 2 ^ 53 from rfl, ← Nat.pow_add]
      have : 2 ^ (n.log2 + 1) ≤ 2 ^ (53 + (k + d)) := Nat.pow_le_pow_right (by omega) (by omega)
      omega
    have m2 : k = 0 ∨ 4503599627370496 ≤ Fl.rne n (k + d) := by
      by_cases c : k = 0
      · exact Or.inl c
      · right
        refine Fl.le_rne _ _ _ ?_
        rw [show (4503599627370496 : Nat) = 2 ^ 52 from rfl, ← Nat.pow_add, show 52 + (k + d) = n.log2 by omega]
        exact hl2
    have er : Fl.rq n d = k * 4503599627370496 + Fl.rne n (k + d) := by
      unfold Fl.rq at hf ⊢
      rw [if_neg z, ← hk] at hf ⊢
      omega
    have ev : Fl.vl (Fl.rq n d) * 2 ^ d = Fl.rne n (k + d) * 2 ^ (k + d) := by
      rw [er, Fl.vl_comb k _ m1 m2, Nat.mul_assoc, ← Nat.pow_add]
    rw [ev]
    have hb := Fl.rne_bounds n (k + d)
    refine ⟨2 ^ (k + d), by omega, by omega, ?_⟩
    by_cases c : k = 0
    · rw [c, Nat.zero_add]; omega
    · have : 4503599627370496 * 2 ^ (k + d) ≤ n := by
        rw [show (4503599627370496 : Nat) = 2 ^ 52 from rfl, ← Nat.pow_add, show 52 + (k + d) = n.log2 by omega]
        exact hl2
      omega
theorem vT : Fl.vl 4603909380684499075 = 5734161139222659 * 2 ^ 1021 := by decide +kernel
theorem vA : Fl.vl 4609753056924401664 = 7074237751754752 * 2 ^ 1022 := by decide +kernel
theorem v20 : Fl.vl 4697254411347427328 = 4722366482869645213696 * 2 ^ 1022 := by decide +kernel
theorem lin1 (PG XG XT e G : Nat) (h : 2 * XT = 5734161139222659 * XG) (h1 : 4503599627370496 * PG ≤ XT + e) (h2 : 4503599627370496 * e ≤ XT + 4503599627370496 * (4503599627370496 * G)) :
  40564819207303340847894502572032 * PG ≤ 4503599627370496 * (5734161139222659 * XG) + 5734161139222659 * XG + 40564819207303340847894502572032 * G := by
  generalize 5734161139222659 * XG = Y at *
  subst h
  have a1 := Nat.mul_le_mul_left 9007199254740992 h1
  omega
theorem lin2 (PG XG XT e G : Nat) (h : 2 * XT = 5734161139222659 * XG) (h1 : XT ≤ 4503599627370496 * PG + e) (h2 : 4503599627370496 * e ≤ XT + 4503599627370496 * (4503599627370496 * G)) :
  4503599627370496 * (5734161139222659 * XG) ≤ 40564819207303340847894502572032 * PG + 5734161139222659 * XG + 40564819207303340847894502572032 * G := by
  generalize 5734161139222659 * XG = Y at *
  subst h
  have a1 := Nat.mul_le_mul_left 9007199254740992 h1
  omega
theorem lin3 (QC MC C f : Nat) (h1 : QC ≤ MC + f) (h2 : 4503599627370496 * f ≤ MC + 4503599627370496 * C) : 4503599627370496 * QC ≤ 4503599627370496 * MC + MC + 4503599627370496 * C := by
  have a := Nat.mul_le_mul_left 4503599627370496 h1
  omega
theorem lin4 (QC MC C f : Nat) (h1 : MC ≤ QC + f) (h2 : 4503599627370496 * f ≤ MC + 4503599627370496 * C) : 4503599627370496 * MC ≤ 4503599627370496 * QC + MC + 4503599627370496 * C := by
  have a := Nat.mul_le_mul_left 4503599627370496 h1
  omega
theorem fin1 (X P MG G : Nat) (hX : X ≤ 4722366482869645213696 * G)
    (k1 : 40564819207303340847894502572032 * P ≤ 4503599627370496 * (5734161139222659 * X) + 5734161139222659 * X + 40564819207303340847894502572032) (hG : 1 ≤ G)
    (b2 : 2 * (4503599627370496 * MG) ≤ 2 * P + 4503599627370496 * G) : MG ≤ 1048576 * G := by omega
theorem fin2 (X P MG Q G : Nat) (hG : 1 ≤ G) (hX : X ≤ 4722366482869645213696 * G) (hm : MG ≤ 1048576 * G)
    (k2 : 4503599627370496 * (5734161139222659 * X) ≤ 40564819207303340847894502572032 * P + 5734161139222659 * X + 40564819207303340847894502572032)
    (b1 : 2 * P ≤ 2 * (4503599627370496 * MG) + 4503599627370496 * G)
    (j2 : 4503599627370496 * (7074237751754752 * MG) ≤ 4503599627370496 * Q + 7074237751754752 * MG + 4503599627370496) : X ≤ Q + 3602879701896396 * G := by
  omega
theorem fin3 (X P MG Q G : Nat) (hG : 1 ≤ G) (hX : X ≤ 4722366482869645213696 * G) (hm : MG ≤ 1048576 * G)
    (k1 : 40564819207303340847894502572032 * P ≤ 4503599627370496 * (5734161139222659 * X) + 5734161139222659 * X + 40564819207303340847894502572032)
    (b2 : 2 * (4503599627370496 * MG) ≤ 2 * P + 4503599627370496 * G)
    (j1 : 4503599627370496 * Q ≤ 4503599627370496 * (7074237751754752 * MG) + 7074237751754752 * MG + 4503599627370496) : Q ≤ X + 3602879701896396 * G := by
  omega
/-- the float less its quarters' first piece -/
theorem less_first (c g X p M : Nat) (hc : c = 1074) (hg : g = 1022) (hX : X ≤ Fl.vl 4697254411347427328) (hp : p = Fl.rq (X * Fl.vl 4603909380684499075) c) (hpf : p < 9218868437227405312) (hM : M = Fl.rne (Fl.vl p) c) (hq : Fl.rq (M * 2 ^ c * Fl.vl 4609753056924401664) c < 9218868437227405312) :
    X ≤ Fl.vl (Fl.rq (M * 2 ^ c * Fl.vl 4609753056924401664) c) + 3602879701896396 * 2 ^ g ∧ Fl.vl (Fl.rq (M * 2 ^ c * Fl.vl 4609753056924401664) c) ≤ X + 3602879701896396 * 2 ^ g ∧ M ≤ 1048576 := by
  obtain ⟨e, e1, e2, e3⟩ := rq_err (X * Fl.vl 4603909380684499075) c (by rw [← hp]; exact hpf)
  rw [← hp] at e1 e2
  have b := Fl.rne_bounds (Fl.vl p) c
  rw [← hM] at b
  obtain ⟨f, f1, f2, f3⟩ := rq_err (M * 2 ^ c * Fl.vl 4609753056924401664) c hq
  generalize Fl.vl (Fl.rq (M * 2 ^ c * Fl.vl 4609753056924401664) c) = Q at *
  rw [v20] at hX
  have h1 : (2 : Nat) ^ c = 4503599627370496 * 2 ^ g := by rw [hc, hg, show (4503599627370496 : Nat) = 2 ^ 52 from rfl, ← Nat.pow_add]
  have h2 : Fl.vl 4603909380684499075 * 2 = 5734161139222659 * 2 ^ g := by
    rw [vT, hg, Nat.mul_assoc]
  have h3 : Fl.vl 4609753056924401664 = 7074237751754752 * 2 ^ g := by rw [vA, hg]
  rw [← hg] at hX
  obtain ⟨G, hG⟩ : ∃ G, G = 2 ^ g := ⟨_, rfl⟩
  have hG1 : 1 ≤ G := by rw [hG]; exact Nat.two_pow_pos g
  rw [← hG] at h1 h2 h3 hX ⊢
  have hXT : 2 * (X * Fl.vl 4603909380684499075) = 5734161139222659 * (X * G) := by rw [Nat.mul_comm 2, Nat.mul_assoc, h2, Nat.mul_left_comm]
  have hPG : Fl.vl p * 2 ^ c = 4503599627370496 * (Fl.vl p * G) := by rw [h1, Nat.mul_left_comm]
  rw [hPG] at e1 e2
  rw [h1] at e3
  have l1 := lin1 _ _ _ _ G hXT e1 e3
  have l2 := lin2 _ _ _ _ G hXT e2 e3
  have k1 : 40564819207303340847894502572032 * Fl.vl p ≤ 4503599627370496 * (5734161139222659 * X) + 5734161139222659 * X + 40564819207303340847894502572032 := by
    refine Nat.le_of_mul_le_mul_right (c := G) ?_ hG1
    rw [Nat.add_mul, Nat.add_mul, Nat.mul_assoc, Nat.mul_assoc 4503599627370496, Nat.mul_assoc 5734161139222659]
    exact l1
  have k2 : 4503599627370496 * (5734161139222659 * X) ≤ 40564819207303340847894502572032 * Fl.vl p + 5734161139222659 * X + 40564819207303340847894502572032 := by
    refine Nat.le_of_mul_le_mul_right (c := G) ?_ hG1
    rw [Nat.add_mul, Nat.add_mul, Nat.mul_assoc, Nat.mul_assoc 5734161139222659, Nat.mul_assoc 40564819207303340847894502572032]
    exact l2
  have hMG : M * 2 ^ c = 4503599627370496 * (M * G) := by rw [h1, Nat.mul_left_comm]
  have hMA : M * 2 ^ c * Fl.vl 4609753056924401664 = 7074237751754752 * (M * G) * 2 ^ c := by rw [h3, Nat.mul_assoc, Nat.mul_comm (2 ^ c), ← Nat.mul_assoc, Nat.mul_left_comm M]
  rw [hMA] at f1 f2 f3
  have hC : 0 < 2 ^ c := Nat.two_pow_pos c
  have m1 := lin3 _ _ _ _ f1 f3
  have m2 := lin4 _ _ _ _ f2 f3
  have j1 : 4503599627370496 * Q ≤ 4503599627370496 * (7074237751754752 * (M * G)) + 7074237751754752 * (M * G) + 4503599627370496 := by
    refine Nat.le_of_mul_le_mul_right (c := 2 ^ c) ?_ hC
    rw [Nat.add_mul, Nat.add_mul, Nat.mul_assoc, Nat.mul_assoc 4503599627370496 (7074237751754752 * (M * G))]
    exact m1
  have j2 : 4503599627370496 * (7074237751754752 * (M * G)) ≤ 4503599627370496 * Q + 7074237751754752 * (M * G) + 4503599627370496 := by
    refine Nat.le_of_mul_le_mul_right (c := 2 ^ c) ?_ hC
    rw [Nat.add_mul, Nat.add_mul, Nat.mul_assoc, Nat.mul_assoc 4503599627370496 Q]
    exact m2
  rw [hMG, h1] at b
  have hm := fin1 X (Fl.vl p) (M * G) G hX k1 hG1 b.1
  exact ⟨fin2 X (Fl.vl p) (M * G) Q G hG1 hX hm k2 b.2 j2, fin3 X (Fl.vl p) (M * G) Q G hG1 hX hm k1 b.1 j1, Nat.le_of_mul_le_mul_right hm hG1⟩
end Go.Proofs.Ytdbfhbpillgacaa
