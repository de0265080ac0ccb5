/-
  OWN TEXT: the logarithms of powers of two; logarithms of finite floats are finite.
-/
import Derived.Test.YthcohikeomkmeaaEtA
namespace Go.Proofs.Ythcohikeomkmeaa
open Go.ChangeShapes Go.WideShapes Go.ChangeAt Go.RowKit
set_option linter.unusedVariables false
theorem pt_facts {x : Nat} (hx : x < 18446744073709551616) (hf : Fl.rg x < 9218868437227405312) (hz : ¬ Fl.rg x = 0) :
    paF x < 18446744073709551616 ∧ Fl.sg (paF x) = Fl.sg x ∧ Fl.rg (paF x) < 4607182418800017408 ∧ -1073 ≤ paE x ∧ paE x ≤ 1024 := by
  obtain ⟨y1, y2, y3, y4, c1, c2, v1⟩ := nm_facts hx hf hz
  have e1 : paE x = ptE x := if_neg (by omega)
  have e2 : paF x = ptF x := if_neg (by omega)
  have h : 4602678819172646912 + Fl.rg (nmF x) % 4503599627370496 < 4607182418800017408 := by omega
  rw [e1, e2]
  unfold ptF ptE
  rw [Fl.sg_wd _ _ (by omega), Fl.rg_wd _ _ (by omega)]
  refine ⟨Fl.wd_lt _ _ (by omega), rfl, h, ?_, ?_⟩ <;> omega
/-- logarithms of finite floats above nought are small -/
theorem logF_bd {x y : Nat} (hx : x < 18446744073709551616) (hf : Fl.rg x < 9218868437227405312) (hz : ¬ Fl.rg x = 0) (hs : Fl.sg x = false) (h : logF x y) : Bd y 4650248090236747776 := by
  obtain ⟨p1, p2, p3, p4, p5⟩ := pt_facts hx hf hz
  rw [hs] at p2
  unfold logF at h
  by_cases c : Fl.ltF (paF x) 4604544271217802189 = true
  · rw [if_pos c] at h
    obtain ⟨m, h1, h2⟩ := h
    have e := h1.word (Fl.mul_two (x := paF x) (by omega))
    have b := bd_mul (a := 4611686018427387904) (ra := 4611686018427387904) (b := paF x) (rb := 4607182418800017408) ⟨by decide, by decide⟩ ⟨p1, by omega⟩ (by decide) (by decide) h1
    refine logP_bd b.1 ?_ (Nat.le_trans b.2 (by decide +kernel)) (by omega) (by omega) h2
    rw [e, p2]
    exact Fl.sg_wd _ _ (by have := Fl.rq_le (Fl.vl (Fl.rg (paF x)) * 2) 0; omega)
  · rw [if_neg c] at h
    exact logP_bd p1 p2 (by omega) (by omega) (by omega) h
/-- of a power of two: its parts; k * L and nought -/
def twoV (k : Int) : Bool :=
  let v := scF 4607182418800017408 k
  if k < 1024 then decide (v < 9218868437227405312) && !decide (v = 0) && decide (paF v = 4602678819172646912) && decide (paE v = k + 1)
    && (match opV .mul (floatOfInt .f64 k) 4461442080421002358 with | some nl => decide (opV .add nl 0 = some nl) | none => false)
  else decide (v = 9218868437227405312)
theorem two_0 : ∀ k : Fin 130, twoV ((k.val : Int) - 1074) = true := by decide +kernel
theorem two_1 : ∀ k : Fin 130, twoV ((k.val : Int) - 944) = true := by decide +kernel
theorem two_2 : ∀ k : Fin 130, twoV ((k.val : Int) - 814) = true := by decide +kernel
theorem two_3 : ∀ k : Fin 130, twoV ((k.val : Int) - 684) = true := by decide +kernel
theorem two_4 : ∀ k : Fin 130, twoV ((k.val : Int) - 554) = true := by decide +kernel
theorem two_5 : ∀ k : Fin 130, twoV ((k.val : Int) - 424) = true := by decide +kernel
theorem two_6 : ∀ k : Fin 130, twoV ((k.val : Int) - 294) = true := by decide +kernel
theorem two_7 : ∀ k : Fin 130, twoV ((k.val : Int) - 164) = true := by decide +kernel
theorem two_8 : ∀ k : Fin 130, twoV ((k.val : Int) - 34) = true := by decide +kernel
theorem two_9 : ∀ k : Fin 130, twoV ((k.val : Int) + 96) = true := by decide +kernel
theorem two_10 : ∀ k : Fin 130, twoV ((k.val : Int) + 226) = true := by decide +kernel
theorem two_11 : ∀ k : Fin 130, twoV ((k.val : Int) + 356) = true := by decide +kernel
theorem two_12 : ∀ k : Fin 130, twoV ((k.val : Int) + 486) = true := by decide +kernel
theorem two_13 : ∀ k : Fin 130, twoV ((k.val : Int) + 616) = true := by decide +kernel
theorem two_14 : ∀ k : Fin 130, twoV ((k.val : Int) + 746) = true := by decide +kernel
theorem two_15 : ∀ k : Fin 130, twoV ((k.val : Int) + 876) = true := by decide +kernel
theorem two_16 : ∀ k : Fin 69, twoV ((k.val : Int) + 1006) = true := by decide +kernel
theorem two_all (k : Int) (h1 : -1074 ≤ k) (h2 : k ≤ 1074) : twoV k = true := by
  by_cases c0 : k ≤ -945
  · have h := two_0 ⟨(k - (-1074)).toNat, by omega⟩
    simp only [show (((k - (-1074)).toNat : Nat) : Int) - 1074 = k by omega] at h
    exact h
  by_cases c1 : k ≤ -815
  · have h := two_1 ⟨(k - (-944)).toNat, by omega⟩
    simp only [show (((k - (-944)).toNat : Nat) : Int) - 944 = k by omega] at h
    exact h
  by_cases c2 : k ≤ -685
  · have h := two_2 ⟨(k - (-814)).toNat, by omega⟩
    simp only [show (((k - (-814)).toNat : Nat) : Int) - 814 = k by omega] at h
    exact h
  by_cases c3 : k ≤ -555
  · have h := two_3 ⟨(k - (-684)).toNat, by omega⟩
    simp only [show (((k - (-684)).toNat : Nat) : Int) - 684 = k by omega] at h
    exact h
  by_cases c4 : k ≤ -425
  · have h := two_4 ⟨(k - (-554)).toNat, by omega⟩
    simp only [show (((k - (-554)).toNat : Nat) : Int) - 554 = k by omega] at h
    exact h
  by_cases c5 : k ≤ -295
  · have h := two_5 ⟨(k - (-424)).toNat, by omega⟩
    simp only [show (((k - (-424)).toNat : Nat) : Int) - 424 = k by omega] at h
    exact h
  by_cases c6 : k ≤ -165
  · have h := two_6 ⟨(k - (-294)).toNat, by omega⟩
    simp only [show (((k - (-294)).toNat : Nat) : Int) - 294 = k by omega] at h
    exact h
  by_cases c7 : k ≤ -35
  · have h := two_7 ⟨(k - (-164)).toNat, by omega⟩
    simp only [show (((k - (-164)).toNat : Nat) : Int) - 164 = k by omega] at h
    exact h
  by_cases c8 : k ≤ 95
  · have h := two_8 ⟨(k - (-34)).toNat, by omega⟩
    simp only [show (((k - (-34)).toNat : Nat) : Int) - 34 = k by omega] at h
    exact h
  by_cases c9 : k ≤ 225
  · have h := two_9 ⟨(k - (96)).toNat, by omega⟩
    simp only [show (((k - (96)).toNat : Nat) : Int) + 96 = k by omega] at h
    exact h
  by_cases c10 : k ≤ 355
  · have h := two_10 ⟨(k - (226)).toNat, by omega⟩
    simp only [show (((k - (226)).toNat : Nat) : Int) + 226 = k by omega] at h
    exact h
  by_cases c11 : k ≤ 485
  · have h := two_11 ⟨(k - (356)).toNat, by omega⟩
    simp only [show (((k - (356)).toNat : Nat) : Int) + 356 = k by omega] at h
    exact h
  by_cases c12 : k ≤ 615
  · have h := two_12 ⟨(k - (486)).toNat, by omega⟩
    simp only [show (((k - (486)).toNat : Nat) : Int) + 486 = k by omega] at h
    exact h
  by_cases c13 : k ≤ 745
  · have h := two_13 ⟨(k - (616)).toNat, by omega⟩
    simp only [show (((k - (616)).toNat : Nat) : Int) + 616 = k by omega] at h
    exact h
  by_cases c14 : k ≤ 875
  · have h := two_14 ⟨(k - (746)).toNat, by omega⟩
    simp only [show (((k - (746)).toNat : Nat) : Int) + 746 = k by omega] at h
    exact h
  by_cases c15 : k ≤ 1005
  · have h := two_15 ⟨(k - (876)).toNat, by omega⟩
    simp only [show (((k - (876)).toNat : Nat) : Int) + 876 = k by omega] at h
    exact h
  by_cases c16 : k ≤ 1074
  · have h := two_16 ⟨(k - (1006)).toNat, by omega⟩
    simp only [show (((k - (1006)).toNat : Nat) : Int) + 1006 = k by omega] at h
    exact h
  omega
theorem odd_zero : oddV 0 = some 0 := by decide +kernel
end Go.Proofs.Ythcohikeomkmeaa
