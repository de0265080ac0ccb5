/-
  OWN TEXT: a float by its parts: scaled to a half and more, and back; what is as great or greater stays so.
-/
import Derived.Test.YtdbfhbpillgacaaRmB
import Derived.Test.YtdbfhbpillgacaaTwA
import Derived.Test.YtdbfhbpillgacaaJnAi
import Derived.Test.YtdbfhbpillgacaaJnAo
set_option linter.unusedVariables false
namespace Go.Proofs.Ytdbfhbpillgacaa
/-- the figures of a float, from 2^52 on -/
def mtF (x : Nat) : Nat := 4503599627370496 + Fl.rg (nmF x) % 4503599627370496
theorem mt_lo (x : Nat) : 4503599627370496 ≤ mtF x := by unfold mtF; omega
theorem mt_hi (x : Nat) : mtF x < 9007199254740992 := by unfold mtF; omega
theorem rz_form {x : Nat} (hx : x < 18446744073709551616) (hf : Fl.rg x < 9218868437227405312) (hz : ¬ Fl.rg x = 0) (n : Int) : Fl.rz (Fl.vl (Fl.rg x)) n = Fl.rz (mtF x) (n + ptE x + 1021) := by
  obtain ⟨y1, y2, y3, y4, c1, c2, v1⟩ := nm_facts hx hf hz
  have hpt : ptE x = nmE x + (((Fl.rg (nmF x) / 4503599627370496 : Nat) : Int) - 1023 + 1) := rfl
  unfold mtF
  generalize hy : Fl.rg (nmF x) = y at *
  have v2 := Fl.vl_comb (y / 4503599627370496 - 1) (4503599627370496 + y % 4503599627370496) (by omega) (Or.inr (by omega))
  rw [show (y / 4503599627370496 - 1) * 4503599627370496 + (4503599627370496 + y % 4503599627370496) = y by omega, v1] at v2
  have s1 := Fl.rz_shift (Fl.vl (Fl.rg x)) (-nmE x).toNat (n + nmE x)
  rw [show n + nmE x + (((-nmE x).toNat : Nat) : Int) = n by omega] at s1
  rw [← s1, v2, Fl.rz_shift, hpt]
  congr 1
  omega
theorem rz_nat (v k : Nat) (n : Int) (h : n = (k : Int)) : Fl.rz v n = Fl.rq (v * 2 ^ k) 0 := by
  subst h
  unfold Fl.rz
  rw [show (-(k : Int)).toNat = 0 by omega, Int.toNat_natCast]
theorem rz_mono {v v' : Nat} (n : Int) (h : v ≤ v') : Fl.rz v n ≤ Fl.rz v' n := Fl.rq_mono _ _ _ (Nat.mul_le_mul_right _ h)
theorem rg_scF {x : Nat} (hf : Fl.rg x < 9218868437227405312) (hz : ¬ Fl.rg x = 0) (n : Int) : Fl.rg (scF x n) = Fl.rz (Fl.vl (Fl.rg x)) n := by
  rw [scF_fin hf hz, Fl.rg_wd _ _ (by have := Fl.rz_le (Fl.vl (Fl.rg x)) n; omega)]
theorem sg_scF0 {x : Nat} (hs : Fl.sg x = false) (hf : Fl.rg x < 9218868437227405312) (n : Int) : Fl.sg (scF x n) = false := by
  by_cases hz : Fl.rg x = 0
  · rw [scF_stay (Or.inl hz)]; exact hs
  · rw [scF_sg n hf hz]; exact hs
/-- what is as great or greater, times a power of two, stays so -/
theorem scF_mono {x y : Nat} (n : Int) (hx : Fl.rg x < 9218868437227405312) (hy : Fl.rg y < 9218868437227405312) (h : Fl.rg x ≤ Fl.rg y) : Fl.rg (scF x n) ≤ Fl.rg (scF y n) := by
  by_cases zx : Fl.rg x = 0
  · rw [scF_stay (Or.inl zx), zx]; omega
  · rw [rg_scF hx zx, rg_scF hy (by omega)]
    exact rz_mono n (Fl.vl_le_iff.2 h)
theorem pa_pt {x : Nat} (hf : Fl.rg x < 9218868437227405312) (hz : ¬ Fl.rg x = 0) : paE x = ptE x := by
  unfold paE; rw [if_neg (by omega)]
/-- scaled by its own order: half and more -/
theorem unit_form {x : Nat} (g : Nat) (hg : g = 1021) (hx : x < 18446744073709551616) (hf : Fl.rg x < 9218868437227405312) (hz : ¬ Fl.rg x = 0) :
    Fl.rg (scF x (-ptE x)) = Fl.rq (mtF x * 2 ^ g) 0 ∧ Fl.vl (Fl.rg (scF x (-ptE x))) = mtF x * 2 ^ g ∧ 4602678819172646912 ≤ Fl.rg (scF x (-ptE x)) ∧ Fl.rg (scF x (-ptE x)) < 4607182418800017408 := by
  have h1 := rz_form hx hf hz (-ptE x)
  rw [rz_nat (mtF x) g _ (by omega)] at h1
  have h2 := vl_half (Fl.rg (nmF x) % 4503599627370496) g (by omega) hg
  have h3 : Fl.rq (mtF x * 2 ^ g) 0 = 4602678819172646912 + Fl.rg (nmF x) % 4503599627370496 := by
    show Fl.rq ((4503599627370496 + Fl.rg (nmF x) % 4503599627370496) * 2 ^ g) 0 = _
    rw [← h2]
    exact Fl.rq_vl _ (by omega)
  rw [rg_scF hf hz, h1]
  refine ⟨rfl, ?_, by omega, by omega⟩
  rw [h3, h2]
  rfl
/-- a rung that is a multiple by a power of two of another one's worth -/
theorem scale_nat {x : Nat} (n : Int) (hf : Fl.rg x < 9218868437227405312) (hz : ¬ Fl.rg x = 0) (h1 : Fl.rg (scF x n) < 9218868437227405312) (h2 : 4503599627370496 < Fl.rg (scF x n)) :
    Fl.vl (Fl.rg (scF x n)) * 2 ^ (-n).toNat = Fl.vl (Fl.rg x) * 2 ^ n.toNat := by
  have h := scale_exact n hf hz h1 h2
  have k := congrArg Int.natAbs h
  rw [Int.natAbs_mul, Int.natAbs_mul, Fl.val_abs, Fl.val_abs, Int.natAbs_natCast, Int.natAbs_natCast] at k
  exact k
theorem scale_back {v v' : Nat} (n : Int) (h : v * 2 ^ n.toNat = v' * 2 ^ (-n).toNat) : Fl.rz v n = Fl.rq v' 0 := by
  unfold Fl.rz
  rw [h]
  have := Fl.rq_mul v' (-n).toNat 0
  rw [Nat.zero_add] at this
  exact this
end Go.Proofs.Ytdbfhbpillgacaa
