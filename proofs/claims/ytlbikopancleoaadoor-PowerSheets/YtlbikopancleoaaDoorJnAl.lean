/-
  OWN TEXT: the program's rising sum, exponential, and that less 1 (elem.rising, elem.folds, elem.Exp, elem.Less), for every float.
-/
import Derived.Test.YtlbikopancleoaaDoorJnAj
import Derived.Test.YtlbikopancleoaaDoorJnAk
import Derived.Test.YtlbikopancleoaaDoorJnAb
namespace Go.Proofs.YtlbikopancleoaaDoor
open Go.ChangeShapes Go.WideShapes Go.ChangeAt Go.RowKit
set_option linter.unusedVariables false
attribute [local go_sem] frombits_call tobits_call run_neg
theorem per_any (w : World) : Calls Tryd.prog 21 #[.int .u64 4609176140021203710] w fun e w' => e = .returned (.float .f64 4609176140021203710) ∧ w' = w := by
  have h := from_any 4609176140021203710 w
  exact h
theorem less_nan {x n e y : Nat} (h : Fl.nan x = true) (he : expR x e) (hs : opR .sub e 4607182418800017408 y) : lessR x y := by
  obtain ⟨_, k⟩ := he
  rw [if_pos h] at k
  exact ⟨hs.1, by rw [if_pos h]; exact hs.nan (nan_left .sub (Or.inr (Or.inl rfl)) k)⟩
theorem fold_nan {x n : Nat} (h : Fl.nan x = true) (hf : foldR x n) : Fl.nan n = true := by
  obtain ⟨p, h1, h2⟩ := hf
  have hp := h1.nan (nan_left .mul (Or.inr (Or.inr (Or.inl rfl))) h)
  have := h2.2
  rw [if_pos hp] at this
  exact this
end Go.Proofs.YtlbikopancleoaaDoor
/-
  OWN TEXT: what Same of package float and math.Signbit return, for every float.
-/
namespace Go.Proofs.YtlbikopancleoaaDoor
open Go.ChangeShapes Go.WideShapes Go.ChangeAt Go.RowKit
attribute [local go_sem] frombits_call tobits_call run_neg
theorem sameB_bits (x y : Nat) : ((Fl.bitsF x : Int) == Fl.bitsF y) = Fl.sameB x y := by
  rw [Bool.eq_iff_iff]
  unfold Fl.sameB Fl.bitsF
  cases h1 : Fl.nan x <;> cases h2 : Fl.nan y <;> simp
  · omega
  · intro e; have : x = 9221120237041090560 := by omega
    subst this; simp [Fl.nan, Fl.rg] at h1
  · intro e; have : y = 9221120237041090560 := by omega
    subst this; simp [Fl.nan, Fl.rg] at h2
theorem signbit_any (x : Nat) (w : World) (hx : x < 18446744073709551616) : Calls Tryd.prog 57 #[.float .f64 x] w fun e w' => e = .returned (.bool (Fl.sg x)) ∧ w' = w := by
  go_enter Tryd.func57, Tryd.ntmps57
  go_wp2
  go_ret
  refine ⟨rb ?_, rfl⟩
  show decide (wrap64 (x : Int) < 0) = Fl.sg x
  rw [Fl.sg_lt hx, decide_eq_decide]
  unfold wrap64
  omega
end Go.Proofs.YtlbikopancleoaaDoor
