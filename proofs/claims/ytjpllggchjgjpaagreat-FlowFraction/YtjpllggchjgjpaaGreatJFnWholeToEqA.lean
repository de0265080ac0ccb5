/-
 OWN TEXT: what Whole of package float returns, for every float.
-/
import Derived.Test.YtjpllggchjgjpaaGreatJFnToFnStairs
import Derived.Test.YtjpllggchjgjpaaGreatJFlCToFlG
import Derived.Test.YtjpllggchjgjpaaGreatJEoA
namespace Go.Proofs.YtjpllggchjgjpaaGreat
open Go.ChangeShapes Go.WideShapes Go.ChangeAt Go.RowKit
theorem even_call (x : Nat) (w : World) : (callFunc 136 #[.float .f64 x]).run Tryz.prog w = ((Extern.MathFloor.toIntegral "math.RoundToEven" .even #[.float .f64 x]).run Tryz.prog w).andThen fun v w' => .ok (.value v) w' := by
 rw [run_callFunc_extern Tryz.func136 (by kernel_rfl) (by kernel_rfl) (by kernel_rfl) (show Extern.find Tryz.f136 = some (Extern.MathFloor.toIntegral "math.RoundToEven" .even) by kernel_rfl)]
theorem even_of (x : Nat) (d : Ieee.Datum) (h : FloatKind.f64.decode x = d) (hn : d.isNaN = false) : Extern.MathFloor.toIntegral "math.RoundToEven" .even #[.float .f64 x] = pure (.float .f64 (FloatKind.f64.encode (d.integral .even))) := by
 change (Extern.MathFloor.toIntegral.match_1 _ (FloatKind.f64.decode x) _ _) = _
 rw [h]
 cases d with
 | number s m i => rfl
 | infinity s => rfl
 | nan s t => cases hn
theorem even_num (x : Nat) (w : World) (hn : Fl.nan x = false) : (callFunc 136 #[.float .f64 x]).run Tryz.prog w = .ok (.value (.float .f64 (Fl.whF x))) w := by
 have hl := Fl.nan_le hn
 rw [even_call, even_of x (Ieee.double.read x) rfl ?_]
 · rfl
 ·
  by_cases c : Fl.rg x = 9218868437227405312
  · rw [Fl.read_inf c]; rfl
  ·
   obtain ⟨m, k, hm, _⟩ := Fl.read_fin (x := x) (by omega)
   rw [hm]; rfl
theorem whole_num (x : Nat) (w : World) (hn : Fl.nan x = false) : Calls Tryz.prog 132 #[.float .f64 x] w fun e w' => e = .returned (.float .f64 (Fl.whF x)) ∧ w' = w := by
 have c := fun w => even_num x w hn
 go_enter Tryz.func132, Tryz.ntmps132
 go_wp2
 go_ret
 exact ⟨rfl, rfl⟩
end Go.Proofs.YtjpllggchjgjpaaGreat

/-
 OWN TEXT: rounding keeps the order; a float made whole, as an integer.
-/
namespace Go.Proofs.YtjpllggchjgjpaaGreat.Fl
set_option linter.unusedVariables false
theorem rne_mono (n n' s : Nat) (h : n ≤ n') : rne n s ≤ rne n' s := by
 have hp := Nat.two_pow_pos s
 have d1 := Nat.div_add_mod n (2 ^ s)
 have d2 := Nat.div_add_mod n' (2 ^ s)
 have m1 := Nat.mod_lt n hp
 have m2 := Nat.mod_lt n' hp
 have hq : n / 2 ^ s ≤ n' / 2 ^ s := Nat.div_le_div_right h
 unfold rne
 rcases Nat.lt_or_ge (n / 2 ^ s) (n' / 2 ^ s) with c | c
 · split <;> split <;> omega
 ·
  have e : n / 2 ^ s = n' / 2 ^ s := by omega
  rw [e] at d1 ⊢
  have hm : n % 2 ^ s ≤ n' % 2 ^ s := by omega
  split <;> split <;> omega
theorem log2_mono {n n' : Nat} (h0 : n ≠ 0) (h : n ≤ n') : n.log2 ≤ n'.log2 := (Nat.le_log2 (by omega)).2 (Nat.le_trans (log2_le n h0) h)
theorem rq_mono (n n' d : Nat) (h : n ≤ n') : rq n d ≤ rq n' d := by
 by_cases h0 : n = 0
 · unfold rq; rw [if_pos h0]; exact Nat.zero_le _
 ·
  have h0' : n' ≠ 0 := by omega
  have hl := log2_mono h0 h
  unfold rq
  rw [if_neg h0, if_neg h0']
  by_cases c : n.log2 - (52 + d) = n'.log2 - (52 + d)
  ·
   rw [c]
   have := rne_mono n n' (n'.log2 - (52 + d) + d) h
   omega
  ·
   have a1 : rne n (n.log2 - (52 + d) + d) ≤ 9007199254740992 := by
    refine rne_le _ _ _ ?_
    have := log2_lt n h0
    rw [show (9007199254740992 : Nat) = 2 ^ 53 by decide, ← Nat.pow_add]
    exact Nat.le_of_lt (Nat.lt_of_lt_of_le this (Nat.pow_le_pow_right (by decide) (by omega)))
   have a2 : 4503599627370496 ≤ rne n' (n'.log2 - (52 + d) + d) := by
    refine le_rne _ _ _ ?_
    have := log2_le n' h0'
    rw [show (4503599627370496 : Nat) = 2 ^ 52 by decide, ← Nat.pow_add]
    exact Nat.le_trans (Nat.pow_le_pow_right (by decide) (by omega)) this
   omega
end Go.Proofs.YtjpllggchjgjpaaGreat.Fl
namespace Go.Proofs.YtjpllggchjgjpaaGreat
open Go.ChangeShapes Go.WideShapes Go.ChangeAt Go.RowKit
set_option linter.unusedVariables false
/-- n is p made whole -/
def whR (p n : Nat) : Prop := n < 18446744073709551616 ∧ (if Fl.nan p = true then Fl.nan n = true else n = Fl.whF p)
/-- n is how often the logarithm of 2 goes into x -/
def foldR (x n : Nat) : Prop := ∃ p, opR .mul x 4609176140021203710 p ∧ whR p n
end Go.Proofs.YtjpllggchjgjpaaGreat

