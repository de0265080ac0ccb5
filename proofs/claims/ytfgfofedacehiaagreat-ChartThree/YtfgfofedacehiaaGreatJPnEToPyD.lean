/-
 OWN TEXT: sines and cosines of fit floats, as they come out, are at most 1 without their signs.
-/
import Derived.Test.YtfgfofedacehiaaGreatJEoBToAnM
import Derived.Test.YtfgfofedacehiaaGreatJRmCToRmF
import Derived.Test.YtfgfofedacehiaaGreatJPyAToPyC
import Derived.Test.YtfgfofedacehiaaGreatJPoTToPoQ
set_option linter.unusedVariables false
set_option exponentiation.threshold 3000
namespace Go.Proofs.YtfgfofedacehiaaGreat
/-- how far rounding goes -/
theorem rq_err (n d : Nat) (hf : Fl.rq n d < 9218868437227405312) : ∃ e, Fl.vl (Fl.rq n d) * 2 ^ d ≤ n + e ∧ n ≤ Fl.vl (Fl.rq n d) * 2 ^ d + e ∧ 4503599627370496 * e ≤ n + 4503599627370496 * 2 ^ d := by
 by_cases z : n = 0
 ·
  subst z
  have : Fl.rq 0 d = 0 := by unfold Fl.rq; rfl
  rw [this, show Fl.vl 0 = 0 by decide]
  exact ⟨0, by omega, by omega, by omega⟩
 ·
  obtain ⟨k, hk⟩ : ∃ k, k = n.log2 - (52 + d) := ⟨_, rfl⟩
  have hl := Fl.log2_lt n z
  have hl2 := Fl.log2_le n z
  have hp := Nat.two_pow_pos (k + d)
  have m1 : Fl.rne n (k + d) ≤ 9007199254740992 := by
   refine Fl.rne_le _ _ _ ?_
   rw [show (9007199254740992 : Nat) = 2 ^ 53 from rfl, ← Nat.pow_add]
   have : 2 ^ (n.log2 + 1) ≤ 2 ^ (53 + (k + d)) := Nat.pow_le_pow_right (by omega) (by omega)
   omega
  have m2 : k = 0 ∨ 4503599627370496 ≤ Fl.rne n (k + d) := by
   by_cases c : k = 0
   · exact Or.inl c
   ·
    right
    refine Fl.le_rne _ _ _ ?_
    rw [show (4503599627370496 : Nat) = 2 ^ 52 from rfl, ← Nat.pow_add, show 52 + (k + d) = n.log2 by omega]
    exact hl2
  have er : Fl.rq n d = k * 4503599627370496 + Fl.rne n (k + d) := by
   unfold Fl.rq at hf ⊢
   rw [if_neg z, ← hk] at hf ⊢
   omega
  have ev : Fl.vl (Fl.rq n d) * 2 ^ d = Fl.rne n (k + d) * 2 ^ (k + d) := by
   rw [er, Fl.vl_comb k _ m1 m2, Nat.mul_assoc, ← Nat.pow_add]
  rw [ev]
  have hb := Fl.rne_bounds n (k + d)
  refine ⟨2 ^ (k + d), by omega, by omega, ?_⟩
  by_cases c : k = 0
  · rw [c, Nat.zero_add]; omega
  ·
   have : 4503599627370496 * 2 ^ (k + d) ≤ n := by
    rw [show (4503599627370496 : Nat) = 2 ^ 52 from rfl, ← Nat.pow_add, show 52 + (k + d) = n.log2 by omega]
    exact hl2
   omega
end Go.Proofs.YtfgfofedacehiaaGreat

/-
 OWN TEXT: whole complex numbers as the program has them: signs, quotients by 1, tests; package poly's tests of one number.
-/
namespace Go.Proofs.YtfgfofedacehiaaGreat
open Go.ChangeShapes Go.WideShapes Go.ChangeAt Go.RowKit
set_option linter.unusedVariables false
attribute [local go_sem] frombits_call tobits_call run_neg
theorem pneg8 {c x y : Nat} {g : Py.G} (hg : wC c x y g) : ∃ r s, wC c r s (Py.gn g) ∧ ∀ w, Calls Tryz.prog 33 #[.complex .f64 x y] w fun e w' => e = .returned (.complex .f64 r s) ∧ w' = w :=
 ⟨_, _, ⟨hg.1.ng, hg.2.ng⟩, fun w => neg2_any x y w hg.1.1 hg.2.1⟩
/-- like, of two floats -/
theorem wI.like {c a b : Nat} {m n : Int} (ha : wI c a m) (hb : wI c b n) (h : Fl.eqF a b = false) : Fl.sameB a b = false := by
 rw [ha.eq hb] at h
 have hne := of_decide_eq_false h
 unfold Fl.sameB
 rw [ha.nan, hb.nan]
 simp only [Bool.and_false, Bool.false_or]
 have : a ≠ b := by
  rintro rfl
  have h1 := ha.2.2
  rw [hb.2.2] at h1
  have hp : (0 : Int) < ((2 ^ c : Nat) : Int) := by have := Nat.two_pow_pos c; omega
  exact hne (Int.eq_of_mul_eq_mul_right (by omega) h1).symm
 simp [this]
theorem alike8 {c a b : Nat} {m n : Int} (ha : wI c a m) (hb : wI c b n) (w : World) : Calls Tryz.prog 34 #[.float .f64 a, .float .f64 b] w fun e w' => e = .returned (.bool (decide (m = n))) ∧ w' = w := by
 have o := Fl.o_eq a b
 rw [ha.eq hb] at o
 by_cases k : m = n
 ·
  rw [decide_eq_true k] at o ⊢
  clear k ha hb
  go_enter Tryz.func34, Tryz.ntmps34
  go_wp2
  go_ret
  exact ⟨rfl, rfl⟩
 ·
  have s := ha.like hb (by rw [ha.eq hb]; exact decide_eq_false k)
  rw [decide_eq_false k] at o ⊢
  have S : Hid (∀ wz, Calls Tryz.prog 60 #[.float .f64 a, .float .f64 b] wz fun e w' => e = .returned (.bool false) ∧ w' = wz) := fun wz => by have q := same_any a b wz; rw [s] at q; exact q
  clear k ha hb s
  go_enter Tryz.func34, Tryz.ntmps34
  go_wp2_with fail
  refine (S.out _).mono ?_
  rintro e' w ⟨rfl, rfl⟩
  go_wp2
  go_ret
  exact ⟨rfl, rfl⟩
theorem g_eq (g h : Py.G) : decide (g = h) = (decide (g.1 = h.1) && decide (g.2 = h.2)) := by
 by_cases k : g = h
 · subst k; simp
 ·
  rw [decide_eq_false k]
  by_cases k1 : g.1 = h.1
  ·
   by_cases k2 : g.2 = h.2
   · exact absurd (Py.gext k1 k2) k
   · simp [k2]
  · simp [k1]
theorem plike8 {c x y u v : Nat} {g h : Py.G} (hg : wC c x y g) (hh : wC c u v h) (w : World) : Calls Tryz.prog 20 #[.complex .f64 x y, .complex .f64 u v] w fun e w' => e = .returned (.bool (decide (g = h))) ∧ w' = w := by
 rw [g_eq]
 have A1 : Hid (∀ wz, Calls Tryz.prog 34 #[.float .f64 x, .float .f64 u] wz fun e w' => e = .returned (.bool (decide (g.1 = h.1))) ∧ w' = wz) := fun wz => alike8 hg.1 hh.1 wz
 have A2 : Hid (∀ wz, Calls Tryz.prog 34 #[.float .f64 y, .float .f64 v] wz fun e w' => e = .returned (.bool (decide (g.2 = h.2))) ∧ w' = wz) := fun wz => alike8 hg.2 hh.2 wz
 generalize decide (g.1 = h.1) = p at *
 generalize decide (g.2 = h.2) = q at *
 clear hg hh
 cases p
 ·
  go_enter Tryz.func20, Tryz.ntmps20
  go_wp2_with fail
  refine (A1.out _).mono ?_
  rintro e' w ⟨rfl, rfl⟩
  go_wp2
  go_ret
  exact ⟨rfl, rfl⟩
 ·
  go_enter Tryz.func20, Tryz.ntmps20
  go_wp2_with fail
  refine (A1.out _).mono ?_
  rintro e' w ⟨rfl, rfl⟩
  go_wp2_with fail
  refine (A2.out _).mono ?_
  rintro e' w ⟨rfl, rfl⟩
  go_wp2
  go_ret
  exact ⟨by cases q <;> rfl, rfl⟩
end Go.Proofs.YtfgfofedacehiaaGreat

