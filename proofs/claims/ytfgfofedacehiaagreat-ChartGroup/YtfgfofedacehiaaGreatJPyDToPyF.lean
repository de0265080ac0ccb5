/-
 OWN TEXT: whole complex numbers as the program has them: signs, quotients by 1, tests; package poly's tests of one number.
-/
import Derived.Test.YtfgfofedacehiaaGreatJPyC
import Derived.Test.YtfgfofedacehiaaGreatJRpA
namespace Go.Proofs.YtfgfofedacehiaaGreat
open Go.ChangeShapes Go.WideShapes Go.ChangeAt Go.RowKit
set_option linter.unusedVariables false
attribute [local go_sem] frombits_call tobits_call run_neg
theorem pneg8 {c x y : Nat} {g : Py.G} (hg : wC c x y g) : ∃ r s, wC c r s (Py.gn g) ∧ ∀ w, Calls Tryz.prog 33 #[.complex .f64 x y] w fun e w' => e = .returned (.complex .f64 r s) ∧ w' = w :=
 ⟨_, _, ⟨hg.1.ng, hg.2.ng⟩, fun w => neg2_any x y w hg.1.1 hg.2.1⟩
/-- like, of two floats -/
theorem wI.like {c a b : Nat} {m n : Int} (ha : wI c a m) (hb : wI c b n) (h : Fl.eqF a b = false) : Fl.sameB a b = false := by
 rw [ha.eq hb] at h
 have hne := of_decide_eq_false h
 unfold Fl.sameB
 rw [ha.nan, hb.nan]
 simp only [Bool.and_false, Bool.false_or]
 have : a ≠ b := by
  rintro rfl
  have h1 := ha.2.2
  rw [hb.2.2] at h1
  have hp : (0 : Int) < ((2 ^ c : Nat) : Int) := by have := Nat.two_pow_pos c; omega
  exact hne (Int.eq_of_mul_eq_mul_right (by omega) h1).symm
 simp [this]
theorem alike8 {c a b : Nat} {m n : Int} (ha : wI c a m) (hb : wI c b n) (w : World) : Calls Tryz.prog 34 #[.float .f64 a, .float .f64 b] w fun e w' => e = .returned (.bool (decide (m = n))) ∧ w' = w := by
 have o := Fl.o_eq a b
 rw [ha.eq hb] at o
 by_cases k : m = n
 ·
  rw [decide_eq_true k] at o ⊢
  clear k ha hb
  go_enter Tryz.func34, Tryz.ntmps34
  go_wp2
  go_ret
  exact ⟨rfl, rfl⟩
 ·
  have s := ha.like hb (by rw [ha.eq hb]; exact decide_eq_false k)
  rw [decide_eq_false k] at o ⊢
  have S : Hid (∀ wz, Calls Tryz.prog 60 #[.float .f64 a, .float .f64 b] wz fun e w' => e = .returned (.bool false) ∧ w' = wz) := fun wz => by have q := same_any a b wz; rw [s] at q; exact q
  clear k ha hb s
  go_enter Tryz.func34, Tryz.ntmps34
  go_wp2_with fail
  refine (S.out _).mono ?_
  rintro e' w ⟨rfl, rfl⟩
  go_wp2
  go_ret
  exact ⟨rfl, rfl⟩
theorem g_eq (g h : Py.G) : decide (g = h) = (decide (g.1 = h.1) && decide (g.2 = h.2)) := by
 by_cases k : g = h
 · subst k; simp
 ·
  rw [decide_eq_false k]
  by_cases k1 : g.1 = h.1
  ·
   by_cases k2 : g.2 = h.2
   · exact absurd (Py.gext k1 k2) k
   · simp [k2]
  · simp [k1]
theorem plike8 {c x y u v : Nat} {g h : Py.G} (hg : wC c x y g) (hh : wC c u v h) (w : World) : Calls Tryz.prog 20 #[.complex .f64 x y, .complex .f64 u v] w fun e w' => e = .returned (.bool (decide (g = h))) ∧ w' = w := by
 rw [g_eq]
 have A1 : Hid (∀ wz, Calls Tryz.prog 34 #[.float .f64 x, .float .f64 u] wz fun e w' => e = .returned (.bool (decide (g.1 = h.1))) ∧ w' = wz) := fun wz => alike8 hg.1 hh.1 wz
 have A2 : Hid (∀ wz, Calls Tryz.prog 34 #[.float .f64 y, .float .f64 v] wz fun e w' => e = .returned (.bool (decide (g.2 = h.2))) ∧ w' = wz) := fun wz => alike8 hg.2 hh.2 wz
 generalize decide (g.1 = h.1) = p at *
 generalize decide (g.2 = h.2) = q at *
 clear hg hh
 cases p
 ·
  go_enter Tryz.func20, Tryz.ntmps20
  go_wp2_with fail
  refine (A1.out _).mono ?_
  rintro e' w ⟨rfl, rfl⟩
  go_wp2
  go_ret
  exact ⟨rfl, rfl⟩
 ·
  go_enter Tryz.func20, Tryz.ntmps20
  go_wp2_with fail
  refine (A1.out _).mono ?_
  rintro e' w ⟨rfl, rfl⟩
  go_wp2_with fail
  refine (A2.out _).mono ?_
  rintro e' w ⟨rfl, rfl⟩
  go_wp2
  go_ret
  exact ⟨by cases q <;> rfl, rfl⟩
end Go.Proofs.YtfgfofedacehiaaGreat

/-
 OWN TEXT: lists of whole complex numbers in memory; package poly's tests of lists.
-/
namespace Go.Proofs.YtfgfofedacehiaaGreat
open Go.ChangeShapes Go.WideShapes Go.ChangeAt Go.RowKit
set_option linter.unusedVariables false
attribute [local go_sem] frombits_call tobits_call run_neg
/-- the list l lies at block b, from o on -/
def Gl (c : Nat) (w : World) (b o : Nat) (l : List Py.G) : Prop := b < w.heap.size ∧ ∀ i, i < l.length → ∃ x y, w.cell? ⟨b, o + i, none⟩ = some (.complex .f64 x y) ∧ wC c x y (Py.co l i)
theorem Gl.bw {c : Nat} {w w' : World} {b o : Nat} {l : List Py.G} (h : Gl c w b o l) (k : Bw w w') : Gl c w' b o l := by
 obtain ⟨h1, h2⟩ := h
 have hs : w.heap.size ≤ w'.heap.size := Below.size k
 refine ⟨by omega, fun i hi => ?_⟩
 obtain ⟨x, y, e, q⟩ := h2 i hi
 exact ⟨x, y, (Below.cell k (p := ⟨b, o + i, none⟩) h1).trans e, q⟩
/-- the same, and it may be written -/
def Gw (c : Nat) (w : World) (B : Nat) (l : List Py.G) : Prop := Gl c w B 0 l ∧ ∀ i, w.frozen? ⟨B, i, none⟩ = false
theorem Gw.set {c : Nat} {w : World} {B : Nat} {l : List Py.G} (h : Gw c w B l) (i x y : Nat) (g : Py.G) (hi : i < l.length) (hg : wC c x y g) : Gw c (w.setCell ⟨B, i, none⟩ (.complex .f64 x y)) B (l.set i g) := by
 obtain ⟨⟨h1, h2⟩, h3⟩ := h
 refine ⟨⟨by simpa [World.setCell] using h1, fun j hj => ?_⟩, fun j => (World.frozen?_setCell _ _ _ _).trans (h3 j)⟩
 rw [List.length_set] at hj
 rw [Py.co_set _ _ _ _ hi]
 obtain ⟨x', y', e, q⟩ := h2 j hj
 by_cases k : j = i
 ·
  subst k
  rw [if_pos rfl]
  exact ⟨x, y, by rw [Nat.zero_add] at e ⊢; exact World.cell?_setCell_same _ _ _ e, hg⟩
 ·
  rw [if_neg k]
  refine ⟨x', y', ?_, q⟩
  rw [World.cell?_setCell_other]
  · exact e
  · intro e'; cases e'; omega
end Go.Proofs.YtfgfofedacehiaaGreat

/-
 OWN TEXT: package poly: Check, copies, answers, of lists of whole complex numbers.
-/
namespace Go.Proofs.YtfgfofedacehiaaGreat
open Go.ChangeShapes Go.WideShapes Go.ChangeAt Go.RowKit
set_option linter.unusedVariables false
attribute [local go_sem] frombits_call tobits_call run_neg
theorem hide {p : Prop} (h : p) : Hid p := h
theorem bw_alloc (w : World) (x : Obj) : Bw w (w.alloc x) := Below.alloc (Bw.refl w) (Nat.le_refl _) _
end Go.Proofs.YtfgfofedacehiaaGreat

