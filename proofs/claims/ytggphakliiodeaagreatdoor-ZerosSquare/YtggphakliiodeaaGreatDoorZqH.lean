/-
  OWN TEXT: zeros.halfSum of whole zeros: one of them, exactly.
-/
import Derived.Test.YtggphakliiodeaaGreatDoorJnAv
namespace Go.Proofs.YtggphakliiodeaaGreatDoor
open Go.ChangeShapes Go.WideShapes Go.ChangeAt Go.RowKit
set_option linter.unusedVariables false
theorem four_vl : ∀ c, c = 1074 → Fl.vl 4616189618054758400 = 4 * 2 ^ c := by rintro _ rfl; decide +kernel
theorem w_four {c : Nat} (hc : c = 1074) : wI c 4616189618054758400 4 := by
  refine ⟨by decide, by decide, ?_⟩
  have h := four_vl c hc
  have e : Fl.val 4616189618054758400 = (Fl.vl 4616189618054758400 : Nat) := by
    unfold Fl.val
    rw [show Fl.sg 4616189618054758400 = false by decide, if_neg (by decide), show Fl.rg 4616189618054758400 = 4616189618054758400 by decide]
  rw [e, h, Int.natCast_mul]; rfl
theorem half_vl : ∀ c, c = 1074 → 2 * Fl.vl (Fl.rg 13826050856027422720) = 2 ^ c := by rintro _ rfl; decide +kernel
/-- by -1/2 -/
theorem w_half {c x : Nat} {n : Int} (hc : c = 1074) (hx : wI c x (2 * n)) (hs : n.natAbs ≤ 9007199254740992) : ∃ r, wI c r (-n) ∧ ∀ (t : TypeId) (w : World), (binOp .mul t (.float .f64 x) (.float .f64 13826050856027422720)).run Tryz.prog w = .ok (.float .f64 r) w := by
  have e := Fl.mul_fin (y := 13826050856027422720) hx.2.1 (by decide)
  rw [← hc] at e
  obtain ⟨_, h2⟩ := run_some (op := .mul) e
  refine ⟨_, ?_, h2⟩
  have hv : Fl.vl (Fl.rg x) * Fl.vl (Fl.rg 13826050856027422720) = (-n).natAbs * 2 ^ c * 2 ^ c := by
    rw [hx.vl, Int.natAbs_neg, Int.natAbs_mul, show (2 : Int).natAbs = 2 from rfl]
    have := half_vl c hc
    generalize Fl.vl (Fl.rg 13826050856027422720) = h at *
    rw [← this]
    grind
  have hq := Fl.rq_mul ((-n).natAbs * 2 ^ c) c 0
  rw [Nat.zero_add] at hq
  rw [hv, hq]
  refine wI_of hc (by rw [Int.natAbs_neg]; exact hs) fun z => ?_
  rw [hx.sign (by omega), show Fl.sg 13826050856027422720 = true by decide]
  by_cases q : n < 0
  · rw [decide_eq_true (by omega), decide_eq_false (by omega)]; rfl
  · rw [decide_eq_false (by omega), decide_eq_true (by omega)]; rfl
def g4 (g : Py.G) : Py.G := (g.1 * 4, g.2 * 4)
def g2 (g : Py.G) : Py.G := (2 * g.1, 2 * g.2)
theorem pscale4 {c x y : Nat} {g : Py.G} (hc : c = 1074) (hg : wC c x y g) (h1 : g.1.natAbs ≤ 1000000000) (h2 : g.2.natAbs ≤ 1000000000) : ∃ r s, wC c r s (g4 g) ∧ ∀ w, Calls Tryz.prog 50 #[.complex .f64 x y, .float .f64 4616189618054758400] w fun e w' => e = .returned (.complex .f64 r s) ∧ w' = w := by
  obtain ⟨r, hr, e1⟩ := w_mul hc hg.1 (w_four hc) (by omega)
  obtain ⟨s, hs, e2⟩ := w_mul hc hg.2 (w_four hc) (by omega)
  refine ⟨r, s, ⟨hr, hs⟩, fun w => ?_⟩
  clear hr hs hg h1 h2
  go_enter Tryz.func50, Tryz.ntmps50
  go_wp2
  go_ret
  exact ⟨rfl, rfl⟩
theorem pscaleh {c x y : Nat} {g : Py.G} (hc : c = 1074) (hg : wC c x y (g2 g)) (h1 : g.1.natAbs ≤ 1000000000) (h2 : g.2.natAbs ≤ 1000000000) : ∃ r s, wC c r s (Py.gn g) ∧ ∀ w, Calls Tryz.prog 50 #[.complex .f64 x y, .float .f64 13826050856027422720] w fun e w' => e = .returned (.complex .f64 r s) ∧ w' = w := by
  obtain ⟨r, hr, e1⟩ := w_half hc hg.1 (by omega)
  obtain ⟨s, hs, e2⟩ := w_half hc hg.2 (by omega)
  refine ⟨r, s, ⟨hr, hs⟩, fun w => ?_⟩
  clear hr hs hg h1 h2
  go_enter Tryz.func50, Tryz.ntmps50
  go_wp2
  go_ret
  exact ⟨rfl, rfl⟩
theorem psub9 {c x y u v M K : Nat} {g h : Py.G} (hc : c = 1074) (hg : wC c x y g) (hh : wC c u v h) (lg : Py.Le g M) (lh : Py.Le h K) (hs : M + K ≤ 9007199254740992) : ∃ r s, wC c r s (Py.gs g h) ∧ ∀ w, Calls Tryz.prog 24 #[.complex .f64 x y, .complex .f64 u v] w fun e w' => e = .returned (.complex .f64 r s) ∧ w' = w := by
  obtain ⟨r, s, hrs, e⟩ := c_sub hc hg hh lg lh hs
  refine ⟨r, s, hrs, fun w => ?_⟩
  clear hrs hg hh lg lh hs
  go_enter Tryz.func24, Tryz.ntmps24
  go_wp2
  go_ret
  exact ⟨rfl, rfl⟩
theorem wI.ltF {c a b : Nat} {m n : Int} (ha : wI c a m) (hb : wI c b n) : Fl.ltF a b = decide (m < n) := by
  have h := hb.leF ha
  rw [Fl.leF_of hb.nan ha.nan] at h
  have h2 : Fl.ltF a b = decide (Fl.key a < Fl.key b) := by unfold Fl.ltF; rw [ha.nan, hb.nan]; simp
  rw [h2]
  have h3 := decide_eq_decide.1 h
  exact decide_eq_decide.2 (by omega)
theorem le_thousand {g : Py.G} (h1 : g.1.natAbs ≤ 1000) (h2 : g.2.natAbs ≤ 1000) : Py.Le g 1500 := by
  unfold Py.Le
  rw [nsq g.1, nsq g.2]
  have := Nat.mul_le_mul h1 h1
  have := Nat.mul_le_mul h2 h2
  omega
/-- the sum's sign, and what its half is -/
theorem half_alg (u v s : Py.G) (hs : s = Py.gs u v ∨ s = Py.gs v u) : ∃ q, (q = u ∨ q = v) ∧ Py.ga (Py.gn (Py.ga u v)) s = g2 (Py.gn q) ∧
    (0 ≤ (Py.gn (Py.ga u v)).1 * s.1 + (Py.gn (Py.ga u v)).2 * s.2 → q = (0, 0) → u = (0, 0) ∧ v = (0, 0)) := by
  have sq0 : ∀ x y : Int, x * x + y * y ≤ 0 → x = 0 ∧ y = 0 := by
    intro x y h
    have a := Py.sq_nonneg x
    have b := Py.sq_nonneg y
    have c : x * x = 0 := by omega
    have d : y * y = 0 := by omega
    rcases Int.mul_eq_zero.1 c with c | c <;> rcases Int.mul_eq_zero.1 d with d | d <;> exact ⟨c, d⟩
  obtain ⟨u1, u2⟩ := u
  obtain ⟨v1, v2⟩ := v
  rcases hs with rfl | rfl
  · refine ⟨(v1, v2), Or.inr rfl, ?_, ?_⟩
    · unfold Py.ga Py.gn Py.gs g2
      simp only [Prod.mk.injEq]
      omega
    · intro h q
      obtain ⟨rfl, rfl⟩ := Prod.mk.injEq .. ▸ q
      unfold Py.ga Py.gn Py.gs at h
      simp only [Int.add_zero, Int.sub_zero, Int.neg_mul] at h
      obtain ⟨rfl, rfl⟩ := sq0 u1 u2 (by omega)
      exact ⟨rfl, rfl⟩
  · refine ⟨(u1, u2), Or.inl rfl, ?_, ?_⟩
    · unfold Py.ga Py.gn Py.gs g2
      simp only [Prod.mk.injEq]
      omega
    · intro h q
      obtain ⟨rfl, rfl⟩ := Prod.mk.injEq .. ▸ q
      unfold Py.ga Py.gn Py.gs at h
      simp only [Int.zero_add, Int.sub_zero, Int.neg_mul] at h
      obtain ⟨rfl, rfl⟩ := sq0 v1 v2 (by omega)
      exact ⟨rfl, rfl⟩
end Go.Proofs.YtggphakliiodeaaGreatDoor
