/-
 OWN TEXT: zeros.halfSum of whole zeros: the call.
-/
import Derived.Test.YtfgfofedacehiaaGreatJZqCToZqH
import Derived.Test.YtfgfofedacehiaaGreatJPyEToPyN
namespace Go.Proofs.YtfgfofedacehiaaGreat
open Go.ChangeShapes Go.WideShapes Go.ChangeAt Go.RowKit
set_option linter.unusedVariables false
end Go.Proofs.YtfgfofedacehiaaGreat

/-
 OWN TEXT: parts.Order tells something; zeros.isNought.
-/
namespace Go.Proofs.YtfgfofedacehiaaGreat
open Go.ChangeShapes Go.WideShapes Go.ChangeAt Go.RowKit
set_option linter.unusedVariables false
attribute [local go_sem] frombits_call tobits_call run_neg
end Go.Proofs.YtfgfofedacehiaaGreat

/-
 OWN TEXT: what is near a whole number but for 2^-33 is near it but for 2^-30 by roots.Near.
-/
namespace Go.Proofs.YtfgfofedacehiaaGreat
set_option linter.unusedVariables false
def clC (c x y : Nat) (g : Py.G) : Prop := clo c x g.1 ∧ clo c y g.2
theorem wI.clo {c x : Nat} {n : Int} (h : wI c x n) : clo c x n := by
 refine ⟨h.1, h.2.1, ?_⟩
 rw [h.2.2, Int.sub_self]
 exact Nat.zero_le _
theorem wC.clo {c x y : Nat} {g : Py.G} (h : wC c x y g) : clC c x y g := ⟨h.1.clo, h.2.clo⟩
theorem clo.nan {c x : Nat} {n : Int} (h : clo c x n) : Fl.nan x = false := by unfold Fl.nan; exact decide_eq_false (by have := h.2.1; omega)
theorem tiny_vl : ∀ c, c = 1074 → 1073741824 * Fl.vl 4472074429978902528 = 2 ^ c := by rintro _ rfl; decide +kernel
theorem near_lin {d e U : Nat} (hU : 1267650600228229401496703205376 ≤ U) (h1 : 8589934592 * d ≤ U) (h2 : 4503599627370496 * e ≤ d + 4503599627370496) : 4294967296 * (d + e) ≤ U := by omega
/-- a difference of such a part -/
theorem sub9 {c a x r : Nat} {n : Int} (hc : c = 1074) (ha : clo c a n) (hx : wI c x n) (h : opR .sub a x r) : r < 18446744073709551616 ∧ Fl.rg r < 9218868437227405312 ∧ 4294967296 * Fl.vl (Fl.rg r) ≤ 2 ^ c := by
 have hU := unit_le hc
 obtain ⟨a1, a2, a3⟩ := ha
 rw [← hx.2.2] at a3
 have e := Fl.sub_fin hx.1 a2 hx.2.1
 have hr := op_some h e
 have hb : (Fl.val a - Fl.val x).natAbs ≤ 1125899906842624 * 2 ^ c := by
  generalize (Fl.val a - Fl.val x).natAbs = d at *
  omega
 have k := sum_nr (c := c) (n := Fl.val a - Fl.val x) (s := if Fl.val a - Fl.val x = 0 then Fl.sg a && !Fl.sg x else decide (Fl.val a - Fl.val x < 0)) hc (fun z => by rw [if_neg z]) hb
 rw [← hr] at k
 obtain ⟨k1, k2, k3⟩ := k
 refine ⟨k1, k2, ?_⟩
 have t := Zq.nabs_add (Fl.val a - Fl.val x) (Fl.val r - (Fl.val a - Fl.val x))
 rw [show Fl.val a - Fl.val x + (Fl.val r - (Fl.val a - Fl.val x)) = Fl.val r by rw [Int.add_comm, Int.sub_add_cancel], val_natAbs] at t
 exact Nat.le_trans (Nat.mul_le_mul_left _ t) (near_lin hU a3 k3)
theorem tot_lin {a b t e U : Nat} (hU : 1267650600228229401496703205376 ≤ U) (h1 : 4294967296 * a ≤ U) (h2 : 4294967296 * b ≤ U) (h3 : t ≤ a + b + e) (h4 : 4503599627370496 * e ≤ a + b + 4503599627370496) : 1073741824 * t < U := by omega
theorem near9 {c a1 a2 x1 x2 : Nat} {g : Py.G} {r : Bool} (hc : c = 1074) (ha : clC c a1 a2 g) (hx : wC c x1 x2 g) (h : neaR a1 a2 x1 x2 4472074429978902528 r) : r = true := by
 obtain ⟨dx, dy, l, h1, h2, h3, rfl⟩ := h
 obtain ⟨p1, p2, p3⟩ := sub9 hc ha.1 hx.1 h1
 obtain ⟨q1, q2, q3⟩ := sub9 hc ha.2 hx.2 h2
 have hU := unit_le hc
 have n1 : Fl.nan dx = false := by unfold Fl.nan; exact decide_eq_false (by omega)
 have n2 : Fl.nan dy = false := by unfold Fl.nan; exact decide_eq_false (by omega)
 obtain ⟨s1, s2, s3, s4⟩ := len_bounds h3 n1 n2
 obtain ⟨o, _⟩ := run_some (op := .add) (Fl.add_fin (x := Fl.rg dx) (y := Fl.rg dy) (by rw [rg_rg6]; exact p2) (by rw [rg_rg6]; exact q2))
 obtain ⟨t1, t2, t3⟩ := s4 _ o
 have vx : Fl.val (Fl.rg dx) = (Fl.vl (Fl.rg dx) : Nat) := by unfold Fl.val; rw [sg_rg6, if_neg (by decide), rg_rg6]
 have vy : Fl.val (Fl.rg dy) = (Fl.vl (Fl.rg dy) : Nat) := by unfold Fl.val; rw [sg_rg6, if_neg (by decide), rg_rg6]
 rw [vx, vy] at t3
 have hb : ((Fl.vl (Fl.rg dx) : Int) + (Fl.vl (Fl.rg dy) : Int)).natAbs ≤ 1125899906842624 * 2 ^ c := by
  rw [← Int.natCast_add, Int.natAbs_natCast]
  generalize Fl.vl (Fl.rg dx) = a at *
  generalize Fl.vl (Fl.rg dy) = b at *
  clear vx vy t3 o s4
  omega
 have k := sum_nr (c := c) (s := if (Fl.vl (Fl.rg dx) : Int) + (Fl.vl (Fl.rg dy) : Int) = 0 then Fl.sg (Fl.rg dx) && Fl.sg (Fl.rg dy) else decide ((Fl.vl (Fl.rg dx) : Int) + (Fl.vl (Fl.rg dy) : Int) < 0)) hc (fun z => by rw [if_neg z]) hb
 generalize Fl.wd _ _ = t at k t3
 obtain ⟨k1, k2, k3⟩ := k
 rw [← Int.natCast_add, Int.natAbs_natCast] at k3
 have hv := Zq.nabs_add ((Fl.vl (Fl.rg dx) + Fl.vl (Fl.rg dy) : Nat) : Int) (Fl.val t - ((Fl.vl (Fl.rg dx) + Fl.vl (Fl.rg dy) : Nat) : Int))
 rw [show ((Fl.vl (Fl.rg dx) + Fl.vl (Fl.rg dy) : Nat) : Int) + (Fl.val t - ((Fl.vl (Fl.rg dx) + Fl.vl (Fl.rg dy) : Nat) : Int)) = Fl.val t by rw [Int.add_comm, Int.sub_add_cancel], val_natAbs, Int.natAbs_natCast] at hv
 have hlt := tot_lin hU p3 q3 hv k3
 rw [← tiny_vl c hc] at hlt
 have ht : Fl.rg t < 4472074429978902528 := by
  rcases Nat.lt_or_ge (Fl.rg t) 4472074429978902528 with z | z
  · exact z
  ·
   have := vl_le9 z
   have h5 := Nat.lt_of_mul_lt_mul_left hlt
   exact absurd h5 (Nat.not_lt.2 this)
 have nl : Fl.nan l = false := by unfold Fl.nan; exact decide_eq_false (by omega)
 rw [Fl.leF_of nl (by decide)]
 unfold Fl.key
 rw [s1, if_neg (by decide), show Fl.sg 4472074429978902528 = false by decide, if_neg (by decide), show Fl.rg 4472074429978902528 = 4472074429978902528 by decide]
 exact decide_eq_true (by omega)
end Go.Proofs.YtfgfofedacehiaaGreat

