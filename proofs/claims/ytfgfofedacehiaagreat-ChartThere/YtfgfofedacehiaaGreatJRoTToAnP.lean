/-
 OWN TEXT: sums and products either way round; lengths do not hang on signs, nor on the order of the parts.
-/
import Derived.Test.YtfgfofedacehiaaGreatJRoA
import Derived.Test.YtfgfofedacehiaaGreatJPoAToAnM
import Derived.Test.YtfgfofedacehiaaGreatJEoAToFnSame
import Derived.Laws.Cover3
import Derived.Test.YtfgfofedacehiaaGreatJFnToFnStairs
import Derived.Test.YtfgfofedacehiaaGreatJFlCToFlG
import Derived.Test.YtfgfofedacehiaaGreatJLsAToEoC
import Derived.Test.YtfgfofedacehiaaGreatJRpAToEqA
import Derived.Test.YtfgfofedacehiaaGreatJAnA
import Derived.Test.YtfgfofedacehiaaGreatJFnLdexpToFnParts
namespace Go.Proofs.YtfgfofedacehiaaGreat
open Go.ChangeShapes Go.WideShapes Go.ChangeAt Go.RowKit
set_option linter.unusedVariables false
theorem paE_small (x : Nat) (hx : x < 18446744073709551616) : -2000 < paE x ∧ paE x < 2000 := by
 by_cases c : Fl.rg x = 0 ∨ 9218868437227405312 ≤ Fl.rg x
 ·
  have e : paE x = 0 := if_pos c
  rw [e]; omega
 ·
  obtain ⟨y1, y2, y3, y4, c1, c2, v1⟩ := nm_facts hx (by omega) (by omega)
  have e1 : paE x = ptE x := if_neg c
  rw [e1]
  unfold ptE
  omega
theorem sum_comm (a b : Ieee.Datum) : a.sum b = b.sum a := by
 cases a with
 | nan s t => cases b <;> rfl
 | infinity s =>
  cases b with
  | nan _ _ => rfl
  | infinity t =>
   simp only [Ieee.Datum.sum]
   by_cases c : s = t
   · subst c; rfl
   · rw [if_neg c, if_neg (fun h => c h.symm)]
  | number _ _ _ => rfl
 | number s m i =>
  cases b with
  | nan _ _ => rfl
  | infinity _ => rfl
  | number t n j =>
   simp only [Ieee.Datum.sum]
   rw [show min j i = min i j by omega, Int.add_comm, Bool.and_comm]
theorem add_comm5 {a b x : Nat} (h : opR .add a b x) : opR .add b a x := by
 have e : floatBits .add .f64 a b = floatBits .add .f64 b a := by
  show Ieee.double.add a b = Ieee.double.add b a
  unfold Ieee.Format.add
  rw [sum_comm]
 unfold opR at h ⊢
 rw [← e]
 exact h
/-- a square does not hang on the sign -/
theorem sq_rg {x p : Nat} (hx : x < 18446744073709551616) (h : opR .mul x x p) : opR .mul (Fl.rg x) (Fl.rg x) p := by
 cases s : Fl.sg x
 ·
  have e : Fl.rg x = x := by have k := Fl.wd_self hx; rw [s] at k; exact k
  rw [e]; exact h
 ·
  have e : x = Fl.ng (Fl.rg x) := by
   have k := Fl.wd_self hx
   rw [s] at k
   have k2 := Fl.ng_wd false (Fl.rg x) (Fl.rg_lt x)
   exact k.symm.trans k2
  have hr : Fl.rg x < 18446744073709551616 := by have := Fl.rg_lt x; omega
  generalize Fl.rg x = r at *
  subst e
  have m := (Fl.mul_ng' (a := Fl.ng r) (b := r) hr).trans (congrArg (Option.map Fl.ng) (Fl.mul_ng (a := r) (b := r) hr))
  refine ⟨h.1, ?_⟩
  cases z : Ieee.double.mul r r with
  | none =>
   rw [z] at m
   refine Or.inr ⟨z, ?_⟩
   rcases h.2 with q | q
   ·
    have q' : Ieee.double.mul (Fl.ng r) (Fl.ng r) = some p := q
    rw [m] at q'; cases q'
   · exact q.2
  | some v =>
   rw [z] at m
   have z' : floatBits .mul .f64 r r = some v := z
   have hv : v < 18446744073709551616 := floatBits_lt0 z'
   have m' : floatBits .mul .f64 (Fl.ng r) (Fl.ng r) = some v := by
    have : Ieee.double.mul (Fl.ng r) (Fl.ng r) = some (Fl.ng (Fl.ng v)) := m
    rw [Fl.ng_ng hv] at this
    exact this
   left
   rcases h.2 with q | q
   · rw [m'] at q; rw [z']; exact q
   · rw [m'] at q; cases q.1
theorem sqa_rg {a b r : Nat} (ha : a < 18446744073709551616) (hb : b < 18446744073709551616) (h : sqaR a b r) : sqaR (Fl.rg a) (Fl.rg b) r := by
 obtain ⟨p, q, h1, h2, h3⟩ := h
 exact ⟨p, q, sq_rg ha h1, sq_rg hb h2, h3⟩
theorem sqa_swap {a b r : Nat} (h : sqaR a b r) : sqaR b a r := by
 obtain ⟨p, q, h1, h2, h3⟩ := h
 exact ⟨q, p, h2, h1, add_comm5 h3⟩
theorem tog_rg {a b r : Nat} (ha : a < 18446744073709551616) (hb : b < 18446744073709551616) (h : togR a b r) : togR (Fl.rg a) (Fl.rg b) r := by
 obtain ⟨s, h1, h2⟩ := h
 exact ⟨s, sqa_rg ha hb h1, h2⟩
theorem tog_swap {a b r : Nat} (h : togR a b r) : togR b a r := by
 obtain ⟨s, h1, h2⟩ := h
 exact ⟨s, sqa_swap h1, h2⟩
theorem rg_rg6 (x : Nat) : Fl.rg (Fl.rg x) = Fl.rg x := by have := Fl.rg_lt x; unfold Fl.rg at *; omega
theorem sg_rg6 (x : Nat) : Fl.sg (Fl.rg x) = false := by have k := Fl.sg_wd false (Fl.rg x) (Fl.rg_lt x); exact k
theorem key_rg6 (x : Nat) : Fl.key (Fl.rg x) = (Fl.rg x : Nat) := by unfold Fl.key; rw [sg_rg6, rg_rg6]; rfl
theorem wd_false6 (r : Nat) : Fl.wd false r = r := rfl
theorem rg_sc {x : Nat} (hx : x < 18446744073709551616) (hf : Fl.rg x < 9218868437227405312) (n : Int) : Fl.rg (scF x n) = scF (Fl.rg x) n := by
 have hf2 : Fl.rg (Fl.rg x) < 9218868437227405312 := (rg_rg6 x).symm ▸ hf
 by_cases z : Fl.rg x = 0
 ·
  have z2 : Fl.rg (Fl.rg x) = 0 := (rg_rg6 x).trans z
  exact (congrArg Fl.rg (scF_stay (Or.inl z) n)).trans (scF_stay (Or.inl z2) n).symm
 ·
  have z2 : ¬ Fl.rg (Fl.rg x) = 0 := fun h => z ((rg_rg6 x).symm.trans h)
  have A := scF_fin hf z n
  have B := scF_fin hf2 z2 n
  have L := Fl.rz_le (Fl.vl (Fl.rg x)) n
  rw [rg_rg6, sg_rg6] at B
  generalize Fl.rz (Fl.vl (Fl.rg x)) n = r at A B L
  rw [A, B, Fl.rg_wd _ _ (Nat.lt_of_le_of_lt L (by decide)), wd_false6]
/-- the length by the parts in their places is that by the greater and the lesser one -/
theorem tog_big {a b l : Nat} {n : Int} (ha : a < 18446744073709551616) (hb : b < 18446744073709551616) (fa : Fl.rg a < 9218868437227405312) (fb : Fl.rg b < 9218868437227405312) (h : togR (scF a n) (scF b n) l) : togR (scF (bigF a b) n) (scF (smaF a b) n) l := by
 have k := tog_rg (scF_lt ha n) (scF_lt hb n) h
 rw [rg_sc ha fa, rg_sc hb fb] at k
 unfold bigF smaF
 split
 · exact tog_swap k
 · exact k
theorem tog_two {a b l : Nat} {n : Int} (ha : a < 18446744073709551616) (hb : b < 18446744073709551616) (fa : Fl.rg a < 9218868437227405312) (fb : Fl.rg b < 9218868437227405312) (h : togR (scF a n) (scF b n) l) : togR (scF (Fl.rg a) n) (scF (Fl.rg b) n) l := by
 have k := tog_rg (scF_lt ha n) (scF_lt hb n) h
 rw [rg_sc ha fa, rg_sc hb fb] at k
 exact k
theorem big_zero6 {a b : Nat} (na : Fl.nan a = false) (nb : Fl.nan b = false) : bigF a b = 0 ↔ Fl.rg a = 0 ∧ Fl.rg b = 0 := by
 have e : Fl.ltF (Fl.rg a) (Fl.rg b) = decide (Fl.rg a < Fl.rg b) := by
  unfold Fl.ltF
  rw [Fl.nan_rg, Fl.nan_rg, na, nb]
  have k1 : Fl.key (Fl.rg a) = (Fl.rg a : Nat) := key_rg6 a
  have k2 : Fl.key (Fl.rg b) = (Fl.rg b : Nat) := key_rg6 b
  rw [k1, k2]
  simp
 unfold bigF
 rw [e]
 by_cases c : Fl.rg a < Fl.rg b
 ·
  rw [decide_eq_true c, if_pos rfl]; constructor
  · intro h; omega
  · intro h; omega
 ·
  rw [decide_eq_false c, if_neg (by decide)]; constructor
  · intro h; omega
  · intro h; omega
end Go.Proofs.YtfgfofedacehiaaGreat

/-
 OWN TEXT: the root of a float (math.Sqrt); math.Inf(1), math.NaN.
-/
namespace Go.Proofs.YtfgfofedacehiaaGreat
open Go.ChangeShapes Go.WideShapes Go.ChangeAt Go.RowKit
set_option linter.unusedVariables false
attribute [local go_sem] frombits_call tobits_call run_neg
theorem sqrt_call (x : Nat) (w : World) : (callFunc 101 #[.float .f64 x]).run Tryz.prog w = ((Extern.MathSqrt.sqrt #[.float .f64 x]).run Tryz.prog w).andThen fun v w' => .ok (.value v) w' := by
 rw [run_callFunc_extern Tryz.func101 (by kernel_rfl) (by kernel_rfl) (by kernel_rfl) (show Extern.find Tryz.f101 = some Extern.MathSqrt.sqrt by kernel_rfl)]
theorem sqrt_lt {x r : Nat} (h : Ieee.double.sqrt x = some r) : r < 18446744073709551616 := by
 unfold Ieee.Format.sqrt at h
 cases e : (Ieee.double.read x).root (Ieee.double.fractionBits + 2) with
 | none => rw [e] at h; cases h
 | some d =>
  rw [e] at h
  have hr : Ieee.double.write d = r := Option.some.inj h
  cases d with
  | number s m i =>
   obtain ⟨q, hq, hw⟩ := Fl.write_num s m i
   rw [hw] at hr
   rw [← hr]; exact Fl.wd_lt _ _ (by omega)
  | infinity s => rw [← hr]; cases s <;> decide
  | nan s t =>
   exfalso
   unfold Ieee.Datum.root at e
   split at e <;> (try (split at e)) <;> (try (split at e)) <;> cases e
theorem sqrt_run (x : Nat) (w : World) : ∃ y w1, sqtR x y ∧ (callFunc 101 #[.float .f64 x]).run Tryz.prog w = .ok (.value (.float .f64 y)) w1 ∧ Bw w w1 := by
 rw [sqrt_call]
 cases h : Ieee.double.sqrt x with
 | some r =>
  refine ⟨r, w, ⟨sqrt_lt h, Or.inl h⟩, ?_, Bw.refl _⟩
  have e : Extern.MathSqrt.sqrt #[.float .f64 x] = pure (.float .f64 r) := by
   have h' : FloatKind.f64.format.sqrt x = some r := h
   change (Extern.MathSqrt.sqrt.match_1 _ (FloatKind.f64.format.sqrt x) _ _) = _
   rw [h']
  rw [e]; rfl
 | none =>
  refine ⟨(Question.nanBits .f64 x x).cut (w.tape w.drawn (.nanBits .f64 x x)), w.drew, ⟨?_, Or.inr ⟨h, ?_⟩⟩, ?_, (Bw.refl _).drew⟩
  · simp only [Question.cut]; omega
  ·
   unfold Fl.nan
   refine decide_eq_true ?_
   simp only [Question.cut, Fl.rg]
   generalize w.tape w.drawn (Question.nanBits FloatKind.f64 x x) = t
   have h2 : t / 2 % (2 ^ 52 - 1) < 2 ^ 52 - 1 := Nat.mod_lt _ (by decide)
   generalize t / 2 % (2 ^ 52 - 1) = q at h2
   have h1 : t % 2 = 0 ∨ t % 2 = 1 := by omega
   rcases h1 with h1 | h1 <;> rw [h1] <;> omega
  ·
   have h' : FloatKind.f64.format.sqrt x = none := h
   have e : Extern.MathSqrt.sqrt #[.float .f64 x] = (choose (.nanBits .f64 x x)).bind fun b => pure (.float .f64 b) := by
    change (Extern.MathSqrt.sqrt.match_1 _ (FloatKind.f64.format.sqrt x) _ _) = _
    rw [h']
    rfl
   rw [e]
   rfl
theorem sqrt_any (x : Nat) (w : World) : Calls Tryz.prog 82 #[.float .f64 x] w fun e w' => ∃ y, e = .returned (.float .f64 y) ∧ sqtR x y ∧ Bw w w' := by
 obtain ⟨y, w1, hy, c, g⟩ := sqrt_run x w
 have HY : Hid (sqtR x y) := hy
 clear hy
 go_enter Tryz.func82, Tryz.ntmps82
 go_wp2
 go_ret
 exact ⟨y, rfl, HY.out, g⟩
theorem infp6 (w : World) : Calls Tryz.prog 46 #[.int .i64 1] w fun e w' => e = .returned (.float .f64 9218868437227405312) ∧ w' = w := by
 go_enter Tryz.func46, Tryz.ntmps46
 go_wp2
 go_ret
 exact ⟨rfl, rfl⟩
theorem nan6 (w : World) : Calls Tryz.prog 48 #[] w fun e w' => e = .returned (.float .f64 9221120237041090561) ∧ w' = w := by
 go_enter Tryz.func48, Tryz.ntmps48
 go_wp2
 go_ret
 exact ⟨rfl, rfl⟩
end Go.Proofs.YtfgfofedacehiaaGreat

/-
 OWN TEXT: two complex numbers are the same (eddyref02.Same, eddylaw06.same).
-/
namespace Go.Proofs.YtfgfofedacehiaaGreat
open Go.ChangeShapes Go.WideShapes Go.ChangeAt Go.RowKit
set_option linter.unusedVariables false
attribute [local go_sem] frombits_call tobits_call run_neg
end Go.Proofs.YtfgfofedacehiaaGreat

/-
 OWN TEXT: a small whole number as a float.
-/
namespace Go.Proofs.YtfgfofedacehiaaGreat
open Go.ChangeShapes Go.WideShapes Go.ChangeAt Go.RowKit
set_option linter.unusedVariables false
end Go.Proofs.YtfgfofedacehiaaGreat

/-
 OWN TEXT: a float made whole, in numbers.
-/
namespace Go.Proofs.YtfgfofedacehiaaGreat.Fl
set_option linter.unusedVariables false
theorem wd_false (r : Nat) : wd false r = r := rfl
end Go.Proofs.YtfgfofedacehiaaGreat.Fl
namespace Go.Proofs.YtfgfofedacehiaaGreat
set_option linter.unusedVariables false
open Go.ChangeShapes Go.WideShapes Go.ChangeAt Go.RowKit
end Go.Proofs.YtfgfofedacehiaaGreat

/-
 OWN TEXT: what Whole of the reference returns, for every float.
-/
namespace Go.Proofs.YtfgfofedacehiaaGreat
open Go.ChangeShapes Go.WideShapes Go.ChangeAt Go.RowKit
set_option linter.unusedVariables false
attribute [local go_sem] frombits_call tobits_call run_neg
end Go.Proofs.YtfgfofedacehiaaGreat

/-
 OWN TEXT: the reference's float made whole (eddyref01.Whole), for every float.
-/
namespace Go.Proofs.YtfgfofedacehiaaGreat
open Go.ChangeShapes Go.WideShapes Go.ChangeAt Go.RowKit
set_option linter.unusedVariables false
end Go.Proofs.YtfgfofedacehiaaGreat

/-
 OWN TEXT: the reference's quarters, sines, cosines (eddyref05.Quarter, Turn), for every float.
-/
namespace Go.Proofs.YtfgfofedacehiaaGreat
open Go.ChangeShapes Go.WideShapes Go.ChangeAt Go.RowKit
set_option linter.unusedVariables false
attribute [local go_sem] frombits_call tobits_call run_neg
end Go.Proofs.YtfgfofedacehiaaGreat

/-
 OWN TEXT: the reference's cosine, quarter, turn (eddyref05.cosine, Quarter, Turn), for every float.
-/
namespace Go.Proofs.YtfgfofedacehiaaGreat
open Go.ChangeShapes Go.WideShapes Go.ChangeAt Go.RowKit
set_option linter.unusedVariables false
attribute [local go_sem] frombits_call tobits_call run_neg
end Go.Proofs.YtfgfofedacehiaaGreat

/-
 OWN TEXT: package angle's sine, cosine, pieces of quarters (eddy/angle.sine, cosine, fit, without), for every float.
-/
namespace Go.Proofs.YtfgfofedacehiaaGreat
open Go.ChangeShapes Go.WideShapes Go.ChangeAt Go.RowKit
set_option linter.unusedVariables false
attribute [local go_sem] frombits_call tobits_call run_neg
theorem piece5_0 (w : World) : (Instr.index 100 (.agg #[.int .u64 4609753056924401664, .int .u64 4454258360616747008, .int .u64 4297306550709518336]) (.int .i64 0)).run Tryz.prog w = .ok (.int .u64 4609753056924401664) w := by kernel_rfl
theorem piece5_1 (w : World) : (Instr.index 100 (.agg #[.int .u64 4609753056924401664, .int .u64 4454258360616747008, .int .u64 4297306550709518336]) (.int .i64 1)).run Tryz.prog w = .ok (.int .u64 4454258360616747008) w := by kernel_rfl
theorem piece5_2 (w : World) : (Instr.index 100 (.agg #[.int .u64 4609753056924401664, .int .u64 4454258360616747008, .int .u64 4297306550709518336]) (.int .i64 2)).run Tryz.prog w = .ok (.int .u64 4297306550709518336) w := by kernel_rfl
attribute [local go_sem] piece5_0 piece5_1 piece5_2
end Go.Proofs.YtfgfofedacehiaaGreat

/-
 OWN TEXT: package angle's quarters and turns (eddy/angle.Quarter, Turn), for every float.
-/
namespace Go.Proofs.YtfgfofedacehiaaGreat
open Go.ChangeShapes Go.WideShapes Go.ChangeAt Go.RowKit
set_option linter.unusedVariables false
attribute [local go_sem] frombits_call tobits_call run_neg
end Go.Proofs.YtfgfofedacehiaaGreat

/-
 OWN TEXT: package angle's angles (eddy/angle.arc, slope, first, across, Of, Tan), for every float.
-/
namespace Go.Proofs.YtfgfofedacehiaaGreat
open Go.ChangeShapes Go.WideShapes Go.ChangeAt Go.RowKit
set_option linter.unusedVariables false
attribute [local go_sem] frombits_call tobits_call run_neg
theorem h4 (ty : TypeId) (w : World) : (binOp .quo ty (.float .f64 4614256656552045848) (.float .f64 4616189618054758400)).run Tryz.prog w = .ok (.float .f64 4605249457297304856) w := run_float_arith w .quo ty .f64 _ _ _ (by decide +kernel)
theorem l4 (ty : TypeId) (w : World) : (binOp .quo ty (.float .f64 4368955796522032135) (.float .f64 4616189618054758400)).run Tryz.prog w = .ok (.float .f64 4359948597267291143) w := run_float_arith w .quo ty .f64 _ _ _ (by decide +kernel)
theorem h2 (ty : TypeId) (w : World) : (binOp .quo ty (.float .f64 4614256656552045848) (.float .f64 4611686018427387904)).run Tryz.prog w = .ok (.float .f64 4609753056924675352) w := run_float_arith w .quo ty .f64 _ _ _ (by decide +kernel)
theorem l2 (ty : TypeId) (w : World) : (binOp .quo ty (.float .f64 4368955796522032135) (.float .f64 4611686018427387904)).run Tryz.prog w = .ok (.float .f64 4364452196894661639) w := run_float_arith w .quo ty .f64 _ _ _ (by decide +kernel)
end Go.Proofs.YtfgfofedacehiaaGreat

/-
 OWN TEXT: package angle's wrapped angles (eddy/angle.wrapped, Wrap), for every float.
-/
namespace Go.Proofs.YtfgfofedacehiaaGreat
open Go.ChangeShapes Go.WideShapes Go.ChangeAt Go.RowKit
set_option linter.unusedVariables false
attribute [local go_sem] frombits_call tobits_call run_neg
end Go.Proofs.YtfgfofedacehiaaGreat

