/-
 OWN TEXT: package power, as it landed: sines, cosines, their hyperbolic ones, logarithms, sheets, for every number.
-/
import Derived.Test.YtfgfofedacehiaaGreatJPoAToAnM
import Derived.Test.YtfgfofedacehiaaGreatJRoOToRoP
import Derived.Test.YtfgfofedacehiaaGreatJEpBToBhL
import Derived.Laws.Rows
import Derived.Test.YtfgfofedacehiaaGreatJRpAToEqA
import Derived.Test.YtfgfofedacehiaaGreatJEoEToEqE
namespace Go.Proofs.YtfgfofedacehiaaGreat
open Go.ChangeShapes Go.WideShapes Go.ChangeAt Go.RowKit
set_option linter.unusedVariables false
attribute [local go_sem] frombits_call tobits_call run_neg
theorem run_store_func {P : Program} {w : World} {a : Addr} {m : Mode} (f : Fn) (x y : Array Value) : (store a (.func f x y) m).run P w = stored P w a (.func f x y) m := run_store P w a _ m rfl
attribute [local go_sem] run_store_func
end Go.Proofs.YtfgfofedacehiaaGreat

/-
 OWN TEXT: package power, as it landed: logarithms, sines, cosines, their hyperbolic ones, sheets, for every number.
-/
namespace Go.Proofs.YtfgfofedacehiaaGreat
open Go.ChangeShapes Go.WideShapes Go.ChangeAt Go.RowKit
set_option linter.unusedVariables false
attribute [local go_sem] frombits_call tobits_call run_neg
end Go.Proofs.YtfgfofedacehiaaGreat

/-
 OWN TEXT: package power, as it landed: exponentials and powers, for every number.
-/
namespace Go.Proofs.YtfgfofedacehiaaGreat
open Go.ChangeShapes Go.WideShapes Go.ChangeAt Go.RowKit
set_option linter.unusedVariables false
attribute [local go_sem] frombits_call tobits_call run_neg
theorem pscale_any (a b s : Nat) (w : World) : Calls Tryz.prog 92 #[.complex .f64 a b, .float .f64 s] w fun e w' => ∃ x y, e = .returned (.complex .f64 x y) ∧ opR .mul a s x ∧ opR .mul b s y ∧ Bw w w' := by
 obtain ⟨x, w1, h1, e1, b1⟩ := op_run .mul isMul a s w
 obtain ⟨y, w2, h2, e2, b2⟩ := op_run .mul isMul b s w1
 have H1 : Hid (opR .mul a s x) := h1
 have H2 : Hid (opR .mul b s y) := h2
 have G := bw_trans b1 b2
 clear h1 h2 b1 b2
 go_enter Tryz.func92, Tryz.ntmps92
 go_wp2
 go_ret
 exact ⟨_, _, rfl, H1.out, H2.out, G⟩
theorem pmul_any (p q r s : Nat) (w : World) : Calls Tryz.prog 19 #[.complex .f64 p q, .complex .f64 r s] w fun e w' => ∃ x y, e = .returned (.complex .f64 x y) ∧ cmuR p q r s x y ∧ Bw w w' := by
 obtain ⟨a, w1, h1, e1, b1⟩ := op_run .mul isMul p r w
 obtain ⟨b, w2, h2, e2, b2⟩ := op_run .mul isMul q s w1
 obtain ⟨x, w3, h3, e3, b3⟩ := op_run .sub isSub a b w2
 obtain ⟨c, w4, h4, e4, b4⟩ := op_run .mul isMul p s w3
 obtain ⟨d, w5, h5, e5, b5⟩ := op_run .mul isMul q r w4
 obtain ⟨y, w6, h6, e6, b6⟩ := op_run .add isAdd c d w5
 have HM : Hid (cmuR p q r s x y) := ⟨a, b, c, d, h1, h2, h3, h4, h5, h6⟩
 have G := bw_trans (bw_trans (bw_trans (bw_trans (bw_trans b1 b2) b3) b4) b5) b6
 clear h1 h2 h3 h4 h5 h6 b1 b2 b3 b4 b5 b6
 go_enter Tryz.func19, Tryz.ntmps19
 go_wp2
 go_ret
 exact ⟨_, _, rfl, HM.out, G⟩
end Go.Proofs.YtfgfofedacehiaaGreat

/-
 OWN TEXT: complex numbers as functions of one row of bits a part (all that is no number is one): products, quotients, logarithms, real powers.
-/
namespace Go.Proofs.YtfgfofedacehiaaGreat
open Go.ChangeShapes Go.WideShapes Go.ChangeAt Go.RowKit
set_option linter.unusedVariables false
namespace El
abbrev Z := Nat × Nat
def c2 (x y : Nat) : Z := (Fl.bitsF x, Fl.bitsF y)
def zmul (a b : Z) : Z := (Sv.op .sub (Sv.op .mul a.1 b.1) (Sv.op .mul a.2 b.2), Sv.op .add (Sv.op .mul a.1 b.2) (Sv.op .mul a.2 b.1))
def zscale (a : Z) (s : Nat) : Z := (Sv.op .mul a.1 s, Sv.op .mul a.2 s)
def dA (a : Z) (k t : Nat) : Z := (Sv.op .quo (Sv.op .add a.1 (Sv.op .mul a.2 k)) t, Sv.op .quo (Sv.op .sub a.2 (Sv.op .mul a.1 k)) t)
def dB (a : Z) (k t : Nat) : Z := (Sv.op .quo (Sv.op .add (Sv.op .mul a.1 k) a.2) t, Sv.op .quo (Sv.op .sub (Sv.op .mul a.2 k) a.1) t)
def zdiv (a b : Z) : Z := if Fl.leF (Fl.rg b.2) (Fl.rg b.1) = true then dA a (Sv.op .quo b.2 b.1) (Sv.op .add b.1 (Sv.op .mul b.2 (Sv.op .quo b.2 b.1)))
 else dB a (Sv.op .quo b.1 b.2) (Sv.op .add (Sv.op .mul b.1 (Sv.op .quo b.1 b.2)) b.2)
def fin (a : Z) : Bool := Fl.finB a.1 && Fl.finB a.2
theorem leF_c (x y : Nat) : Fl.leF (Fl.rg (Fl.bitsF x)) (Fl.rg (Fl.bitsF y)) = Fl.leF (Fl.rg x) (Fl.rg y) := by
 by_cases nx : Fl.nan x = true
 ·
  have h : ∀ z, Fl.nan z = true → ∀ u, Fl.leF (Fl.rg z) u = false := by
   intro z hz u
   unfold Fl.leF
   rw [Fl.nan_rg, hz]
   rfl
  rw [h x nx, h _ (by rw [Sv.nan_c]; exact nx)]
 ·
  by_cases ny : Fl.nan y = true
  ·
   have h : ∀ z, Fl.nan z = true → ∀ u, Fl.leF u (Fl.rg z) = false := by
    intro z hz u
    unfold Fl.leF
    rw [Fl.nan_rg, hz]
    simp
   rw [h y ny, h _ (by rw [Sv.nan_c]; exact ny)]
  · rw [Sv.c_num (Bool.eq_false_iff.2 nx), Sv.c_num (Bool.eq_false_iff.2 ny)]
theorem cmu_c {p q r s x y : Nat} (h : cmuR p q r s x y) : c2 x y = zmul (c2 p q) (c2 r s) ∧ x < 18446744073709551616 ∧ y < 18446744073709551616 := by
 obtain ⟨a, b, c, d, h1, h2, h3, h4, h5, h6⟩ := h
 refine ⟨Prod.ext ?_ ?_, h3.1, h6.1⟩
 ·
  show Fl.bitsF x = _
  rw [Sv.op_of isSub h3, Sv.op_of isMul h1, Sv.op_of isMul h2]; rfl
 ·
  show Fl.bitsF y = _
  rw [Sv.op_of isAdd h6, Sv.op_of isMul h4, Sv.op_of isMul h5]; rfl
end El
theorem zmul_any (p q r s : Nat) (w : World) : Calls Tryz.prog 19 #[.complex .f64 p q, .complex .f64 r s] w fun e w' => ∃ x y, e = .returned (.complex .f64 x y) ∧ El.c2 x y = El.zmul (El.c2 p q) (El.c2 r s) ∧ x < 18446744073709551616 ∧ y < 18446744073709551616 ∧ Bw w w' :=
 (pmul_any p q r s w).mono fun e w' h => by
  obtain ⟨x, y, rfl, h, b⟩ := h
  obtain ⟨h1, h2, h3⟩ := El.cmu_c h
  exact ⟨x, y, rfl, h1, h2, h3, b⟩
theorem zscale_any (a b s : Nat) (w : World) : Calls Tryz.prog 92 #[.complex .f64 a b, .float .f64 s] w fun e w' => ∃ x y, e = .returned (.complex .f64 x y) ∧ El.c2 x y = El.zscale (El.c2 a b) (Fl.bitsF s) ∧ x < 18446744073709551616 ∧ y < 18446744073709551616 ∧ Bw w w' :=
 (pscale_any a b s w).mono fun e w' h => by
  obtain ⟨x, y, rfl, h1, h2, b⟩ := h
  exact ⟨x, y, rfl, Prod.ext (Sv.op_of isMul h1) (Sv.op_of isMul h2), h1.1, h2.1, b⟩
set_option maxHeartbeats 4000000 in
theorem zdiv_any (p q r s : Nat) (w : World) (hr : r < 18446744073709551616) (hs : s < 18446744073709551616) : Calls Tryz.prog 41 #[.complex .f64 p q, .complex .f64 r s] w fun e w' => ∃ x y, e = .returned (.complex .f64 x y) ∧ El.c2 x y = El.zdiv (El.c2 p q) (El.c2 r s) ∧ x < 18446744073709551616 ∧ y < 18446744073709551616 ∧ Bw w w' := by
 have AR : Hid (∀ wz, Calls Tryz.prog 61 #[.float .f64 r] wz fun e w' => e = .returned (.float .f64 (Fl.rg r)) ∧ w' = wz) := fun wz => abs_any r wz hr
 have AS : Hid (∀ wz, Calls Tryz.prog 61 #[.float .f64 s] wz fun e w' => e = .returned (.float .f64 (Fl.rg s)) ∧ w' = wz) := fun wz => abs_any s wz hs
 cases hle : Fl.leF (Fl.rg s) (Fl.rg r) with
 | true =>
  obtain ⟨k, w1, l1, e1, r1, b1⟩ := Sv.run isQuo s r w
  obtain ⟨m, w2, l2, e2, r2, b2⟩ := Sv.run isMul s k w1
  obtain ⟨t, w3, l3, e3, r3, b3⟩ := Sv.run isAdd r m w2
  obtain ⟨n, w4, l4, e4, r4, b4⟩ := Sv.run isMul q k w3
  obtain ⟨u, w5, l5, e5, r5, b5⟩ := Sv.run isAdd p n w4
  obtain ⟨x, w6, l6, e6, r6, b6⟩ := Sv.run isQuo u t w5
  obtain ⟨n', w7, l7, e7, r7, b7⟩ := Sv.run isMul p k w6
  obtain ⟨v, w8, l8, e8, r8, b8⟩ := Sv.run isSub q n' w7
  obtain ⟨y, w9, l9, e9, r9, b9⟩ := Sv.run isQuo v t w8
  have HV : Hid (El.c2 x y = El.zdiv (El.c2 p q) (El.c2 r s) ∧ x < 18446744073709551616 ∧ y < 18446744073709551616) := by
   refine ⟨?_, l6, l9⟩
   unfold El.zdiv
   rw [if_pos (by show Fl.leF (Fl.rg (Fl.bitsF s)) (Fl.rg (Fl.bitsF r)) = true; rw [El.leF_c]; exact hle)]
   unfold El.dA El.c2
   simp only
   rw [← e1, ← e2, ← e3, ← e4, ← e5, ← e6, ← e7, ← e8, ← e9]
  have G := bw_trans (bw_trans (bw_trans (bw_trans (bw_trans (bw_trans (bw_trans (bw_trans b1 b2) b3) b4) b5) b6) b7) b8) b9
  have og := Fl.o_ge (Fl.rg r) (Fl.rg s)
  rw [hle] at og
  clear hle l1 l2 l3 l4 l5 l6 l7 l8 l9 e1 e2 e3 e4 e5 e6 e7 e8 e9 b1 b2 b3 b4 b5 b6 b7 b8 b9
  generalize Fl.rg r = ur at *
  generalize Fl.rg s = us at *
  go_enter Tryz.func41, Tryz.ntmps41
  go_wp2_with fail
  refine (AR.out _).mono ?_
  rintro e' w ⟨rfl, rfl⟩
  go_wp2_with fail
  refine (AS.out _).mono ?_
  rintro e' w ⟨rfl, rfl⟩
  go_wp2
  go_ret
  exact ⟨_, _, rfl, HV.out.1, HV.out.2.1, HV.out.2.2, G⟩
 | false =>
  obtain ⟨k, w1, l1, e1, r1, b1⟩ := Sv.run isQuo r s w
  obtain ⟨m, w2, l2, e2, r2, b2⟩ := Sv.run isMul r k w1
  obtain ⟨t, w3, l3, e3, r3, b3⟩ := Sv.run isAdd m s w2
  obtain ⟨n, w4, l4, e4, r4, b4⟩ := Sv.run isMul p k w3
  obtain ⟨u, w5, l5, e5, r5, b5⟩ := Sv.run isAdd n q w4
  obtain ⟨x, w6, l6, e6, r6, b6⟩ := Sv.run isQuo u t w5
  obtain ⟨n', w7, l7, e7, r7, b7⟩ := Sv.run isMul q k w6
  obtain ⟨v, w8, l8, e8, r8, b8⟩ := Sv.run isSub n' p w7
  obtain ⟨y, w9, l9, e9, r9, b9⟩ := Sv.run isQuo v t w8
  have HV : Hid (El.c2 x y = El.zdiv (El.c2 p q) (El.c2 r s) ∧ x < 18446744073709551616 ∧ y < 18446744073709551616) := by
   refine ⟨?_, l6, l9⟩
   unfold El.zdiv
   rw [if_neg (by show ¬ Fl.leF (Fl.rg (Fl.bitsF s)) (Fl.rg (Fl.bitsF r)) = true; rw [El.leF_c, hle]; decide)]
   unfold El.dB El.c2
   simp only
   rw [← e1, ← e2, ← e3, ← e4, ← e5, ← e6, ← e7, ← e8, ← e9]
  have G := bw_trans (bw_trans (bw_trans (bw_trans (bw_trans (bw_trans (bw_trans (bw_trans b1 b2) b3) b4) b5) b6) b7) b8) b9
  have og := Fl.o_ge (Fl.rg r) (Fl.rg s)
  rw [hle] at og
  clear hle l1 l2 l3 l4 l5 l6 l7 l8 l9 e1 e2 e3 e4 e5 e6 e7 e8 e9 b1 b2 b3 b4 b5 b6 b7 b8 b9
  generalize Fl.rg r = ur at *
  generalize Fl.rg s = us at *
  go_enter Tryz.func41, Tryz.ntmps41
  go_wp2_with fail
  refine (AR.out _).mono ?_
  rintro e' w ⟨rfl, rfl⟩
  go_wp2_with fail
  refine (AS.out _).mono ?_
  rintro e' w ⟨rfl, rfl⟩
  go_wp2
  go_ret
  exact ⟨_, _, rfl, HV.out.1, HV.out.2.1, HV.out.2.2, G⟩
end Go.Proofs.YtfgfofedacehiaaGreat

/-
 OWN TEXT: package element's small functions: places, noughts, whole powers, what is told; the kinds.
-/
namespace Go.Proofs.YtfgfofedacehiaaGreat
open Go.ChangeShapes Go.WideShapes Go.ChangeAt Go.RowKit
set_option linter.unusedVariables false
attribute [local go_sem] frombits_call tobits_call run_neg
namespace El
/-- an element -/
def E (k : Int) (a b s t p : Nat) : Value := .agg #[.int .u8 k, .complex .f64 a b, .complex .f64 s t, .float .f64 p]
theorem run_store_cx {P : Program} {w : World} {a : Addr} {m : Mode} (x y : Nat) : (store a (.complex .f64 x y) m).run P w = stored P w a (.complex .f64 x y) m := run_store P w a _ m rfl
theorem run_store_fl {P : Program} {w : World} {a : Addr} {m : Mode} (x : Nat) : (store a (.float .f64 x) m).run P w = stored P w a (.float .f64 x) m := run_store P w a _ m rfl
end El
attribute [local go_sem] El.run_store_cx El.run_store_fl
end Go.Proofs.YtfgfofedacehiaaGreat

