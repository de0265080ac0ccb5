/-
  OWN TEXT: the values of exponentials and logarithms at given floats, by computation.
-/
import Derived.Test.YtdbfhbpillgacaaEpC
import Derived.Test.YtdbfhbpillgacaaJnAm
namespace Go.Proofs.Ytdbfhbpillgacaa
open Go.ChangeShapes Go.WideShapes Go.ChangeAt Go.RowKit
set_option linter.unusedVariables false
def opV (op : BinOp) (a b : Nat) : Option Nat := floatBits op .f64 a b
theorem op_val {op : BinOp} {a b x v : Nat} (h : opR op a b x) (e : opV op a b = some v) : x = v := h.word e
theorem bs {α β : Type} {o : Option α} {f : α → Option β} {v : β} (h : o.bind f = some v) : ∃ u, o = some u ∧ f u = some v := Option.bind_eq_some_iff.1 h
def risV (r : Nat) : Nat → Option Nat
  | 0 => some 4607182418800017408
  | i + 1 => (risV r i).bind fun t => (opV .mul r t).bind fun p => (opV .quo p (floatOfInt .f64 (13 - (i : Int)))).bind fun d => opV .add 4607182418800017408 d
theorem ris_val {r : Nat} : ∀ (i t v : Nat), risQ r i t → risV r i = some v → t = v
  | 0, t, v, h, k => Eq.trans h (Option.some.inj k)
  | i + 1, t, v, ⟨t1, p, d, h1, h2, h3, h4⟩, k => by
    obtain ⟨u1, k1, k⟩ := bs k
    obtain ⟨u2, k2, k⟩ := bs k
    obtain ⟨u3, k3, k⟩ := bs k
    have e1 := ris_val i t1 u1 h1 k1
    subst e1
    have e2 := op_val h2 k2
    subst e2
    have e3 := op_val h3 k3
    subst e3
    exact op_val h4 k
def oddV0 (s : Nat) : Nat → Option Nat
  | 0 => some 4585925428558828667
  | i + 1 => (oddV0 s i).bind fun q => (opV .quo 4607182418800017408 (floatOfInt .f64 (23 - 2 * (i : Int)))).bind fun d => (opV .mul s q).bind fun p => opV .add d p
theorem odd_val0 {s : Nat} : ∀ (i t v : Nat), oddQ s i t → oddV0 s i = some v → t = v
  | 0, t, v, h, k => Eq.trans h (Option.some.inj k)
  | i + 1, t, v, ⟨t1, p, d, h1, h2, h3, h4⟩, k => by
    obtain ⟨u1, k1, k⟩ := bs k
    obtain ⟨u2, k2, k⟩ := bs k
    obtain ⟨u3, k3, k⟩ := bs k
    have e1 := odd_val0 i t1 u1 h1 k1
    subst e1
    have e2 := op_val h2 k2
    subst e2
    have e3 := op_val h3 k3
    subst e3
    exact op_val h4 k
def oddV (f : Nat) : Option Nat := (opV .mul f f).bind fun s => (oddV0 s 11).bind fun q => (opV .mul 4611686018427387904 f).bind fun a => (opV .mul s q).bind fun p => (opV .mul a p).bind fun r => opV .add a r
theorem odd_val {f y v : Nat} (h : oddR f y) (k : oddV f = some v) : y = v := by
  obtain ⟨s, q, a, p, r, h1, h2, h3, h4, h5, h6⟩ := h
  obtain ⟨u1, k1, k⟩ := bs k
  obtain ⟨u2, k2, k⟩ := bs k
  obtain ⟨u3, k3, k⟩ := bs k
  obtain ⟨u4, k4, k⟩ := bs k
  obtain ⟨u5, k5, k⟩ := bs k
  have e := op_val h1 k1; subst e
  have e := odd_val0 _ _ _ h2 k2; subst e
  have e := op_val h3 k3; subst e
  have e := op_val h4 k4; subst e
  have e := op_val h5 k5; subst e
  exact op_val h6 k
def foldV (x : Nat) : Option Nat := (opV .mul x 4609176140021203710).bind fun p => if Fl.nan p = true then none else some (Fl.whF p)
theorem fold_val {x n v : Nat} (h : foldR x n) (k : foldV x = some v) : n = v := by
  obtain ⟨p, h1, _, h2⟩ := h
  obtain ⟨u1, k1, k⟩ := bs k
  have e := op_val h1 k1; subst e
  by_cases c : Fl.nan p = true
  · rw [if_pos c] at k; cases k
  · rw [if_neg c] at k h2; rw [h2]; exact Option.some.inj k
def restV (x n : Nat) : Option Nat := (opV .mul n 4604418534311723008).bind fun nh => (opV .sub x nh).bind fun d => (opV .mul n 4461442080421002358).bind fun nl => opV .sub d nl
theorem rest_val {x n r v : Nat} (h : restR x n r) (k : restV x n = some v) : r = v := by
  obtain ⟨nh, d, nl, h1, h2, h3, h4⟩ := h
  obtain ⟨u1, k1, k⟩ := bs k
  obtain ⟨u2, k2, k⟩ := bs k
  obtain ⟨u3, k3, k⟩ := bs k
  have e := op_val h1 k1; subst e
  have e := op_val h2 k2; subst e
  have e := op_val h3 k3; subst e
  exact op_val h4 k
def expV (x : Nat) : Option Nat := if Fl.nan x = true then none else if Fl.ltF 4649454594685214392 x = true then some 9218868437227405312 else if Fl.ltF x 13873137573428325253 = true then some 0
  else (foldV x).bind fun n => (restV x n).bind fun r => (risV r 13).bind fun t => (floatToIntVal .f64 n .i64).bind fun q => some (scF t q)
theorem exp_val {x y v : Nat} (h : expR x y) (k : expV x = some v) : y = v := by
  obtain ⟨_, h⟩ := h
  unfold expV at k
  by_cases c0 : Fl.nan x = true
  · rw [if_pos c0] at k; cases k
  · rw [if_neg c0] at h k
    by_cases c1 : Fl.ltF 4649454594685214392 x = true
    · rw [if_pos c1] at h k; rw [h]; exact Option.some.inj k
    · rw [if_neg c1] at h k
      by_cases c2 : Fl.ltF x 13873137573428325253 = true
      · rw [if_pos c2] at h k; rw [h]; exact Option.some.inj k
      · rw [if_neg c2] at h k
        obtain ⟨n, r, t, q, h1, h2, h3, h4, h5⟩ := h
        obtain ⟨u1, k1, k⟩ := bs k
        have e := fold_val h1 k1; subst e
        obtain ⟨u2, k2, k⟩ := bs k
        have e := rest_val h2 k2; subst e
        obtain ⟨u3, k3, k⟩ := bs k
        have e := ris_val _ _ _ h3 k3; subst e
        obtain ⟨u4, k4, k⟩ := bs k
        have e : q = u4 := Option.some.inj (h4.symm.trans k4)
        subst e
        rw [h5]; exact Option.some.inj k
def lessV (x : Nat) : Option Nat := if Fl.nan x = true then none else if Fl.ltF 4649454594685214392 x = true then some 9218868437227405312
  else (foldV x).bind fun n => if Fl.eqF n 0 = true then (risV x 12).bind fun t => opV .mul x t else (expV x).bind fun e => opV .sub e 4607182418800017408
theorem less_val {x y v : Nat} (h : lessR x y) (k : lessV x = some v) : y = v := by
  obtain ⟨_, h⟩ := h
  unfold lessV at k
  by_cases c0 : Fl.nan x = true
  · rw [if_pos c0] at k; cases k
  · rw [if_neg c0] at h k
    by_cases c1 : Fl.ltF 4649454594685214392 x = true
    · rw [if_pos c1] at h k; rw [h]; exact Option.some.inj k
    · rw [if_neg c1] at h k
      obtain ⟨n, h1, h2⟩ := h
      obtain ⟨u1, k1, k⟩ := bs k
      have e := fold_val h1 k1; subst e
      by_cases c2 : Fl.eqF n 0 = true
      · rw [if_pos c2] at h2 k
        obtain ⟨t, a1, a2⟩ := h2
        obtain ⟨u2, k2, k⟩ := bs k
        have e := ris_val _ _ _ a1 k2; subst e
        exact op_val a2 k
      · rw [if_neg c2] at h2 k
        obtain ⟨t, a1, a2⟩ := h2
        obtain ⟨u2, k2, k⟩ := bs k
        have e := exp_val a1 k2; subst e
        exact op_val a2 k
def logPV (m : Nat) (e : Int) : Option Nat := (opV .sub m 4607182418800017408).bind fun a => (opV .add m 4607182418800017408).bind fun b => (opV .quo a b).bind fun f => (oddV f).bind fun o =>
  (opV .mul (floatOfInt .f64 e) 4604418534311723008).bind fun nh => (opV .mul (floatOfInt .f64 e) 4461442080421002358).bind fun nl => (opV .add nl o).bind fun t => opV .add nh t
theorem logP_val {m : Nat} {e : Int} {y v : Nat} (h : logP m e y) (k : logPV m e = some v) : y = v := by
  obtain ⟨a, b, f, o, nh, nl, t, h1, h2, h3, h4, h5, h6, h7, h8⟩ := h
  obtain ⟨u1, k1, k⟩ := bs k
  obtain ⟨u2, k2, k⟩ := bs k
  obtain ⟨u3, k3, k⟩ := bs k
  obtain ⟨u4, k4, k⟩ := bs k
  obtain ⟨u5, k5, k⟩ := bs k
  obtain ⟨u6, k6, k⟩ := bs k
  obtain ⟨u7, k7, k⟩ := bs k
  have e := op_val h1 k1; subst e
  have e := op_val h2 k2; subst e
  have e := op_val h3 k3; subst e
  have e := odd_val h4 k4; subst e
  have e := op_val h5 k5; subst e
  have e := op_val h6 k6; subst e
  have e := op_val h7 k7; subst e
  exact op_val h8 k
def logV (x : Nat) : Option Nat := if Fl.nan x = true ∨ Fl.ltF x 0 = true then none else if Fl.rg x = 0 then some 18442240474082181120 else if x = 9218868437227405312 then some x
  else if Fl.ltF (paF x) 4604544271217802189 = true then (opV .mul 4611686018427387904 (paF x)).bind fun m => logPV m (paE x - 1) else logPV (paF x) (paE x)
theorem log_val {x y v : Nat} (h : logR x y) (k : logV x = some v) : y = v := by
  unfold logV at k
  by_cases c0 : Fl.nan x = true ∨ Fl.ltF x 0 = true
  · rw [if_pos c0] at k; cases k
  · rw [if_neg c0] at k
    by_cases c1 : Fl.rg x = 0
    · rw [if_pos c1] at k
      rcases h with ⟨h1, _⟩ | ⟨_, _, h⟩ | ⟨h, _⟩ | ⟨_, h, _⟩
      · exact absurd h1 c0
      · rw [h]; exact Option.some.inj k
      · subst h; exact absurd c1 (by decide)
      · exact absurd c1 h
    · rw [if_neg c1] at k
      by_cases c2 : x = 9218868437227405312
      · rw [if_pos c2] at k
        rcases h with ⟨h1, _⟩ | ⟨_, h, _⟩ | ⟨_, h⟩ | ⟨h, _⟩
        · exact absurd h1 c0
        · exact absurd h c1
        · rw [h]; exact Option.some.inj k
        · subst c2; exact absurd h (by decide)
      · rw [if_neg c2] at k
        rcases h with ⟨h1, _⟩ | ⟨_, h, _⟩ | ⟨h, _⟩ | ⟨_, _, _, h⟩
        · exact absurd h1 c0
        · exact absurd h c1
        · exact absurd h c2
        · unfold logF at h
          by_cases c3 : Fl.ltF (paF x) 4604544271217802189 = true
          · rw [if_pos c3] at h k
            obtain ⟨m, a1, a2⟩ := h
            obtain ⟨u1, k1, k⟩ := bs k
            have e := op_val a1 k1; subst e
            exact logP_val a2 k
          · rw [if_neg c3] at h k
            exact logP_val h k
def moreV (x : Nat) : Option Nat := if (Fl.nan x || Fl.ltF x 13830554455654793216) = true then none else if Fl.eqF x 13830554455654793216 = true then some 18442240474082181120 else if Fl.ltF 9218868437227405311 x = true then some x
  else if (Fl.leF 13821547256400052224 x && Fl.leF x 4600427019358961664) = true then (opV .add 4611686018427387904 x).bind fun b => (opV .quo x b).bind fun f => oddV f
  else (opV .add 4607182418800017408 x).bind fun s => logV s
theorem more_val {x y v : Nat} (h : moreR x y) (k : moreV x = some v) : y = v := by
  unfold moreR at h
  unfold moreV at k
  by_cases c1 : (Fl.nan x || Fl.ltF x 13830554455654793216) = true
  · rw [if_pos c1] at k; cases k
  · rw [if_neg c1] at h k
    by_cases c2 : Fl.eqF x 13830554455654793216 = true
    · rw [if_pos c2] at h k; rw [h]; exact Option.some.inj k
    · rw [if_neg c2] at h k
      by_cases c3 : Fl.ltF 9218868437227405311 x = true
      · rw [if_pos c3] at h k; rw [h]; exact Option.some.inj k
      · rw [if_neg c3] at h k
        by_cases c4 : (Fl.leF 13821547256400052224 x && Fl.leF x 4600427019358961664) = true
        · rw [if_pos c4] at h k
          obtain ⟨b, f, h1, h2, h3⟩ := h
          obtain ⟨u1, k1, k⟩ := bs k
          have e := op_val h1 k1; subst e
          obtain ⟨u2, k2, k⟩ := bs k
          have e := op_val h2 k2; subst e
          exact odd_val h3 k
        · rw [if_neg c4] at h k
          obtain ⟨s, h1, h2⟩ := h
          obtain ⟨u1, k1, k⟩ := bs k
          have e := op_val h1 k1; subst e
          exact log_val h2 k
def coshV (x : Nat) : Option Nat := (expV x).bind fun a => (expV (Fl.ng x)).bind fun b => (opV .add a b).bind fun s => opV .mul s 4602678819172646912
theorem cosh_val {x y v : Nat} (h : coshR x y) (k : coshV x = some v) : y = v := by
  obtain ⟨a, b, s, h1, h2, h3, h4⟩ := h
  obtain ⟨u1, k1, k⟩ := bs k
  obtain ⟨u2, k2, k⟩ := bs k
  obtain ⟨u3, k3, k⟩ := bs k
  have e := exp_val h1 k1; subst e
  have e := exp_val h2 k2; subst e
  have e := op_val h3 k3; subst e
  exact op_val h4 k
def sgnV (h x : Nat) : Option Nat := if Fl.nan (signedF h x) = true then none else some (signedF h x)
theorem sgn_val {h x y v : Nat} (k : sgnR h x y) (e : sgnV h x = some v) : y = v := by
  unfold sgnV at e
  by_cases c : Fl.nan (signedF h x) = true
  · rw [if_pos c] at e; cases e
  · rw [if_neg c] at e
    rcases same_cases k with a | ⟨_, a⟩
    · rw [a]; exact Option.some.inj e
    · exact absurd a c
def sinhV (x : Nat) : Option Nat := if Fl.nan x = true then none else (lessV (Fl.rg x)).bind fun e => if e = 9218868437227405312 then sgnV e x else
  (opV .add e 4607182418800017408).bind fun b => (opV .quo e b).bind fun d => (opV .add e d).bind fun s => (opV .mul s 4602678819172646912).bind fun h => sgnV h x
theorem sinh_val {x y v : Nat} (h : sinhR x y) (k : sinhV x = some v) : y = v := by
  unfold sinhR at h
  unfold sinhV at k
  by_cases c : Fl.nan x = true
  · rw [if_pos c] at k; cases k
  · rw [if_neg c] at h k
    obtain ⟨e, h1, h2⟩ := h
    obtain ⟨u1, k1, k⟩ := bs k
    have e' := less_val h1 k1; subst e'
    by_cases c2 : e = 9218868437227405312
    · rw [if_pos c2] at h2 k
      exact sgn_val h2 k
    · rw [if_neg c2] at h2 k
      obtain ⟨b, d, s, h, a1, a2, a3, a4, a5⟩ := h2
      obtain ⟨u2, k2, k⟩ := bs k
      obtain ⟨u3, k3, k⟩ := bs k
      obtain ⟨u4, k4, k⟩ := bs k
      obtain ⟨u5, k5, k⟩ := bs k
      have e' := op_val a1 k2; subst e'
      have e' := op_val a2 k3; subst e'
      have e' := op_val a3 k4; subst e'
      have e' := op_val a4 k5; subst e'
      exact sgn_val a5 k
theorem exp_at (x v : Nat) (h : expV x = some v) (w : World) (hx : x < 18446744073709551616) : Calls Try.prog 28 #[.float .f64 x] w fun e w' => e = .returned (.float .f64 v) ∧ Bw w w' :=
  (exp_any x w hx).mono fun e w' ⟨y, h1, h2, h3⟩ => ⟨by rw [h1, exp_val h2 h], h3⟩
theorem less_at (x v : Nat) (h : lessV x = some v) (w : World) (hx : x < 18446744073709551616) : Calls Try.prog 91 #[.float .f64 x] w fun e w' => e = .returned (.float .f64 v) ∧ Bw w w' :=
  (less_any x w hx).mono fun e w' ⟨y, h1, h2, h3⟩ => ⟨by rw [h1, less_val h2 h], h3⟩
theorem log_at (x v : Nat) (h : logV x = some v) (w : World) (hx : x < 18446744073709551616) : Calls Try.prog 14 #[.float .f64 x] w fun e w' => e = .returned (.float .f64 v) ∧ Bw w w' :=
  (log_any x w hx).mono fun e w' ⟨y, h1, h2, h3⟩ => ⟨by rw [h1, log_val h2 h], h3⟩
theorem cosh_at (x v : Nat) (h : coshV x = some v) (w : World) (hx : x < 18446744073709551616) : Calls Try.prog 83 #[.float .f64 x] w fun e w' => e = .returned (.float .f64 v) ∧ Bw w w' :=
  (cosh_any x w hx).mono fun e w' ⟨y, h1, h2, h3⟩ => ⟨by rw [h1, cosh_val h2 h], h3⟩
theorem sinh_at (x v : Nat) (h : sinhV x = some v) (w : World) (hx : x < 18446744073709551616) : Calls Try.prog 82 #[.float .f64 x] w fun e w' => e = .returned (.float .f64 v) ∧ Bw w w' :=
  (sinh_any x w hx).mono fun e w' ⟨y, h1, h2, h3⟩ => ⟨by rw [h1, sinh_val h2 h], h3⟩
end Go.Proofs.Ytdbfhbpillgacaa
