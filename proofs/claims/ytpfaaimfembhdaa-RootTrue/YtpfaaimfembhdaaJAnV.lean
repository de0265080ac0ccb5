/-
  OWN TEXT: the values of sines, cosines, quarters, angles at given floats, by computation.
-/
import Derived.Test.YtpfaaimfembhdaaJAnA
namespace Go.Proofs.Ytpfaaimfembhdaa
open Go.ChangeShapes Go.WideShapes Go.ChangeAt Go.RowKit
set_option linter.unusedVariables false
def opW (op : BinOp) (a b : Nat) : Option Nat := floatBits op .f64 a b
theorem opw_val {op : BinOp} {a b x v : Nat} (h : opR op a b x) (e : opW op a b = some v) : x = v := by
  have e' : floatBits op .f64 a b = some v := e
  rcases h.2 with k | k
  · rw [e'] at k; exact (Option.some.inj k).symm
  · rw [e'] at k; cases k.1
theorem bsw {α β : Type} {o : Option α} {f : α → Option β} {v : β} (h : o.bind f = some v) : ∃ u, o = some u ∧ f u = some v := Option.bind_eq_some_iff.1 h
def sinV0 (z : Nat) : Nat → Option Nat
  | 0 => some 4607182418800017408
  | i + 1 => (sinV0 z i).bind fun t => (opW .quo z (floatOfInt .f64 (2 * (9 - (i : Int)) * (2 * (9 - (i : Int)) + 1)))).bind fun d => (opW .mul d t).bind fun p => opW .sub 4607182418800017408 p
theorem sin_val0 {z : Nat} : ∀ (i t v : Nat), sinQ z i t → sinV0 z i = some v → t = v
  | 0, t, v, h, k => Eq.trans h (Option.some.inj k)
  | i + 1, t, v, ⟨t1, d, p, h1, h2, h3, h4⟩, k => by
    obtain ⟨u1, k1, k⟩ := bsw k
    obtain ⟨u2, k2, k⟩ := bsw k
    obtain ⟨u3, k3, k⟩ := bsw k
    have e := sin_val0 i t1 u1 h1 k1; subst e
    have e := opw_val h2 k2; subst e
    have e := opw_val h3 k3; subst e
    exact opw_val h4 k
def cosV0 (z : Nat) : Nat → Option Nat
  | 0 => some 4607182418800017408
  | i + 1 => (cosV0 z i).bind fun t => (opW .quo z (floatOfInt .f64 ((2 * (9 - (i : Int)) - 1) * (2 * (9 - (i : Int)))))).bind fun d => (opW .mul d t).bind fun p => opW .sub 4607182418800017408 p
theorem cos_val0 {z : Nat} : ∀ (i t v : Nat), cosQ z i t → cosV0 z i = some v → t = v
  | 0, t, v, h, k => Eq.trans h (Option.some.inj k)
  | i + 1, t, v, ⟨t1, d, p, h1, h2, h3, h4⟩, k => by
    obtain ⟨u1, k1, k⟩ := bsw k
    obtain ⟨u2, k2, k⟩ := bsw k
    obtain ⟨u3, k3, k⟩ := bsw k
    have e := cos_val0 i t1 u1 h1 k1; subst e
    have e := opw_val h2 k2; subst e
    have e := opw_val h3 k3; subst e
    exact opw_val h4 k
def sinV (y : Nat) : Option Nat := (opW .mul y y).bind fun z => (sinV0 z 9).bind fun t => opW .mul y t
theorem sin_val {y s v : Nat} (h : sinR y s) (k : sinV y = some v) : s = v := by
  obtain ⟨z, t, h1, h2, h3⟩ := h
  obtain ⟨u1, k1, k⟩ := bsw k
  have e := opw_val h1 k1; subst e
  obtain ⟨u2, k2, k⟩ := bsw k
  have e := sin_val0 _ _ _ h2 k2; subst e
  exact opw_val h3 k
def cosV (y : Nat) : Option Nat := (opW .mul y y).bind fun z => cosV0 z 9
theorem cos_val {y s v : Nat} (h : cosR y s) (k : cosV y = some v) : s = v := by
  obtain ⟨z, h1, h2⟩ := h
  obtain ⟨u1, k1, k⟩ := bsw k
  have e := opw_val h1 k1; subst e
  exact cos_val0 _ _ _ h2 k
def folV (x c : Nat) : Option Nat := (opW .mul x c).bind fun p => if Fl.nan p = true then none else some (Fl.whF p)
theorem fol_val {x c n v : Nat} (h : folR x c n) (k : folV x c = some v) : n = v := by
  obtain ⟨p, h1, _, h2⟩ := h
  obtain ⟨u1, k1, k⟩ := bsw k
  have e := opw_val h1 k1; subst e
  by_cases c : Fl.nan p = true
  · rw [if_pos c] at k; cases k
  · rw [if_neg c] at k h2; rw [h2]; exact Option.some.inj k
def lesV (x m a b c : Nat) : Option Nat := (opW .mul m a).bind fun p => (opW .sub x p).bind fun d => (opW .mul m b).bind fun q => (opW .sub d q).bind fun e => (opW .mul m c).bind fun r => opW .sub e r
theorem les_val {x m a b c y v : Nat} (h : lesR x m a b c y) (k : lesV x m a b c = some v) : y = v := by
  obtain ⟨p, d, q, f, r, h1, h2, h3, h4, h5, h6⟩ := h
  obtain ⟨u1, k1, k⟩ := bsw k
  obtain ⟨u2, k2, k⟩ := bsw k
  obtain ⟨u3, k3, k⟩ := bsw k
  obtain ⟨u4, k4, k⟩ := bsw k
  obtain ⟨u5, k5, k⟩ := bsw k
  have e := opw_val h1 k1; subst e
  have e := opw_val h2 k2; subst e
  have e := opw_val h3 k3; subst e
  have e := opw_val h4 k4; subst e
  have e := opw_val h5 k5; subst e
  exact opw_val h6 k
def quaV (x : Nat) : Option (Nat × Int) := if fitB x = true then (folV x 4603909380684499075).bind fun m => if Fl.eqF m 0 = true then some (x, 0) else (lesV x m 4609753056924401664 4454258360616747008 4297306550709518336).bind fun y => (floatToIntVal .f64 m .i64).bind fun q => some (y, q % 4) else none
theorem qua_val {x y : Nat} {n : Int} {v : Nat × Int} (h : quaR x y n) (k : quaV x = some v) : (y, n) = v := by
  obtain ⟨_, h⟩ := h
  unfold quaV at k
  by_cases c : fitB x = true
  · rw [if_pos c] at h k
    obtain ⟨m, h1, h2⟩ := h
    obtain ⟨u1, k1, k⟩ := bsw k
    have e := fol_val h1 k1; subst e
    by_cases c2 : Fl.eqF m 0 = true
    · rw [if_pos c2] at h2 k
      rw [h2.1, h2.2]; exact Option.some.inj k
    · rw [if_neg c2] at h2 k
      obtain ⟨a1, q, a2, a3⟩ := h2
      obtain ⟨u2, k2, k⟩ := bsw k
      have e := les_val a1 k2; subst e
      obtain ⟨u3, k3, k⟩ := bsw k
      have e : q = u3 := Option.some.inj (a2.symm.trans k3)
      subst e
      rw [a3]; exact Option.some.inj k
  · rw [if_neg c] at k; cases k
def turV (x : Nat) : Option (Nat × Nat) := (quaV x).bind fun v => (sinV v.1).bind fun s => (cosV v.1).bind fun c => if v.2 = 0 then some (s, c) else if v.2 = 1 then some (c, Fl.ng s) else if v.2 = 2 then some (Fl.ng s, Fl.ng c) else some (Fl.ng c, s)
theorem tur_val {x a b : Nat} {v : Nat × Nat} (h : turR x a b) (k : turV x = some v) : (a, b) = v := by
  obtain ⟨_, _, h⟩ := h
  obtain ⟨u1, k1, k⟩ := bsw k
  have c : fitB x = true := by
    by_cases c : fitB x = true
    · exact c
    · unfold quaV at k1; rw [if_neg c] at k1; cases k1
  rw [if_pos c] at h
  obtain ⟨y, n, s, d, h1, h2, h3, h4⟩ := h
  have e := qua_val h1 k1
  subst e
  obtain ⟨u2, k2, k⟩ := bsw k
  have e := sin_val h2 k2; subst e
  obtain ⟨u3, k3, k⟩ := bsw k
  have e := cos_val h3 k3; subst e
  simp only [] at k
  rcases h4 with ⟨rfl, rfl, rfl⟩ | ⟨rfl, rfl, rfl⟩ | ⟨rfl, rfl, rfl⟩ | ⟨rfl, rfl, rfl⟩ <;> exact Option.some.inj k
def angV0 (z : Nat) : Nat → Option Nat
  | 0 => some 0
  | i + 1 => (angV0 z i).bind fun t => (opW .quo 4607182418800017408 (floatOfInt .f64 (2 * (24 - (i : Int)) + 1))).bind fun d => (opW .mul z t).bind fun p => opW .sub d p
theorem ang_val0 {z : Nat} : ∀ (i t v : Nat), angQ z i t → angV0 z i = some v → t = v
  | 0, t, v, h, k => Eq.trans h (Option.some.inj k)
  | i + 1, t, v, ⟨t1, d, p, h1, h2, h3, h4⟩, k => by
    obtain ⟨u1, k1, k⟩ := bsw k
    obtain ⟨u2, k2, k⟩ := bsw k
    obtain ⟨u3, k3, k⟩ := bsw k
    have e := ang_val0 i t1 u1 h1 k1; subst e
    have e := opw_val h2 k2; subst e
    have e := opw_val h3 k3; subst e
    exact opw_val h4 k
def angVU (u : Nat) : Option Nat := (opW .mul u u).bind fun z => (angV0 z 25).bind fun s => opW .mul u s
theorem angu_val {u y v : Nat} (h : angU u y) (k : angVU u = some v) : y = v := by
  obtain ⟨z, t, h1, h2, h3⟩ := h
  obtain ⟨u1, k1, k⟩ := bsw k
  have e := opw_val h1 k1; subst e
  obtain ⟨u2, k2, k⟩ := bsw k
  have e := ang_val0 _ _ _ h2 k2; subst e
  exact opw_val h3 k
def angV (t : Nat) : Option Nat := if Fl.ltF 4601130706800738304 t = true then (opW .sub t 4607182418800017408).bind fun a => (opW .add t 4607182418800017408).bind fun b => (opW .quo a b).bind fun u => (angVU u).bind fun w => (opW .add w 4359948597267291143).bind fun x => opW .add 4605249457297304856 x else angVU t
theorem ang_val {t y v : Nat} (h : angR t y) (k : angV t = some v) : y = v := by
  unfold angR at h
  unfold angV at k
  by_cases c : Fl.ltF 4601130706800738304 t = true
  · rw [if_pos c] at h k
    obtain ⟨a, b, u, w, x, h1, h2, h3, h4, h5, h6⟩ := h
    obtain ⟨u1, k1, k⟩ := bsw k
    have e := opw_val h1 k1; subst e
    obtain ⟨u2, k2, k⟩ := bsw k
    have e := opw_val h2 k2; subst e
    obtain ⟨u3, k3, k⟩ := bsw k
    have e := opw_val h3 k3; subst e
    obtain ⟨u4, k4, k⟩ := bsw k
    have e := angu_val h4 k4; subst e
    obtain ⟨u5, k5, k⟩ := bsw k
    have e := opw_val h5 k5; subst e
    exact opw_val h6 k
  · rw [if_neg c] at h k
    exact angu_val h k
def basV (p q : Nat) : Option Nat := if p = 0 then some 0 else if p = 9218868437227405312 ∧ q = 9218868437227405312 then some 4605249457297304856 else if Fl.leF p q = true then (opW .quo p q).bind fun t => angV t
  else (opW .quo q p).bind fun t => (angV t).bind fun v => (opW .sub v 4364452196894661639).bind fun d => opW .sub 4609753056924675352 d
theorem bas_val {p q b v : Nat} (h : basR p q b) (k : basV p q = some v) : b = v := by
  unfold basR at h
  unfold basV at k
  by_cases c : p = 0
  · rw [if_pos c] at h k; rw [h]; exact Option.some.inj k
  · rw [if_neg c] at h k
    by_cases c2 : p = 9218868437227405312 ∧ q = 9218868437227405312
    · rw [if_pos c2] at h k; rw [h]; exact Option.some.inj k
    · rw [if_neg c2] at h k
      by_cases c3 : Fl.leF p q = true
      · rw [if_pos c3] at h k
        obtain ⟨t, h1, h2⟩ := h
        obtain ⟨u1, k1, k⟩ := bsw k
        have e := opw_val h1 k1; subst e
        exact ang_val h2 k
      · rw [if_neg c3] at h k
        obtain ⟨t, w, d, h1, h2, h3, h4⟩ := h
        obtain ⟨u1, k1, k⟩ := bsw k
        have e := opw_val h1 k1; subst e
        obtain ⟨u2, k2, k⟩ := bsw k
        have e := ang_val h2 k2; subst e
        obtain ⟨u3, k3, k⟩ := bsw k
        have e := opw_val h3 k3; subst e
        exact opw_val h4 k
def sidV (x b : Nat) : Option Nat := if Fl.sg x = true then (opW .sub b 4368955796522032135).bind fun d => opW .sub 4614256656552045848 d else some b
theorem sid_val {x b r v : Nat} (h : sidR x b r) (k : sidV x b = some v) : r = v := by
  unfold sidR at h
  unfold sidV at k
  by_cases c : Fl.sg x = true
  · rw [if_pos c] at h k
    obtain ⟨d, h1, h2⟩ := h
    obtain ⟨u1, k1, k⟩ := bsw k
    have e := opw_val h1 k1; subst e
    exact opw_val h2 k
  · rw [if_neg c] at h k; rw [h]; exact Option.some.inj k
def offV (y x : Nat) : Option Nat := if (Fl.nan y || Fl.nan x) = true then none else (basV (Fl.rg y) (Fl.rg x)).bind fun b => (sidV x b).bind fun s => some (if Fl.sg y = true then Fl.ng s else s)
theorem off_val {y x r v : Nat} (h : offR y x r) (k : offV y x = some v) : r = v := by
  unfold offR at h
  unfold offV at k
  by_cases c : (Fl.nan y || Fl.nan x) = true
  · rw [if_pos c] at k; cases k
  · rw [if_neg c] at h k
    obtain ⟨b, s, h1, h2, h3⟩ := h
    obtain ⟨u1, k1, k⟩ := bsw k
    have e := bas_val h1 k1; subst e
    obtain ⟨u2, k2, k⟩ := bsw k
    have e := sid_val h2 k2; subst e
    rw [h3]; exact Option.some.inj k
def onceV (y : Nat) : Option Nat := if Fl.ltF 4614256656552045848 y = true then (opW .sub y 4618760256179416344).bind fun d => opW .sub d 4373459396149402631 else if Fl.ltF 13837628693406821656 y = true then some y else (opW .add y 4618760256179416344).bind fun d => opW .add d 4373459396149402631
theorem once_val {y z v : Nat} (h : onceR y z) (k : onceV y = some v) : z = v := by
  unfold onceR at h
  unfold onceV at k
  by_cases c : Fl.ltF 4614256656552045848 y = true
  · rw [if_pos c] at h k
    obtain ⟨d, h1, h2⟩ := h
    obtain ⟨u1, k1, k⟩ := bsw k
    have e := opw_val h1 k1; subst e
    exact opw_val h2 k
  · rw [if_neg c] at h k
    by_cases c2 : Fl.ltF 13837628693406821656 y = true
    · rw [if_pos c2] at h k; rw [h]; exact Option.some.inj k
    · rw [if_neg c2] at h k
      obtain ⟨d, h1, h2⟩ := h
      obtain ⟨u1, k1, k⟩ := bsw k
      have e := opw_val h1 k1; subst e
      exact opw_val h2 k
def wraV (x : Nat) : Option Nat := if fitB x = true then if (Fl.ltF 13837628693406821656 x && Fl.leF x 4614256656552045848) = true then some x else (folV x 4594902181429758083).bind fun m => (lesV x m 4618760256179142656 4463265559871488000 4306313749964259328).bind fun y => (onceV y).bind fun u => some (if (Fl.ltF 4614256656552045848 u || !Fl.ltF 13837628693406821656 u) = true then 4614256656552045848 else u) else none
theorem wra_val {x z v : Nat} (h : wraR x z) (k : wraV x = some v) : z = v := by
  unfold wraR at h
  unfold wraV at k
  by_cases c : fitB x = true
  · rw [if_pos c] at h k
    by_cases c2 : (Fl.ltF 13837628693406821656 x && Fl.leF x 4614256656552045848) = true
    · rw [if_pos c2] at h k; rw [h]; exact Option.some.inj k
    · rw [if_neg c2] at h k
      obtain ⟨m, y, u, h1, h2, h3, h4⟩ := h
      obtain ⟨u1, k1, k⟩ := bsw k
      have e := fol_val h1 k1; subst e
      obtain ⟨u2, k2, k⟩ := bsw k
      have e := les_val h2 k2; subst e
      obtain ⟨u3, k3, k⟩ := bsw k
      have e := once_val h3 k3; subst e
      unfold lastR at h4
      by_cases c3 : (Fl.ltF 4614256656552045848 u || !Fl.ltF 13837628693406821656 u) = true
      · rw [if_pos c3] at h4 k; rw [h4]; exact Option.some.inj k
      · rw [if_neg c3] at h4 k; rw [h4]; exact Option.some.inj k
  · rw [if_neg c] at k; cases k
end Go.Proofs.Ytpfaaimfembhdaa
