/-
  OWN TEXT: the values of exponentials, logarithms, powers, sines of complex numbers at given numbers, by computation.
-/
import Derived.Test.YtdbfhbpillgacaaJnAq
import Derived.Test.YtdbfhbpillgacaaJnAr
import Derived.Test.YtdbfhbpillgacaaEvA
set_option linter.unusedVariables false
namespace Go.Proofs.Ytdbfhbpillgacaa
def cexV (a b : Nat) : Option (Nat × Nat) := (expV a).bind fun e => if Fl.eqF b 0 = true then some (e, b) else (turV b).bind fun t => (opW .mul e t.2).bind fun r => (opW .mul e t.1).bind fun i => some (r, i)
theorem cex_val {a b re im : Nat} {v : Nat × Nat} (h : cexR a b re im) (k : cexV a b = some v) : (re, im) = v := by
  obtain ⟨e, h1, h2⟩ := h
  obtain ⟨e', k1, k2⟩ := bsw k
  have e1 := exp_val h1 k1
  subst e1
  by_cases c : Fl.eqF b 0 = true
  · rw [if_pos c] at h2 k2
    rw [h2.1, h2.2]
    exact Option.some.inj k2
  · rw [if_neg c] at h2 k2
    obtain ⟨s, d, a1, a2, a3⟩ := h2
    obtain ⟨t, b1, b2⟩ := bsw k2
    obtain ⟨r, b3, b4⟩ := bsw b2
    obtain ⟨i, b5, b6⟩ := bsw b4
    have et := tur_val a1 b1
    subst et
    rw [opw_val a2 b3, opw_val a3 b5]
    exact Option.some.inj b6
def cloV (a b : Nat) : Option (Nat × Nat) := (lenV a b).bind fun l => (logV l).bind fun x => (offV b a).bind fun y => some (x, y)
theorem clo_val {a b re im : Nat} {v : Nat × Nat} (h : cloR a b re im) (k : cloV a b = some v) : (re, im) = v := by
  obtain ⟨l, h1, h2, h3, _⟩ := h
  obtain ⟨l', k1, k2⟩ := bsw k
  obtain ⟨x, k3, k4⟩ := bsw k2
  obtain ⟨y, k5, k6⟩ := bsw k4
  have e1 := len_val h1 k1
  subst e1
  rw [log_val h2 k3, off_val h3 k5]
  exact Option.some.inj k6
def creV (a b p : Nat) : Option (Nat × Nat) := if Fl.eqF p 0 = true then some (4607182418800017408, 0) else (cloV a b).bind fun l => (opW .mul l.1 p).bind fun u => (opW .mul l.2 p).bind fun v => cexV u v
theorem cre_val {a b p re im : Nat} {v : Nat × Nat} (h : creR a b p re im) (k : creV a b p = some v) : (re, im) = v := by
  unfold creR at h
  unfold creV at k
  by_cases c : Fl.eqF p 0 = true
  · rw [if_pos c] at h k
    rw [h.1, h.2]
    exact Option.some.inj k
  · rw [if_neg c] at h k
    obtain ⟨x, y, u, w, h1, h2, h3, h4⟩ := h
    obtain ⟨l, k1, k2⟩ := bsw k
    obtain ⟨u', k3, k4⟩ := bsw k2
    obtain ⟨w', k5, k6⟩ := bsw k4
    have e1 := clo_val h1 k1
    subst e1
    have e2 := opw_val h2 k3
    have e3 := opw_val h3 k5
    subst e2
    subst e3
    exact cex_val h4 k6
def parV (x y : Nat) : Option (Nat × Nat × Nat × Nat) := (turV x).bind fun t => (coshV y).bind fun ch => (sinhV y).bind fun sh => some (t.1, t.2, ch, sh)
theorem par_val {x y s c ch sh : Nat} {v : Nat × Nat × Nat × Nat} (h : cpart x y s c ch sh) (k : parV x y = some v) : (s, c, ch, sh) = v := by
  obtain ⟨h1, h2, h3⟩ := h
  obtain ⟨t, k1, k2⟩ := bsw k
  obtain ⟨p, k3, k4⟩ := bsw k2
  obtain ⟨q, k5, k6⟩ := bsw k4
  have e1 := tur_val h1 k1
  subst e1
  rw [cosh_val h2 k3, sinh_val h3 k5]
  exact Option.some.inj k6
def csiV (a b : Nat) : Option (Nat × Nat) := (parV a b).bind fun v => (opW .mul v.1 v.2.2.1).bind fun r => (opW .mul v.2.1 v.2.2.2).bind fun i => some (r, i)
theorem csi_val {a b re im : Nat} {v : Nat × Nat} (h : csiR a b re im) (k : csiV a b = some v) : (re, im) = v := by
  obtain ⟨s, c, ch, sh, h1, h2, h3⟩ := h
  obtain ⟨p, k1, k2⟩ := bsw k
  obtain ⟨r, k3, k4⟩ := bsw k2
  obtain ⟨i, k5, k6⟩ := bsw k4
  have e1 := par_val h1 k1
  subst e1
  rw [opw_val h2 k3, opw_val h3 k5]
  exact Option.some.inj k6
def ccoV (a b : Nat) : Option (Nat × Nat) := (parV a b).bind fun v => (opW .mul v.2.1 v.2.2.1).bind fun r => (opW .mul v.1 v.2.2.2).bind fun i => some (r, Fl.ng i)
theorem cco_val {a b re im : Nat} {v : Nat × Nat} (h : ccoR a b re im) (k : ccoV a b = some v) : (re, im) = v := by
  obtain ⟨s, c, ch, sh, m, h1, h2, h3, h4⟩ := h
  obtain ⟨p, k1, k2⟩ := bsw k
  obtain ⟨r, k3, k4⟩ := bsw k2
  obtain ⟨i, k5, k6⟩ := bsw k4
  have e1 := par_val h1 k1
  subst e1
  rw [h4, opw_val h2 k3, opw_val h3 k5]
  exact Option.some.inj k6
def cshV (a b : Nat) : Option (Nat × Nat) := (parV b a).bind fun v => (opW .mul v.2.2.2 v.2.1).bind fun r => (opW .mul v.2.2.1 v.1).bind fun i => some (r, i)
theorem csh_val {a b re im : Nat} {v : Nat × Nat} (h : cshR a b re im) (k : cshV a b = some v) : (re, im) = v := by
  obtain ⟨s, c, ch, sh, h1, h2, h3⟩ := h
  obtain ⟨p, k1, k2⟩ := bsw k
  obtain ⟨r, k3, k4⟩ := bsw k2
  obtain ⟨i, k5, k6⟩ := bsw k4
  have e1 := par_val h1 k1
  subst e1
  rw [opw_val h2 k3, opw_val h3 k5]
  exact Option.some.inj k6
def cchV (a b : Nat) : Option (Nat × Nat) := (parV b a).bind fun v => (opW .mul v.2.2.1 v.2.1).bind fun r => (opW .mul v.2.2.2 v.1).bind fun i => some (r, i)
theorem cch_val {a b re im : Nat} {v : Nat × Nat} (h : cchR a b re im) (k : cchV a b = some v) : (re, im) = v := by
  obtain ⟨s, c, ch, sh, h1, h2, h3⟩ := h
  obtain ⟨p, k1, k2⟩ := bsw k
  obtain ⟨r, k3, k4⟩ := bsw k2
  obtain ⟨i, k5, k6⟩ := bsw k4
  have e1 := par_val h1 k1
  subst e1
  rw [opw_val h2 k3, opw_val h3 k5]
  exact Option.some.inj k6
def sheV (a b : Nat) (n : Int) : Option (Nat × Nat × Bool) := (cloV a b).bind fun l => if (Fl.finB l.1 && Fl.finB l.2 && !decide (n < -1048576) && !decide (1048576 < n)) = true then (opW .mul (floatOfInt .f64 n) 4618760256179416344).bind fun t => (opW .add l.2 t).bind fun i => some (l.1, i, true) else some (0, 0, false)
theorem she_val {a b : Nat} {n : Int} {re im : Nat} {o : Bool} {v : Nat × Nat × Bool} (h : sheR a b n re im o) (k : sheV a b n = some v) : (re, im, o) = v := by
  obtain ⟨x, y, h1, h2⟩ := h
  obtain ⟨l, k1, k2⟩ := bsw k
  have e1 := clo_val h1 k1
  subst e1
  by_cases c : (Fl.finB x && Fl.finB y && !decide (n < -1048576) && !decide (1048576 < n)) = true
  · rw [if_pos c] at h2
    simp only [] at k2
    rw [if_pos c] at k2
    obtain ⟨a1, a2, t, a3, a4⟩ := h2
    obtain ⟨t', b1, b2⟩ := bsw k2
    obtain ⟨i, b3, b4⟩ := bsw b2
    have et := opw_val a3 b1
    subst et
    rw [a1, a2, opw_val a4 b3]
    exact Option.some.inj b4
  · rw [if_neg c] at h2
    simp only [] at k2
    rw [if_neg c] at k2
    rw [h2.1, h2.2.1, h2.2.2]
    exact Option.some.inj k2
end Go.Proofs.Ytdbfhbpillgacaa
