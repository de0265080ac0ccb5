/-
  OWN TEXT: what Same of package float and math.Signbit return, for every float.
-/
import Derived.Test.YtgljnklaabbidaaGreatJFnToFnStairs
import Derived.Test.YtgljnklaabbidaaGreatJEqC
namespace Go.Proofs.YtgljnklaabbidaaGreat
open Go.ChangeShapes Go.WideShapes Go.ChangeAt Go.RowKit
attribute [local go_sem] frombits_call tobits_call run_neg
theorem sameB_bits (x y : Nat) : ((Fl.bitsF x : Int) == Fl.bitsF y) = Fl.sameB x y := by
  rw [Bool.eq_iff_iff]
  unfold Fl.sameB Fl.bitsF
  cases h1 : Fl.nan x <;> cases h2 : Fl.nan y <;> simp
  · omega
  · intro e; have : x = 9221120237041090560 := by omega
    subst this; simp [Fl.nan, Fl.rg] at h1
  · intro e; have : y = 9221120237041090560 := by omega
    subst this; simp [Fl.nan, Fl.rg] at h2
theorem same_any (x y : Nat) (w : World) : Calls Tryz.prog 24 #[.float .f64 x, .float .f64 y] w fun e w' => e = .returned (.bool (Fl.sameB x y)) ∧ w' = w := by
  go_enter Tryz.func24, Tryz.ntmps24
  go_wp2_with (go_at_call 32; refine (bits_any _ _).mono ?_; rintro e w' ⟨rfl, rfl⟩)
  go_ret
  exact ⟨rb (sameB_bits x y), rfl⟩
end Go.Proofs.YtgljnklaabbidaaGreat
/-
  OWN TEXT: what Same, Minus, Signed and the reference of layer 1 return, for every float.
-/
namespace Go.Proofs.YtgljnklaabbidaaGreat
open Go.ChangeShapes Go.WideShapes Go.ChangeAt Go.RowKit
attribute [local go_sem] frombits_call tobits_call run_neg
theorem minus_any (x : Nat) (w : World) (hx : x < 18446744073709551616) : Calls Tryz.prog 103 #[.float .f64 x] w fun e w' => e = .returned (.bool (Fl.minusB x)) ∧ w' = w := by
  go_enter Tryz.func103, Tryz.ntmps103
  go_wp2_with (go_at_call 32; refine (bits_any _ _).mono ?_; rintro e w' ⟨rfl, rfl⟩)
  go_ret
  exact ⟨rb (by
    show (bits BinOp.and IntKind.u64 (↑(Fl.bitsF x)) 9223372036854775808 != 0) = _
    rw [Fl.sign_bits (Fl.bitsF_lt hx)]
    unfold Fl.minusB Fl.bitsF
    cases h : Fl.nan x <;> simp; decide), rfl⟩
/-- a with b's sign, as the reference has it -/
def rsignedF (x y : Nat) : Nat := if Fl.minusB x != Fl.minusB y && !Fl.nan x then Fl.ng x else x
/-- a with b's sign, as the program has it -/
def signedF (x y : Nat) : Nat := if Fl.minusB y then Fl.ng (Fl.rg x) else Fl.rg x
theorem same_signed (x y : Nat) (hx : x < 18446744073709551616) : Fl.sameB (signedF x y) (rsignedF x y) = true := by
  have hl := Fl.rg_lt x
  have hs := Fl.sg_lt hx
  have e1 : Fl.nan (signedF x y) = Fl.nan x := by unfold signedF; split <;> simp [Fl.nan_ng, Fl.nan_rg]
  have e2 : Fl.nan (rsignedF x y) = Fl.nan x := by unfold rsignedF; split <;> simp [Fl.nan_ng]
  unfold Fl.sameB
  rw [e1, e2]
  cases hn : Fl.nan x
  · simp only [Bool.false_and, Bool.not_false, Bool.true_and, Bool.false_or, decide_eq_true_eq]
    unfold signedF rsignedF
    rw [show Fl.minusB x = decide (9223372036854775808 ≤ x) by simp [Fl.minusB, hn, hs]]
    have hr : Fl.rg x = if 9223372036854775808 ≤ x then x - 9223372036854775808 else x := by unfold Fl.rg; split <;> omega
    rw [hr, hn]
    unfold Fl.ng
    cases Fl.minusB y <;> by_cases h : 9223372036854775808 ≤ x <;> simp [h] <;> omega
  · rfl
end Go.Proofs.YtgljnklaabbidaaGreat
/-
  OWN TEXT: half the sum and half the difference of exponentials, for every float: what they come to, and the program's (elem.Cosh, elem.Sinh).
-/
namespace Go.Proofs.YtgljnklaabbidaaGreat
open Go.ChangeShapes Go.WideShapes Go.ChangeAt Go.RowKit
set_option linter.unusedVariables false
attribute [local go_sem] frombits_call tobits_call run_neg
def coshR (x y : Nat) : Prop := ∃ a b s, expR x a ∧ expR (Fl.ng x) b ∧ opR .add a b s ∧ opR .mul s 4602678819172646912 y
theorem coshR.sim {x y y' : Nat} (hx : x < 18446744073709551616) (h : coshR x y) (k : coshR x y') : simR y y' := by
  obtain ⟨a, b, s, h1, h2, h3, h4⟩ := h
  obtain ⟨a', b', s', k1, k2, k3, k4⟩ := k
  exact h4.sim (Or.inr (Or.inr (Or.inl rfl))) k4 (h3.sim (Or.inl rfl) k3 (h1.sim hx k1) (h2.sim (Fl.ng_lt hx) k2)) (simR.refl _)
/-- h with the sign of x -/
def sgnR (h x y : Nat) : Prop := Fl.sameB y (signedF h x) = true
theorem same_cases {a b : Nat} (h : Fl.sameB a b = true) : a = b ∨ (Fl.nan a = true ∧ Fl.nan b = true) := by
  unfold Fl.sameB at h
  rw [Bool.or_eq_true, Bool.and_eq_true, Bool.and_eq_true, decide_eq_true_eq] at h
  rcases h with h | h
  · exact Or.inr h
  · exact Or.inl h.2
theorem signed_nan {h x : Nat} (hh : Fl.nan h = true) : Fl.nan (signedF h x) = true := by unfold signedF; split <;> simp [Fl.nan_ng, Fl.nan_rg, hh]
theorem same_nan {a b : Nat} (h : Fl.sameB a b = true) (hb : Fl.nan b = true) : Fl.nan a = true := by
  rcases same_cases h with e | ⟨e, _⟩
  · rw [e]; exact hb
  · exact e
theorem sgnR.sim {h h' x y y' : Nat} (k : sgnR h x y) (k' : sgnR h' x y') (e : simR h h') : simR y y' := by
  rcases e with e | ⟨e1, e2⟩
  · subst e
    rcases same_cases k with a | ⟨a1, a2⟩
    · rcases same_cases k' with b | ⟨b1, b2⟩
      · exact Or.inl (a.trans b.symm)
      · exact Or.inr ⟨by rw [a]; exact b2, b1⟩
    · exact Or.inr ⟨a1, same_nan k' a2⟩
  · exact Or.inr ⟨same_nan k (signed_nan e1), same_nan k' (signed_nan e2)⟩
/-- half the difference, of a number -/
def sinhP (x y : Nat) : Prop := ∃ e, lessR (Fl.rg x) e ∧ if e = 9218868437227405312 then sgnR e x y else ∃ b d s h, opR .add e 4607182418800017408 b ∧ opR .quo e b d ∧ opR .add e d s ∧ opR .mul s 4602678819172646912 h ∧ sgnR h x y
def sinhR (x y : Nat) : Prop := if Fl.nan x = true then Fl.nan y = true else sinhP x y
theorem inf_num : Fl.nan 9218868437227405312 = false := by decide
theorem sinhR.sim {x y y' : Nat} (hx : x < 18446744073709551616) (h : sinhR x y) (k : sinhR x y') : simR y y' := by
  unfold sinhR at h k
  by_cases c : Fl.nan x = true
  · rw [if_pos c] at h k; exact Or.inr ⟨h, k⟩
  · rw [if_neg c] at h k
    obtain ⟨e, h1, h2⟩ := h
    obtain ⟨e', k1, k2⟩ := k
    have es := h1.sim (by have := Fl.rg_lt x; omega) k1
    have ei : e = 9218868437227405312 ↔ e' = 9218868437227405312 := by
      rcases es with a | ⟨a1, a2⟩
      · rw [a]
      · constructor
        · intro b; rw [b, inf_num] at a1; cases a1
        · intro b; rw [b, inf_num] at a2; cases a2
    by_cases c2 : e = 9218868437227405312
    · rw [if_pos c2] at h2
      rw [if_pos (ei.1 c2)] at k2
      exact h2.sim k2 es
    · rw [if_neg c2] at h2
      rw [if_neg (fun z => c2 (ei.2 z))] at k2
      obtain ⟨b, d, s, h, a1, a2, a3, a4, a5⟩ := h2
      obtain ⟨b', d', s', h', b1, b2, b3, b4, b5⟩ := k2
      have ad : isOp .add := Or.inl rfl
      have mu : isOp .mul := Or.inr (Or.inr (Or.inl rfl))
      have qu : isOp .quo := Or.inr (Or.inr (Or.inr rfl))
      exact a5.sim b5 (a4.sim mu b4 (a3.sim ad b3 es (a2.sim qu b2 es (a1.sim ad b1 es (simR.refl _)))) (simR.refl _))
theorem less_of_nan {x e : Nat} (h : Fl.nan x = true) (he : lessR x e) : Fl.nan e = true := by
  have := he.2
  rw [if_pos h] at this
  exact this
/-- what the program does comes to it for no numbers too -/
theorem sinh_of {x y : Nat} (hp : sinhP x y) : sinhR x y := by
  unfold sinhR
  by_cases c : Fl.nan x = true
  · rw [if_pos c]
    obtain ⟨e, h1, h2⟩ := hp
    have ne : Fl.nan e = true := less_of_nan (by rw [Fl.nan_rg]; exact c) h1
    rw [if_neg (by intro z; rw [z, inf_num] at ne; cases ne)] at h2
    obtain ⟨b, d, s, h, a1, a2, a3, a4, a5⟩ := h2
    have ad : isOp .add := Or.inl rfl
    have n3 := a3.nan (nan_left .add ad ne)
    have n4 := a4.nan (nan_left .mul (Or.inr (Or.inr (Or.inl rfl))) n3)
    exact same_nan a5 (signed_nan n4)
  · rw [if_neg c]; exact hp
theorem sgn_self (h x : Nat) : sgnR h x (signedF h x) := (simR.refl (signedF h x)).same
theorem sgn_ref (h x : Nat) (hh : h < 18446744073709551616) : sgnR h x (rsignedF h x) := by
  have := same_signed h x hh
  unfold sgnR
  rcases same_cases this with e | ⟨e1, e2⟩
  · rw [e]; exact (simR.refl _).same
  · unfold Fl.sameB; rw [e1, e2]; rfl
theorem sinhP_inf {x e y : Nat} (h : lessR (Fl.rg x) e) (c : e = 9218868437227405312) (hy : sgnR e x y) : sinhR x y := sinh_of ⟨e, h, by rw [if_pos c]; exact hy⟩
theorem sinhP_fin {x e b d s h y : Nat} (k : lessR (Fl.rg x) e) (c : ¬ e = 9218868437227405312) (hb : opR .add e 4607182418800017408 b) (hd : opR .quo e b d) (hs : opR .add e d s) (hh : opR .mul s 4602678819172646912 h) (hy : sgnR h x y) : sinhR x y :=
  sinh_of ⟨e, k, by rw [if_neg c]; exact ⟨b, d, s, h, hb, hd, hs, hh, hy⟩⟩
end Go.Proofs.YtgljnklaabbidaaGreat
