/-
  OWN TEXT: what Same, Minus, Signed and the reference of layer 1 return, for every float.
-/
import Derived.Test.YtlbikopancleoaaGreatDoorJnAl
namespace Go.Proofs.YtlbikopancleoaaGreatDoor
open Go.ChangeShapes Go.WideShapes Go.ChangeAt Go.RowKit
attribute [local go_sem] frombits_call tobits_call run_neg
theorem none_any (x : Nat) (w : World) : Calls Tryz.prog 46 #[.float .f64 x] w fun e w' => e = .returned (.bool (Fl.nan x)) ∧ w' = w := by
  go_enter Tryz.func46, Tryz.ntmps46
  go_wp2
  go_ret
  exact ⟨rb (by rw [Fl.o_ne, Fl.eqF_self]; simp), rfl⟩
theorem minus_any (x : Nat) (w : World) (hx : x < 18446744073709551616) : Calls Tryz.prog 79 #[.float .f64 x] w fun e w' => e = .returned (.bool (Fl.minusB x)) ∧ w' = w := by
  go_enter Tryz.func79, Tryz.ntmps79
  go_wp2_with (go_at_call 113; refine (bits_any _ _).mono ?_; rintro e w' ⟨rfl, rfl⟩)
  go_ret
  exact ⟨rb (by
    show (bits BinOp.and IntKind.u64 (↑(Fl.bitsF x)) 9223372036854775808 != 0) = _
    rw [Fl.sign_bits (Fl.bitsF_lt hx)]
    unfold Fl.minusB Fl.bitsF
    cases h : Fl.nan x <;> simp; decide), rfl⟩
theorem rsame_any (x y : Nat) (w : World) : Calls Tryz.prog 25 #[.float .f64 x, .float .f64 y] w fun e w' => e = .returned (.bool (Fl.sameB x y)) ∧ w' = w := by
  cases h1 : Fl.nan x <;> cases h2 : Fl.nan y
  all_goals
    go_enter Tryz.func25, Tryz.ntmps25
    go_wp2_with (go_at_call 46; refine (none_any _ _).mono ?_; rintro e w' ⟨rfl, rfl⟩)
    go_ret
    refine ⟨rb ?_, rfl⟩
    simp [Fl.sameB, h1, h2]
  rw [Bool.eq_iff_iff]; simp; omega
theorem endless_any (x : Nat) (w : World) : Calls Tryz.prog 137 #[.float .f64 x] w fun e w' => e = .returned (.bool (decide (Fl.rg x = 9218868437227405312))) ∧ w' = w := by
  have k1 : Fl.ltF 9218868437227405311 x = (!Fl.nan x && decide (9218868437227405311 < Fl.key x)) := by
    unfold Fl.ltF; rw [show Fl.nan 9218868437227405311 = false from by decide, show Fl.key 9218868437227405311 = 9218868437227405311 from by decide]; simp
  have k2 : Fl.ltF x 18442240474082181119 = (!Fl.nan x && decide (Fl.key x < -9218868437227405311)) := by
    unfold Fl.ltF; rw [show Fl.nan 18442240474082181119 = false from by decide, show Fl.key 18442240474082181119 = -9218868437227405311 from by decide]; simp
  have e : ∀ a b : Bool, Fl.ltF 9218868437227405311 x = a → Fl.ltF x 18442240474082181119 = b → (a || b) = decide (Fl.rg x = 9218868437227405312) := by
    intro a b ha hb
    rw [← ha, ← hb, k1, k2]
    rw [Bool.eq_iff_iff]
    have hk := Fl.key_cases x
    simp only [Fl.nan, Bool.or_eq_true, Bool.and_eq_true, Bool.not_eq_true', decide_eq_true_eq, decide_eq_false_iff_not]
    omega
  cases h1 : Fl.ltF 9218868437227405311 x <;> cases h2 : Fl.ltF x 18442240474082181119
  all_goals
    have g1 := Fl.o_gt x 9218868437227405311
    have g2 := Fl.o_lt x 18442240474082181119
    rw [h1] at g1
    rw [h2] at g2
    go_enter Tryz.func137, Tryz.ntmps137
    go_wp2
    go_ret
    exact ⟨rb (e _ _ h1 h2), rfl⟩
theorem rfinite_any (x : Nat) (w : World) : Calls Tryz.prog 121 #[.float .f64 x] w fun e w' => e = .returned (.bool (Fl.finB x)) ∧ w' = w := by
  cases h1 : Fl.nan x <;> cases h2 : decide (Fl.rg x = 9218868437227405312)
  all_goals
    go_enter Tryz.func121, Tryz.ntmps121
    go_wp2_with (first | (go_at_call 46; refine (none_any _ _).mono ?_; rintro e w' ⟨rfl, rfl⟩) | (go_at_call 137; refine (endless_any _ _).mono ?_; rintro e w' ⟨rfl, rfl⟩))
    go_ret
    refine ⟨rb ?_, rfl⟩
    rw [Bool.eq_iff_iff]
    simp [Fl.finB, Fl.nan] at *
    try omega
theorem rminus_any (x : Nat) (w : World) (hx : x < 18446744073709551616) : Calls Tryz.prog 92 #[.float .f64 x] w fun e w' => e = .returned (.bool (Fl.minusB x)) ∧ w' = w := by
  cases h1 : Fl.nan x
  all_goals
    go_enter Tryz.func92, Tryz.ntmps92
    go_wp2_with (go_at_call 46; refine (none_any _ _).mono ?_; rintro e w' ⟨rfl, rfl⟩)
    go_ret
    refine ⟨rb ?_, rfl⟩
    simp [Fl.minusB, h1]
  rw [Fl.sg_lt hx, Bool.eq_iff_iff]; simp; omega
/-- a with b's sign, as the reference has it -/
def rsignedF (x y : Nat) : Nat := if Fl.minusB x != Fl.minusB y && !Fl.nan x then Fl.ng x else x
theorem rsigned_any (x y : Nat) (w : World) (hx : x < 18446744073709551616) (hy : y < 18446744073709551616) : Calls Tryz.prog 94 #[.float .f64 x, .float .f64 y] w fun e w' => e = .returned (.float .f64 (rsignedF x y)) ∧ w' = w := by
  have hn := Fl.neg_eq hx
  cases h1 : Fl.nan x <;> cases h2 : Fl.minusB x <;> cases h3 : Fl.minusB y
  all_goals
    go_enter Tryz.func94, Tryz.ntmps94
    go_wp2_with (first | (go_at_call 46; refine (none_any _ _).mono ?_; rintro e w' ⟨rfl, rfl⟩) | (go_at_call 92; refine (rminus_any _ _ (by assumption)).mono ?_; rintro e w' ⟨rfl, rfl⟩))
    go_ret
    exact ⟨rf (by simp [rsignedF, h1, h2, h3]), rfl⟩
/-- a with b's sign, as the program has it -/
def signedF (x y : Nat) : Nat := if Fl.minusB y then Fl.ng (Fl.rg x) else Fl.rg x
theorem signed_any (x y : Nat) (w : World) (hx : x < 18446744073709551616) (hy : y < 18446744073709551616) : Calls Tryz.prog 134 #[.float .f64 x, .float .f64 y] w fun e w' => e = .returned (.float .f64 (signedF x y)) ∧ w' = w := by
  have hn := Fl.neg_eq (x := Fl.rg x) (by have := Fl.rg_lt x; omega)
  cases h2 : Fl.minusB y
  all_goals
    go_enter Tryz.func134, Tryz.ntmps134
    go_wp2_with (first | (go_at_call 78; refine (abs_any _ _ (by assumption)).mono ?_; rintro e w' ⟨rfl, rfl⟩) | (go_at_call 79; refine (minus_any _ _ (by assumption)).mono ?_; rintro e w' ⟨rfl, rfl⟩))
    go_ret
    exact ⟨rf (by simp [signedF, h2]), rfl⟩
theorem same_signed (x y : Nat) (hx : x < 18446744073709551616) : Fl.sameB (signedF x y) (rsignedF x y) = true := by
  have hl := Fl.rg_lt x
  have hs := Fl.sg_lt hx
  have e1 : Fl.nan (signedF x y) = Fl.nan x := by unfold signedF; split <;> simp [Fl.nan_ng, Fl.nan_rg]
  have e2 : Fl.nan (rsignedF x y) = Fl.nan x := by unfold rsignedF; split <;> simp [Fl.nan_ng]
  unfold Fl.sameB
  rw [e1, e2]
  cases hn : Fl.nan x
  · simp only [Bool.false_and, Bool.not_false, Bool.true_and, Bool.false_or, decide_eq_true_eq]
    unfold signedF rsignedF
    rw [show Fl.minusB x = decide (9223372036854775808 ≤ x) by simp [Fl.minusB, hn, hs]]
    have hr : Fl.rg x = if 9223372036854775808 ≤ x then x - 9223372036854775808 else x := by unfold Fl.rg; split <;> omega
    rw [hr, hn]
    unfold Fl.ng
    cases Fl.minusB y <;> by_cases h : 9223372036854775808 ≤ x <;> simp [h] <;> omega
  · rfl
end Go.Proofs.YtlbikopancleoaaGreatDoor
/-
  OWN TEXT: half the sum and half the difference of exponentials, for every float: what they come to, and the program's (elem.Cosh, elem.Sinh).
-/
namespace Go.Proofs.YtlbikopancleoaaGreatDoor
open Go.ChangeShapes Go.WideShapes Go.ChangeAt Go.RowKit
set_option linter.unusedVariables false
attribute [local go_sem] frombits_call tobits_call run_neg
def coshR (x y : Nat) : Prop := ∃ a b s, expR x a ∧ expR (Fl.ng x) b ∧ opR .add a b s ∧ opR .mul s 4602678819172646912 y
theorem coshR.sim {x y y' : Nat} (hx : x < 18446744073709551616) (h : coshR x y) (k : coshR x y') : simR y y' := by
  obtain ⟨a, b, s, h1, h2, h3, h4⟩ := h
  obtain ⟨a', b', s', k1, k2, k3, k4⟩ := k
  exact h4.sim (Or.inr (Or.inr (Or.inl rfl))) k4 (h3.sim (Or.inl rfl) k3 (h1.sim hx k1) (h2.sim (Fl.ng_lt hx) k2)) (simR.refl _)
/-- h with the sign of x -/
def sgnR (h x y : Nat) : Prop := Fl.sameB y (signedF h x) = true
theorem same_cases {a b : Nat} (h : Fl.sameB a b = true) : a = b ∨ (Fl.nan a = true ∧ Fl.nan b = true) := by
  unfold Fl.sameB at h
  rw [Bool.or_eq_true, Bool.and_eq_true, Bool.and_eq_true, decide_eq_true_eq] at h
  rcases h with h | h
  · exact Or.inr h
  · exact Or.inl h.2
theorem signed_nan {h x : Nat} (hh : Fl.nan h = true) : Fl.nan (signedF h x) = true := by unfold signedF; split <;> simp [Fl.nan_ng, Fl.nan_rg, hh]
theorem same_nan {a b : Nat} (h : Fl.sameB a b = true) (hb : Fl.nan b = true) : Fl.nan a = true := by
  rcases same_cases h with e | ⟨e, _⟩
  · rw [e]; exact hb
  · exact e
theorem sgnR.sim {h h' x y y' : Nat} (k : sgnR h x y) (k' : sgnR h' x y') (e : simR h h') : simR y y' := by
  rcases e with e | ⟨e1, e2⟩
  · subst e
    rcases same_cases k with a | ⟨a1, a2⟩
    · rcases same_cases k' with b | ⟨b1, b2⟩
      · exact Or.inl (a.trans b.symm)
      · exact Or.inr ⟨by rw [a]; exact b2, b1⟩
    · exact Or.inr ⟨a1, same_nan k' a2⟩
  · exact Or.inr ⟨same_nan k (signed_nan e1), same_nan k' (signed_nan e2)⟩
/-- half the difference, of a number -/
def sinhP (x y : Nat) : Prop := ∃ e, lessR (Fl.rg x) e ∧ if e = 9218868437227405312 then sgnR e x y else ∃ b d s h, opR .add e 4607182418800017408 b ∧ opR .quo e b d ∧ opR .add e d s ∧ opR .mul s 4602678819172646912 h ∧ sgnR h x y
def sinhR (x y : Nat) : Prop := if Fl.nan x = true then Fl.nan y = true else sinhP x y
theorem inf_num : Fl.nan 9218868437227405312 = false := by decide
theorem sinhR.sim {x y y' : Nat} (hx : x < 18446744073709551616) (h : sinhR x y) (k : sinhR x y') : simR y y' := by
  unfold sinhR at h k
  by_cases c : Fl.nan x = true
  · rw [if_pos c] at h k; exact Or.inr ⟨h, k⟩
  · rw [if_neg c] at h k
    obtain ⟨e, h1, h2⟩ := h
    obtain ⟨e', k1, k2⟩ := k
    have es := h1.sim (by have := Fl.rg_lt x; omega) k1
    have ei : e = 9218868437227405312 ↔ e' = 9218868437227405312 := by
      rcases es with a | ⟨a1, a2⟩
      · rw [a]
      · constructor
        · intro b; rw [b, inf_num] at a1; cases a1
        · intro b; rw [b, inf_num] at a2; cases a2
    by_cases c2 : e = 9218868437227405312
    · rw [if_pos c2] at h2
      rw [if_pos (ei.1 c2)] at k2
      exact h2.sim k2 es
    · rw [if_neg c2] at h2
      rw [if_neg (fun z => c2 (ei.2 z))] at k2
      obtain ⟨b, d, s, h, a1, a2, a3, a4, a5⟩ := h2
      obtain ⟨b', d', s', h', b1, b2, b3, b4, b5⟩ := k2
      have ad : isOp .add := Or.inl rfl
      have mu : isOp .mul := Or.inr (Or.inr (Or.inl rfl))
      have qu : isOp .quo := Or.inr (Or.inr (Or.inr rfl))
      exact a5.sim b5 (a4.sim mu b4 (a3.sim ad b3 es (a2.sim qu b2 es (a1.sim ad b1 es (simR.refl _)))) (simR.refl _))
theorem less_of_nan {x e : Nat} (h : Fl.nan x = true) (he : lessR x e) : Fl.nan e = true := by
  have := he.2
  rw [if_pos h] at this
  exact this
/-- what the program does comes to it for no numbers too -/
theorem sinh_of {x y : Nat} (hp : sinhP x y) : sinhR x y := by
  unfold sinhR
  by_cases c : Fl.nan x = true
  · rw [if_pos c]
    obtain ⟨e, h1, h2⟩ := hp
    have ne : Fl.nan e = true := less_of_nan (by rw [Fl.nan_rg]; exact c) h1
    rw [if_neg (by intro z; rw [z, inf_num] at ne; cases ne)] at h2
    obtain ⟨b, d, s, h, a1, a2, a3, a4, a5⟩ := h2
    have ad : isOp .add := Or.inl rfl
    have n3 := a3.nan (nan_left .add ad ne)
    have n4 := a4.nan (nan_left .mul (Or.inr (Or.inr (Or.inl rfl))) n3)
    exact same_nan a5 (signed_nan n4)
  · rw [if_neg c]; exact hp
theorem sgn_self (h x : Nat) : sgnR h x (signedF h x) := (simR.refl (signedF h x)).same
theorem sgn_ref (h x : Nat) (hh : h < 18446744073709551616) : sgnR h x (rsignedF h x) := by
  have := same_signed h x hh
  unfold sgnR
  rcases same_cases this with e | ⟨e1, e2⟩
  · rw [e]; exact (simR.refl _).same
  · unfold Fl.sameB; rw [e1, e2]; rfl
theorem sinhP_inf {x e y : Nat} (h : lessR (Fl.rg x) e) (c : e = 9218868437227405312) (hy : sgnR e x y) : sinhR x y := sinh_of ⟨e, h, by rw [if_pos c]; exact hy⟩
theorem sinhP_fin {x e b d s h y : Nat} (k : lessR (Fl.rg x) e) (c : ¬ e = 9218868437227405312) (hb : opR .add e 4607182418800017408 b) (hd : opR .quo e b d) (hs : opR .add e d s) (hh : opR .mul s 4602678819172646912 h) (hy : sgnR h x y) : sinhR x y :=
  sinh_of ⟨e, k, by rw [if_neg c]; exact ⟨b, d, s, h, hb, hd, hs, hh, hy⟩⟩
set_option maxHeartbeats 4000000 in
theorem cosh_any (x : Nat) (w : World) (hx : x < 18446744073709551616) : Calls Tryz.prog 117 #[.float .f64 x] w fun e w' => ∃ y, e = .returned (.float .f64 y) ∧ coshR x y ∧ Bw w w' := by
  have hn := Fl.neg_eq hx
  go_enter Tryz.func117, Tryz.ntmps117
  go_wp2_with fail
  refine (exp_any x _ hx).mono ?_
  rintro e w1 ⟨a, rfl, ha, b1⟩
  have HA : Hid (expR x a) := ha
  clear ha
  go_wp2_with fail
  refine (exp_any (Fl.ng x) _ (Fl.ng_lt hx)).mono ?_
  rintro e w2 ⟨b, rfl, hb, b2⟩
  obtain ⟨s, w3, hs, e3, b3⟩ := op_run .add (Or.inl rfl) a b w2
  obtain ⟨y, w4, hy, e4, b4⟩ := op_run .mul (Or.inr (Or.inr (Or.inl rfl))) s 4602678819172646912 w3
  have B := bw_trans (bw_trans (bw_trans b1 b2) b3) b4
  have HC : Hid (coshR x y) := ⟨a, b, s, HA.out, hb, hs, hy⟩
  clear HA hb hs hy b1 b2 b3 b4
  go_wp2
  go_ret
  exact ⟨_, rfl, HC.out, B⟩
set_option maxHeartbeats 4000000 in
theorem sinh_any (x : Nat) (w : World) (hx : x < 18446744073709551616) : Calls Tryz.prog 116 #[.float .f64 x] w fun e w' => ∃ y, e = .returned (.float .f64 y) ∧ sinhR x y ∧ Bw w w' := by
  have hr : Fl.rg x < 18446744073709551616 := by have := Fl.rg_lt x; omega
  go_enter Tryz.func116, Tryz.ntmps116
  go_wp2_with (first | (go_at_call 78; refine (abs_any _ _ (by assumption)).mono ?_; rintro e w ⟨rfl, rfl⟩) | fail)
  refine (less_any (Fl.rg x) _ hr).mono ?_
  rintro e w1 ⟨e1, rfl, he, b1⟩
  have hel := he.1
  have HE : Hid (lessR (Fl.rg x) e1) := he
  clear he
  have IN : Hid (∀ wz, Calls Tryz.prog 71 #[.float .f64 e1, .int .i64 1] wz fun e w' => e = .returned (.bool (decide (e1 = 9218868437227405312))) ∧ w' = wz) := fun wz => isInf_up e1 wz hel
  by_cases c : e1 = 9218868437227405312
  · rw [decide_eq_true c] at IN
    have HS0 : sinhR x (signedF e1 x) := sinhP_inf HE.out c (sgn_self e1 x)
    have HS : Hid (sinhR x (signedF e1 x)) := HS0
    clear HS0 HE c
    go_wp2_with (first | (go_at_call 71; refine (IN.out _).mono ?_; rintro e w9 ⟨rfl, hw9⟩; subst hw9) | fail)
    refine (signed_any e1 x _ hel hx).mono ?_
    rintro e w2 ⟨rfl, hw2⟩
    subst hw2
    clear IN
    generalize signedF e1 x = y at *
    go_wp2
    go_ret
    exact ⟨_, rfl, HS.out, b1⟩
  · rw [decide_eq_false c] at IN
    obtain ⟨b, w2, hb, k2, b2⟩ := op_run .add (Or.inl rfl) e1 4607182418800017408 w1
    obtain ⟨d, w3, hd, k3, b3⟩ := op_run .quo (Or.inr (Or.inr (Or.inr rfl))) e1 b w2
    obtain ⟨s, w4, hs, k4, b4⟩ := op_run .add (Or.inl rfl) e1 d w3
    obtain ⟨h, w5, hh, k5, b5⟩ := op_run .mul (Or.inr (Or.inr (Or.inl rfl))) s 4602678819172646912 w4
    have B := bw_trans (bw_trans (bw_trans (bw_trans b1 b2) b3) b4) b5
    have hhl := hh.1
    have HS0 : sinhR x (signedF h x) := sinhP_fin HE.out c hb hd hs hh (sgn_self h x)
    have HS : Hid (sinhR x (signedF h x)) := HS0
    clear HS0
    clear HE c hb hd hs hh b1 b2 b3 b4 b5
    go_wp2_with (first | (go_at_call 71; refine (IN.out _).mono ?_; rintro e w9 ⟨rfl, hw9⟩; subst hw9) | fail)
    refine (signed_any h x _ hhl hx).mono ?_
    rintro e w6 ⟨rfl, hw6⟩
    subst hw6
    clear IN
    generalize signedF h x = y at *
    go_wp2
    go_ret
    exact ⟨_, rfl, HS.out, B⟩
end Go.Proofs.YtlbikopancleoaaGreatDoor
