/-
  OWN TEXT: the reference's rising sum (eddyref04.Rising), for every float.
-/
import Derived.Test.YtgljnklaabbidaaGreatJEoA
import Derived.Test.YtgljnklaabbidaaGreatJEqA
import Derived.Test.YtgljnklaabbidaaGreatJFnLdexpToFnParts
namespace Go.Proofs.YtgljnklaabbidaaGreat
open Go.ChangeShapes Go.WideShapes Go.ChangeAt Go.RowKit
set_option linter.unusedVariables false
attribute [local go_sem] frombits_call tobits_call run_neg
/-- the rising sum of r, behind i rounds -/
def risQ (r : Nat) : Nat → Nat → Prop
  | 0, t => t = 4607182418800017408
  | i + 1, t' => ∃ t p d, risQ r i t ∧ opR .mul r t p ∧ opR .quo p (floatOfInt .f64 (13 - (i : Int))) d ∧ opR .add 4607182418800017408 d t'
theorem risQ.sim {r r' : Nat} (hr : simR r r') : ∀ (i t t' : Nat), risQ r i t → risQ r' i t' → simR t t'
  | 0, t, t', h, h' => Or.inl (Eq.trans h (Eq.symm h'))
  | i + 1, t, t', ⟨u, p, d, h1, h2, h3, h4⟩, ⟨u', p', d', k1, k2, k3, k4⟩ =>
    h4.sim (Or.inl rfl) k4 (simR.refl _) (h3.sim (Or.inr (Or.inr (Or.inr rfl))) k3 (h2.sim (Or.inr (Or.inr (Or.inl rfl))) k2 hr (risQ.sim hr i u u' h1 k1)) (simR.refl _))
end Go.Proofs.YtgljnklaabbidaaGreat
/-
  OWN TEXT: the exponential, and that less 1, for every float: what they come to.
-/
namespace Go.Proofs.YtgljnklaabbidaaGreat
open Go.ChangeShapes Go.WideShapes Go.ChangeAt Go.RowKit
set_option linter.unusedVariables false
attribute [local go_sem] frombits_call tobits_call run_neg
theorem risQ_lt {r : Nat} : ∀ (i t : Nat), risQ r i t → t < 18446744073709551616
  | 0, t, h => by have e : t = 4607182418800017408 := h; omega
  | i + 1, t, ⟨_, _, _, _, _, _, h⟩ => h.1
/-- the rest of x less n times the logarithm of 2 -/
def restR (x n r : Nat) : Prop := ∃ nh d nl, opR .mul n 4604418534311723008 nh ∧ opR .sub x nh d ∧ opR .mul n 4461442080421002358 nl ∧ opR .sub d nl r
theorem restR.sim {x n n' r r' : Nat} (h : restR x n r) (k : restR x n' r') (e : simR n n') : simR r r' := by
  obtain ⟨nh, d, nl, h1, h2, h3, h4⟩ := h
  obtain ⟨nh', d', nl', k1, k2, k3, k4⟩ := k
  have mu : isOp .mul := Or.inr (Or.inr (Or.inl rfl))
  have su : isOp .sub := Or.inr (Or.inl rfl)
  exact h4.sim su k4 (h2.sim su k2 (simR.refl _) (h1.sim mu k1 e (simR.refl _))) (h3.sim mu k3 e (simR.refl _))
/-- the exponential of x in the middle -/
def exP (x y : Nat) : Prop := ∃ n r t q, foldR x n ∧ restR x n r ∧ risQ r 13 t ∧ floatToIntVal .f64 n .i64 = some q ∧ y = scF t q
def expR (x y : Nat) : Prop := y < 18446744073709551616 ∧
  if Fl.nan x = true then Fl.nan y = true
  else if Fl.ltF 4649454594685214392 x = true then y = 9218868437227405312
  else if Fl.ltF x 13873137573428325253 = true then y = 0
  else exP x y
theorem scF_nan {t : Nat} (h : Fl.nan t = true) (n : Int) : scF t n = t := scF_stay (Or.inr (Nat.le_of_lt (Fl.nan_lt h))) n
theorem mid_rg {x : Nat} (hx : x < 18446744073709551616) (c0 : Fl.nan x = false) (c1 : Fl.ltF 4649454594685214392 x = false) (c2 : Fl.ltF x 13873137573428325253 = false) : Fl.rg x ≤ 4652218415073722368 := by
  unfold Fl.ltF at c1 c2
  rw [c0, show Fl.nan 4649454594685214392 = false by decide, show Fl.key 4649454594685214392 = 4649454594685214392 by decide] at c1
  rw [c0, show Fl.nan 13873137573428325253 = false by decide, show Fl.key 13873137573428325253 = -4649765536573549445 by decide] at c2
  simp only [Bool.not_false, Bool.true_and, decide_eq_false_iff_not] at c1 c2
  unfold Fl.key at c1 c2
  cases e : Fl.sg x <;> rw [e] at c1 c2 <;> simp at c1 c2 <;> omega
theorem exP.sim {x y y' : Nat} (hr : Fl.rg x ≤ 4652218415073722368) (h : exP x y) (k : exP x y') : simR y y' := by
  obtain ⟨n, r, t, q, h1, h2, h3, h4, h5⟩ := h
  obtain ⟨n', r', t', q', k1, k2, k3, k4, k5⟩ := k
  have hn := (fold_int hr h1).1
  have en : n = n' := by
    rcases h1.sim k1 (simR.refl _) with e | ⟨e, _⟩
    · exact e
    · rw [hn] at e; cases e
  subst en
  have eq : q = q' := Option.some.inj (h4.symm.trans k4)
  subst eq
  subst h5
  subst k5
  rcases risQ.sim (h2.sim k2 (simR.refl _)) 13 t t' h3 k3 with e | ⟨e1, e2⟩
  · subst e; exact simR.refl _
  · rw [scF_nan e1, scF_nan e2]; exact Or.inr ⟨e1, e2⟩
theorem expR.sim {x y y' : Nat} (hx : x < 18446744073709551616) (h : expR x y) (k : expR x y') : simR y y' := by
  obtain ⟨_, h⟩ := h
  obtain ⟨_, k⟩ := k
  by_cases c0 : Fl.nan x = true
  · rw [if_pos c0] at h k; exact Or.inr ⟨h, k⟩
  · rw [if_neg c0] at h k
    by_cases c1 : Fl.ltF 4649454594685214392 x = true
    · rw [if_pos c1] at h k; exact Or.inl (h.trans k.symm)
    · rw [if_neg c1] at h k
      by_cases c2 : Fl.ltF x 13873137573428325253 = true
      · rw [if_pos c2] at h k; exact Or.inl (h.trans k.symm)
      · rw [if_neg c2] at h k
        exact h.sim (mid_rg hx (Bool.eq_false_iff.2 c0) (Bool.eq_false_iff.2 c1) (Bool.eq_false_iff.2 c2)) k
/-- the exponential of x, less 1 -/
def lessR (x y : Nat) : Prop := y < 18446744073709551616 ∧
  if Fl.nan x = true then Fl.nan y = true
  else if Fl.ltF 4649454594685214392 x = true then y = 9218868437227405312
  else ∃ n, foldR x n ∧ if Fl.eqF n 0 = true then ∃ t, risQ x 12 t ∧ opR .mul x t y else ∃ e, expR x e ∧ opR .sub e 4607182418800017408 y
theorem lessR.sim {x y y' : Nat} (hx : x < 18446744073709551616) (h : lessR x y) (k : lessR x y') : simR y y' := by
  obtain ⟨_, h⟩ := h
  obtain ⟨_, k⟩ := k
  by_cases c0 : Fl.nan x = true
  · rw [if_pos c0] at h k; exact Or.inr ⟨h, k⟩
  · rw [if_neg c0] at h k
    by_cases c1 : Fl.ltF 4649454594685214392 x = true
    · rw [if_pos c1] at h k; exact Or.inl (h.trans k.symm)
    · rw [if_neg c1] at h k
      obtain ⟨n, h1, h2⟩ := h
      obtain ⟨n', k1, k2⟩ := k
      have en : Fl.eqF n 0 = Fl.eqF n' 0 := by
        rcases h1.sim k1 (simR.refl _) with e | ⟨e1, e2⟩
        · rw [e]
        · unfold Fl.eqF; rw [e1, e2]; rfl
      rw [← en] at k2
      by_cases c2 : Fl.eqF n 0 = true
      · rw [if_pos c2] at h2 k2
        obtain ⟨t, h3, h4⟩ := h2
        obtain ⟨t', k3, k4⟩ := k2
        exact h4.sim (Or.inr (Or.inr (Or.inl rfl))) k4 (simR.refl _) (risQ.sim (simR.refl _) 12 t t' h3 k3)
      · rw [if_neg c2] at h2 k2
        obtain ⟨t, h3, h4⟩ := h2
        obtain ⟨t', k3, k4⟩ := k2
        exact h4.sim (Or.inr (Or.inl rfl)) k4 (h3.sim hx k3) (simR.refl _)
theorem infp_ret (w : World) : Calls Tryz.prog 84 #[.int .i64 1] w fun e w' => e = .returned (.float .f64 9218868437227405312) ∧ w' = w := by
  go_enter Tryz.func84, Tryz.ntmps84
  go_wp2
  go_ret
  exact ⟨rfl, rfl⟩
theorem whR_of (p : Nat) (hp : p < 18446744073709551616) : whR p (if Fl.nan p = true then p else Fl.whF p) := by
  by_cases c : Fl.nan p = true
  · rw [if_pos c]; exact ⟨hp, by rw [if_pos c]; exact c⟩
  · rw [if_neg c]; exact ⟨(Fl.whF_ng hp (Bool.eq_false_iff.2 c)).2.1, by rw [if_neg c]⟩
theorem exp_cases (x : Nat) : Fl.nan x = true ∨ (Fl.nan x = false ∧ Fl.ltF 4649454594685214392 x = true) ∨ (Fl.nan x = false ∧ Fl.ltF 4649454594685214392 x = false ∧ Fl.ltF x 13873137573428325253 = true) ∨ (Fl.nan x = false ∧ Fl.ltF 4649454594685214392 x = false ∧ Fl.ltF x 13873137573428325253 = false) := by
  cases Fl.nan x <;> cases Fl.ltF 4649454594685214392 x <;> cases Fl.ltF x 13873137573428325253 <;> simp
end Go.Proofs.YtgljnklaabbidaaGreat
/-
  OWN TEXT: the program's rising sum (elem.rising), for every float.
-/
namespace Go.Proofs.YtgljnklaabbidaaGreat
open Go.ChangeShapes Go.WideShapes Go.ChangeAt Go.RowKit
set_option linter.unusedVariables false
attribute [local go_sem] frombits_call tobits_call run_neg
set_option maxHeartbeats 4000000 in
theorem rising_any (r j : Nat) (w : World) (hj : 1 ≤ j) (hj' : j ≤ 13) : Calls Tryz.prog 88 #[.float .f64 r, .int .i64 (j : Int)] w fun e w' => ∃ t, e = .returned (.float .f64 t) ∧ risQ r (14 - j) t ∧ Bw w w' := by
  go_enter Tryz.func88, Tryz.ntmps88
  go_wp2
  go_loopw [5, 9] (fun t k wr => ∃ (i n : Nat), i ≤ 14 - j ∧ t = .float .f64 n ∧ k = .int .i64 (i : Int) ∧ risQ r i n ∧ Bw w wr) (fun _ k _ => 14 - (intOf k).toNat)
  case atStart => exact ⟨0, 4607182418800017408, by omega, rfl, rfl, rfl, Bw.refl _⟩
  case round =>
    obtain ⟨i, n, hi, rfl, rfl, hq, hg⟩ := hrel
    have HQ : Hid (risQ r i n) := hq
    clear hq
    by_cases c : i < 14 - j
    · have hk : (i : Int) < 14 - (j : Int) := by omega
      obtain ⟨p, w2, hp, e2, g2⟩ := op_run .mul (Or.inr (Or.inr (Or.inl rfl))) r n wr
      obtain ⟨d, w3, hd, e3, g3⟩ := op_run .quo (Or.inr (Or.inr (Or.inr rfl))) p (floatOfInt .f64 (13 - (i : Int))) w2
      obtain ⟨t', w4, ht', e4, g4⟩ := op_run .add (Or.inl rfl) 4607182418800017408 d w3
      have hgg := bw_trans (bw_trans (bw_trans hg g2) g3) g4
      have R : ∃ (i' n' : Nat), i' ≤ 14 - j ∧ Value.float .f64 t' = .float .f64 n' ∧ Value.int .i64 ((i : Int) + 1) = .int .i64 (i' : Int) ∧ risQ r i' n' ∧ Bw w w4 :=
        ⟨i + 1, t', by omega, rfl, by rw [show (i : Int) + 1 = ((i + 1 : Nat) : Int) by omega], ⟨n, p, d, HQ.out, hp, hd, ht'⟩, hgg⟩
      have HR : Hid _ := R
      clear R hd hp ht' g2 g3 g4 hg HQ hgg
      go_wp2
      go_roundw
      case rel => exact HR.out
      case measure => simp [intOf]; omega
    · have hi' : i = 14 - j := by omega
      have hk : ¬ (i : Int) < 14 - (j : Int) := by omega
      have HI : Hid (i = 14 - j) := hi'
      clear c hi hi'
      go_wp2
      go_ret
      exact ⟨n, rfl, by rw [← HI.out]; exact HQ.out, hg⟩
end Go.Proofs.YtgljnklaabbidaaGreat
