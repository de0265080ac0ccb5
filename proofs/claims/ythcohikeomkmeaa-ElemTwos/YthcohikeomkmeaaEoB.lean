/-
  OWN TEXT: the reference's logarithm (eddyref04.Log), for every float.
-/
import Derived.Test.YthcohikeomkmeaaEoA
import Derived.Test.YthcohikeomkmeaaRfC
namespace Go.Proofs.Ythcohikeomkmeaa
open Go.ChangeShapes Go.WideShapes Go.ChangeAt Go.RowKit
set_option linter.unusedVariables false
attribute [local go_sem] frombits_call tobits_call run_neg
/-- the logarithm of a finite number above nought: of its parts m and e -/
def logP (m : Nat) (e : Int) (y : Nat) : Prop := ∃ a b f o nh nl t, opR .sub m 4607182418800017408 a ∧ opR .add m 4607182418800017408 b ∧ opR .quo a b f ∧ oddR f o ∧
  opR .mul (floatOfInt .f64 e) 4604418534311723008 nh ∧ opR .mul (floatOfInt .f64 e) 4461442080421002358 nl ∧ opR .add nl o t ∧ opR .add nh t y
def logF (x y : Nat) : Prop := if Fl.ltF (paF x) 4604544271217802189 = true then ∃ m, opR .mul 4611686018427387904 (paF x) m ∧ logP m (paE x - 1) y else logP (paF x) (paE x) y
theorem logP.sim {m m' : Nat} {e : Int} {y y' : Nat} (h : logP m e y) (k : logP m' e y') (hm : simR m m') : simR y y' := by
  obtain ⟨a, b, f, o, nh, nl, t, h1, h2, h3, h4, h5, h6, h7, h8⟩ := h
  obtain ⟨a', b', f', o', nh', nl', t', k1, k2, k3, k4, k5, k6, k7, k8⟩ := k
  have ad : isOp .add := Or.inl rfl
  have su : isOp .sub := Or.inr (Or.inl rfl)
  have mu : isOp .mul := Or.inr (Or.inr (Or.inl rfl))
  have qu : isOp .quo := Or.inr (Or.inr (Or.inr rfl))
  have ea := h1.sim su k1 hm (simR.refl _)
  have eb := h2.sim ad k2 hm (simR.refl _)
  have ef := h3.sim qu k3 ea eb
  have eo := h4.sim k4 ef
  have eh := h5.sim mu k5 (simR.refl _) (simR.refl _)
  have el := h6.sim mu k6 (simR.refl _) (simR.refl _)
  have et := h7.sim ad k7 el eo
  exact h8.sim ad k8 eh et
theorem logF.sim {x y y' : Nat} (h : logF x y) (k : logF x y') : simR y y' := by
  unfold logF at h k
  by_cases c : Fl.ltF (paF x) 4604544271217802189 = true
  · rw [if_pos c] at h k
    obtain ⟨m, h1, h2⟩ := h
    obtain ⟨m', k1, k2⟩ := k
    exact h2.sim k2 (h1.sim (Or.inr (Or.inr (Or.inl rfl))) k1 (simR.refl _) (simR.refl _))
  · rw [if_neg c] at h k
    exact h.sim k (simR.refl _)
set_option maxHeartbeats 4000000 in
theorem rlog_fin (x : Nat) (w : World) (hx : x < 18446744073709551616) (hf : Fl.rg x < 9218868437227405312) (hz : ¬ Fl.rg x = 0) (hs : Fl.sg x = false) :
    Calls Try.prog 22 #[.float .f64 x] w fun e w' => ∃ y, e = .returned (.float .f64 y) ∧ logF x y ∧ Bw w w' := by
  have hn : Fl.nan x = false := by unfold Fl.nan; exact decide_eq_false (by omega)
  have hxr : x = Fl.rg x := by
    have := Fl.wd_self hx
    rw [hs] at this
    exact this.symm
  obtain ⟨t1, t2, t3⟩ := up_tests hx hn
  have g0 := Fl.o_ne x x
  rw [Fl.eqF_self, hn] at g0
  have g1 := Fl.o_lt x 0
  have g2 := Fl.o_eq x 0
  have g3 := Fl.o_gt x 9218868437227405311
  rw [t3, decide_eq_false (by omega)] at g1
  rw [t2, decide_eq_false hz] at g2
  rw [t1, decide_eq_false (by omega)] at g3
  have g4 := Fl.o_lt (paF x) 4604544271217802189
  have LF : Hid (∀ y, (if Fl.ltF (paF x) 4604544271217802189 = true then ∃ m, opR .mul 4611686018427387904 (paF x) m ∧ logP m (paE x - 1) y else logP (paF x) (paE x) y) → logF x y) := fun y h => h
  have hpe : -2000 < paE x ∧ paE x < 2000 := by
    obtain ⟨y1, y2, y3, y4, c1, c2, v1⟩ := nm_facts hx hf hz
    have e1 : paE x = ptE x := if_neg (by omega)
    rw [e1]
    unfold ptE
    omega
  have PA : Hid (∀ wz, Calls Try.prog 39 #[.float .f64 x] wz fun e w' => e = .returned (.tuple #[.float .f64 (paF x), .int .i64 (paE x)]) ∧ w' = wz) := fun wz => rparts_any x wz hx
  clear t1 t2 t3 hf hz hxr hn
  generalize paF x = m at *
  generalize paE x = e at *
  obtain ⟨pe1, pe2⟩ := hpe
  by_cases c : Fl.ltF m 4604544271217802189 = true
  · rw [c] at g4
    obtain ⟨m2, w1, hm2, e1, g11⟩ := op_run .mul (Or.inr (Or.inr (Or.inl rfl))) 4611686018427387904 m w
    obtain ⟨a, w2, ha, e2, g12⟩ := op_run .sub (Or.inr (Or.inl rfl)) m2 4607182418800017408 w1
    obtain ⟨b, w3, hb, e3, g13⟩ := op_run .add (Or.inl rfl) m2 4607182418800017408 w2
    obtain ⟨f, w4, hf, e4, g14⟩ := op_run .quo (Or.inr (Or.inr (Or.inr rfl))) a b w3
    have G1 := bw_trans (bw_trans g12 g13) g14
    clear g12 g13 g14
    go_enter Try.func22, Try.ntmps22
    go_wp2_with (first | (go_at_call 39; refine (PA.out _).mono ?_; rintro e' w9 ⟨rfl, hw9⟩; subst hw9) | fail)
    refine (rodd_any f _).mono ?_
    rintro e' w5 ⟨o, rfl, ho, g15⟩
    obtain ⟨nh, w6, hnh, e6, g16⟩ := op_run .mul (Or.inr (Or.inr (Or.inl rfl))) (floatOfInt .f64 (e - 1)) 4604418534311723008 w5
    obtain ⟨nl, w7, hnl, e7, g17⟩ := op_run .mul (Or.inr (Or.inr (Or.inl rfl))) (floatOfInt .f64 (e - 1)) 4461442080421002358 w6
    obtain ⟨tt, w8, htt, e8, g18⟩ := op_run .add (Or.inl rfl) nl o w7
    obtain ⟨y, w9, hy, e9, g19⟩ := op_run .add (Or.inl rfl) nh tt w8
    have G2 := bw_trans (bw_trans (bw_trans (bw_trans (bw_trans (bw_trans g11 G1) g15) g16) g17) g18) g19
    have HF : Hid (logF x y) := LF.out y (by rw [if_pos c]; exact ⟨m2, hm2, a, b, f, o, nh, nl, tt, ha, hb, hf, ho, hnh, hnl, htt, hy⟩)
    clear g11 G1 g15 g16 g17 g18 g19 hm2 ha hb hf ho hnh hnl htt hy LF PA
    go_wp2
    go_ret
    exact ⟨y, rfl, HF.out, G2⟩
  · have c' := Bool.eq_false_iff.2 c
    rw [c'] at g4
    obtain ⟨a, w2, ha, e2, g12⟩ := op_run .sub (Or.inr (Or.inl rfl)) m 4607182418800017408 w
    obtain ⟨b, w3, hb, e3, g13⟩ := op_run .add (Or.inl rfl) m 4607182418800017408 w2
    obtain ⟨f, w4, hf, e4, g14⟩ := op_run .quo (Or.inr (Or.inr (Or.inr rfl))) a b w3
    have G1 := bw_trans (bw_trans g12 g13) g14
    clear g12 g13 g14
    go_enter Try.func22, Try.ntmps22
    go_wp2_with (first | (go_at_call 39; refine (PA.out _).mono ?_; rintro e' w9 ⟨rfl, hw9⟩; subst hw9) | fail)
    refine (rodd_any f _).mono ?_
    rintro e' w5 ⟨o, rfl, ho, g15⟩
    obtain ⟨nh, w6, hnh, e6, g16⟩ := op_run .mul (Or.inr (Or.inr (Or.inl rfl))) (floatOfInt .f64 (e)) 4604418534311723008 w5
    obtain ⟨nl, w7, hnl, e7, g17⟩ := op_run .mul (Or.inr (Or.inr (Or.inl rfl))) (floatOfInt .f64 (e)) 4461442080421002358 w6
    obtain ⟨tt, w8, htt, e8, g18⟩ := op_run .add (Or.inl rfl) nl o w7
    obtain ⟨y, w9, hy, e9, g19⟩ := op_run .add (Or.inl rfl) nh tt w8
    have G2 := bw_trans (bw_trans (bw_trans (bw_trans (bw_trans G1 g15) g16) g17) g18) g19
    have HF : Hid (logF x y) := LF.out y (by rw [if_neg c]; exact ⟨a, b, f, o, nh, nl, tt, ha, hb, hf, ho, hnh, hnl, htt, hy⟩)
    clear G1 g15 g16 g17 g18 g19 ha hb hf ho hnh hnl htt hy LF PA
    go_wp2
    go_ret
    exact ⟨y, rfl, HF.out, G2⟩
end Go.Proofs.Ythcohikeomkmeaa
