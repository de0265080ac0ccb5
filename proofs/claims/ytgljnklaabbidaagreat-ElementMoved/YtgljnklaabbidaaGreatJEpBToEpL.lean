/-
  OWN TEXT: the program's logarithm (elem.Log), for every float.
-/
import Derived.Test.YtgljnklaabbidaaGreatJEpA
import Derived.Test.YtgljnklaabbidaaGreatJEoBToEoC
namespace Go.Proofs.YtgljnklaabbidaaGreat
open Go.ChangeShapes Go.WideShapes Go.ChangeAt Go.RowKit
set_option linter.unusedVariables false
attribute [local go_sem] frombits_call tobits_call run_neg
theorem root_any (w : World) : Calls Tryz.prog 94 #[.int .u64 4604544271217802189] w fun e w' => e = .returned (.float .f64 4604544271217802189) ∧ w' = w := by
  have h := from_any 4604544271217802189 w
  exact h
set_option maxHeartbeats 4000000 in
theorem log_fin (x : Nat) (w : World) (hx : x < 18446744073709551616) (hf : Fl.rg x < 9218868437227405312) (hz : ¬ Fl.rg x = 0) (hs : Fl.sg x = false) :
    Calls Tryz.prog 79 #[.float .f64 x] w fun e w' => ∃ y, e = .returned (.float .f64 y) ∧ logF x y ∧ Bw w w' := by
  have hn : Fl.nan x = false := by unfold Fl.nan; exact decide_eq_false (by omega)
  have hxr : x = Fl.rg x := by
    have := Fl.wd_self hx
    rw [hs] at this
    exact this.symm
  obtain ⟨t1, t2, t3⟩ := up_tests hx hn
  have g1 := Fl.o_lt x 0
  have g2 := Fl.o_eq x 0
  rw [t3, decide_eq_false (by omega)] at g1
  rw [t2, decide_eq_false hz] at g2
  have g3 : Fl.finB x = true := decide_eq_true hf
  have FI : Hid (∀ wz, Calls Tryz.prog 36 #[.float .f64 x] wz fun e w' => e = .returned (.bool true) ∧ w' = wz) := fun wz => by have h := finite_any x wz hx; rw [g3] at h; exact h
  have g4 := Fl.o_lt (paF x) 4604544271217802189
  have LF : Hid (∀ y, (if Fl.ltF (paF x) 4604544271217802189 = true then ∃ m, opR .mul 4611686018427387904 (paF x) m ∧ logP m (paE x - 1) y else logP (paF x) (paE x) y) → logF x y) := fun y h => h
  have hpe : -2000 < paE x ∧ paE x < 2000 := by
    obtain ⟨y1, y2, y3, y4, c1, c2, v1⟩ := nm_facts hx hf hz
    have e1 : paE x = ptE x := if_neg (by omega)
    rw [e1]
    unfold ptE
    omega
  have PA : Hid (∀ wz, Calls Tryz.prog 93 #[.float .f64 x] wz fun e w' => e = .returned (.tuple #[.float .f64 (paF x), .int .i64 (paE x)]) ∧ w' = wz) := fun wz => parts_any x wz hx
  clear t1 t2 t3 hf hz hxr hn g3
  generalize paF x = m at *
  generalize paE x = e at *
  obtain ⟨pe1, pe2⟩ := hpe
  by_cases c : Fl.ltF m 4604544271217802189 = true
  · rw [c] at g4
    obtain ⟨m2, w1, hm2, e1, g11⟩ := op_run .mul (Or.inr (Or.inr (Or.inl rfl))) 4611686018427387904 m w
    obtain ⟨nh, w6, hnh, e6, g16⟩ := op_run .mul (Or.inr (Or.inr (Or.inl rfl))) (floatOfInt .f64 (e - 1)) 4604418534311723008 w1
    obtain ⟨nl, w7, hnl, e7, g17⟩ := op_run .mul (Or.inr (Or.inr (Or.inl rfl))) (floatOfInt .f64 (e - 1)) 4461442080421002358 w6
    obtain ⟨a, w2, ha, e2, g12⟩ := op_run .sub (Or.inr (Or.inl rfl)) m2 4607182418800017408 w7
    obtain ⟨b, w3, hb, e3, g13⟩ := op_run .add (Or.inl rfl) m2 4607182418800017408 w2
    obtain ⟨f, w4, hf, e4, g14⟩ := op_run .quo (Or.inr (Or.inr (Or.inr rfl))) a b w3
    have G1 := bw_trans (bw_trans (bw_trans (bw_trans (bw_trans g11 g16) g17) g12) g13) g14
    clear g12 g13 g14 g16 g17 g11
    go_enter Tryz.func79, Tryz.ntmps79
    go_wp2_with (first | (go_at_call 93; refine (PA.out _).mono ?_; rintro e' w9 ⟨rfl, hw9⟩; subst hw9) | (go_at_call 36; refine (FI.out _).mono ?_; rintro e' w9 ⟨rfl, hw9⟩; subst hw9) | (go_at_call 94; refine (root_any _).mono ?_; rintro e' w9 ⟨rfl, hw9⟩; subst hw9) | (go_at_call 86; refine (two_any _).mono ?_; rintro e' w9 ⟨rfl, hw9⟩; subst hw9) | fail)
    refine (odd_any f _).mono ?_
    rintro e' w5 ⟨o, rfl, ho, g15⟩
    obtain ⟨tt, w8, htt, e8, g18⟩ := op_run .add (Or.inl rfl) nl o w5
    obtain ⟨y, w10, hy, e9, g19⟩ := op_run .add (Or.inl rfl) nh tt w8
    have G2 := bw_trans (bw_trans (bw_trans G1 g15) g18) g19
    have HF : Hid (logF x y) := LF.out y (by rw [if_pos c]; exact ⟨m2, hm2, a, b, f, o, nh, nl, tt, ha, hb, hf, ho, hnh, hnl, htt, hy⟩)
    clear G1 g15 g18 g19 ha hb hf ho hnh hnl htt hy LF PA FI hm2
    go_wp2
    go_ret
    exact ⟨y, rfl, HF.out, G2⟩
  · rw [Bool.eq_false_iff.2 c] at g4
    obtain ⟨w1, hw1⟩ : ∃ w1, w1 = w := ⟨w, rfl⟩
    have g11 : Bw w w1 := by rw [hw1]; exact Bw.refl _
    obtain ⟨nh, w6, hnh, e6, g16⟩ := op_run .mul (Or.inr (Or.inr (Or.inl rfl))) (floatOfInt .f64 (e)) 4604418534311723008 w1
    obtain ⟨nl, w7, hnl, e7, g17⟩ := op_run .mul (Or.inr (Or.inr (Or.inl rfl))) (floatOfInt .f64 (e)) 4461442080421002358 w6
    obtain ⟨a, w2, ha, e2, g12⟩ := op_run .sub (Or.inr (Or.inl rfl)) m 4607182418800017408 w7
    obtain ⟨b, w3, hb, e3, g13⟩ := op_run .add (Or.inl rfl) m 4607182418800017408 w2
    obtain ⟨f, w4, hf, e4, g14⟩ := op_run .quo (Or.inr (Or.inr (Or.inr rfl))) a b w3
    have G1 := bw_trans (bw_trans (bw_trans (bw_trans (bw_trans g11 g16) g17) g12) g13) g14
    clear g12 g13 g14 g16 g17 g11
    subst hw1
    go_enter Tryz.func79, Tryz.ntmps79
    go_wp2_with (first | (go_at_call 93; refine (PA.out _).mono ?_; rintro e' w9 ⟨rfl, hw9⟩; subst hw9) | (go_at_call 36; refine (FI.out _).mono ?_; rintro e' w9 ⟨rfl, hw9⟩; subst hw9) | (go_at_call 94; refine (root_any _).mono ?_; rintro e' w9 ⟨rfl, hw9⟩; subst hw9) | (go_at_call 86; refine (two_any _).mono ?_; rintro e' w9 ⟨rfl, hw9⟩; subst hw9) | fail)
    refine (odd_any f _).mono ?_
    rintro e' w5 ⟨o, rfl, ho, g15⟩
    obtain ⟨tt, w8, htt, e8, g18⟩ := op_run .add (Or.inl rfl) nl o w5
    obtain ⟨y, w10, hy, e9, g19⟩ := op_run .add (Or.inl rfl) nh tt w8
    have G2 := bw_trans (bw_trans (bw_trans G1 g15) g18) g19
    have HF : Hid (logF x y) := LF.out y (by rw [if_neg c]; exact ⟨a, b, f, o, nh, nl, tt, ha, hb, hf, ho, hnh, hnl, htt, hy⟩)
    clear G1 g15 g18 g19 ha hb hf ho hnh hnl htt hy LF PA FI
    go_wp2
    go_ret
    exact ⟨y, rfl, HF.out, G2⟩
set_option maxHeartbeats 4000000 in
theorem log_any (x : Nat) (w : World) (hx : x < 18446744073709551616) : Calls Tryz.prog 79 #[.float .f64 x] w fun e w' => ∃ y, e = .returned (.float .f64 y) ∧ logR x y ∧ Bw w w' := by
  have g1 := Fl.o_lt x 0
  have g2 := Fl.o_eq x 0
  rcases log_cases x hx with h | ⟨h, h1⟩ | ⟨h, h1, h2⟩ | ⟨h, h1, h2, h3⟩ | ⟨h1, h2, h3⟩
  · have HL : Hid (logR x x) := Or.inl ⟨Or.inl h, h⟩
    have k1 : Fl.ltF x 0 = false := by unfold Fl.ltF; rw [h]; rfl
    have k2 : Fl.eqF x 0 = false := by unfold Fl.eqF; rw [h]; rfl
    have k3 : Fl.finB x = false := by have := Fl.nan_lt h; unfold Fl.finB; exact decide_eq_false (by omega)
    have FI : Hid (∀ wz, Calls Tryz.prog 36 #[.float .f64 x] wz fun e w' => e = .returned (.bool false) ∧ w' = wz) := fun wz => by have h := finite_any x wz hx; rw [k3] at h; exact h
    rw [k1] at g1
    rw [k2] at g2
    clear h k1 k2 k3
    go_enter Tryz.func79, Tryz.ntmps79
    go_wp2_with (go_at_call 36; refine (FI.out _).mono ?_; rintro e w ⟨rfl, rfl⟩)
    go_ret
    exact ⟨_, rfl, HL.out, Bw.refl _⟩
  · have HL : Hid (logR x 9221120237041090561) := Or.inl ⟨Or.inr h1, by decide⟩
    rw [h1] at g1
    clear g2
    go_enter Tryz.func79, Tryz.ntmps79
    go_wp2_with (go_at_call 92; refine (nan_ret _).mono ?_; rintro e w ⟨rfl, rfl⟩)
    go_ret
    exact ⟨_, rfl, HL.out, Bw.refl _⟩
  · have HL : Hid (logR x 18442240474082181120) := Or.inr (Or.inl ⟨h, h2, rfl⟩)
    obtain ⟨t1, t2, t3⟩ := up_tests hx h
    rw [t2, decide_eq_true h2] at g2
    rw [h1] at g1
    clear t1 t2 t3 h2
    go_enter Tryz.func79, Tryz.ntmps79
    go_wp2_with (go_at_call 84; refine (inf_ret _).mono ?_; rintro e w ⟨rfl, rfl⟩)
    go_ret
    exact ⟨_, rfl, HL.out, Bw.refl _⟩
  · have HL : Hid (logR x x) := Or.inr (Or.inr (Or.inl ⟨h3, rfl⟩))
    obtain ⟨t1, t2, t3⟩ := up_tests hx h
    have k3 : Fl.finB x = false := by rw [h3]; decide
    have FI : Hid (∀ wz, Calls Tryz.prog 36 #[.float .f64 x] wz fun e w' => e = .returned (.bool false) ∧ w' = wz) := fun wz => by have h := finite_any x wz hx; rw [k3] at h; exact h
    rw [t2, decide_eq_false h2] at g2
    rw [h1] at g1
    clear t1 t2 t3 h2 h3 k3
    go_enter Tryz.func79, Tryz.ntmps79
    go_wp2_with (go_at_call 36; refine (FI.out _).mono ?_; rintro e w ⟨rfl, rfl⟩)
    go_ret
    exact ⟨_, rfl, HL.out, Bw.refl _⟩
  · refine (log_fin x w hx h1 h2 h3).mono ?_
    rintro e w' ⟨y, rfl, hy, hg⟩
    exact ⟨y, rfl, Or.inr (Or.inr (Or.inr ⟨h1, h2, h3, hy⟩)), hg⟩
end Go.Proofs.YtgljnklaabbidaaGreat
/-
  OWN TEXT: package elem's logarithm (elem.Log), for every float, and that it is a word.
-/
namespace Go.Proofs.YtgljnklaabbidaaGreat
open Go.ChangeShapes Go.WideShapes Go.ChangeAt Go.RowKit
set_option linter.unusedVariables false
attribute [local go_sem] frombits_call tobits_call run_neg
theorem logP_lt {m : Nat} {e : Int} {y : Nat} (h : logP m e y) : y < 18446744073709551616 := by
  obtain ⟨_, _, _, _, _, _, _, _, _, _, _, _, _, _, h⟩ := h
  exact h.1
theorem logF_lt {x y : Nat} (h : logF x y) : y < 18446744073709551616 := by
  unfold logF at h
  by_cases c : Fl.ltF (paF x) 4604544271217802189 = true
  · rw [if_pos c] at h
    obtain ⟨m, _, h⟩ := h
    exact logP_lt h
  · rw [if_neg c] at h; exact logP_lt h
set_option maxHeartbeats 4000000 in
theorem log_word_any (x : Nat) (w : World) (hx : x < 18446744073709551616) : Calls Tryz.prog 79 #[.float .f64 x] w fun e w' => ∃ y, e = .returned (.float .f64 y) ∧ logR x y ∧ y < 18446744073709551616 ∧ Bw w w' := by
  have g1 := Fl.o_lt x 0
  have g2 := Fl.o_eq x 0
  rcases log_cases x hx with h | ⟨h, h1⟩ | ⟨h, h1, h2⟩ | ⟨h, h1, h2, h3⟩ | ⟨h1, h2, h3⟩
  · have HL : Hid (logR x x) := Or.inl ⟨Or.inl h, h⟩
    have k1 : Fl.ltF x 0 = false := by unfold Fl.ltF; rw [h]; rfl
    have k2 : Fl.eqF x 0 = false := by unfold Fl.eqF; rw [h]; rfl
    have k3 : Fl.finB x = false := by have := Fl.nan_lt h; unfold Fl.finB; exact decide_eq_false (by omega)
    have FI : Hid (∀ wz, Calls Tryz.prog 36 #[.float .f64 x] wz fun e w' => e = .returned (.bool false) ∧ w' = wz) := fun wz => by have h := finite_any x wz hx; rw [k3] at h; exact h
    rw [k1] at g1
    rw [k2] at g2
    clear h k1 k2 k3
    go_enter Tryz.func79, Tryz.ntmps79
    go_wp2_with (go_at_call 36; refine (FI.out _).mono ?_; rintro e w ⟨rfl, rfl⟩)
    go_ret
    exact ⟨_, rfl, HL.out, by first | exact hx | decide, Bw.refl _⟩
  · have HL : Hid (logR x 9221120237041090561) := Or.inl ⟨Or.inr h1, by decide⟩
    rw [h1] at g1
    clear g2
    go_enter Tryz.func79, Tryz.ntmps79
    go_wp2_with (go_at_call 92; refine (nan_ret _).mono ?_; rintro e w ⟨rfl, rfl⟩)
    go_ret
    exact ⟨_, rfl, HL.out, by first | exact hx | decide, Bw.refl _⟩
  · have HL : Hid (logR x 18442240474082181120) := Or.inr (Or.inl ⟨h, h2, rfl⟩)
    obtain ⟨t1, t2, t3⟩ := up_tests hx h
    rw [t2, decide_eq_true h2] at g2
    rw [h1] at g1
    clear t1 t2 t3 h2
    go_enter Tryz.func79, Tryz.ntmps79
    go_wp2_with (go_at_call 84; refine (inf_ret _).mono ?_; rintro e w ⟨rfl, rfl⟩)
    go_ret
    exact ⟨_, rfl, HL.out, by first | exact hx | decide, Bw.refl _⟩
  · have HL : Hid (logR x x) := Or.inr (Or.inr (Or.inl ⟨h3, rfl⟩))
    obtain ⟨t1, t2, t3⟩ := up_tests hx h
    have k3 : Fl.finB x = false := by rw [h3]; decide
    have FI : Hid (∀ wz, Calls Tryz.prog 36 #[.float .f64 x] wz fun e w' => e = .returned (.bool false) ∧ w' = wz) := fun wz => by have h := finite_any x wz hx; rw [k3] at h; exact h
    rw [t2, decide_eq_false h2] at g2
    rw [h1] at g1
    clear t1 t2 t3 h2 h3 k3
    go_enter Tryz.func79, Tryz.ntmps79
    go_wp2_with (go_at_call 36; refine (FI.out _).mono ?_; rintro e w ⟨rfl, rfl⟩)
    go_ret
    exact ⟨_, rfl, HL.out, by first | exact hx | decide, Bw.refl _⟩
  · refine (log_fin x w hx h1 h2 h3).mono ?_
    rintro e w' ⟨y, rfl, hy, hg⟩
    exact ⟨y, rfl, Or.inr (Or.inr (Or.inr ⟨h1, h2, h3, hy⟩)), logF_lt hy, hg⟩
end Go.Proofs.YtgljnklaabbidaaGreat
