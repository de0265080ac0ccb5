/-
  OWN TEXT: the law ElemTwos.
-/
import Derived.Test.YthcohikeomkmeaaEtB
import Derived.Test.YthcohikeomkmeaaEvB
namespace Go.Proofs.Ythcohikeomkmeaa
open Go.ChangeShapes Go.WideShapes Go.ChangeAt Go.RowKit
set_option linter.unusedVariables false
attribute [local go_sem] frombits_call tobits_call run_neg
theorem log_two {k : Int} {y : Nat} (h1 : -1074 ≤ k) (h2 : k < 1024) (h : logR (scF 4607182418800017408 k) y) :
    ∃ nh nl, opR .mul (floatOfInt .f64 k) 4604418534311723008 nh ∧ opR .mul (floatOfInt .f64 k) 4461442080421002358 nl ∧ opR .add nh nl y ∧ Fl.nan y = false := by
  have ht := two_all k h1 (by omega)
  unfold twoV at ht
  simp only [] at ht
  rw [if_pos h2] at ht
  simp only [Bool.and_eq_true, decide_eq_true_eq, Bool.not_eq_true', decide_eq_false_iff_not] at ht
  obtain ⟨⟨⟨⟨a1, a2⟩, a3⟩, a4⟩, a5⟩ := ht
  generalize scF 4607182418800017408 k = v at *
  have hr : Fl.rg v = v := by unfold Fl.rg; omega
  have hs : Fl.sg v = false := by rw [Fl.sg_lt (by omega)]; exact decide_eq_false (by omega)
  have hlf : logF v y := by
    rcases h with ⟨h, _⟩ | ⟨_, h, _⟩ | ⟨h, _⟩ | ⟨_, _, _, h⟩
    · have n1 : Fl.nan v = false := by unfold Fl.nan; exact decide_eq_false (by omega)
      have n2 : Fl.ltF v 0 = false := by rw [(up_tests (by omega) n1).2.2]; exact decide_eq_false (by omega)
      rw [n1, n2] at h
      rcases h with h | h <;> cases h
    · rw [hr] at h; exact absurd h a2
    · omega
    · exact h
  have bd := logF_bd (x := v) (by omega) (by omega) (by omega) hs hlf
  unfold logF at hlf
  rw [a3, a4, if_pos (by decide)] at hlf
  obtain ⟨m, k1, k2⟩ := hlf
  have e := k1.word (z := 4607182418800017408) (by decide +kernel)
  subst e
  rw [show k + 1 - 1 = k by omega] at k2
  obtain ⟨a, b, f, o, nh, nl, t, b1, b2, b3, b4, b5, b6, b7, b8⟩ := k2
  have e := b1.word (z := 0) (by decide +kernel)
  subst e
  have e := b2.word (z := 4611686018427387904) (by decide +kernel)
  subst e
  have e := b3.word (z := 0) (by decide +kernel)
  subst e
  have e := odd_val b4 odd_zero
  subst e
  split at a5
  · rename_i nl' en
    have e := op_val b6 en
    subst e
    have e := op_val b7 (of_decide_eq_true a5)
    subst e
    exact ⟨nh, _, b5, b6, b8, by unfold Fl.nan; exact decide_eq_false (by have := bd.2; omega)⟩
  · cases a5
theorem ltF_small {l : Nat} (h : Fl.rg l ≤ 4650248090236747776) : Fl.ltF (Fl.rg l) 4652007308841189376 = true := by
  have e1 : Fl.nan (Fl.rg l) = false := by rw [Fl.nan_rg]; unfold Fl.nan; exact decide_eq_false (by omega)
  have hs : Fl.sg (Fl.rg l) = false := by rw [Fl.sg_lt (by omega)]; exact decide_eq_false (by omega)
  unfold Fl.ltF
  rw [e1, show Fl.nan 4652007308841189376 = false by decide, show Fl.key 4652007308841189376 = 4652007308841189376 by decide]
  unfold Fl.key
  rw [hs, if_neg (by decide), Fl.rg_rg]
  simp only [Bool.not_false, Bool.true_and, decide_eq_true_eq]
  omega
set_option maxHeartbeats 8000000 in
set_option maxRecDepth 100000 in
theorem elemtwos_any (n : Int) (x : Nat) (w : World) (hn : -32768 ≤ n) (hn' : n ≤ 32767) (hx : x < 18446744073709551616) :
    Calls Try.prog 5 #[.int .i16 n, .int .u64 (x : Int)] w fun e w' => e = .returned (.bool true) ∧ Below w.heap.size w w' := by
  go_enter Try.func5, Try.ntmps5
  go_wp2_with fail
  have kb1 : -1074 ≤ n.tmod 1075 := by have := Int.lt_tmod_of_pos n (b := 1075) (by decide); omega
  have kb2 : n.tmod 1075 ≤ 1074 := by have := Int.tmod_lt_of_pos n (b := 1075) (by decide); omega
  generalize n.tmod 1075 = k at *
  refine (Ldexp_any 4607182418800017408 k _ (by decide) (by omega) (by omega)).mono ?_
  rintro e w ⟨rfl, rfl⟩
  obtain ⟨nh, w1, hnh, e1, g1⟩ := op_run .mul (Or.inr (Or.inr (Or.inl rfl))) (floatOfInt .f64 k) 4604418534311723008 w
  obtain ⟨nl, w2, hnl, e2, g2⟩ := op_run .mul (Or.inr (Or.inr (Or.inl rfl))) (floatOfInt .f64 k) 4461442080421002358 w1
  obtain ⟨wa, w3, hwa, e3, g3⟩ := op_run .add (Or.inl rfl) nh nl w2
  have G := bw_trans (bw_trans g1 g2) g3
  have HW : Hid (-1074 ≤ k → k < 1024 → ∀ y, logR (scF 4607182418800017408 k) y → Fl.eqF y wa = true) := by
    intro h1 h2 y hy
    obtain ⟨nh', nl', a1, a2, a3, a4⟩ := log_two h1 h2 hy
    have mu : isOp .mul := Or.inr (Or.inr (Or.inl rfl))
    rcases a3.sim (Or.inl rfl) hwa (a1.sim mu hnh (simR.refl _) (simR.refl _)) (a2.sim mu hnl (simR.refl _) (simR.refl _)) with e | ⟨e, _⟩
    · rw [← e, Fl.eqF_self, a4]; rfl
    · rw [a4] at e; cases e
  clear g1 g2 g3 hnh hnl hwa
  go_wp2_with (first | (go_at_call 9; refine (two_any _).mono ?_; rintro e' w9 ⟨rfl, hw9⟩; subst hw9) | fail)
  have hx2 : x / 2 < 9223372036854775808 := by omega
  refine (log_any (x / 2) _ (by omega)).mono ?_
  rintro e w4 ⟨l, rfl, hl, b4⟩
  replace G := bw_trans G b4
  clear b4
  have HV : (k < 1024 ∧ scF 4607182418800017408 k < 9218868437227405312 ∧ ¬ scF 4607182418800017408 k = 0) ∨ scF 4607182418800017408 k = 9218868437227405312 := by
    have ht := two_all k kb1 kb2
    unfold twoV at ht
    simp only [] at ht
    by_cases c : k < 1024
    · rw [if_pos c] at ht
      simp only [Bool.and_eq_true, decide_eq_true_eq, Bool.not_eq_true', decide_eq_false_iff_not] at ht
      exact Or.inl ⟨c, ht.1.1.1.1, ht.1.1.1.2⟩
    · rw [if_neg c] at ht
      exact Or.inr (of_decide_eq_true ht)
  have HM : Hid (Fl.leF (x / 2) 9218868437227405311 = true → ¬ x / 2 = 0 → l < 18446744073709551616 ∧ Fl.ltF (Fl.rg l) 4652007308841189376 = true) := by
    intro h1 h2
    have hr : Fl.rg (x / 2) = x / 2 := by unfold Fl.rg; omega
    have hs : Fl.sg (x / 2) = false := by rw [Fl.sg_lt (by omega)]; exact decide_eq_false (by omega)
    unfold Fl.leF at h1
    rw [Bool.and_eq_true, Bool.and_eq_true, decide_eq_true_eq] at h1
    obtain ⟨⟨h3, _⟩, h4⟩ := h1
    have h5 : x / 2 < 9218868437227405312 := by
      rw [show Fl.key 9218868437227405311 = 9218868437227405311 by decide] at h4
      unfold Fl.key at h4
      rw [hs, if_neg (by decide), hr] at h4
      omega
    have n1 : Fl.nan (x / 2) = false := by simpa using h3
    have hlf : logF (x / 2) l := by
      rcases hl with ⟨h, _⟩ | ⟨_, h, _⟩ | ⟨h, _⟩ | ⟨_, _, _, h⟩
      · have n2 : Fl.ltF (x / 2) 0 = false := by rw [(up_tests (by omega) n1).2.2]; exact decide_eq_false (by omega)
        rw [n1, n2] at h
        rcases h with h | h <;> cases h
      · rw [hr] at h; exact absurd h h2
      · omega
      · exact h
    have bd := logF_bd (x := x / 2) (by omega) (by omega) (by omega) hs hlf
    exact ⟨bd.1, ltF_small bd.2⟩
  clear hl
  generalize hv : scF 4607182418800017408 k = v at *
  clear hv
  have o1 := Fl.o_le (x / 2) 9218868437227405311
  have AL : Hid (∀ wz, Calls Try.prog 18 #[] wz fun e w' => e = .returned (.bool true) ∧ Bw wz w') := fun wz => alive4_any wz
  cases cl : Fl.leF (x / 2) 9218868437227405311
  · rw [cl] at o1
    clear HM
    go_wp2_with fail
    refine (AL.out _).mono ?_
    rintro e w5 ⟨rfl, b5⟩
    replace G := bw_trans G b5
    clear b5 AL
    rcases HV with ⟨v1, v2, v3⟩ | v1
    · have n1 : Fl.nan v = false := by unfold Fl.nan Fl.rg; exact decide_eq_false (by omega)
      have o2 := Fl.o_eq v 0
      rw [(up_tests (by omega) n1).2.1, decide_eq_false (by unfold Fl.rg; omega)] at o2
      have IN : Hid (∀ wz, Calls Try.prog 26 #[.float .f64 v, .int .i64 1] wz fun e w' => e = .returned (.bool false) ∧ w' = wz) := fun wz => by have h := isInf_up v wz (by omega); rw [decide_eq_false (by omega)] at h; exact h
      have hvl : v < 18446744073709551616 := by omega
      have HE : Hid (∀ y, logR v y → Fl.eqF y wa = true) := fun y hy => HW.out kb1 v1 y hy
      clear HW v2 v3 n1
      go_wp2_with (first | (go_at_call 26; refine (IN.out _).mono ?_; rintro e' w9 ⟨rfl, hw9⟩; subst hw9) | fail)
      refine (log_any v _ hvl).mono ?_
      rintro e w6 ⟨y, rfl, hy, b6⟩
      replace G := bw_trans G b6
      have o3 := Fl.o_eq y wa
      rw [HE.out y hy] at o3
      clear b6 hy HE IN
      go_wp2
      go_ret
      exact ⟨rfl, G⟩
    · have o2 : (FloatKind.f64.format.order v 0 == some .eq) = false := by rw [v1]; decide
      have IN : Hid (∀ wz, Calls Try.prog 26 #[.float .f64 v, .int .i64 1] wz fun e w' => e = .returned (.bool true) ∧ w' = wz) := fun wz => by have h := isInf_up v wz (by omega); rw [decide_eq_true v1] at h; exact h
      clear HW v1
      go_wp2_with (go_at_call 26; refine (IN.out _).mono ?_; rintro e' w9 ⟨rfl, hw9⟩; subst hw9)
      go_ret
      exact ⟨rfl, G⟩
  · rw [cl] at o1
    by_cases z : x / 2 = 0
    · have z' : (x : Int) / 2 = 0 := by omega
      clear HM
      go_wp2_with fail
      refine (AL.out _).mono ?_
      rintro e w5 ⟨rfl, b5⟩
      replace G := bw_trans G b5
      clear b5 AL
      rcases HV with ⟨v1, v2, v3⟩ | v1
      · have n1 : Fl.nan v = false := by unfold Fl.nan Fl.rg; exact decide_eq_false (by omega)
        have o2 := Fl.o_eq v 0
        rw [(up_tests (by omega) n1).2.1, decide_eq_false (by unfold Fl.rg; omega)] at o2
        have IN : Hid (∀ wz, Calls Try.prog 26 #[.float .f64 v, .int .i64 1] wz fun e w' => e = .returned (.bool false) ∧ w' = wz) := fun wz => by have h := isInf_up v wz (by omega); rw [decide_eq_false (by omega)] at h; exact h
        have hvl : v < 18446744073709551616 := by omega
        have HE : Hid (∀ y, logR v y → Fl.eqF y wa = true) := fun y hy => HW.out kb1 v1 y hy
        clear HW v2 v3 n1
        go_wp2_with (first | (go_at_call 26; refine (IN.out _).mono ?_; rintro e' w9 ⟨rfl, hw9⟩; subst hw9) | fail)
        refine (log_any v _ hvl).mono ?_
        rintro e w6 ⟨y, rfl, hy, b6⟩
        replace G := bw_trans G b6
        have o3 := Fl.o_eq y wa
        rw [HE.out y hy] at o3
        clear b6 hy HE IN
        go_wp2
        go_ret
        exact ⟨rfl, G⟩
      · have o2 : (FloatKind.f64.format.order v 0 == some .eq) = false := by rw [v1]; decide
        have IN : Hid (∀ wz, Calls Try.prog 26 #[.float .f64 v, .int .i64 1] wz fun e w' => e = .returned (.bool true) ∧ w' = wz) := fun wz => by have h := isInf_up v wz (by omega); rw [decide_eq_true v1] at h; exact h
        clear HW v1
        go_wp2_with (go_at_call 26; refine (IN.out _).mono ?_; rintro e' w9 ⟨rfl, hw9⟩; subst hw9)
        go_ret
        exact ⟨rfl, G⟩
    · have z' : ¬ (x : Int) / 2 = 0 := by omega
      obtain ⟨hll, hlt⟩ := HM.out cl z
      have AB : Hid (∀ wz, Calls Try.prog 27 #[.float .f64 l] wz fun e w' => e = .returned (.float .f64 (Fl.rg l)) ∧ w' = wz) := fun wz => abs_any l wz hll
      have o4 := Fl.o_lt (Fl.rg l) 4652007308841189376
      rw [hlt] at o4
      clear HM hlt
      generalize Fl.rg l = rl at *
      go_wp2_with fail
      refine (AL.out _).mono ?_
      rintro e w5 ⟨rfl, b5⟩
      replace G := bw_trans G b5
      clear b5 AL
      rcases HV with ⟨v1, v2, v3⟩ | v1
      · have n1 : Fl.nan v = false := by unfold Fl.nan Fl.rg; exact decide_eq_false (by omega)
        have o2 := Fl.o_eq v 0
        rw [(up_tests (by omega) n1).2.1, decide_eq_false (by unfold Fl.rg; omega)] at o2
        have IN : Hid (∀ wz, Calls Try.prog 26 #[.float .f64 v, .int .i64 1] wz fun e w' => e = .returned (.bool false) ∧ w' = wz) := fun wz => by have h := isInf_up v wz (by omega); rw [decide_eq_false (by omega)] at h; exact h
        have hvl : v < 18446744073709551616 := by omega
        have HE : Hid (∀ y, logR v y → Fl.eqF y wa = true) := fun y hy => HW.out kb1 v1 y hy
        clear HW v2 v3 n1
        go_wp2_with (first | (go_at_call 26; refine (IN.out _).mono ?_; rintro e' w9 ⟨rfl, hw9⟩; subst hw9) | fail)
        refine (log_any v _ hvl).mono ?_
        rintro e w6 ⟨y, rfl, hy, b6⟩
        replace G := bw_trans G b6
        have o3 := Fl.o_eq y wa
        rw [HE.out y hy] at o3
        clear b6 hy HE IN
        go_wp2_with (first | (go_at_call 27; refine (AB.out _).mono ?_; rintro e' w9 ⟨rfl, hw9⟩; subst hw9))
        go_ret
        exact ⟨rfl, G⟩
      · have o2 : (FloatKind.f64.format.order v 0 == some .eq) = false := by rw [v1]; decide
        have IN : Hid (∀ wz, Calls Try.prog 26 #[.float .f64 v, .int .i64 1] wz fun e w' => e = .returned (.bool true) ∧ w' = wz) := fun wz => by have h := isInf_up v wz (by omega); rw [decide_eq_true v1] at h; exact h
        clear HW v1
        go_wp2_with (first | (go_at_call 26; refine (IN.out _).mono ?_; rintro e' w9 ⟨rfl, hw9⟩; subst hw9) | (go_at_call 27; refine (AB.out _).mono ?_; rintro e' w9 ⟨rfl, hw9⟩; subst hw9))
        go_ret
        exact ⟨rfl, G⟩
end Go.Proofs.Ythcohikeomkmeaa
