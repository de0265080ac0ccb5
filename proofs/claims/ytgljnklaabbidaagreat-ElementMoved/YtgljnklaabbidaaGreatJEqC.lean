/-
  OWN TEXT: the program's rising sum, exponential, and that less 1 (elem.rising, elem.folds, elem.Exp, elem.Less), for every float.
-/
import Derived.Test.YtgljnklaabbidaaGreatJEoEToEqR
import Derived.Test.YtgljnklaabbidaaGreatJEpA
namespace Go.Proofs.YtgljnklaabbidaaGreat
open Go.ChangeShapes Go.WideShapes Go.ChangeAt Go.RowKit
set_option linter.unusedVariables false
attribute [local go_sem] frombits_call tobits_call run_neg
theorem even_nanB (x : Nat) (w : World) (hx : x < 18446744073709551616) (hn : Fl.nan x = true) : ∃ z w', (callFunc 75 #[.float .f64 x]).run Tryz.prog w = .ok (.value (.float .f64 z)) w' ∧ Fl.nan z = true ∧ z < 18446744073709551616 ∧ Bw w w' := by
  have hl := Fl.nan_lt hn
  have hr := Fl.rg_lt x
  obtain ⟨q, hq, e⟩ := even_none x (Fl.sg x) (Fl.rg x - 9218868437227405312) (Fl.read_nan hl)
  have hz := quiet_nan (Fl.sg x) (Fl.rg x - 9218868437227405312) (by omega)
  rw [even_call, e]
  by_cases c : FloatKind.f64.format.quiet (Fl.rg x - 9218868437227405312) = Fl.rg x - 9218868437227405312
  · rw [if_pos c]; exact ⟨x, w, rfl, hn, hx, Bw.refl _⟩
  · rw [if_neg c]
    generalize FloatKind.f64.encode (.nan (Fl.sg x) (FloatKind.f64.format.quiet (Fl.rg x - 9218868437227405312))) = z at *
    by_cases k : (q.cut (w.tape w.drawn q) == 1) = true
    · refine ⟨x, w.drew, ?_, hn, hx, (Bw.refl _).drew⟩
      have : ((choose q).bind fun kept => pure (Value.float .f64 (if kept == 1 then x else z))).run Tryz.prog w = .ok (.float .f64 x) w.drew := by
        show Sem.run Tryz.prog (Sem.choose q fun kept => _) w = _
        simp only [Sem.run, hq, Bool.false_eq_true, if_false]
        change Result.ok (Value.float .f64 (if (q.cut (w.tape w.drawn q) == 1) = true then x else z)) w.drew = _
        rw [if_pos k]
      rw [this]; rfl
    · refine ⟨z, w.drew, ?_, hz.1, hz.2, (Bw.refl _).drew⟩
      have : ((choose q).bind fun kept => pure (Value.float .f64 (if kept == 1 then x else z))).run Tryz.prog w = .ok (.float .f64 z) w.drew := by
        show Sem.run Tryz.prog (Sem.choose q fun kept => _) w = _
        simp only [Sem.run, hq, Bool.false_eq_true, if_false]
        change Result.ok (Value.float .f64 (if (q.cut (w.tape w.drawn q) == 1) = true then x else z)) w.drew = _
        rw [if_neg k]
      rw [this]; rfl
theorem whole_nanB (x : Nat) (w : World) (hx : x < 18446744073709551616) (hn : Fl.nan x = true) : Calls Tryz.prog 70 #[.float .f64 x] w fun e w' => ∃ z, e = .returned (.float .f64 z) ∧ Fl.nan z = true ∧ z < 18446744073709551616 ∧ Bw w w' := by
  obtain ⟨z, w1, c, hz, hl, hg⟩ := even_nanB x w hx hn
  have HZ : Hid (Fl.nan z = true) := hz
  clear hz hn
  go_enter Tryz.func70, Tryz.ntmps70
  go_wp2
  go_ret
  exact ⟨z, rfl, HZ.out, hl, hg⟩
theorem beyond_any (x : Nat) (w : World) : Calls Tryz.prog 83 #[.float .f64 x] w fun e w' => e = .returned (.bool (Fl.ltF 4649454594685214392 x)) ∧ w' = w := by
  have g1 := Fl.o_gt x 4649454594685214392
  generalize Fl.ltF 4649454594685214392 x = b at *
  go_enter Tryz.func83, Tryz.ntmps83
  go_wp2
  go_ret
  exact ⟨rfl, rfl⟩
theorem per_any (w : World) : Calls Tryz.prog 94 #[.int .u64 4609176140021203710] w fun e w' => e = .returned (.float .f64 4609176140021203710) ∧ w' = w := by
  have h := from_any 4609176140021203710 w
  exact h
set_option maxHeartbeats 4000000 in
theorem folds_any (x : Nat) (w : World) : Calls Tryz.prog 85 #[.float .f64 x] w fun e w' => ∃ n, e = .returned (.float .f64 n) ∧ foldR x n ∧ Bw w w' := by
  obtain ⟨p, w1, hp, e1, g1⟩ := op_run .mul (Or.inr (Or.inr (Or.inl rfl))) x 4609176140021203710 w
  have hp1 := hp.1
  have HP : Hid (opR .mul x 4609176140021203710 p) := hp
  clear hp
  cases hn : Fl.nan p
  · have WH : Hid (∀ wz, Calls Tryz.prog 70 #[.float .f64 p] wz fun e w' => e = .returned (.float .f64 (Fl.whF p)) ∧ w' = wz) := fun wz => whole_num p wz hn
    have HW : Hid (whR p (Fl.whF p)) := ⟨(Fl.whF_ng hp1 hn).2.1, by rw [if_neg (by rw [hn]; decide)]⟩
    generalize Fl.whF p = n at *
    go_enter Tryz.func85, Tryz.ntmps85
    go_wp2_with (first | (go_at_call 94; refine (per_any _).mono ?_; rintro e' w9 ⟨rfl, hw9⟩; subst hw9) | (go_at_call 70; refine (WH.out _).mono ?_; rintro e' w9 ⟨rfl, hw9⟩; subst hw9))
    go_ret
    exact ⟨n, rfl, ⟨p, HP.out, HW.out⟩, g1⟩
  · go_enter Tryz.func85, Tryz.ntmps85
    go_wp2_with (first | (go_at_call 94; refine (per_any _).mono ?_; rintro e' w9 ⟨rfl, hw9⟩; subst hw9) | fail)
    refine (whole_nanB p _ hp1 hn).mono ?_
    rintro e w2 ⟨z, rfl, hz, hz2, b2⟩
    have B := bw_trans g1 b2
    have HW : Hid (whR p z) := ⟨hz2, by rw [if_pos hn]; exact hz⟩
    clear hz b2 g1
    go_wp2
    go_ret
    exact ⟨z, rfl, ⟨p, HP.out, HW.out⟩, B⟩
set_option maxHeartbeats 4000000 in
theorem exp_any (x : Nat) (w : World) (hx : x < 18446744073709551616) : Calls Tryz.prog 77 #[.float .f64 x] w fun e w' => ∃ y, e = .returned (.float .f64 y) ∧ expR x y ∧ Bw w w' := by
  have g2 := Fl.o_lt x 13873137573428325253
  rcases exp_cases x with h | ⟨h0, h1⟩ | ⟨h0, h1, h2⟩ | ⟨h0, h1, h2⟩
  · have HL : Hid (expR x x) := ⟨hx, by rw [if_pos h]; exact h⟩
    have IN : Hid (∀ wz, Calls Tryz.prog 82 #[.float .f64 x] wz fun e w' => e = .returned (.bool true) ∧ w' = wz) := fun wz => by have k := isNaN_any x wz; rw [h] at k; exact k
    clear g2
    go_enter Tryz.func77, Tryz.ntmps77
    go_wp2_with (go_at_call 82; refine (IN.out _).mono ?_; rintro e w ⟨rfl, rfl⟩)
    go_ret
    exact ⟨_, rfl, HL.out, Bw.refl _⟩
  · have HL : Hid (expR x 9218868437227405312) := ⟨by decide, by rw [if_neg (by rw [h0]; decide), if_pos h1]⟩
    have IN : Hid (∀ wz, Calls Tryz.prog 82 #[.float .f64 x] wz fun e w' => e = .returned (.bool false) ∧ w' = wz) := fun wz => by have k := isNaN_any x wz; rw [h0] at k; exact k
    have BE : Hid (∀ wz, Calls Tryz.prog 83 #[.float .f64 x] wz fun e w' => e = .returned (.bool true) ∧ w' = wz) := fun wz => by have k := beyond_any x wz; rw [h1] at k; exact k
    clear g2
    go_enter Tryz.func77, Tryz.ntmps77
    go_wp2_with (first | (go_at_call 82; refine (IN.out _).mono ?_; rintro e w ⟨rfl, rfl⟩) | (go_at_call 83; refine (BE.out _).mono ?_; rintro e w ⟨rfl, rfl⟩) | (go_at_call 84; refine (infp_ret _).mono ?_; rintro e w ⟨rfl, rfl⟩))
    go_ret
    exact ⟨_, rfl, HL.out, Bw.refl _⟩
  · have HL : Hid (expR x 0) := ⟨by decide, by rw [if_neg (by rw [h0]; decide), if_neg (by rw [h1]; decide), if_pos h2]⟩
    have IN : Hid (∀ wz, Calls Tryz.prog 82 #[.float .f64 x] wz fun e w' => e = .returned (.bool false) ∧ w' = wz) := fun wz => by have k := isNaN_any x wz; rw [h0] at k; exact k
    have BE : Hid (∀ wz, Calls Tryz.prog 83 #[.float .f64 x] wz fun e w' => e = .returned (.bool false) ∧ w' = wz) := fun wz => by have k := beyond_any x wz; rw [h1] at k; exact k
    rw [h2] at g2
    go_enter Tryz.func77, Tryz.ntmps77
    go_wp2_with (first | (go_at_call 82; refine (IN.out _).mono ?_; rintro e w ⟨rfl, rfl⟩) | (go_at_call 83; refine (BE.out _).mono ?_; rintro e w ⟨rfl, rfl⟩))
    go_ret
    exact ⟨_, rfl, HL.out, Bw.refl _⟩
  · have hr := mid_rg hx h0 h1 h2
    have HL : Hid (∀ y, y < 18446744073709551616 → exP x y → expR x y) := fun y hy hp => ⟨hy, by rw [if_neg (by rw [h0]; decide), if_neg (by rw [h1]; decide), if_neg (by rw [h2]; decide)]; exact hp⟩
    have IN : Hid (∀ wz, Calls Tryz.prog 82 #[.float .f64 x] wz fun e w' => e = .returned (.bool false) ∧ w' = wz) := fun wz => by have k := isNaN_any x wz; rw [h0] at k; exact k
    have BE : Hid (∀ wz, Calls Tryz.prog 83 #[.float .f64 x] wz fun e w' => e = .returned (.bool false) ∧ w' = wz) := fun wz => by have k := beyond_any x wz; rw [h1] at k; exact k
    rw [h2] at g2
    go_enter Tryz.func77, Tryz.ntmps77
    go_wp2_with (first | (go_at_call 82; refine (IN.out _).mono ?_; rintro e w ⟨rfl, rfl⟩) | (go_at_call 83; refine (BE.out _).mono ?_; rintro e w ⟨rfl, rfl⟩) | fail)
    refine (folds_any x _).mono ?_
    rintro e w1 ⟨n, rfl, hf, b1⟩
    obtain ⟨nn, q, q1, q2, hq⟩ := fold_int hr hf
    obtain ⟨nh, w2, hnh, e2, b2⟩ := op_run .mul (Or.inr (Or.inr (Or.inl rfl))) n 4604418534311723008 w1
    obtain ⟨d, w3, hd, e3, b3⟩ := op_run .sub (Or.inr (Or.inl rfl)) x nh w2
    obtain ⟨nl, w4, hnl, e4, b4⟩ := op_run .mul (Or.inr (Or.inr (Or.inl rfl))) n 4461442080421002358 w3
    obtain ⟨r, w5, hre, e5, b5⟩ := op_run .sub (Or.inr (Or.inl rfl)) d nl w4
    have B1 := bw_trans (bw_trans (bw_trans (bw_trans b1 b2) b3) b4) b5
    have HF : Hid (foldR x n) := hf
    have HR : Hid (restR x n r) := ⟨nh, d, nl, hnh, hd, hnl, hre⟩
    clear hf hnh hd hnl hre nn b1 b2 b3 b4 b5
    go_wp2_with (first | (go_at_call 86; refine (two_any _).mono ?_; rintro e' w9 ⟨rfl, hw9⟩; subst hw9) | fail)
    refine (rising_any r 1 _ (by decide) (by decide)).mono ?_
    rintro e w6 ⟨t, rfl, ht, b6⟩
    have B2 := bw_trans B1 b6
    have htl := risQ_lt _ _ ht
    have HT : Hid (risQ r 13 t) := ht
    clear ht b6 B1
    have hcv := run_convert_float_int (P := Tryz.prog) w6 25 3 .f64 .i64 n q (by kernel_rfl) (by kernel_rfl) hq
    go_wp2_with fail
    refine (scale_any t q _ htl (by omega) (by omega)).mono ?_
    rintro e w7 ⟨rfl, hw7⟩
    have HE : Hid (expR x (scF t q)) := HL.out _ (scF_lt htl q) ⟨n, r, t, q, HF.out, HR.out, HT.out, hq, rfl⟩
    subst hw7
    clear HF HR HT HL hq hcv
    generalize scF t q = y at *
    go_wp2
    go_ret
    exact ⟨_, rfl, HE.out, B2⟩
theorem less_nan {x n e y : Nat} (h : Fl.nan x = true) (he : expR x e) (hs : opR .sub e 4607182418800017408 y) : lessR x y := by
  obtain ⟨_, k⟩ := he
  rw [if_pos h] at k
  exact ⟨hs.1, by rw [if_pos h]; exact hs.nan (nan_left .sub (Or.inr (Or.inl rfl)) k)⟩
theorem fold_nan {x n : Nat} (h : Fl.nan x = true) (hf : foldR x n) : Fl.nan n = true := by
  obtain ⟨p, h1, h2⟩ := hf
  have hp := h1.nan (nan_left .mul (Or.inr (Or.inr (Or.inl rfl))) h)
  have := h2.2
  rw [if_pos hp] at this
  exact this
end Go.Proofs.YtgljnklaabbidaaGreat
