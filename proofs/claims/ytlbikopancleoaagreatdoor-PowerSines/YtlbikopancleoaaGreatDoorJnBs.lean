/-
  OWN TEXT: the reference's polar forms, places, units, nearness (eddyref06), for every number.
-/
import Derived.Test.YtlbikopancleoaaGreatDoorJnBr
import Derived.Test.YtlbikopancleoaaGreatDoorJnAt
import Derived.Test.YtlbikopancleoaaGreatDoorJnAj
import Derived.Test.YtlbikopancleoaaGreatDoorJnAv
namespace Go.Proofs.YtlbikopancleoaaGreatDoor
open Go.ChangeShapes Go.WideShapes Go.ChangeAt Go.RowKit
open Bg
set_option linter.unusedVariables false
attribute [local go_sem] frombits_call tobits_call run_neg
theorem len_sim {a b a' b' r r' : Nat} (h : lenR a b r) (k : lenR a' b' r') (e1 : simR a a') (e2 : simR b b') : simR r r' := by
  have nn : ∀ a b r : Nat, (Fl.nan a = true ∧ ¬ Fl.rg b = 9218868437227405312) ∨ (Fl.nan b = true ∧ ¬ Fl.rg a = 9218868437227405312) → lenR a b r → Fl.nan r = true := by
    intro a b r hn h
    obtain ⟨_, h⟩ := h
    have hl : ∀ x : Nat, Fl.nan x = true → ¬ Fl.rg x = 9218868437227405312 := fun x hx => by have := Fl.nan_lt hx; omega
    rcases hn with ⟨n1, n2⟩ | ⟨n1, n2⟩
    · rw [if_neg (by rintro (e | e); exact hl a n1 e; exact n2 e), if_pos (Or.inl n1)] at h; exact h
    · rw [if_neg (by rintro (e | e); exact n2 e; exact hl b n1 e), if_pos (Or.inr n1)] at h; exact h
  have ii : ∀ a b r : Nat, (Fl.rg a = 9218868437227405312 ∨ Fl.rg b = 9218868437227405312) → lenR a b r → r = 9218868437227405312 := by
    intro a b r hi h
    obtain ⟨_, h⟩ := h
    rw [if_pos hi] at h; exact h
  have hl : ∀ x : Nat, Fl.nan x = true → ¬ Fl.rg x = 9218868437227405312 := fun x hx => by have := Fl.nan_lt hx; omega
  rcases e1 with e1 | ⟨x1, x2⟩
  · subst e1
    rcases e2 with e2 | ⟨y1, y2⟩
    · subst e2; exact h.sim k
    · by_cases c : Fl.rg a = 9218868437227405312
      · exact Or.inl ((ii _ _ _ (Or.inl c) h).trans (ii _ _ _ (Or.inl c) k).symm)
      · exact Or.inr ⟨nn _ _ _ (Or.inr ⟨y1, c⟩) h, nn _ _ _ (Or.inr ⟨y2, c⟩) k⟩
  · rcases e2 with e2 | ⟨y1, y2⟩
    · subst e2
      by_cases c : Fl.rg b = 9218868437227405312
      · exact Or.inl ((ii _ _ _ (Or.inr c) h).trans (ii _ _ _ (Or.inr c) k).symm)
      · exact Or.inr ⟨nn _ _ _ (Or.inl ⟨x1, c⟩) h, nn _ _ _ (Or.inl ⟨x2, c⟩) k⟩
    · exact Or.inr ⟨nn _ _ _ (Or.inl ⟨x1, hl _ y1⟩) h, nn _ _ _ (Or.inl ⟨x2, hl _ y2⟩) k⟩
theorem neaR.sim {a b c d m : Nat} {r r' : Bool} (h : neaR a b c d m r) (k : neaR a b c d m r') : r = r' := by
  obtain ⟨x, y, l, h1, h2, h3, h4⟩ := h
  obtain ⟨x', y', l', k1, k2, k3, k4⟩ := k
  have el := len_sim h3 k3 (h1.sim isSub k1 (simR.refl _) (simR.refl _)) (h2.sim isSub k2 (simR.refl _) (simR.refl _))
  rw [h4, k4]
  rcases el with e | ⟨e1, e2⟩
  · rw [e]
  · unfold Fl.leF; rw [e1, e2]; simp
end Go.Proofs.YtlbikopancleoaaGreatDoor
/-
  OWN TEXT: the reference's exponential, and that less 1 (eddyref04.Rest, Exp, Less), for every float.
-/
namespace Go.Proofs.YtlbikopancleoaaGreatDoor
open Go.ChangeShapes Go.WideShapes Go.ChangeAt Go.RowKit
open Bg
set_option linter.unusedVariables false
attribute [local go_sem] frombits_call tobits_call run_neg
theorem fr_bw {w w' : World} (h : Fr w w') : Bw w w' := h.1
theorem Tab.bw {w w' : World} (h : Tab w) (hs : 2 ≤ w.heap.size) (f : Bw w w') : Tab w' := fun j hj => (Below.cell f (p := ⟨1, j, none⟩) hs).trans (h j hj)
set_option maxHeartbeats 4000000 in
theorem rrest_any (x : Nat) (w : World) : Calls Tryz.prog 58 #[.float .f64 x] w fun e w' => ∃ n r, e = .returned (.tuple #[.float .f64 n, .float .f64 r]) ∧ foldR x n ∧ restR x n r ∧ Bw w w' := by
  obtain ⟨p, w1, hp, e1, g1⟩ := op_run .mul (Or.inr (Or.inr (Or.inl rfl))) x 4609176140021203710 w
  have hw := whR_of p hp.1
  have WH : Hid (∀ wz, Calls Tryz.prog 100 #[.float .f64 p] wz fun e w' => e = .returned (.float .f64 (if Fl.nan p = true then p else Fl.whF p)) ∧ w' = wz) := fun wz => rwhole_any p wz hp.1
  generalize (if Fl.nan p = true then p else Fl.whF p) = n at *
  obtain ⟨nh, w2, hnh, e2, g2⟩ := op_run .mul (Or.inr (Or.inr (Or.inl rfl))) n 4604418534311723008 w1
  obtain ⟨d, w3, hd, e3, g3⟩ := op_run .sub (Or.inr (Or.inl rfl)) x nh w2
  obtain ⟨nl, w4, hnl, e4, g4⟩ := op_run .mul (Or.inr (Or.inr (Or.inl rfl))) n 4461442080421002358 w3
  obtain ⟨r, w5, hr, e5, g5⟩ := op_run .sub (Or.inr (Or.inl rfl)) d nl w4
  have G := bw_trans (bw_trans (bw_trans (bw_trans g1 g2) g3) g4) g5
  have F1 : Hid (foldR x n) := ⟨p, hp, hw⟩
  have F2 : Hid (restR x n r) := ⟨nh, d, nl, hnh, hd, hnl, hr⟩
  clear g1 g2 g3 g4 g5 hp hw hnh hd hnl hr
  go_enter Tryz.func58, Tryz.ntmps58
  go_wp2_with (go_at_call 100; refine (WH.out _).mono ?_; rintro e' w9 ⟨rfl, hw9⟩; subst hw9)
  go_ret2
  exact ⟨n, r, rfl, F1.out, F2.out, G⟩
set_option maxHeartbeats 4000000 in
theorem rexp_any (x : Nat) (w : World) (hx : x < 18446744073709551616) (hT : Tab w) (hw : 2 ≤ w.heap.size) : Calls Tryz.prog 28 #[.float .f64 x] w fun e w' => ∃ y, e = .returned (.float .f64 y) ∧ expR x y ∧ Bw w w' := by
  have g0 := Fl.o_ne x x
  rw [Fl.eqF_self, Bool.not_not] at g0
  have g1 := Fl.o_gt x 4649454594685214392
  have g2 := Fl.o_lt x 13873137573428325253
  have T : Hid (Tab w) := hT
  clear hT
  rcases exp_cases x with h | ⟨h0, h1⟩ | ⟨h0, h1, h2⟩ | ⟨h0, h1, h2⟩
  · have HL : Hid (expR x x) := ⟨hx, by rw [if_pos h]; exact h⟩
    rw [h] at g0
    clear g1 g2
    go_enter Tryz.func28, Tryz.ntmps28
    go_wp2
    go_ret
    exact ⟨_, rfl, HL.out, Bw.refl _⟩
  · have HL : Hid (expR x 9218868437227405312) := ⟨by decide, by rw [if_neg (by rw [h0]; decide), if_pos h1]⟩
    rw [h0] at g0
    rw [h1] at g1
    clear g2
    go_enter Tryz.func28, Tryz.ntmps28
    go_wp2_with (go_at_call 50; refine (infp_ret _).mono ?_; rintro e w ⟨rfl, rfl⟩)
    go_ret
    exact ⟨_, rfl, HL.out, Bw.refl _⟩
  · have HL : Hid (expR x 0) := ⟨by decide, by rw [if_neg (by rw [h0]; decide), if_neg (by rw [h1]; decide), if_pos h2]⟩
    rw [h0] at g0
    rw [h1] at g1
    rw [h2] at g2
    go_enter Tryz.func28, Tryz.ntmps28
    go_wp2
    go_ret
    exact ⟨_, rfl, HL.out, Bw.refl _⟩
  · have hr := mid_rg hx h0 h1 h2
    have HL : Hid (∀ y, y < 18446744073709551616 → exP x y → expR x y) := fun y hy hp => ⟨hy, by rw [if_neg (by rw [h0]; decide), if_neg (by rw [h1]; decide), if_neg (by rw [h2]; decide)]; exact hp⟩
    rw [h0] at g0
    rw [h1] at g1
    rw [h2] at g2
    go_enter Tryz.func28, Tryz.ntmps28
    go_wp2_with fail
    refine (rrest_any x _).mono ?_
    rintro e w1 ⟨n, r, rfl, hf, hre, b1⟩
    obtain ⟨nn, q, q1, q2, hq⟩ := fold_int hr hf
    have HF : Hid (foldR x n) := hf
    have HR : Hid (restR x n r) := hre
    clear hf hre nn
    go_wp2_with fail
    refine (rrising_any r 1 _ (by decide) (by decide)).mono ?_
    rintro e w2 ⟨t, rfl, ht, b2⟩
    have B2 := bw_trans b1 b2
    have htl := risQ_lt _ _ ht
    have HT : Hid (risQ r 13 t) := ht
    clear ht b1 b2
    have hs2 := Below.size B2
    have T2 : Hid (Tab w2) := T.out.bw hw B2
    have hcv := run_convert_float_int (P := Tryz.prog) w2 31 3 .f64 .i64 n q (by kernel_rfl) (by kernel_rfl) hq
    go_wp2_with fail
    refine (rscale_any t q _ htl T2.out (by omega)).mono ?_
    rintro e w3 ⟨rfl, b3⟩
    have B3 := bw_trans B2 (fr_bw b3)
    have HE : Hid (expR x (scF t q)) := HL.out _ (scF_lt htl q) ⟨n, r, t, q, HF.out, HR.out, HT.out, hq, rfl⟩
    clear HF HR HT HL T T2 b3 B2 hs2 hq hcv
    generalize scF t q = y at *
    go_wp2
    go_ret
    exact ⟨_, rfl, HE.out, B3⟩
set_option maxHeartbeats 4000000 in
theorem rless_any (x : Nat) (w : World) (hx : x < 18446744073709551616) (hT : Tab w) (hw : 2 ≤ w.heap.size) : Calls Tryz.prog 93 #[.float .f64 x] w fun e w' => ∃ y, e = .returned (.float .f64 y) ∧ lessR x y ∧ Bw w w' := by
  have g0 := Fl.o_ne x x
  rw [Fl.eqF_self, Bool.not_not] at g0
  have g1 := Fl.o_gt x 4649454594685214392
  have T : Hid (Tab w) := hT
  clear hT
  cases h : Fl.nan x
  · rw [h] at g0
    cases h1 : Fl.ltF 4649454594685214392 x
    · rw [h1] at g1
      obtain ⟨p, w1, hp, e1, b1⟩ := op_run .mul (Or.inr (Or.inr (Or.inl rfl))) x 4609176140021203710 w
      have hwh := whR_of p hp.1
      have WH : Hid (∀ wz, Calls Tryz.prog 100 #[.float .f64 p] wz fun e w' => e = .returned (.float .f64 (if Fl.nan p = true then p else Fl.whF p)) ∧ w' = wz) := fun wz => rwhole_any p wz hp.1
      generalize (if Fl.nan p = true then p else Fl.whF p) = n at *
      have HF : foldR x n := ⟨p, hp, hwh⟩
      have g3 := Fl.o_eq n 0
      cases c : Fl.eqF n 0
      · rw [c] at g3
        have HL : Hid (∀ e y, expR x e → opR .sub e 4607182418800017408 y → lessR x y) := fun e y h2 h3 => ⟨h3.1, by rw [if_neg (by rw [h]; decide), if_neg (by rw [h1]; decide)]; exact ⟨n, HF, by rw [if_neg (by rw [c]; decide)]; exact ⟨e, h2, h3⟩⟩⟩
        clear hp hwh HF
        go_enter Tryz.func93, Tryz.ntmps93
        go_wp2_with (first | (go_at_call 100; refine (WH.out _).mono ?_; rintro e' w9 ⟨rfl, hw9⟩; subst hw9) | fail)
        have hs2 := Below.size b1
        refine (rexp_any x _ hx (T.out.bw hw b1) (by omega)).mono ?_
        rintro e w2 ⟨y, rfl, hy, b2⟩
        obtain ⟨z, w3, hz, e3, b3⟩ := op_run .sub (Or.inr (Or.inl rfl)) y 4607182418800017408 w2
        have B := bw_trans (bw_trans b1 b2) b3
        have HE : Hid (lessR x z) := HL.out y z hy hz
        clear hy hz HL b1 b2 b3 T
        go_wp2
        go_ret
        exact ⟨_, rfl, HE.out, B⟩
      · rw [c] at g3
        have HL : Hid (∀ t y, risQ x 12 t → opR .mul x t y → lessR x y) := fun e y h2 h3 => ⟨h3.1, by rw [if_neg (by rw [h]; decide), if_neg (by rw [h1]; decide)]; exact ⟨n, HF, by rw [if_pos c]; exact ⟨e, h2, h3⟩⟩⟩
        clear hp hwh HF
        go_enter Tryz.func93, Tryz.ntmps93
        go_wp2_with (first | (go_at_call 100; refine (WH.out _).mono ?_; rintro e' w9 ⟨rfl, hw9⟩; subst hw9) | fail)
        refine (rrising_any x 2 _ (by decide) (by decide)).mono ?_
        rintro e w2 ⟨y, rfl, hy, b2⟩
        obtain ⟨z, w3, hz, e3, b3⟩ := op_run .mul (Or.inr (Or.inr (Or.inl rfl))) x y w2
        have B := bw_trans (bw_trans b1 b2) b3
        have HE : Hid (lessR x z) := HL.out y z hy hz
        clear hy hz HL b1 b2 b3 T
        go_wp2
        go_ret
        exact ⟨_, rfl, HE.out, B⟩
    · have HL : Hid (lessR x 9218868437227405312) := ⟨by decide, by rw [if_neg (by rw [h]; decide), if_pos h1]⟩
      rw [h1] at g1
      go_enter Tryz.func93, Tryz.ntmps93
      go_wp2_with (go_at_call 50; refine (infp_ret _).mono ?_; rintro e w ⟨rfl, rfl⟩)
      go_ret
      exact ⟨_, rfl, HL.out, Bw.refl _⟩
  · have HL : Hid (lessR x x) := ⟨hx, by rw [if_pos h]; exact h⟩
    rw [h] at g0
    clear g1
    go_enter Tryz.func93, Tryz.ntmps93
    go_wp2
    go_ret
    exact ⟨_, rfl, HL.out, Bw.refl _⟩
end Go.Proofs.YtlbikopancleoaaGreatDoor
