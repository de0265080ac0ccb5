/-
  OWN TEXT: the reference's lengths, roots, polar forms, units (eddyref06), for every number.
-/
import Derived.Test.YtdfepflfmmmnpaaGreatDoorJnAv
import Derived.Test.YtdfepflfmmmnpaaGreatDoorJnAk
import Derived.Test.YtdfepflfmmmnpaaGreatDoorJnAw
import Derived.Test.YtdfepflfmmmnpaaGreatDoorRfH
namespace Go.Proofs.YtdfepflfmmmnpaaGreatDoor
open Go.ChangeShapes Go.WideShapes Go.ChangeAt Go.RowKit
open Bg
set_option linter.unusedVariables false
attribute [local go_sem] frombits_call tobits_call run_neg
theorem Tab.bw6 {w w' : World} (h : Tab w) (hs : 2 ≤ w.heap.size) (f : Bw w w') : Tab w' := fun j hj => (Below.cell f (p := ⟨1, j, none⟩) hs).trans (h j hj)
set_option maxHeartbeats 4000000 in
theorem rlength_any (a b : Nat) (w : World) (ha : a < 18446744073709551616) (hb : b < 18446744073709551616) (hT : Tab w) (hw : 2 ≤ w.heap.size) : Calls Tryz.prog 13 #[.complex .f64 a b] w fun e w' => ∃ r, e = .returned (.float .f64 r) ∧ lenR a b r ∧ Bw w w' := by
  have EA : Hid (∀ wz, Calls Tryz.prog 44 #[.float .f64 a] wz fun e w' => e = .returned (.bool (decide (Fl.rg a = 9218868437227405312))) ∧ w' = wz) := fun wz => rendless_any a wz ha
  have EB : Hid (∀ wz, Calls Tryz.prog 44 #[.float .f64 b] wz fun e w' => e = .returned (.bool (decide (Fl.rg b = 9218868437227405312))) ∧ w' = wz) := fun wz => rendless_any b wz hb
  have NA : Hid (∀ wz, Calls Tryz.prog 45 #[.float .f64 a] wz fun e w' => e = .returned (.bool (Fl.nan a)) ∧ w' = wz) := fun wz => rnone6_any a wz
  have NB : Hid (∀ wz, Calls Tryz.prog 45 #[.float .f64 b] wz fun e w' => e = .returned (.bool (Fl.nan b)) ∧ w' = wz) := fun wz => rnone6_any b wz
  have T : Hid (Tab w) := hT
  clear hT
  by_cases c1 : Fl.rg a = 9218868437227405312
  · have HL : Hid (lenR a b 9218868437227405312) := ⟨by decide, by rw [if_pos (Or.inl c1)]⟩
    rw [decide_eq_true c1] at EA
    clear c1
    go_enter Tryz.func13, Tryz.ntmps13
    go_wp2_with fail
    refine (EA.out _).mono ?_
    rintro e' w ⟨rfl, rfl⟩
    go_wp2_with fail
    refine (infp6 _).mono ?_
    rintro e' w ⟨rfl, rfl⟩
    go_wp2
    go_ret
    exact ⟨_, rfl, HL.out, Bw.refl _⟩
  · rw [decide_eq_false c1] at EA
    by_cases c2 : Fl.rg b = 9218868437227405312
    · have HL : Hid (lenR a b 9218868437227405312) := ⟨by decide, by rw [if_pos (Or.inr c2)]⟩
      rw [decide_eq_true c2] at EB
      clear c1 c2
      go_enter Tryz.func13, Tryz.ntmps13
      go_wp2_with fail
      refine (EA.out _).mono ?_
      rintro e' w ⟨rfl, rfl⟩
      go_wp2_with fail
      refine (EB.out _).mono ?_
      rintro e' w ⟨rfl, rfl⟩
      go_wp2_with fail
      refine (infp6 _).mono ?_
      rintro e' w ⟨rfl, rfl⟩
      go_wp2
      go_ret
      exact ⟨_, rfl, HL.out, Bw.refl _⟩
    · rw [decide_eq_false c2] at EB
      have c12 : ¬ (Fl.rg a = 9218868437227405312 ∨ Fl.rg b = 9218868437227405312) := by rintro (h | h); exact c1 h; exact c2 h
      cases n1 : Fl.nan a
      · rw [n1] at NA
        cases n2 : Fl.nan b
        · rw [n2] at NB
          have c34 : ¬ (Fl.nan a = true ∨ Fl.nan b = true) := by rw [n1, n2]; simp
          have GR : Hid (∀ wz, Calls Tryz.prog 32 #[.complex .f64 a b] wz fun e w' => e = .returned (.tuple #[.float .f64 (bigF a b), .float .f64 (smaF a b)]) ∧ w' = wz) := fun wz => rgreater_any a b wz ha hb
          have hbl := big_lt a b
          have hsl := sma_lt a b
          have hnb : Fl.nan (bigF a b) = false := by
            unfold bigF; split
            · rw [Fl.nan_rg]; exact n2
            · rw [Fl.nan_rg]; exact n1
          have o := Fl.o_eq (bigF a b) 0
          rw [(up_tests (by omega) hnb).2.1, show Fl.rg (bigF a b) = bigF a b by unfold Fl.rg; omega] at o
          have HLL : Hid (∀ r, r < 18446744073709551616 → (if bigF a b = 0 then r = 0 else lenP a b r) → lenR a b r) := fun r h0 h1 => ⟨h0, by rw [if_neg c12, if_neg c34]; exact h1⟩
          by_cases z : bigF a b = 0
          · rw [decide_eq_true z] at o
            have HL : Hid (lenR a b 0) := HLL.out 0 (by decide) (by rw [if_pos z])
            clear HLL c1 c2 c12 c34 n1 n2 hnb z
            generalize bigF a b = big at *
            generalize smaF a b = small at *
            go_enter Tryz.func13, Tryz.ntmps13
            go_wp2_with fail
            refine (EA.out _).mono ?_
            rintro e' w ⟨rfl, rfl⟩
            go_wp2_with fail
            refine (EB.out _).mono ?_
            rintro e' w ⟨rfl, rfl⟩
            go_wp2_with fail
            refine (NA.out _).mono ?_
            rintro e' w ⟨rfl, rfl⟩
            go_wp2_with fail
            refine (NB.out _).mono ?_
            rintro e' w ⟨rfl, rfl⟩
            go_wp2_with fail
            refine (GR.out _).mono ?_
            rintro e' w ⟨rfl, rfl⟩
            go_wp2
            go_ret
            exact ⟨_, rfl, HL.out, Bw.refl _⟩
          · rw [decide_eq_false z] at o
            have HL : Hid (∀ l, togR (scF (bigF a b) (-paE (bigF a b))) (scF (smaF a b) (-paE (bigF a b))) l → lenR a b (scF l (paE (bigF a b)))) := fun l hl => HLL.out _ (scF_lt (tog_lt hl) _) (by rw [if_neg z]; exact ⟨l, hl, rfl⟩)
            have PA : Hid (∀ wz, Calls Tryz.prog 34 #[.float .f64 (bigF a b)] wz fun e w' => e = .returned (.tuple #[.float .f64 (paF (bigF a b)), .int .i64 (paE (bigF a b))]) ∧ w' = wz) := fun wz => rparts_any (bigF a b) wz (by omega)
            obtain ⟨k1, k2⟩ := paE_small (bigF a b) (by omega)
            clear HLL c1 c2 c12 c34 n1 n2 hnb z
            generalize paE (bigF a b) = k at *
            generalize paF (bigF a b) = f at *
            generalize bigF a b = big at *
            generalize smaF a b = small at *
            go_enter Tryz.func13, Tryz.ntmps13
            go_wp2_with fail
            refine (EA.out _).mono ?_
            rintro e' w ⟨rfl, rfl⟩
            go_wp2_with fail
            refine (EB.out _).mono ?_
            rintro e' w ⟨rfl, rfl⟩
            go_wp2_with fail
            refine (NA.out _).mono ?_
            rintro e' w ⟨rfl, rfl⟩
            go_wp2_with fail
            refine (NB.out _).mono ?_
            rintro e' w ⟨rfl, rfl⟩
            go_wp2_with fail
            refine (GR.out _).mono ?_
            rintro e' w ⟨rfl, rfl⟩
            go_wp2_with fail
            refine (PA.out _).mono ?_
            rintro e' w ⟨rfl, rfl⟩
            go_wp2_with fail
            refine (rscale_any big (-k) _ (by omega) T.out hw).mono ?_
            rintro e w1 ⟨rfl, b1⟩
            have B1 : Bw w w1 := b1.1
            have s1 := Below.size B1
            clear b1
            go_wp2_with fail
            refine (rscale_any small (-k) _ (by omega) (T.out.bw6 hw B1) (by omega)).mono ?_
            rintro e w2 ⟨rfl, b2⟩
            have B2 : Bw w w2 := bw_trans B1 b2.1
            have s2 := Below.size B2
            clear b2 B1 s1
            have u1 := scF_lt (x := big) (by omega) (-k)
            have u2 := scF_lt (x := small) (by omega) (-k)
            generalize scF big (-k) = u at *
            generalize scF small (-k) = v at *
            go_wp2_with fail
            refine (rtogether_any u v _).mono ?_
            rintro e w3 ⟨l, rfl, hl, b3⟩
            have B3 := bw_trans B2 b3
            have s3 := Below.size B3
            have hll := tog_lt hl
            have HF : Hid (lenR a b (scF l k)) := HL.out l hl
            clear hl HL b3 B2 s2
            go_wp2_with fail
            refine (rscale_any l k _ hll (T.out.bw6 hw B3) (by omega)).mono ?_
            rintro e w4 ⟨rfl, b4⟩
            have B4 : Bw w w4 := bw_trans B3 b4.1
            clear b4 B3 s3 T
            generalize scF l k = r at *
            go_wp2
            go_ret
            exact ⟨r, rfl, HF.out, B4⟩
        · rw [n2] at NB
          have HL : Hid (lenR a b 9221120237041090561) := ⟨by decide, by rw [if_neg c12, if_pos (Or.inr n2)]; decide⟩
          clear c1 c2 c12 n1 n2
          go_enter Tryz.func13, Tryz.ntmps13
          go_wp2_with fail
          refine (EA.out _).mono ?_
          rintro e' w ⟨rfl, rfl⟩
          go_wp2_with fail
          refine (EB.out _).mono ?_
          rintro e' w ⟨rfl, rfl⟩
          go_wp2_with fail
          refine (NA.out _).mono ?_
          rintro e' w ⟨rfl, rfl⟩
          go_wp2_with fail
          refine (NB.out _).mono ?_
          rintro e' w ⟨rfl, rfl⟩
          go_wp2_with fail
          refine (nan6 _).mono ?_
          rintro e' w ⟨rfl, rfl⟩
          go_wp2
          go_ret
          exact ⟨_, rfl, HL.out, Bw.refl _⟩
      · rw [n1] at NA
        have HL : Hid (lenR a b 9221120237041090561) := ⟨by decide, by rw [if_neg c12, if_pos (Or.inl n1)]; decide⟩
        clear c1 c2 c12 n1
        go_enter Tryz.func13, Tryz.ntmps13
        go_wp2_with fail
        refine (EA.out _).mono ?_
        rintro e' w ⟨rfl, rfl⟩
        go_wp2_with fail
        refine (EB.out _).mono ?_
        rintro e' w ⟨rfl, rfl⟩
        go_wp2_with fail
        refine (NA.out _).mono ?_
        rintro e' w ⟨rfl, rfl⟩
        go_wp2_with fail
        refine (nan6 _).mono ?_
        rintro e' w ⟨rfl, rfl⟩
        go_wp2
        go_ret
        exact ⟨_, rfl, HL.out, Bw.refl _⟩
end Go.Proofs.YtdfepflfmmmnpaaGreatDoor
