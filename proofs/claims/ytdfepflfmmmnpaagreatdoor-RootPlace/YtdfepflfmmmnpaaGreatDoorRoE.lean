/-
  OWN TEXT: the reference's polar forms, places, units, nearness (eddyref06), for every number.
-/
import Derived.Test.YtdfepflfmmmnpaaGreatDoorRoC
import Derived.Test.YtdfepflfmmmnpaaGreatDoorJnAm
namespace Go.Proofs.YtdfepflfmmmnpaaGreatDoor
open Go.ChangeShapes Go.WideShapes Go.ChangeAt Go.RowKit
open Bg
set_option linter.unusedVariables false
attribute [local go_sem] frombits_call tobits_call run_neg
theorem rpolar_any (a b : Nat) (w : World) (ha : a < 18446744073709551616) (hb : b < 18446744073709551616) (hT : Tab w) (hw : 2 ≤ w.heap.size) : Calls Tryz.prog 8 #[.complex .f64 a b] w fun e w' => ∃ l t, e = .returned (.tuple #[.float .f64 l, .float .f64 t]) ∧ lenR a b l ∧ offR b a t ∧ Bw w w' := by
  have T : Hid (Tab w) := hT
  clear hT
  go_enter Tryz.func8, Tryz.ntmps8
  go_wp2_with fail
  refine (rlength_any a b _ ha hb T.out hw).mono ?_
  rintro e w1 ⟨l, rfl, hl, b1⟩
  have HL : Hid (lenR a b l) := hl
  clear hl
  go_wp2_with fail
  refine (rof_any b a _ hb ha).mono ?_
  rintro e w2 ⟨t, rfl, ht, _, b2⟩
  have HT : Hid (offR b a t) := ht
  have B := bw_trans b1 b2
  clear ht b1 b2 T
  go_wp2
  go_ret2
  exact ⟨l, t, rfl, HL.out, HT.out, B⟩
theorem rplace_any (l t : Nat) (w : World) (ht : t < 18446744073709551616) : Calls Tryz.prog 21 #[.float .f64 l, .float .f64 t] w fun e w' => ∃ re im, e = .returned (.complex .f64 re im) ∧ plaR l t re im ∧ Bw w w' := by
  go_enter Tryz.func21, Tryz.ntmps21
  go_wp2_with fail
  refine (rturn_any t _ ht).mono ?_
  rintro e w1 ⟨s, c, rfl, h1, b1⟩
  obtain ⟨re, w2, hre, e2, b2⟩ := op_run .mul isMul l c w1
  obtain ⟨im, w3, him, e3, b3⟩ := op_run .mul isMul l s w2
  have HR : Hid (plaR l t re im) := ⟨s, c, h1, hre, him⟩
  have B := bw_trans (bw_trans b1 b2) b3
  clear h1 hre him b1 b2 b3
  go_wp2
  go_ret
  exact ⟨re, im, rfl, HR.out, B⟩
theorem rfinite2_any (a b : Nat) (w : World) : Calls Tryz.prog 33 #[.complex .f64 a b] w fun e w' => e = .returned (.bool (Fl.finB a && Fl.finB b)) ∧ w' = w := by
  have FA : Hid (∀ wz, Calls Tryz.prog 65 #[.float .f64 a] wz fun e w' => e = .returned (.bool (Fl.finB a)) ∧ w' = wz) := fun wz => rfinite_any a wz
  have FB : Hid (∀ wz, Calls Tryz.prog 65 #[.float .f64 b] wz fun e w' => e = .returned (.bool (Fl.finB b)) ∧ w' = wz) := fun wz => rfinite_any b wz
  generalize Fl.finB a = x at *
  generalize Fl.finB b = y at *
  cases x
  · go_enter Tryz.func33, Tryz.ntmps33
    go_wp2_with fail
    refine (FA.out _).mono ?_
    rintro e' w ⟨rfl, rfl⟩
    go_wp2
    go_ret
    exact ⟨rfl, rfl⟩
  · go_enter Tryz.func33, Tryz.ntmps33
    go_wp2_with fail
    refine (FA.out _).mono ?_
    rintro e' w ⟨rfl, rfl⟩
    go_wp2_with fail
    refine (FB.out _).mono ?_
    rintro e' w ⟨rfl, rfl⟩
    go_wp2
    go_ret
    exact ⟨by cases y <;> rfl, rfl⟩
set_option maxHeartbeats 4000000 in
theorem runit_any (a b : Nat) (w : World) (ha : a < 18446744073709551616) (hb : b < 18446744073709551616) (hT : Tab w) (hw : 2 ≤ w.heap.size) : Calls Tryz.prog 10 #[.complex .f64 a b] w fun e w' => ∃ re im o, e = .returned (.tuple #[.complex .f64 re im, .bool o]) ∧ uniR a b re im o ∧ Bw w w' := by
  have T : Hid (Tab w) := hT
  clear hT
  have GR : Hid (∀ wz, Calls Tryz.prog 32 #[.complex .f64 a b] wz fun e w' => e = .returned (.tuple #[.float .f64 (bigF a b), .float .f64 (smaF a b)]) ∧ w' = wz) := fun wz => rgreater_any a b wz ha hb
  have FI : Hid (∀ wz, Calls Tryz.prog 33 #[.complex .f64 a b] wz fun e w' => e = .returned (.bool (Fl.finB a && Fl.finB b)) ∧ w' = wz) := fun wz => rfinite2_any a b wz
  have hbl := big_lt a b
  cases c1 : (Fl.finB a && Fl.finB b)
  · rw [c1] at FI
    have HL : Hid (uniR a b 0 0 false) := by show uniR _ _ _ _ _; unfold uniR; rw [c1, if_neg (by rw [Bool.false_and]; decide)]; exact ⟨rfl, rfl, rfl⟩
    clear c1
    generalize bigF a b = big at *
    generalize smaF a b = small at *
    go_enter Tryz.func10, Tryz.ntmps10
    go_wp2_with fail
    refine (GR.out _).mono ?_
    rintro e' w ⟨rfl, rfl⟩
    go_wp2_with fail
    refine (FI.out _).mono ?_
    rintro e' w ⟨rfl, rfl⟩
    go_wp2
    go_ret2
    exact ⟨_, _, _, rfl, HL.out, Bw.refl _⟩
  · rw [c1] at FI
    have hfin := c1
    rw [Bool.and_eq_true] at hfin
    have f1 := of_decide_eq_true hfin.1
    have f2 := of_decide_eq_true hfin.2
    have hnb : Fl.nan (bigF a b) = false := by
      unfold bigF; split
      · rw [Fl.nan_rg]; unfold Fl.nan; exact decide_eq_false (by omega)
      · rw [Fl.nan_rg]; unfold Fl.nan; exact decide_eq_false (by omega)
    have o := Fl.o_eq (bigF a b) 0
    rw [(up_tests (by omega) hnb).2.1, show Fl.rg (bigF a b) = bigF a b by unfold Fl.rg; omega] at o
    by_cases z : bigF a b = 0
    · rw [decide_eq_true z] at o
      have HL : Hid (uniR a b 0 0 false) := by show uniR _ _ _ _ _; unfold uniR; rw [c1, decide_eq_true z, if_neg (by decide)]; exact ⟨rfl, rfl, rfl⟩
      clear c1 z hnb hfin
      generalize bigF a b = big at *
      generalize smaF a b = small at *
      go_enter Tryz.func10, Tryz.ntmps10
      go_wp2_with fail
      refine (GR.out _).mono ?_
      rintro e' w ⟨rfl, rfl⟩
      go_wp2_with fail
      refine (FI.out _).mono ?_
      rintro e' w ⟨rfl, rfl⟩
      go_wp2
      go_ret2
      exact ⟨_, _, _, rfl, HL.out, Bw.refl _⟩
    · rw [decide_eq_false z] at o
      have HL : Hid (∀ l re im, togR (scF a (-paE (bigF a b))) (scF b (-paE (bigF a b))) l → opR .quo (scF a (-paE (bigF a b))) l re → opR .quo (scF b (-paE (bigF a b))) l im → uniR a b re im true) := by
        intro l re im h1 h2 h3
        unfold uniR
        rw [c1, decide_eq_false z, if_pos (by decide)]
        exact ⟨rfl, l, h1, h2, h3⟩
      have PA : Hid (∀ wz, Calls Tryz.prog 34 #[.float .f64 (bigF a b)] wz fun e w' => e = .returned (.tuple #[.float .f64 (paF (bigF a b)), .int .i64 (paE (bigF a b))]) ∧ w' = wz) := fun wz => rparts_any (bigF a b) wz (by omega)
      obtain ⟨k1, k2⟩ := paE_small (bigF a b) (by omega)
      clear c1 z hnb hfin
      generalize paE (bigF a b) = k at *
      generalize paF (bigF a b) = f at *
      generalize bigF a b = big at *
      generalize smaF a b = small at *
      go_enter Tryz.func10, Tryz.ntmps10
      go_wp2_with fail
      refine (GR.out _).mono ?_
      rintro e' w ⟨rfl, rfl⟩
      go_wp2_with fail
      refine (FI.out _).mono ?_
      rintro e' w ⟨rfl, rfl⟩
      go_wp2_with fail
      refine (PA.out _).mono ?_
      rintro e' w ⟨rfl, rfl⟩
      go_wp2_with fail
      refine (rscale_any a (-k) _ ha T.out hw).mono ?_
      rintro e w1 ⟨rfl, b1⟩
      have B1 : Bw w w1 := b1.1
      have s1 := Below.size B1
      clear b1
      go_wp2_with fail
      refine (rscale_any b (-k) _ hb (T.out.bw6 hw B1) (by omega)).mono ?_
      rintro e w2 ⟨rfl, b2⟩
      have B2 : Bw w w2 := bw_trans B1 b2.1
      clear b2 B1 s1 T
      generalize scF a (-k) = u at *
      generalize scF b (-k) = v at *
      go_wp2_with fail
      refine (rtogether_any u v _).mono ?_
      rintro e w3 ⟨l, rfl, hl, b3⟩
      obtain ⟨re, w4, hre, e4, b4⟩ := op_run .quo isQuo u l w3
      obtain ⟨im, w5, him, e5, b5⟩ := op_run .quo isQuo v l w4
      have B3 := bw_trans (bw_trans (bw_trans B2 b3) b4) b5
      have HF : Hid (uniR a b re im true) := HL.out l re im hl hre him
      clear HL hl hre him b3 b4 b5 B2
      go_wp2
      go_ret2
      exact ⟨_, _, _, rfl, HF.out, B3⟩
theorem rsub2_any (a b c d : Nat) (w : World) : Calls Tryz.prog 56 #[.complex .f64 a b, .complex .f64 c d] w fun e w' => ∃ x y, e = .returned (.complex .f64 x y) ∧ opR .sub a c x ∧ opR .sub b d y ∧ Bw w w' := by
  obtain ⟨x, w1, hx, e1, b1⟩ := op_run .sub isSub a c w
  obtain ⟨y, w2, hy, e2, b2⟩ := op_run .sub isSub b d w1
  have B := bw_trans b1 b2
  have HX : Hid (opR .sub a c x) := hx
  have HY : Hid (opR .sub b d y) := hy
  clear hx hy b1 b2
  go_enter Tryz.func56, Tryz.ntmps56
  go_wp2_with go_in
  go_ret
  exact ⟨x, y, rfl, HX.out, HY.out, B⟩
theorem rnear_any (a b c d m : Nat) (w : World) (hT : Tab w) (hw : 2 ≤ w.heap.size) : Calls Tryz.prog 23 #[.complex .f64 a b, .complex .f64 c d, .float .f64 m] w fun e w' => ∃ r, e = .returned (.bool r) ∧ neaR a b c d m r ∧ Bw w w' := by
  have T : Hid (Tab w) := hT
  clear hT
  go_enter Tryz.func23, Tryz.ntmps23
  go_wp2_with fail
  refine (rsub2_any a b c d _).mono ?_
  rintro e w1 ⟨x, y, rfl, hx, hy, b1⟩
  have s1 := Below.size b1
  have hxl := hx.1
  have hyl := hy.1
  have HN : Hid (∀ l r, lenR x y l → r = Fl.leF l m → neaR a b c d m r) := fun l r h1 h2 => ⟨x, y, l, hx, hy, h1, h2⟩
  clear hx hy
  go_wp2_with fail
  refine (rlength_any x y _ hxl hyl (T.out.bw6 hw b1) (by omega)).mono ?_
  rintro e w2 ⟨l, rfl, hl, b2⟩
  have B := bw_trans b1 b2
  have o := Fl.o_le l m
  have HF : Hid (neaR a b c d m (Fl.leF l m)) := HN.out l _ hl rfl
  clear HN hl b1 b2 T
  generalize Fl.leF l m = r at *
  go_wp2
  go_ret
  exact ⟨r, rfl, HF.out, B⟩
theorem len_sim {a b a' b' r r' : Nat} (h : lenR a b r) (k : lenR a' b' r') (e1 : simR a a') (e2 : simR b b') : simR r r' := by
  have nn : ∀ a b r : Nat, (Fl.nan a = true ∧ ¬ Fl.rg b = 9218868437227405312) ∨ (Fl.nan b = true ∧ ¬ Fl.rg a = 9218868437227405312) → lenR a b r → Fl.nan r = true := by
    intro a b r hn h
    obtain ⟨_, h⟩ := h
    have hl : ∀ x : Nat, Fl.nan x = true → ¬ Fl.rg x = 9218868437227405312 := fun x hx => by have := Fl.nan_lt hx; omega
    rcases hn with ⟨n1, n2⟩ | ⟨n1, n2⟩
    · rw [if_neg (by rintro (e | e); exact hl a n1 e; exact n2 e), if_pos (Or.inl n1)] at h; exact h
    · rw [if_neg (by rintro (e | e); exact n2 e; exact hl b n1 e), if_pos (Or.inr n1)] at h; exact h
  have ii : ∀ a b r : Nat, (Fl.rg a = 9218868437227405312 ∨ Fl.rg b = 9218868437227405312) → lenR a b r → r = 9218868437227405312 := by
    intro a b r hi h
    obtain ⟨_, h⟩ := h
    rw [if_pos hi] at h; exact h
  have hl : ∀ x : Nat, Fl.nan x = true → ¬ Fl.rg x = 9218868437227405312 := fun x hx => by have := Fl.nan_lt hx; omega
  rcases e1 with e1 | ⟨x1, x2⟩
  · subst e1
    rcases e2 with e2 | ⟨y1, y2⟩
    · subst e2; exact h.sim k
    · by_cases c : Fl.rg a = 9218868437227405312
      · exact Or.inl ((ii _ _ _ (Or.inl c) h).trans (ii _ _ _ (Or.inl c) k).symm)
      · exact Or.inr ⟨nn _ _ _ (Or.inr ⟨y1, c⟩) h, nn _ _ _ (Or.inr ⟨y2, c⟩) k⟩
  · rcases e2 with e2 | ⟨y1, y2⟩
    · subst e2
      by_cases c : Fl.rg b = 9218868437227405312
      · exact Or.inl ((ii _ _ _ (Or.inr c) h).trans (ii _ _ _ (Or.inr c) k).symm)
      · exact Or.inr ⟨nn _ _ _ (Or.inl ⟨x1, c⟩) h, nn _ _ _ (Or.inl ⟨x2, c⟩) k⟩
    · exact Or.inr ⟨nn _ _ _ (Or.inl ⟨x1, hl _ y1⟩) h, nn _ _ _ (Or.inl ⟨x2, hl _ y2⟩) k⟩
theorem neaR.sim {a b c d m : Nat} {r r' : Bool} (h : neaR a b c d m r) (k : neaR a b c d m r') : r = r' := by
  obtain ⟨x, y, l, h1, h2, h3, h4⟩ := h
  obtain ⟨x', y', l', k1, k2, k3, k4⟩ := k
  have el := len_sim h3 k3 (h1.sim isSub k1 (simR.refl _) (simR.refl _)) (h2.sim isSub k2 (simR.refl _) (simR.refl _))
  rw [h4, k4]
  rcases el with e | ⟨e1, e2⟩
  · rw [e]
  · unfold Fl.leF; rw [e1, e2]; simp
end Go.Proofs.YtdfepflfmmmnpaaGreatDoor
