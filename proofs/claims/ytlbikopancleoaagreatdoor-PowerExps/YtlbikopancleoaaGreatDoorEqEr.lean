/-
  OWN TEXT: the reference's half the sum and half the difference of exponentials (eddyref04.Cosh, Sinh), for every float.
-/
import Derived.Test.YtlbikopancleoaaGreatDoorJnAm
import Derived.Test.YtlbikopancleoaaGreatDoorJnBs
namespace Go.Proofs.YtlbikopancleoaaGreatDoor
open Go.ChangeShapes Go.WideShapes Go.ChangeAt Go.RowKit
open Bg
set_option linter.unusedVariables false
attribute [local go_sem] frombits_call tobits_call run_neg
set_option maxHeartbeats 4000000 in
theorem rcosh_any (x : Nat) (w : World) (hx : x < 18446744073709551616) (hT : Tab w) (hw : 2 ≤ w.heap.size) : Calls Tryz.prog 42 #[.float .f64 x] w fun e w' => ∃ y, e = .returned (.float .f64 y) ∧ coshR x y ∧ Bw w w' := by
  have hn := Fl.neg_eq hx
  have T : Hid (Tab w) := hT
  clear hT
  go_enter Tryz.func42, Tryz.ntmps42
  go_wp2_with fail
  refine (rexp_any x _ hx T.out hw).mono ?_
  rintro e w1 ⟨a, rfl, ha, b1⟩
  have HA : Hid (expR x a) := ha
  clear ha
  have hs1 := Below.size b1
  go_wp2_with fail
  refine (rexp_any (Fl.ng x) _ (Fl.ng_lt hx) (T.out.bw hw b1) (by omega)).mono ?_
  rintro e w2 ⟨b, rfl, hb, b2⟩
  obtain ⟨s, w3, hs, e3, b3⟩ := op_run .add (Or.inl rfl) a b w2
  obtain ⟨y, w4, hy, e4, b4⟩ := op_run .mul (Or.inr (Or.inr (Or.inl rfl))) s 4602678819172646912 w3
  have B := bw_trans (bw_trans (bw_trans b1 b2) b3) b4
  have HC : Hid (coshR x y) := ⟨a, b, s, HA.out, hb, hs, hy⟩
  clear HA hb hs hy b1 b2 b3 b4 T
  go_wp2
  go_ret
  exact ⟨_, rfl, HC.out, B⟩
theorem top_word {x : Nat} (hx : x < 18446744073709551616) (h : Fl.ltF 9218868437227405311 x = true) : x = 9218868437227405312 := by
  unfold Fl.ltF at h
  rw [Bool.and_eq_true, Bool.and_eq_true, decide_eq_true_eq] at h
  obtain ⟨⟨_, hn⟩, hk⟩ := h
  have hl := Fl.nan_le (x := x) (by simpa using hn)
  rw [show Fl.key 9218868437227405311 = 9218868437227405311 by decide] at hk
  have a1 := Fl.wd_self hx
  unfold Fl.key at hk
  cases e1 : Fl.sg x <;> rw [e1] at hk a1 <;> simp at hk
  · rw [← a1, show Fl.rg x = 9218868437227405312 by omega]; rfl
  · omega
theorem minus_rg {x : Nat} (hx : x < 18446744073709551616) (h : Fl.nan x = false) : Fl.rg x = if Fl.minusB x = true then Fl.ng x else x := by
  have e := Fl.wd_self hx
  have hs := Fl.sg_lt hx
  have hr : Fl.rg x = x % 9223372036854775808 := rfl
  unfold Fl.minusB Fl.ng
  rw [h, hs]
  by_cases c : 9223372036854775808 ≤ x
  · rw [decide_eq_true c, if_pos (by decide), if_neg (by omega)]; omega
  · rw [decide_eq_false c, if_neg (by decide)]; omega
set_option maxHeartbeats 4000000 in
theorem rsinh_any (x : Nat) (w : World) (hx : x < 18446744073709551616) (hT : Tab w) (hw : 2 ≤ w.heap.size) : Calls Tryz.prog 43 #[.float .f64 x] w fun e w' => ∃ y, e = .returned (.float .f64 y) ∧ sinhR x y ∧ Bw w w' := by
  have hn := Fl.neg_eq hx
  have hr : Fl.rg x < 18446744073709551616 := by have := Fl.rg_lt x; omega
  have g0 := Fl.o_ne x x
  rw [Fl.eqF_self, Bool.not_not] at g0
  have T : Hid (Tab w) := hT
  clear hT
  cases h : Fl.nan x
  · rw [h] at g0
    have hm := minus_rg hx h
    have tail : ∀ (K : World → Nat → Prop), True := fun _ => trivial
    have SP : Hid (∀ y, sinhP x y → sinhR x y) := fun y => sinh_of
    have LE : Hid (∀ wz, Tab wz → 2 ≤ wz.heap.size → Calls Tryz.prog 93 #[.float .f64 (Fl.rg x)] wz fun e w' => ∃ y, e = .returned (.float .f64 y) ∧ lessR (Fl.rg x) y ∧ Bw wz w') := fun wz h1 h2 => rless_any (Fl.rg x) wz hr h1 h2
    have MI : Hid (∀ wz, Calls Tryz.prog 92 #[.float .f64 x] wz fun e w' => e = .returned (.bool (Fl.minusB x)) ∧ w' = wz) := fun wz => rminus_any x wz hx
    clear tail
    cases c0 : Fl.minusB x
    all_goals
      rw [c0] at hm MI
      simp only [if_true, Bool.false_eq_true, if_false] at hm
      rw [hm] at LE
      go_enter Tryz.func43, Tryz.ntmps43
      go_wp2_with (first | (go_at_call 92; refine (MI.out _).mono ?_; rintro e w9 ⟨rfl, hw9⟩; subst hw9) | fail)
      refine (LE.out _ T.out hw).mono ?_
      rintro e w1 ⟨e1, rfl, he, b1⟩
      have hel := he.1
      have HE : Hid (lessR (Fl.rg x) e1) := by rw [hm]; exact he
      clear he LE MI
      have g3 := Fl.o_gt e1 9218868437227405311
      by_cases c : e1 = 9218868437227405312
      · have c3 : Fl.ltF 9218868437227405311 e1 = true := by rw [c]; decide
        rw [c3] at g3
        have HS0 : sinhR x (rsignedF e1 x) := sinhP_inf HE.out c (sgn_ref e1 x hel)
        have HS : Hid (sinhR x (rsignedF e1 x)) := HS0
        clear HS0 HE SP c c3
        go_wp2_with fail
        refine (rsigned_any e1 x _ hel hx).mono ?_
        rintro e w2 ⟨rfl, hw2⟩
        subst hw2
        generalize rsignedF e1 x = y at *
        go_wp2
        go_ret
        exact ⟨_, rfl, HS.out, b1⟩
      · have c3 : Fl.ltF 9218868437227405311 e1 = false := by
          cases z : Fl.ltF 9218868437227405311 e1
          · rfl
          · exact absurd (top_word hel z) c
        rw [c3] at g3
        obtain ⟨b, w2, hb, k2, b2⟩ := op_run .add (Or.inl rfl) e1 4607182418800017408 w1
        obtain ⟨d, w3, hd, k3, b3⟩ := op_run .quo (Or.inr (Or.inr (Or.inr rfl))) e1 b w2
        obtain ⟨s, w4, hs, k4, b4⟩ := op_run .add (Or.inl rfl) e1 d w3
        obtain ⟨h, w5, hh, k5, b5⟩ := op_run .mul (Or.inr (Or.inr (Or.inl rfl))) s 4602678819172646912 w4
        have B := bw_trans (bw_trans (bw_trans (bw_trans b1 b2) b3) b4) b5
        have hhl := hh.1
        have HS0 : sinhR x (rsignedF h x) := sinhP_fin HE.out c hb hd hs hh (sgn_ref h x hhl)
        have HS : Hid (sinhR x (rsignedF h x)) := HS0
        clear HS0 HE SP c c3 hb hd hs hh b1 b2 b3 b4 b5
        go_wp2_with fail
        refine (rsigned_any h x _ hhl hx).mono ?_
        rintro e w6 ⟨rfl, hw6⟩
        subst hw6
        generalize rsignedF h x = y at *
        go_wp2
        go_ret
        exact ⟨_, rfl, HS.out, B⟩
  · have HL : Hid (sinhR x x) := by show sinhR x x; unfold sinhR; rw [if_pos h]; exact h
    rw [h] at g0
    go_enter Tryz.func43, Tryz.ntmps43
    go_wp2
    go_ret
    exact ⟨_, rfl, HL.out, Bw.refl _⟩
end Go.Proofs.YtlbikopancleoaaGreatDoor
