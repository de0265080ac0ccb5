/-
  OWN TEXT: package angle's quarters and turns (eddy/angle.Quarter, Turn), for every float.
-/
import Derived.Test.YtdbfhbpillgacaaJnAw
namespace Go.Proofs.Ytdbfhbpillgacaa
open Go.ChangeShapes Go.WideShapes Go.ChangeAt Go.RowKit
set_option linter.unusedVariables false
attribute [local go_sem] frombits_call tobits_call run_neg
theorem fol_p {x c p : Nat} (hc : Fl.rg c ≤ 4607182418800017408) (hr : Fl.rg x ≤ 4697254411347427328) (h1 : opR .mul x c p) : Fl.nan p = false := by
  have hm := Fl.mul_fin (x := x) (y := c) (by omega) (by omega)
  have e1 : p = Fl.wd (Fl.sg x ^^ Fl.sg c) (Fl.rq (Fl.vl (Fl.rg x) * Fl.vl (Fl.rg c)) 1074) := by
    rcases h1.2 with k | k
    · exact (Option.some.inj (hm.symm.trans k)).symm
    · exact absurd (hm.symm.trans k.1) (by intro c; cases c)
  rw [e1]
  exact Fl.nan_wd _ _ (Fl.rq_le _ _)
theorem whR_num (p : Nat) (hp : p < 18446744073709551616) (h : Fl.nan p = false) : whR p (Fl.whF p) := ⟨(Fl.whF_ng hp h).2.1, by rw [if_neg (by rw [h]; decide)]⟩
theorem and3 (n : Int) : bits .and .i64 n 3 = n % 4 := by
  have h3 : (BitVec.ofInt 64 3).toNat = 2 ^ 2 - 1 := by decide
  have key : (BitVec.ofInt 64 n &&& BitVec.ofInt 64 3).toNat = (n % ((2 ^ 64 : Nat) : Int)).toNat % 2 ^ 2 := by
    rw [BitVec.toNat_and, BitVec.toNat_ofInt, h3, Nat.and_two_pow_sub_one_eq_mod]
  show IntKind.i64.wrap ((BitVec.ofInt 64 n &&& BitVec.ofInt 64 3).toNat : Nat) = n % 4
  rw [key, IntKind.wrap_i64]
  omega
set_option maxHeartbeats 4000000 in
theorem quarter_any (x : Nat) (w : World) (hx : x < 18446744073709551616) : Calls Try.prog 55 #[.float .f64 x] w fun e w' => ∃ y n, e = .returned (.tuple #[.float .f64 y, .int .i64 n]) ∧ quaR x y n ∧ Bw w w' := by
  have FI : Hid (∀ wz, Calls Try.prog 72 #[.float .f64 x] wz fun e w' => e = .returned (.bool (fitB x)) ∧ w' = wz) := fun wz => fit5_any x wz hx
  cases c : fitB x
  · rw [c] at FI
    have HQ : Hid (quaR x 9221120237041090561 0) := ⟨by decide, by rw [if_neg (by rw [c]; decide)]; exact ⟨by decide, rfl⟩⟩
    clear c
    go_enter Try.func55, Try.ntmps55
    go_wp2_with (first | (go_at_call 72; refine (FI.out _).mono ?_; rintro e' w9 ⟨rfl, hw9⟩; subst hw9) | (go_at_call 9; refine (nan5_any _).mono ?_; rintro e' w9 ⟨rfl, hw9⟩; subst hw9))
    go_ret2
    exact ⟨_, _, rfl, HQ.out, Bw.refl _⟩
  · rw [c] at FI
    obtain ⟨p, w1, hp, e1, g1⟩ := op_run .mul isMul x 4603909380684499075 w
    have np := fol_p (by decide) (fit_rg hx c).2 hp
    have hwh := whR_num p hp.1 np
    have WH : Hid (∀ wz, Calls Try.prog 70 #[.float .f64 p] wz fun e w' => e = .returned (.float .f64 (Fl.whF p)) ∧ w' = wz) := fun wz => whole_num p wz np
    generalize Fl.whF p = m at *
    have hf : folR x 4603909380684499075 m := ⟨p, hp, hwh⟩
    obtain ⟨nm, hml, q, q1, q2, hq⟩ := fol_int (by decide) (fit_rg hx c).2 hf
    have g3 := Fl.o_eq m 0
    cases c2 : Fl.eqF m 0
    · rw [c2] at g3
      have HQ : Hid (∀ y, y < 18446744073709551616 → lesR x m 4609753056924401664 4454258360616747008 4297306550709518336 y → quaR x y (q % 4)) := fun y hy hl => ⟨hy, by rw [if_pos c]; exact ⟨m, hf, by rw [if_neg (by rw [c2]; decide)]; exact ⟨hl, q, hq, rfl⟩⟩⟩
      clear c c2 hp hwh hf nm np
      have hcv := fun w => run_convert_float_int (P := Try.prog) w 22 3 .f64 .i64 m q (by kernel_rfl) (by kernel_rfl) hq
      have M4 : Hid (bits .and .i64 q 3 = q % 4) := and3 q
      have LS : Hid (∀ wz, Calls Try.prog 73 #[.float .f64 x, .float .f64 m, .float .f64 4607182418800017408] wz fun e w' => ∃ y, e = .returned (.float .f64 y) ∧ lesR x m 4609753056924401664 4454258360616747008 4297306550709518336 y ∧ Bw wz w') := fun wz => les5_any x m 4607182418800017408 4609753056924401664 4454258360616747008 4297306550709518336 wz (by decide +kernel) (by decide +kernel) (by decide +kernel)
      go_enter Try.func55, Try.ntmps55
      go_wp2_with (first | (go_at_call 72; refine (FI.out _).mono ?_; rintro e' w9 ⟨rfl, hw9⟩; subst hw9) | (go_at_call 70; refine (WH.out _).mono ?_; rintro e' w9 ⟨rfl, hw9⟩; subst hw9) | (go_at_call 33; refine (from_any 4603909380684499075 _).mono ?_; rintro e' w9 ⟨rfl, hw9⟩; subst hw9) | fail)
      refine (LS.out _).mono ?_
      rintro e w2 ⟨y, rfl, hy, b2⟩
      have B := bw_trans g1 b2
      have hyl := les_lt hy
      have HE : Hid (quaR x y (q % 4)) := HQ.out y hyl hy
      clear HQ hy b2 g1 LS
      go_wp2
      go_ret2
      exact ⟨y, q % 4, by rw [← M4.out]; rfl, HE.out, B⟩
    · rw [c2] at g3
      have HQ : Hid (quaR x x 0) := ⟨hx, by rw [if_pos c]; exact ⟨m, hf, by rw [if_pos c2]; exact ⟨rfl, rfl⟩⟩⟩
      clear c c2 hp hwh hf nm np
      go_enter Try.func55, Try.ntmps55
      go_wp2_with (first | (go_at_call 72; refine (FI.out _).mono ?_; rintro e' w9 ⟨rfl, hw9⟩; subst hw9) | (go_at_call 70; refine (WH.out _).mono ?_; rintro e' w9 ⟨rfl, hw9⟩; subst hw9) | (go_at_call 33; refine (from_any 4603909380684499075 _).mono ?_; rintro e' w9 ⟨rfl, hw9⟩; subst hw9))
      go_ret2
      exact ⟨x, 0, rfl, HQ.out, g1⟩
theorem sinR_nan {y s : Nat} (h : sinR y s) (hn : Fl.nan y = true) : Fl.nan s = true := by
  obtain ⟨z, t, _, _, h3⟩ := h
  exact h3.nan (nan_left _ isMul hn)
theorem cosR_nan {y s : Nat} (h : cosR y s) (hn : Fl.nan y = true) : Fl.nan s = true := by
  obtain ⟨z, h1, h2⟩ := h
  have hz := h1.nan (nan_left _ isMul hn)
  obtain ⟨t, d, p, _, k2, k3, k4⟩ := h2
  have hd := k2.nan (nan_left _ isQuo hz)
  have hp := k3.nan (nan_left _ isMul hd)
  exact k4.nan (nan_right _ isSub hp)
set_option maxHeartbeats 4000000 in
theorem turn_any (x : Nat) (w : World) (hx : x < 18446744073709551616) : Calls Try.prog 31 #[.float .f64 x] w fun e w' => ∃ a b, e = .returned (.tuple #[.float .f64 a, .float .f64 b]) ∧ turR x a b ∧ Bw w w' := by
  have HT : Hid (∀ y n s c a b, quaR x y n → sinR y s → cosR y c → turnAt n s c a b → a < 18446744073709551616 → b < 18446744073709551616 → turR x a b) := by
    intro y n s d a b h1 h2 h3 h4 h5 h6
    refine ⟨h5, h6, ?_⟩
    by_cases c : fitB x = true
    · rw [if_pos c]; exact ⟨y, n, s, d, h1, h2, h3, h4⟩
    · rw [if_neg c]
      obtain ⟨_, k⟩ := h1
      rw [if_neg c] at k
      have e1 := sinR_nan h2 k.1
      have e2 := cosR_nan h3 k.1
      rcases h4 with ⟨_, rfl, rfl⟩ | ⟨_, rfl, rfl⟩ | ⟨_, rfl, rfl⟩ | ⟨_, rfl, rfl⟩ <;> constructor <;> first | exact e1 | exact e2 | (rw [Fl.nan_ng]; first | exact e1 | exact e2)
  go_enter Try.func31, Try.ntmps31
  go_wp2_with fail
  refine (quarter_any x _ hx).mono ?_
  rintro e w1 ⟨y, n, rfl, hq, b1⟩
  have hr := hq.range
  have HQ : Hid (quaR x y n) := hq
  clear hq
  go_wp2_with fail
  refine (sine5_any y _).mono ?_
  rintro e w2 ⟨s, rfl, hs, hsl, b2⟩
  have HS : Hid (sinR y s) := hs
  clear hs
  go_wp2_with fail
  refine (cosine5_any y _).mono ?_
  rintro e w3 ⟨c, rfl, hc, hcl, b3⟩
  have B := bw_trans (bw_trans b1 b2) b3
  have HA : Hid (∀ a b, turnAt n s c a b → a < 18446744073709551616 → b < 18446744073709551616 → turR x a b) := fun a b h h5 h6 => HT.out y n s c a b HQ.out HS.out hc h h5 h6
  have nsl := Fl.ng_lt hsl
  have ncl := Fl.ng_lt hcl
  have ns := Fl.neg_eq hsl
  have nc := Fl.neg_eq hcl
  have nns := Fl.neg_eq nsl
  rw [Fl.ng_ng hsl] at nns
  clear HQ HS hc HT b1 b2 b3
  rcases (show n = 0 ∨ n = 1 ∨ n = 2 ∨ n = 3 by omega) with rfl | rfl | rfl | rfl
  · go_wp2
    go_ret2
    exact ⟨s, c, rfl, HA.out _ _ (Or.inl ⟨rfl, rfl, rfl⟩) hsl hcl, B⟩
  · go_wp2
    go_ret2
    exact ⟨c, Fl.ng s, rfl, HA.out _ _ (Or.inr (Or.inl ⟨rfl, rfl, rfl⟩)) hcl nsl, B⟩
  · go_wp2
    go_ret2
    exact ⟨Fl.ng s, Fl.ng c, rfl, HA.out _ _ (Or.inr (Or.inr (Or.inl ⟨rfl, rfl, rfl⟩))) nsl ncl, B⟩
  · go_wp2
    go_ret2
    exact ⟨Fl.ng c, s, rfl, HA.out _ _ (Or.inr (Or.inr (Or.inr ⟨rfl, rfl, rfl⟩))) ncl hsl, B⟩
end Go.Proofs.Ytdbfhbpillgacaa
