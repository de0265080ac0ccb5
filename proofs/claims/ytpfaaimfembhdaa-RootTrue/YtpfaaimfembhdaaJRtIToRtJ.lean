/-
  OWN TEXT: layer 6's law RootTrue: its own functions.
-/
import Derived.Test.YtpfaaimfembhdaaJRtGToRtH
import Derived.Test.YtpfaaimfembhdaaJRmH
import Derived.Test.YtpfaaimfembhdaaJSwJToSwQ
import Derived.Test.YtpfaaimfembhdaaJSwX
namespace Go.Proofs.Ytpfaaimfembhdaa
open Go.ChangeShapes Go.WideShapes Go.ChangeAt Go.RowKit
set_option linter.unusedVariables false
attribute [local go_sem] frombits_call tobits_call run_neg
open Bg
theorem next_inf (w : World) : Calls Try.prog 35 #[.float .f64 9218868437227405312, .float .f64 9218868437227405312] w fun e w' => e = .returned (.float .f64 9218868437227405312) ∧ w' = w := by
  have N2 : Hid (∀ wz, Calls Try.prog 53 #[.float .f64 9218868437227405312] wz fun e w' => e = .returned (.bool false) ∧ w' = wz) := fun wz => isNaN_any 9218868437227405312 wz
  have g1 : (FloatKind.f64.format.order 9218868437227405312 9218868437227405312 == some .eq) = true := by decide +kernel
  go_enter Try.func35, Try.ntmps35
  go_wp2_with fail
  refine (N2.out _).mono ?_
  rintro e' w ⟨rfl, rfl⟩
  go_wp2_with fail
  refine (N2.out _).mono ?_
  rintro e' w ⟨rfl, rfl⟩
  go_wp2
  go_ret
  exact ⟨rfl, rfl⟩
theorem next_up6 {t : Nat} (ht : t ≤ 9218868437227405312) (w : World) : Calls Try.prog 35 #[.float .f64 t, .float .f64 9218868437227405312] w fun e w' => e = .returned (.float .f64 (min (t + 1) 9218868437227405312)) ∧ w' = w := by
  rcases Nat.lt_or_ge t 9218868437227405312 with c | c
  · rw [Nat.min_eq_left (by omega)]; exact next_up_any c w
  · obtain rfl : t = 9218868437227405312 := by omega
    exact next_inf w
theorem next_down6 {t : Nat} (h0 : 0 < t) (ht : t < 9218868437227405312) (w : World) : Calls Try.prog 35 #[.float .f64 t, .float .f64 0] w fun e w' => e = .returned (.float .f64 (t - 1)) ∧ w' = w := by
  have N1 : Hid (∀ wz, Calls Try.prog 53 #[.float .f64 t] wz fun e w' => e = .returned (.bool false) ∧ w' = wz) := fun wz => by have k := isNaN_any t wz; rw [nan_rung (by omega)] at k; exact k
  have N2 : Hid (∀ wz, Calls Try.prog 53 #[.float .f64 0] wz fun e w' => e = .returned (.bool false) ∧ w' = wz) := fun wz => isNaN_any 0 wz
  have g2 := Fl.o_eq t 0
  have g3 := Fl.o_gt 0 t
  have g4 := Fl.o_gt t 0
  rw [Fl.eqF_of (nan_rung (by omega)) (by decide), key_rung (by omega), show Fl.key 0 = 0 by decide, decide_eq_false (by omega)] at g2
  rw [lt_rung (by omega) (by omega), decide_eq_false (by omega)] at g3
  rw [lt_rung (by omega) (by omega), decide_eq_true (by omega)] at g4
  go_enter Try.func35, Try.ntmps35
  go_wp2_with fail
  refine (N1.out _).mono ?_
  rintro e' w ⟨rfl, rfl⟩
  go_wp2_with fail
  refine (N2.out _).mono ?_
  rintro e' w ⟨rfl, rfl⟩
  go_wp2
  go_ret
  exact ⟨rfl, rfl⟩
theorem finite6 (x : Nat) (w : World) (hx : x < 18446744073709551616) : Calls Try.prog 6 #[.float .f64 x] w fun e w' => e = .returned (.bool (Fl.finB x)) ∧ w' = w := by
  have o1 := Fl.o_ge x 18442240474082181119
  have o2 := Fl.o_le x 9218868437227405311
  have e : (Fl.leF 18442240474082181119 x && Fl.leF x 9218868437227405311) = Fl.finB x := by
    by_cases n : Fl.nan x = true
    · have f : Fl.finB x = false := by
        unfold Fl.nan at n; unfold Fl.finB
        have := of_decide_eq_true n
        exact decide_eq_false (by omega)
      rw [f]
      unfold Fl.leF
      rw [n]
      simp
    · have n : Fl.nan x = false := Bool.eq_false_iff.2 n
      rw [Fl.leF_of (by decide) n, Fl.leF_of n (by decide), show Fl.key 18442240474082181119 = -9218868437227405311 by decide, show Fl.key 9218868437227405311 = 9218868437227405311 by decide]
      unfold Fl.finB Fl.key
      have hr : ((Fl.rg x : Nat) : Int) ≥ 0 := by omega
      by_cases c : Fl.rg x < 9218868437227405312
      · rw [decide_eq_true c]
        cases Fl.sg x
        · rw [if_neg (by decide), decide_eq_true (by omega), decide_eq_true (by omega)]; rfl
        · rw [if_pos rfl, decide_eq_true (by omega), decide_eq_true (by omega)]; rfl
      · rw [decide_eq_false c]
        cases Fl.sg x
        · rw [if_neg (by decide), decide_eq_false (show ¬ ((Fl.rg x : Nat) : Int) ≤ 9218868437227405311 by omega), Bool.and_false]
        · rw [if_pos rfl, decide_eq_false (show ¬ (-9218868437227405311 : Int) ≤ -((Fl.rg x : Nat) : Int) by omega), Bool.false_and]
  rw [← e]
  clear e
  generalize Fl.leF 18442240474082181119 x = b1 at *
  generalize Fl.leF x 9218868437227405311 = b2 at *
  go_enter Try.func6, Try.ntmps6
  cases b1
  · go_wp2
    go_ret
    exact ⟨rfl, rfl⟩
  · cases b2
    · go_wp2
      go_ret
      exact ⟨rfl, rfl⟩
    · go_wp2
      go_ret
      exact ⟨rfl, rfl⟩
theorem fraction6 (x : Nat) (w : World) (hx : Sv.Fi x) :
    Calls Try.prog 7 #[.float .f64 x] w fun e w' => ∃ B, e = .returned (.pointer (some ⟨B, 0, none⟩)) ∧ Rf w' B (Sv.rv x) 2200 ∧ w.heap.size ≤ B ∧ Fr w w' := by
  have hm := rt_mk w
  have hF : Fr w (w.alloc (.cells #[.bool false, .slice none 0 0, .slice none 0 0] 43)) := (Fr.refl w).alloc _ _
  obtain ⟨B, hB⟩ : ∃ B, B = w.heap.size := ⟨_, rfl⟩
  have HB : Hid (B = w.heap.size) := hB
  rw [← hB] at hm
  have HX := Sv.hid hx
  clear hB hx
  go_enter Try.func7, Try.ntmps7
  go_wp2_with fail
  rw [← HB.out]
  generalize w.alloc (.cells #[.bool false, .slice none 0 0, .slice none 0 0] 43) = w1 at *
  refine (qset_any B x _ _ _ _ hm HX.out).mono ?_
  rintro e w2 ⟨rfl, hrv, hsv⟩
  have hfr : Fr w w2 := by
    obtain ⟨w3, s, x, d, h1, rfl⟩ := hsv
    exact (hF.trans h1).st (by have := HB.out; omega) _ _ _
  clear hsv
  go_wp2
  go_ret
  exact ⟨B, rfl, hrv, by have := HB.out; omega, hfr⟩
theorem square6 (C k : Nat) (r : Rat) (w : World) (hx : Rf w C r k) (hk : k + k + 2 < 16000000) :
    Calls Try.prog 10 #[.pointer (some ⟨C, 0, none⟩)] w fun e w' => ∃ B, e = .returned (.pointer (some ⟨B, 0, none⟩)) ∧ Rf w' B (r * r) (k + k + 2) ∧ w.heap.size ≤ B ∧ Fr w w' := by
  have hm := rt_mk w
  have hF : Fr w (w.alloc (.cells #[.bool false, .slice none 0 0, .slice none 0 0] 43)) := (Fr.refl w).alloc _ _
  have hx1 := hx.mono hF
  have hlt := hx.lt
  obtain ⟨B, hB⟩ : ∃ B, B = w.heap.size := ⟨_, rfl⟩
  have HB : Hid (B = w.heap.size) := hB
  rw [← hB] at hm hlt
  have HX := Sv.hid hx1
  have HK := Sv.hid hk
  have HL := Sv.hid hlt
  clear hB hx hx1 hk hlt
  go_enter Try.func10, Try.ntmps10
  go_wp2_with fail
  rw [← HB.out]
  generalize w.alloc (.cells #[.bool false, .slice none 0 0, .slice none 0 0] 43) = w1 at *
  refine (qmul_any B C C k k r r _ _ _ _ hm HX.out HX.out (by have := HL.out; omega) HK.out).mono ?_
  rintro e w2 ⟨rfl, hrv, hsv⟩
  have hfr : Fr w w2 := by
    obtain ⟨w3, s, x, d, h1, rfl⟩ := hsv
    exact (hF.trans h1).st (by have := HB.out; omega) _ _ _
  clear hsv
  go_wp2
  go_ret
  exact ⟨B, rfl, hrv, by have := HB.out; omega, hfr⟩
theorem norm6 (C E k k' : Nat) (r r' : Rat) (w : World) (hx : Rf w C r k) (hy : Rf w E r' k') (hk : k + k + 2 < 8000000) (hk' : k' + k' + 2 < 8000000) :
    Calls Try.prog 8 #[.pointer (some ⟨C, 0, none⟩), .pointer (some ⟨E, 0, none⟩)] w fun e w' => ∃ B, e = .returned (.pointer (some ⟨B, 0, none⟩)) ∧ Rf w' B (r * r + r' * r') (k + k + 2 + (k' + k' + 2) + 2) ∧ w.heap.size ≤ B ∧ Fr w w' := by
  have hm := rt_mk w
  have hF : Fr w (w.alloc (.cells #[.bool false, .slice none 0 0, .slice none 0 0] 43)) := (Fr.refl w).alloc _ _
  obtain ⟨B, hB⟩ : ∃ B, B = w.heap.size := ⟨_, rfl⟩
  have HB : Hid (B = w.heap.size) := hB
  rw [← hB] at hm
  have SQ : Hid (∀ wz, Fr w wz → Calls Try.prog 10 #[.pointer (some ⟨C, 0, none⟩)] wz fun e w' => ∃ B, e = .returned (.pointer (some ⟨B, 0, none⟩)) ∧ Rf w' B (r * r) (k + k + 2) ∧ wz.heap.size ≤ B ∧ Fr wz w') := fun wz f => square6 C k r wz (hx.mono f) (by omega)
  have SR : Hid (∀ wz, Fr w wz → Calls Try.prog 10 #[.pointer (some ⟨E, 0, none⟩)] wz fun e w' => ∃ B, e = .returned (.pointer (some ⟨B, 0, none⟩)) ∧ Rf w' B (r' * r') (k' + k' + 2) ∧ wz.heap.size ≤ B ∧ Fr wz w') := fun wz f => square6 E k' r' wz (hy.mono f) (by omega)
  have HK : Hid (k + k + 2 + (k' + k' + 2) + 2 < 32000000) := by show _ < _; omega
  clear hB hx hy hk hk'
  go_enter Try.func8, Try.ntmps8
  go_wp2_with fail
  rw [← HB.out]
  generalize w.alloc (.cells #[.bool false, .slice none 0 0, .slice none 0 0] 43) = w1 at *
  refine (SQ.out _ hF).mono ?_
  rintro e w2 ⟨B1, rfl, R1, l1, f1⟩
  have H1 := Sv.hid (And.intro R1 f1)
  clear R1 f1 l1
  go_wp2_with fail
  refine (SR.out _ (hF.trans H1.out.2)).mono ?_
  rintro e w3 ⟨B2, rfl, R2, l2, f2⟩
  have H2 := Sv.hid (And.intro R2 f2)
  clear R2 f2 l2
  go_wp2_with fail
  refine (qadd_any B B1 B2 _ _ _ _ _ _ _ _ (hm.mono (H1.out.2.trans H2.out.2)) (H1.out.1.mono H2.out.2) H2.out.1 HK.out).mono ?_
  rintro e w4 ⟨rfl, hrv, hsv⟩
  have hfr : Fr w w4 := by
    obtain ⟨w5, s, x, d, h1, rfl⟩ := hsv
    exact (((hF.trans H1.out.2).trans H2.out.2).trans h1).st (by have := HB.out; omega) _ _ _
  clear hsv
  go_wp2
  go_ret
  exact ⟨B, rfl, hrv, by have := HB.out; omega, hfr⟩
theorem rv_rung {t : Nat} (h : t ≤ 9218868437227405312) : Sv.rv t = Rt.rr t := by
  obtain ⟨h1, h2⟩ := rg_rung h
  rw [Rt.rv_rr, h1, h2]; rfl
theorem under6 {t : Nat} (ht : t < 9218868437227405312) (w : World) :
    Calls Try.prog 11 #[.float .f64 t, .int .i64 4] w fun e w' => ∃ B, e = .returned (.pointer (some ⟨B, 0, none⟩)) ∧ Rf w' B (Rt.rr (t - 4)) 2200 ∧ w.heap.size ≤ B ∧ Fr w w' := by
  have ND : Hid (∀ k wz, 0 < t - k → Calls Try.prog 35 #[.float .f64 (t - k), .float .f64 0] wz fun e w' => e = .returned (.float .f64 (t - k - 1)) ∧ w' = wz) := fun k wz h => next_down6 h (by omega) wz
  have FR : Hid (∀ s wz, s = t - 4 → Calls Try.prog 7 #[.float .f64 s] wz fun e w' => ∃ B, e = .returned (.pointer (some ⟨B, 0, none⟩)) ∧ Rf w' B (Rt.rr (t - 4)) 2200 ∧ wz.heap.size ≤ B ∧ Fr wz w') := fun s wz h => by
    subst h
    have := fraction6 (t - 4) wz ⟨by omega, by rw [(rg_rung (by omega)).1]; omega⟩
    rw [rv_rung (by omega)] at this
    exact this
  have GT : Hid (∀ k, (FloatKind.f64.format.order (t - k) 0 == some .gt) = decide (0 < t - k)) := fun k => by rw [Fl.o_gt, lt_rung (by omega) (by omega)]
  go_enter Try.func11, Try.ntmps11
  go_wp2
  go_loopw [0, 5] (fun a i wr => ∃ k : Nat, k ≤ 4 ∧ a = .float .f64 (t - k) ∧ i = .int .i64 (k : Int) ∧ wr = w) (fun _ i _ => 4 - (intOf i).toNat)
  case atStart => exact ⟨0, by omega, rfl, rfl, rfl⟩
  case round =>
    obtain ⟨k, hk, rfl, rfl, rfl⟩ := hrel
    have g := GT.out k
    by_cases c : k < 4
    · by_cases z : 0 < t - k
      · rw [decide_eq_true z] at g
        have N := Sv.hid (fun wz => ND.out k wz z)
        have ci : ((k : Nat) : Int) < 4 := by omega
        go_wp2_with fail
        refine (N.out _).mono ?_
        rintro e w2 ⟨rfl, rfl⟩
        go_wp2
        go_roundw
        case rel => exact ⟨k + 1, by omega, by rw [Nat.sub_add_eq], by go_num, trivial⟩
        case measure => simp [intOf]; omega
      · rw [decide_eq_false z] at g
        have ci : ((k : Nat) : Int) < 4 := by omega
        have F := Sv.hid (FR.out (t - k) wr (by omega))
        go_wp2_with fail
        refine F.out.mono ?_
        rintro e w2 ⟨B, rfl, R, l, f⟩
        have H := Sv.hid (And.intro R (And.intro l f))
        clear R l f
        go_wp2
        go_ret
        exact ⟨B, rfl, H.out.1, H.out.2.1, H.out.2.2⟩
    · obtain rfl : k = 4 := by omega
      have F := Sv.hid (FR.out (t - 4) wr rfl)
      go_wp2_with fail
      refine F.out.mono ?_
      rintro e w2 ⟨B, rfl, R, l, f⟩
      have H := Sv.hid (And.intro R (And.intro l f))
      clear R l f
      go_wp2
      go_ret
      exact ⟨B, rfl, H.out.1, H.out.2.1, H.out.2.2⟩
theorem above6 {t : Nat} (ht : t < 9218868437227405312) (w : World) :
    Calls Try.prog 13 #[.float .f64 t, .int .i64 4] w fun e w' => ∃ B, e = .returned (.pointer (some ⟨B, 0, none⟩)) ∧ Rf w' B (if t + 4 < 9218868437227405312 then Rt.rr (t + 4) else 2 * Rt.rr 9218868437227405311) 2266 ∧ w.heap.size ≤ B ∧ Fr w w' := by
  have IN : Hid (∀ wz, Calls Try.prog 27 #[.int .i64 1] wz fun e w' => e = .returned (.float .f64 9218868437227405312) ∧ w' = wz) := fun wz => inf6_any wz
  have NU : Hid (∀ k wz, Calls Try.prog 35 #[.float .f64 (min (t + k) 9218868437227405312), .float .f64 9218868437227405312] wz fun e w' => e = .returned (.float .f64 (min (t + (k + 1)) 9218868437227405312)) ∧ w' = wz) := fun k wz => by
    have := next_up6 (t := min (t + k) 9218868437227405312) (by omega) wz
    rw [show min (min (t + k) 9218868437227405312 + 1) 9218868437227405312 = min (t + (k + 1)) 9218868437227405312 by omega] at this
    exact this
  have FI : Hid (∀ wz, Calls Try.prog 6 #[.float .f64 (min (t + 4) 9218868437227405312)] wz fun e w' => e = .returned (.bool (decide (t + 4 < 9218868437227405312))) ∧ w' = wz) := fun wz => by
    have := finite6 (min (t + 4) 9218868437227405312) wz (by omega)
    have e : Fl.finB (min (t + 4) 9218868437227405312) = decide (t + 4 < 9218868437227405312) := by
      unfold Fl.finB
      rw [(rg_rung (r := min (t + 4) 9218868437227405312) (by omega)).1]
      by_cases c : t + 4 < 9218868437227405312
      · rw [decide_eq_true c, decide_eq_true (by omega)]
      · rw [decide_eq_false c, decide_eq_false (by omega)]
    rw [e] at this
    exact this
  by_cases c : t + 4 < 9218868437227405312
  · have FR : Hid (∀ wz, Calls Try.prog 7 #[.float .f64 (min (t + 4) 9218868437227405312)] wz fun e w' => ∃ B, e = .returned (.pointer (some ⟨B, 0, none⟩)) ∧ Rf w' B (Rt.rr (t + 4)) 2266 ∧ wz.heap.size ≤ B ∧ Fr wz w') := fun wz => by
      rw [Nat.min_eq_left (by omega)]
      have := fraction6 (t + 4) wz ⟨by omega, by rw [(rg_rung (by omega)).1]; omega⟩
      rw [rv_rung (by omega)] at this
      exact this.mono fun e w' h => by obtain ⟨B, h1, h2, h3⟩ := h; exact ⟨B, h1, h2.up (by omega), h3⟩
    rw [decide_eq_true c] at FI
    rw [if_pos c]
    go_enter Try.func13, Try.ntmps13
    go_wp2
    go_loopw [0, 5] (fun a i wr => ∃ k : Nat, k ≤ 4 ∧ a = .float .f64 (min (t + k) 9218868437227405312) ∧ i = .int .i64 (k : Int) ∧ wr = w) (fun _ i _ => 4 - (intOf i).toNat)
    case atStart => exact ⟨0, by omega, by rw [Nat.min_eq_left (by omega)]; rfl, rfl, rfl⟩
    case round =>
      obtain ⟨k, hk, rfl, rfl, rfl⟩ := hrel
      by_cases ck : k < 4
      · have N := Sv.hid (NU.out k)
        have ci : ((k : Nat) : Int) < 4 := by omega
        clear FR FI
        generalize hM : min (t + k) 9218868437227405312 = M at *
        go_wp2_with fail
        refine (IN.out _).mono ?_
        rintro e w2 ⟨rfl, rfl⟩
        go_wp2_with fail
        refine (N.out _).mono ?_
        rintro e w2 ⟨rfl, rfl⟩
        generalize hM2 : min (t + (k + 1)) 9218868437227405312 = M2 at *
        go_wp2
        go_roundw
        case rel => exact ⟨k + 1, by omega, by rw [← hM2], by go_num, trivial⟩
        case measure => simp [intOf]; omega
      · obtain rfl : k = 4 := by omega
        generalize hM : min (t + 4) 9218868437227405312 = M at *
        clear NU
        go_wp2_with fail
        refine (FI.out _).mono ?_
        rintro e w2 ⟨rfl, rfl⟩
        go_wp2_with fail
        refine (FR.out _).mono ?_
        rintro e w2 ⟨B, rfl, R, l, f⟩
        have H := Sv.hid (And.intro R (And.intro l f))
        clear R l f
        go_wp2
        go_ret
        exact ⟨B, rfl, H.out.1, H.out.2.1, H.out.2.2⟩
  · have FR : Hid (∀ wz, Calls Try.prog 7 #[.float .f64 9218868437227405311] wz fun e w' => ∃ B, e = .returned (.pointer (some ⟨B, 0, none⟩)) ∧ Rf w' B (Rt.rr 9218868437227405311) 2200 ∧ wz.heap.size ≤ B ∧ Fr wz w') := fun wz => by
      have := fraction6 9218868437227405311 wz ⟨by omega, by decide⟩
      rw [rv_rung (by omega)] at this
      exact this
    have NR : Hid (∀ wz, Calls Try.prog 39 #[.int .i64 2, .int .i64 1] wz fun e w' => ∃ B, e = .returned (.pointer (some ⟨B, 0, none⟩)) ∧ Rf w' B 2 64 ∧ wz.heap.size ≤ B ∧ Fr wz w') := fun wz => by
      have := newrat_any 2 1 wz (by decide) (by decide) (by decide)
      have e : ((2 : Int) : Rat) / ((1 : Int) : Rat) = 2 := by decide +kernel
      rw [e] at this
      exact this
    rw [decide_eq_false c] at FI
    rw [if_neg c]
    go_enter Try.func13, Try.ntmps13
    go_wp2
    go_loopw [0, 5] (fun a i wr => ∃ k : Nat, k ≤ 4 ∧ a = .float .f64 (min (t + k) 9218868437227405312) ∧ i = .int .i64 (k : Int) ∧ wr = w) (fun _ i _ => 4 - (intOf i).toNat)
    case atStart => exact ⟨0, by omega, by rw [Nat.min_eq_left (by omega)]; rfl, rfl, rfl⟩
    case round =>
      obtain ⟨k, hk, rfl, rfl, rfl⟩ := hrel
      by_cases ck : k < 4
      · have N := Sv.hid (NU.out k)
        have ci : ((k : Nat) : Int) < 4 := by omega
        clear FR FI NR
        generalize hM : min (t + k) 9218868437227405312 = M at *
        go_wp2_with fail
        refine (IN.out _).mono ?_
        rintro e w2 ⟨rfl, rfl⟩
        go_wp2_with fail
        refine (N.out _).mono ?_
        rintro e w2 ⟨rfl, rfl⟩
        generalize hM2 : min (t + (k + 1)) 9218868437227405312 = M2 at *
        go_wp2
        go_roundw
        case rel => exact ⟨k + 1, by omega, by rw [← hM2], by go_num, trivial⟩
        case measure => simp [intOf]; omega
      · obtain rfl : k = 4 := by omega
        generalize hM : min (t + 4) 9218868437227405312 = M at *
        clear NU
        go_wp2_with fail
        refine (FI.out _).mono ?_
        rintro e wq ⟨rfl, hq⟩
        subst hq
        have hm := rt_mk wq
        have hF : Fr wq (wq.alloc (.cells #[.bool false, .slice none 0 0, .slice none 0 0] 43)) := (Fr.refl wq).alloc _ _
        obtain ⟨B, hB⟩ : ∃ B, B = wq.heap.size := ⟨_, rfl⟩
        have HB : Hid (B = wq.heap.size) := hB
        rw [← hB] at hm
        clear hB
        go_wp2_with fail
        rw [← HB.out]
        generalize wq.alloc (.cells #[.bool false, .slice none 0 0, .slice none 0 0] 43) = w1 at *
        refine (FR.out _).mono ?_
        rintro e w2 ⟨B1, rfl, R1, l1, f1⟩
        have H1 := Sv.hid (And.intro R1 (And.intro l1 f1))
        clear R1 l1 f1
        go_wp2_with fail
        refine (NR.out _).mono ?_
        rintro e w3 ⟨B2, rfl, R2, l2, f2⟩
        have H2 := Sv.hid (And.intro R2 (And.intro l2 f2))
        have hne : Hid (B2 ≠ B) := fun e => by
          have q1 := hm.nw.1
          have q2 := H1.out.2.2.1.size
          have := HB.out
          subst e
          omega
        clear R2 l2 f2
        go_wp2_with fail
        refine (qmul_any B B1 B2 2200 64 _ _ _ _ _ _ (hm.mono (H1.out.2.2.trans H2.out.2.2)) (H1.out.1.mono H2.out.2.2) H2.out.1 hne.out (by omega)).mono ?_
        rintro e w4 ⟨rfl, hrv, hsv⟩
        have hfr : Fr wq w4 := by
          obtain ⟨w5, s, x, d, h1, rfl⟩ := hsv
          exact (((hF.trans H1.out.2.2).trans H2.out.2.2).trans h1).st (by have := HB.out; omega) _ _ _
        have HE := Sv.hid (And.intro hrv hfr)
        clear hsv hrv hfr
        go_wp2
        go_ret
        refine ⟨B, rfl, ?_, by have := HB.out; omega, HE.out.2⟩
        have := HE.out.1
        rw [Rat.mul_comm] at this
        exact this
end Go.Proofs.Ytpfaaimfembhdaa
/-
  OWN TEXT: RootTrue: what its numbers come to; fractions stay where the blocks below stay.
-/
set_option linter.unusedVariables false
set_option exponentiation.threshold 3000
namespace Go.Proofs.Ytpfaaimfembhdaa.Rt
open Sv (en en_unit en_pos Ab unit_of pos_of Fi)
theorem len_law {a b r : Nat} (ha : a < 18446744073709551616) (hb : b < 18446744073709551616) (fa : Fl.rg a < 9218868437227405312) (fb : Fl.rg b < 9218868437227405312) (h : lenR a b r) :
    r ≤ 9218868437227405312 ∧ rr ((if r < 9218868437227405312 then r else 9218868437227405311) - 4) * rr ((if r < 9218868437227405312 then r else 9218868437227405311) - 4) ≤ nq a b ∧ 0 ≤ nq a b ∧
    (r < 9218868437227405312 → nq a b ≤ (if r + 4 < 9218868437227405312 then rr (r + 4) else 2 * rr 9218868437227405311) * (if r + 4 < 9218868437227405312 then rr (r + 4) else 2 * rr 9218868437227405311) ∧ ((r = 0 ∧ nq a b = 0) ∨ (r ≠ 0 ∧ 0 < nq a b))) := by
  have na : Fl.nan a = false := by unfold Fl.nan; exact decide_eq_false (by omega)
  have nb : Fl.nan b = false := by unfold Fl.nan; exact decide_eq_false (by omega)
  obtain ⟨h0, h⟩ := h
  rw [if_neg (by omega), if_neg (by rw [na, nb]; simp)] at h
  have nn : 0 ≤ nq a b := by
    unfold nq
    have := sq_nn (rr (Fl.rg a))
    have := sq_nn (rr (Fl.rg b))
    grind
  by_cases z : bigF a b = 0
  · rw [if_pos z] at h
    subst h
    obtain ⟨z1, z2⟩ := (big_zero na nb).1 z
    have e : nq a b = 0 := by unfold nq; rw [z1, z2, rr_zero]; grind
    rw [if_pos (by omega), e, show 0 - 4 = 0 from rfl, rr_zero, if_pos (by omega)]
    have := sq_nn (rr (0 + 4))
    exact ⟨by omega, by grind, by grind, fun _ => ⟨this, Or.inl ⟨rfl, rfl⟩⟩⟩
  · rw [if_neg z] at h
    obtain ⟨k0, k1, k2, k3, k4, k5⟩ := len_true ha hb fa fb z h
    have er : Fl.rg r = r := by
      have : Fl.sg r = false := k1
      unfold Fl.sg at this
      unfold Fl.rg
      have := of_decide_eq_false this
      omega
    rw [er] at k2 k3 k4 k5
    refine ⟨k2, ?_, nn, fun hr => ⟨?_, Or.inr ⟨k3, k0⟩⟩⟩
    · rcases Nat.lt_or_ge (if r < 9218868437227405312 then r else 9218868437227405311) 4 with c | c
      · rw [Nat.sub_eq_zero_of_le (by omega), rr_zero]
        grind
      · exact k4 _ (by omega)
    · obtain ⟨q1, q2⟩ := k5 hr
      by_cases c : r + 4 < 9218868437227405312
      · rw [if_pos c]; exact q1
      · rw [if_neg c]; exact q2
theorem root_law {a b re im : Nat} (ha : a < 18446744073709551616) (hb : b < 18446744073709551616) (fa : Fl.rg a < 9218868437227405312) (fb : Fl.rg b < 9218868437227405312) (h : rooR a b re im) :
    Fi re ∧ Fi im ∧ (Sv.rv re * Sv.rv re - Sv.rv im * Sv.rv im - Sv.rv a) * (Sv.rv re * Sv.rv re - Sv.rv im * Sv.rv im - Sv.rv a) + (Sv.rv re * Sv.rv im + Sv.rv re * Sv.rv im - Sv.rv b) * (Sv.rv re * Sv.rv im + Sv.rv re * Sv.rv im - Sv.rv b) ≤ nq a b * (1 / 281474976710656 * (1 / 281474976710656)) := by
  have na : Fl.nan a = false := by unfold Fl.nan; exact decide_eq_false (by omega)
  have nb : Fl.nan b = false := by unfold Fl.nan; exact decide_eq_false (by omega)
  unfold rooR at h
  rw [if_neg (by omega), if_neg (by omega), if_neg (by omega), if_neg (by rw [na, nb]; simp)] at h
  by_cases z : Fl.rg a = 0 ∧ Fl.rg b = 0
  · rw [if_pos z] at h
    obtain ⟨rfl, rfl⟩ := h
    have e : nq a im = 0 := by unfold nq; rw [z.1, z.2, rr_zero]; grind
    have v0 : ∀ {x : Nat}, Fl.rg x = 0 → Sv.rv x = 0 := fun h => by rw [rv_rr, h, rr_zero]; split <;> grind
    rw [v0 z.1, v0 z.2, v0 (show Fl.rg 0 = 0 by decide), e]
    exact ⟨⟨by omega, by decide⟩, ⟨hb, fb⟩, by grind⟩
  · rw [if_neg z] at h
    exact root_true ha hb fa fb (fun e => z ((big_zero na nb).1 e)) h
end Go.Proofs.Ytpfaaimfembhdaa.Rt
/-
  OWN TEXT: layer 6's law RootTrue.
-/
namespace Go.Proofs.Ytpfaaimfembhdaa
open Go.ChangeShapes Go.WideShapes Go.ChangeAt Go.RowKit
set_option linter.unusedVariables false
attribute [local go_sem] frombits_call tobits_call run_neg
open Bg
theorem frozen_bw {w w' : World} (f : Bw w w') (a : Addr) (h : a.block < w.heap.size) : w'.frozen? a = w.frozen? a := by
  unfold World.frozen?
  rw [Below.block f _ h]
theorem Hs.bw {w w' : World} {a : Option Addr} {l : List Nat} (h : Hs w a l) (f : Bw w w') : Hs w' a l := by
  rcases h with h | ⟨b, o, h1, h2, h3⟩
  · exact Or.inl h
  · exact Or.inr ⟨b, o, h1, Nat.lt_of_lt_of_le h2 (Below.size f), fun i hi => (Below.cell f (p := ⟨b, o + i, none⟩) h2).trans (h3 i hi)⟩
theorem Nm.bw {w w' : World} {v : Value} {N : Nat} (h : Nm w v N) (f : Bw w w') : Nm w' v N := by
  obtain ⟨a, l, cap, h1, h2, h3, h4, h5⟩ := h
  exact ⟨a, l, cap, h1, h2, h3, h4.bw f, h5⟩
theorem Nw.bw {w w' : World} {B : Nat} (h : Nw w B) (f : Bw w w') : Nw w' B :=
  ⟨Nat.lt_of_lt_of_le h.1 (Below.size f), fun i x => by rw [Below.cell f (p := ⟨B, i, none⟩) h.1]; exact h.2.1 i x, fun i => (frozen_bw f _ h.1).trans (h.2.2 i)⟩
theorem Rt.bw {w w' : World} {B : Nat} {s : Bool} {A D : Nat} (h : Rt w B s A D) (f : Bw w w') : Rt w' B s A D := by
  have g : ∀ i, w'.cell? ⟨B, i, none⟩ = w.cell? ⟨B, i, none⟩ := fun i => Below.cell f (p := ⟨B, i, none⟩) h.nw.1
  obtain ⟨v, h1, h2⟩ := h.c1
  obtain ⟨u, h3, h4⟩ := h.c2
  exact ⟨h.nw.bw f, (g 0).trans h.c0, ⟨v, (g 1).trans h1, h2.bw f⟩, ⟨u, (g 2).trans h3, h4.bw f⟩⟩
theorem Rf.bw {w w' : World} {B k : Nat} {r : Rat} (h : Rf w B r k) (f : Bw w w') : Rf w' B r k := by
  obtain ⟨p, q, h1, h2, s, A, D, h3, h4⟩ := h
  exact ⟨p, q, h1, h2, s, A, D, h3.bw f, h4⟩
/-- fractions that stand -/
def Lv (w0 w : World) (l : List (Nat × Rat × Nat)) : Prop := Bw w0 w ∧ ∀ p ∈ l, Rf w p.1 p.2.1 p.2.2
theorem Lv.step {w0 w w' : World} {l : List (Nat × Rat × Nat)} (h : Lv w0 w l) (b : Bw w w') : Lv w0 w' l := ⟨bw_trans h.1 b, fun p hp => (h.2 p hp).bw b⟩
theorem Lv.add {w0 w w' : World} {l : List (Nat × Rat × Nat)} (h : Lv w0 w l) (b : Bw w w') {B k : Nat} {r : Rat} (hr : Rf w' B r k) : Lv w0 w' ((B, r, k) :: l) :=
  ⟨bw_trans h.1 b, fun p hp => by
    rcases List.mem_cons.1 hp with rfl | hp
    · exact hr
    · exact (h.2 p hp).bw b⟩
theorem Lv.get {w0 w : World} {l : List (Nat × Rat × Nat)} (h : Lv w0 w l) {B k : Nat} {r : Rat} (hp : (B, r, k) ∈ l) : Rf w B r k := h.2 _ hp
theorem fr_bw {w w' : World} (h : Fr w w') : Bw w w' := h.1
theorem qcmp_ge (B C k k' : Nat) (r r' : Rat) (w : World) (hx : Rf w B r k) (hy : Rf w C r' k') (hk : k ≤ 32000000) (hk' : k' ≤ 32000000) (hr : r' ≤ r) :
    Calls Try.prog 12 #[.pointer (some ⟨B, 0, none⟩), .pointer (some ⟨C, 0, none⟩)] w fun e w' => ∃ c : Int, e = .returned (.int .i64 c) ∧ 0 ≤ c ∧ Fr w w' := by
  obtain ⟨p, q, h1, h2, h3⟩ := hx.up (Nat.le_max_left k k')
  obtain ⟨p', q', g1, g2, g3⟩ := hy.up (Nat.le_max_right k k')
  refine (rcmp_any B C p p' q q' (max k k') w h3 g3 h1 g1 (by omega)).mono ?_
  rintro e w' ⟨rfl, hf⟩
  refine ⟨_, rfl, ?_, hf⟩
  have hq : 0 ≤ (q : Rat) := Rat.natCast_nonneg
  have hq' : 0 ≤ (q' : Rat) := Rat.natCast_nonneg
  have k1 := Rat.mul_le_mul_of_nonneg_right (Rat.mul_le_mul_of_nonneg_right hr hq) hq'
  rw [show r' * (q : Rat) * (q' : Rat) = r' * (q' : Rat) * (q : Rat) by grind, g2, show r * (q : Rat) * (q' : Rat) = (r * (q : Rat)) * (q' : Rat) by grind, h2] at k1
  have k2 : ((p' * (q : Int) : Int) : Rat) ≤ ((p * (q' : Int) : Int) : Rat) := by
    rw [Rat.intCast_mul, Rat.intCast_mul, Rat.intCast_natCast, Rat.intCast_natCast]; exact k1
  have k3 := Rat.intCast_le_intCast.1 k2
  unfold crI
  split
  · omega
  · split <;> decide
theorem qsign_any (B k : Nat) (r : Rat) (b : Bool) (w : World) (hx : Rf w B r k) (hr : if b then r = 0 else 0 < r) :
    Calls Try.prog 14 #[.pointer (some ⟨B, 0, none⟩)] w fun e w' => e = .returned (.int .i64 (if b then 0 else 1)) ∧ w' = w := by
  obtain ⟨p, q, h1, h2, s, A, D, h3, h4, h5⟩ := hx
  refine (sign_any B s A D w h3).mono ?_
  rintro e w' ⟨rfl, rfl⟩
  refine ⟨?_, rfl⟩
  have hd := den_pos D
  have hqp : (0 : Rat) < (q : Rat) := by exact_mod_cast h1
  congr 2
  cases b
  · rw [if_neg (by decide)] at hr ⊢
    have k1 := Rat.mul_pos hr hqp
    rw [h2] at k1
    have k2 : 0 < p := by
      have : ((0 : Int) : Rat) < (p : Rat) := k1
      exact Rat.intCast_lt_intCast.1 this
    have k3 : 0 < p * (den D : Int) := Int.mul_pos k2 (by omega)
    rw [← h4] at k3
    have k4 : 0 < sv s A := by
      rcases Int.lt_or_le 0 (sv s A) with c | c
      · exact c
      · exfalso
        have := Int.mul_le_mul_of_nonneg_right c (show (0 : Int) ≤ (q : Int) by omega)
        omega
    unfold sv at k4
    unfold sgI
    cases s
    · rw [if_neg (by decide)] at k4
      rw [if_neg (by omega), if_neg (by decide)]
    · rw [if_pos rfl] at k4
      omega
  · rw [if_pos rfl] at hr ⊢
    rw [hr, Rat.zero_mul] at h2
    have k2 : p = 0 := by
      have : ((0 : Int) : Rat) = (p : Rat) := h2
      exact (Rat.intCast_inj.1 this).symm
    rw [k2, Int.zero_mul] at h4
    have k4 : sv s A = 0 := by
      rcases Int.mul_eq_zero.1 h4 with c | c
      · exact c
      · omega
    unfold sv at k4
    unfold sgI
    rw [if_pos (by cases s <;> simp at k4 <;> omega)]
theorem nq_rv (x y : Nat) : Rt.nq x y = Sv.rv x * Sv.rv x + Sv.rv y * Sv.rv y := by
  rw [Rt.rv_rr, Rt.rv_rr]
  unfold Rt.nq
  cases Fl.sg x <;> cases Fl.sg y <;> simp <;> grind
theorem vl_48 : (Fl.vl 4391009636686233600 * 281474976710656 : Nat) = 2 ^ 1074 := by decide +kernel
theorem rv_48 : Sv.rv 4391009636686233600 = 1 / 281474976710656 := by
  rw [rv_rung (by omega)]
  unfold Rt.rr
  have h : ((Fl.vl 4391009636686233600 * 281474976710656 : Nat) : Rat) = ((2 ^ 1074 : Nat) : Rat) := by rw [vl_48]
  rw [Rt.nat_mul] at h
  have u := Sv.en_unit
  rw [← h] at u
  have c : ((281474976710656 : Nat) : Rat) = 281474976710656 := rfl
  rw [c] at u
  generalize (Fl.vl 4391009636686233600 : Rat) = v at *
  grind

set_option maxHeartbeats 8000000 in
set_option maxRecDepth 100000 in
theorem roottrue_any (x y : Nat) (w : World) (hx : x < 18446744073709551616) (hy : y < 18446744073709551616) : Calls Try.prog 3 #[.agg #[.int .u64 (x : Int), .int .u64 (y : Int)]] w fun e w' => e = .returned (.bool true) ∧ Below w.heap.size w w' := by
  have FX : Hid (∀ wz, Calls Try.prog 6 #[.float .f64 x] wz fun e w' => e = .returned (.bool (Fl.finB x)) ∧ w' = wz) := fun wz => finite6 x wz hx
  have FY : Hid (∀ wz, Calls Try.prog 6 #[.float .f64 y] wz fun e w' => e = .returned (.bool (Fl.finB y)) ∧ w' = wz) := fun wz => finite6 y wz hy
  go_enter Try.func3, Try.ntmps3
  go_wp2_with fail
  have g0 : Bw w (w.alloc (.cells #[.int .u64 (x : Int), .int .u64 (y : Int)] 24)) := Below.alloc (Bw.refl w) (Nat.le_refl _) _
  have c0 : (w.alloc (.cells #[.int .u64 (x : Int), .int .u64 (y : Int)] 24)).cell? ⟨w.heap.size, 0, none⟩ = some (.int .u64 (x : Int)) := by simp
  have c1 : (w.alloc (.cells #[.int .u64 (x : Int), .int .u64 (y : Int)] 24)).cell? ⟨w.heap.size, 1, none⟩ = some (.int .u64 (y : Int)) := by simp
  have hs : w.heap.size < (w.alloc (.cells #[.int .u64 (x : Int), .int .u64 (y : Int)] 24)).heap.size := by simp
  generalize w.alloc (.cells #[.int .u64 (x : Int), .int .u64 (y : Int)] 24) = W at *
  obtain ⟨B, hB⟩ : ∃ B, B = w.heap.size := ⟨_, rfl⟩
  rw [← hB] at c0 c1 hs
  refine (awake6_any _).mono ?_
  rintro e w1 ⟨rfl, b⟩
  have d0 := (Below.cell b (p := ⟨B, 0, none⟩) hs).trans c0
  have d1 := (Below.cell b (p := ⟨B, 1, none⟩) hs).trans c1
  have G := bw_trans g0 b
  clear b g0 c0 c1 hs
  rw [← hB]
  have HBB : Hid (B = w.heap.size) := hB
  clear hB
  go_wp2_with fail
  refine (number6m_any x y _).mono ?_
  rintro e w1b ⟨rfl, b⟩
  replace G := bw_trans G b
  clear b d0 d1
  by_cases fx : Fl.rg x < 9218868437227405312
  case neg =>
    have q : Fl.finB x = false := decide_eq_false fx
    rw [q] at FX
    go_wp2_with fail
    refine (FX.out _).mono ?_
    rintro e w2 ⟨rfl, rfl⟩
    go_wp2
    go_ret
    exact ⟨rfl, G⟩
  have qx : Fl.finB x = true := decide_eq_true fx
  rw [qx] at FX
  by_cases fy : Fl.rg y < 9218868437227405312
  case neg =>
    have q : Fl.finB y = false := decide_eq_false fy
    rw [q] at FY
    go_wp2_with fail
    refine (FX.out _).mono ?_
    rintro e w2 ⟨rfl, rfl⟩
    go_wp2_with fail
    refine (FY.out _).mono ?_
    rintro e w2 ⟨rfl, rfl⟩
    go_wp2
    go_ret
    exact ⟨rfl, G⟩
  have qy : Fl.finB y = true := decide_eq_true fy
  rw [qy] at FY
  have XX := Sv.hid (And.intro fx fy)
  have XB := Sv.hid (And.intro hx hy)
  clear qx qy fx fy hx hy
  go_wp2_with fail
  refine (FX.out _).mono ?_
  rintro e wq ⟨rfl, hq⟩
  subst hq
  go_wp2_with fail
  refine (FY.out _).mono ?_
  rintro e wr ⟨rfl, hq⟩
  subst hq
  clear FX FY
  go_wp2_with fail
  refine (fraction6 x _ ⟨XB.out.1, XX.out.1⟩).mono ?_
  rintro e w2 ⟨Bx, rfl, R, l, f⟩
  have S : Hid (Lv w w2 [(Bx, Sv.rv x, 2200)]) := Lv.add (l := []) ⟨G, fun p hp => by cases hp⟩ (fr_bw f) R
  clear R l f G
  go_wp2_with fail
  refine (fraction6 y _ ⟨XB.out.2, XX.out.2⟩).mono ?_
  rintro e w3 ⟨By, rfl, R, l, f⟩
  replace S : Hid (Lv w w3 [(By, Sv.rv y, 2200), (Bx, Sv.rv x, 2200)]) := S.out.add (fr_bw f) R
  clear R l f
  go_wp2_with fail
  refine (norm6 Bx By 2200 2200 (Sv.rv x) (Sv.rv y) _ (S.out.get (by simp)) (S.out.get (by simp)) (by omega) (by omega)).mono ?_
  rintro e w4 ⟨Bn, rfl, R, l, f⟩
  rw [← nq_rv] at R
  replace S : Hid (Lv w w4 [(Bn, Rt.nq x y, 8806), (By, Sv.rv y, 2200), (Bx, Sv.rv x, 2200)]) := S.out.add (fr_bw f) R
  clear R l f
  go_wp2_with fail
  refine (length_any x y _ XB.out.1 XB.out.2).mono ?_
  rintro e w5 ⟨l, rfl, h1, b⟩
  obtain ⟨k1, k2, k3, k4⟩ := Rt.len_law XB.out.1 XB.out.2 XX.out.1 XX.out.2 h1
  replace S : Hid (Lv w w5 _) := S.out.step b
  clear h1 b
  have K3 := Sv.hid k3
  have FL : Hid (∀ wz, Calls Try.prog 6 #[.float .f64 l] wz fun e w' => e = .returned (.bool (decide (l < 9218868437227405312))) ∧ w' = wz) := fun wz => by
    have := finite6 l wz (by omega)
    have e : Fl.finB l = decide (l < 9218868437227405312) := by unfold Fl.finB; rw [(rg_rung k1).1]
    rw [e] at this
    exact this
  by_cases cl : l < 9218868437227405312
  · obtain ⟨k5, k6⟩ := k4 cl
    rw [if_pos cl] at k2
    have K2 := Sv.hid k2
    have K5 := Sv.hid k5
    have HL := Sv.hid cl
    rw [decide_eq_true cl] at FL
    obtain ⟨z, hz, hz2⟩ : ∃ z : Bool, z = decide (l = 0) ∧ (if z then Rt.nq x y = 0 else 0 < Rt.nq x y) := by
      rcases k6 with ⟨q1, q2⟩ | ⟨q1, q2⟩
      · exact ⟨true, by rw [decide_eq_true q1], by simpa using q2⟩
      · exact ⟨false, by rw [decide_eq_false q1], by simpa using q2⟩
    have g := Fl.o_eq l 0
    rw [Fl.eqF_of (nan_rung k1) (by decide), key_rung k1, show Fl.key 0 = 0 by decide, show decide ((l : Int) = 0) = decide (l = 0) from decide_eq_decide.2 (by omega), ← hz] at g
    have HZ := Sv.hid hz2
    clear k1 k2 k3 k4 k5 k6 hz hz2 cl
    go_wp2_with fail
    refine (FL.out _).mono ?_
    rintro e wq ⟨rfl, hq⟩
    subst hq
    clear FL
    go_wp2_with fail
    refine (under6 HL.out _).mono ?_
    rintro e w6 ⟨Bd, rfl, R, lq, f⟩
    replace S := Sv.hid (S.out.add (fr_bw f) R)
    clear R lq f
    go_wp2_with fail
    refine (square6 Bd 2200 (Rt.rr (l - 4)) _ (S.out.get (by simp)) (by omega)).mono ?_
    rintro e w7 ⟨Bd2, rfl, R, lq, f⟩
    replace S := Sv.hid (S.out.add (fr_bw f) R)
    clear R lq f
    go_wp2_with fail
    refine (qcmp_any Bd2 Bn 4402 8806 (Rt.rr (l - 4) * Rt.rr (l - 4)) (Rt.nq x y) _ (S.out.get (by simp)) (S.out.get (by simp)) (by omega) (by omega) K2.out).mono ?_
    rintro e w7b ⟨c, rfl, hc, f⟩
    replace S := Sv.hid (S.out.step (fr_bw f))
    clear f
    go_wp2_with fail
    refine (above6 HL.out _).mono ?_
    rintro e w7c ⟨Be, rfl, R, lq, f⟩
    replace S := Sv.hid (S.out.add (fr_bw f) R)
    clear R lq f
    go_wp2_with fail
    refine (square6 Be 2266 _ _ (S.out.get (List.mem_cons_self ..)) (by omega)).mono ?_
    rintro e w7d ⟨Be2, rfl, R, lq, f⟩
    replace S := Sv.hid (S.out.add (fr_bw f) R)
    clear R lq f
    go_wp2_with fail
    refine (qcmp_ge Be2 Bn 4534 8806 _ (Rt.nq x y) _ (S.out.get (List.mem_cons_self ..)) (S.out.get (by simp)) (by omega) (by omega) K5.out).mono ?_
    rintro e w7e ⟨c2, rfl, hc2, f⟩
    replace S := Sv.hid (S.out.step (fr_bw f))
    clear f
    go_wp2_with fail
    refine (qsign_any Bn 8806 (Rt.nq x y) z _ (S.out.get (by simp)) HZ.out).mono ?_
    rintro e wq ⟨rfl, hq⟩
    subst hq
    clear HZ K2 K5 HL
    cases z
    all_goals
      simp only [Bool.false_eq_true, if_false, if_true]
      go_wp2_with fail
      refine (root_any6 x y _ XB.out.1 XB.out.2).mono ?_
      rintro e w8 ⟨re, im, rfl, h1, b⟩
      have RL := Sv.hid (Rt.root_law XB.out.1 XB.out.2 XX.out.1 XX.out.2 h1)
      replace S : Hid (Lv w w8 _) := S.out.step b
      clear h1 b
      have FR : Hid (∀ wz, Calls Try.prog 6 #[.float .f64 re] wz fun e w' => e = .returned (.bool true) ∧ w' = wz) := fun wz => by
        have := finite6 re wz RL.out.1.1
        rw [RL.out.1.fin] at this
        exact this
      have FM : Hid (∀ wz, Calls Try.prog 6 #[.float .f64 im] wz fun e w' => e = .returned (.bool true) ∧ w' = wz) := fun wz => by
        have := finite6 im wz RL.out.2.1.1
        rw [RL.out.2.1.fin] at this
        exact this
      go_wp2_with fail
      refine (FR.out _).mono ?_
      rintro e wq ⟨rfl, hq⟩
      subst hq
      go_wp2_with fail
      refine (FM.out _).mono ?_
      rintro e wr ⟨rfl, hq⟩
      subst hq
      clear FR FM
      go_wp2_with fail
      refine (fraction6 re _ RL.out.1).mono ?_
      rintro e w9 ⟨Bu, rfl, R, lq, f⟩
      replace S := Sv.hid (S.out.add (fr_bw f) R)
      clear R lq f
      go_wp2_with fail
      refine (fraction6 im _ RL.out.2.1).mono ?_
      rintro e w10 ⟨Bv, rfl, R, lq, f⟩
      replace S := Sv.hid (S.out.add (fr_bw f) R)
      clear R lq f
      -- the first part's difference
      have hm := rt_mk w10
      have hF : Fr w10 (w10.alloc (.cells #[.bool false, .slice none 0 0, .slice none 0 0] 43)) := (Fr.refl w10).alloc _ _
      obtain ⟨D1, hB⟩ : ∃ B, B = w10.heap.size := ⟨_, rfl⟩
      have HD1 : Hid (D1 = w10.heap.size) := hB
      rw [← hB] at hm
      clear hB
      go_wp2_with fail
      rw [← HD1.out]
      generalize w10.alloc (.cells #[.bool false, .slice none 0 0, .slice none 0 0] 43) = w11 at *
      have HM := Sv.hid (And.intro hm hF)
      clear hm hF
      refine (square6 Bu 2200 (Sv.rv re) _ ((S.out.step (fr_bw HM.out.2)).get (by simp)) (by omega)).mono ?_
      rintro e w12 ⟨B1, rfl, R, lq, f⟩
      have H1 := Sv.hid (And.intro R f)
      clear R lq f
      go_wp2_with fail
      refine (square6 Bv 2200 (Sv.rv im) _ ((S.out.step (fr_bw (HM.out.2.trans H1.out.2))).get (by simp)) (by omega)).mono ?_
      rintro e w13 ⟨B2, rfl, R, lq, f⟩
      have H2 := Sv.hid (And.intro R f)
      clear R lq f
      go_wp2_with fail
      refine (qsub_any D1 B1 B2 4402 4402 (Sv.rv re * Sv.rv re) (Sv.rv im * Sv.rv im) _ _ _ _ (HM.out.1.mono (H1.out.2.trans H2.out.2)) (H1.out.1.mono H2.out.2) H2.out.1 (by omega)).mono ?_
      rintro e w14 hsf
      obtain ⟨rfl, hrv, hsv⟩ := hsf
      have hfr : Fr w10 w14 := by
        obtain ⟨w5, s, x, d, h1, rfl⟩ := hsv
        exact (((HM.out.2.trans H1.out.2).trans H2.out.2).trans h1).st (by have := HD1.out; omega) _ _ _
      have H3 := Sv.hid (And.intro hrv hfr)
      clear hsv hrv hfr H1 H2 HM
      obtain ⟨s3, A3, E3, t3⟩ := H3.out.1.rt
      have T3 := Sv.hid t3
      clear t3
      go_wp2_with fail
      refine (qsub_any D1 D1 Bx 8806 2200 (Sv.rv re * Sv.rv re - Sv.rv im * Sv.rv im) (Sv.rv x) _ _ _ _ T3.out H3.out.1 ((S.out.step (fr_bw H3.out.2)).get (by simp)) (by omega)).mono ?_
      rintro e w15 hsf
      obtain ⟨rfl, hrv, hsv⟩ := hsf
      have hfr : Fr w10 w15 := by
        obtain ⟨w5, s, x, d, h1, rfl⟩ := hsv
        exact (H3.out.2.trans h1).st (by have := HD1.out; omega) _ _ _
      replace S := Sv.hid (S.out.add (fr_bw hfr) hrv)
      clear hsv hrv hfr H3 T3 HD1
      -- the other part's
      have hm := rt_mk w15
      have hF : Fr w15 (w15.alloc (.cells #[.bool false, .slice none 0 0, .slice none 0 0] 43)) := (Fr.refl w15).alloc _ _
      obtain ⟨D2, hB⟩ : ∃ B, B = w15.heap.size := ⟨_, rfl⟩
      have HD2 : Hid (D2 = w15.heap.size) := hB
      rw [← hB] at hm
      clear hB
      have hne : Hid (Bv ≠ D2) := by
        have q : Rf w15 Bv (Sv.rv im) 2200 := S.out.get (by simp)
        have := q.lt
        have := HD2.out
        intro e
        omega
      go_wp2_with fail
      rw [← HD2.out]
      generalize w15.alloc (.cells #[.bool false, .slice none 0 0, .slice none 0 0] 43) = w16 at *
      have HM := Sv.hid (And.intro hm hF)
      clear hm hF
      refine (qmul_any D2 Bu Bv 2200 2200 (Sv.rv re) (Sv.rv im) _ _ _ _ HM.out.1 ((S.out.step (fr_bw HM.out.2)).get (by simp)) ((S.out.step (fr_bw HM.out.2)).get (by simp)) hne.out (by omega)).mono ?_
      rintro e w17 hsf
      obtain ⟨rfl, hrv, hsv⟩ := hsf
      have hfr : Fr w15 w17 := by
        obtain ⟨w5, s, x, d, h1, rfl⟩ := hsv
        exact (HM.out.2.trans h1).st (by have := HD2.out; omega) _ _ _
      have H3 := Sv.hid (And.intro hrv hfr)
      clear hsv hrv hfr HM hne
      obtain ⟨s3, A3, E3, t3⟩ := H3.out.1.rt
      have T3 := Sv.hid t3
      clear t3
      go_wp2_with fail
      refine (qadd_any D2 D2 D2 4402 4402 (Sv.rv re * Sv.rv im) (Sv.rv re * Sv.rv im) _ _ _ _ T3.out H3.out.1 H3.out.1 (by omega)).mono ?_
      rintro e w18 hsf
      obtain ⟨rfl, hrv, hsv⟩ := hsf
      have hfr : Fr w15 w18 := by
        obtain ⟨w5, s, x, d, h1, rfl⟩ := hsv
        exact (H3.out.2.trans h1).st (by have := HD2.out; omega) _ _ _
      have H4 := Sv.hid (And.intro hrv hfr)
      clear hsv hrv hfr H3 T3
      obtain ⟨s3, A3, E3, t3⟩ := H4.out.1.rt
      have T3 := Sv.hid t3
      clear t3
      go_wp2_with fail
      refine (qsub_any D2 D2 By 8806 2200 (Sv.rv re * Sv.rv im + Sv.rv re * Sv.rv im) (Sv.rv y) _ _ _ _ T3.out H4.out.1 ((S.out.step (fr_bw H4.out.2)).get (by simp)) (by omega)).mono ?_
      rintro e w19 hsf
      obtain ⟨rfl, hrv, hsv⟩ := hsf
      have hfr : Fr w15 w19 := by
        obtain ⟨w5, s, x, d, h1, rfl⟩ := hsv
        exact (H4.out.2.trans h1).st (by have := HD2.out; omega) _ _ _
      replace S := Sv.hid (S.out.add (fr_bw hfr) hrv)
      clear hsv hrv hfr H4 T3 HD2
      -- the bound
      have hm := rt_mk w19
      have hF : Fr w19 (w19.alloc (.cells #[.bool false, .slice none 0 0, .slice none 0 0] 43)) := (Fr.refl w19).alloc _ _
      obtain ⟨D3, hB⟩ : ∃ B, B = w19.heap.size := ⟨_, rfl⟩
      have HD3 : Hid (D3 = w19.heap.size) := hB
      rw [← hB] at hm
      clear hB
      go_wp2_with fail
      rw [← HD3.out]
      generalize w19.alloc (.cells #[.bool false, .slice none 0 0, .slice none 0 0] 43) = w20 at *
      have HM := Sv.hid (And.intro hm hF)
      clear hm hF
      refine (fraction6 4391009636686233600 _ ⟨by decide, by decide⟩).mono ?_
      rintro e w21 ⟨B1, rfl, R, lq, f⟩
      have H1 := Sv.hid (And.intro R f)
      clear R lq f
      go_wp2_with fail
      refine (square6 B1 2200 _ _ H1.out.1 (by omega)).mono ?_
      rintro e w22 ⟨B2, rfl, R, lq, f⟩
      have hne : Hid (B2 ≠ D3) := by
        have q := HM.out.1.nw.1
        have q2 := H1.out.2.1.size
        intro e
        omega
      have H2 := Sv.hid (And.intro R f)
      clear R lq f
      go_wp2_with fail
      refine (qmul_any D3 Bn B2 8806 4402 (Rt.nq x y) _ _ _ _ _ (HM.out.1.mono (H1.out.2.trans H2.out.2)) ((S.out.step (fr_bw (HM.out.2.trans (H1.out.2.trans H2.out.2)))).get (by simp)) H2.out.1 hne.out (by omega)).mono ?_
      rintro e w23 hsf
      obtain ⟨rfl, hrv, hsv⟩ := hsf
      have hfr : Fr w19 w23 := by
        obtain ⟨w5, s, x, d, h1, rfl⟩ := hsv
        exact (((HM.out.2.trans H1.out.2).trans H2.out.2).trans h1).st (by have := HD3.out; omega) _ _ _
      replace S := Sv.hid (S.out.add (fr_bw hfr) hrv)
      clear hsv hrv hfr H1 H2 HM hne HD3
      go_wp2_with fail
      refine (norm6 D1 D2 11008 11008 (Sv.rv re * Sv.rv re - Sv.rv im * Sv.rv im - Sv.rv x) (Sv.rv re * Sv.rv im + Sv.rv re * Sv.rv im - Sv.rv y) _ (S.out.get (by simp)) (S.out.get (by simp)) (by omega) (by omega)).mono ?_
      rintro e w24 ⟨B1, rfl, R, lq, f⟩
      replace S := Sv.hid (S.out.add (fr_bw f) R)
      clear R lq f
      have c48 : Sv.rv 4391009636686233600 = 1 / 281474976710656 := rv_48
      go_wp2_with fail
      refine (qcmp_any B1 D3 _ _ _ _ _ (S.out.get (List.mem_cons_self ..)) (S.out.get (List.mem_cons_of_mem _ (List.mem_cons_self ..))) (by omega) (by omega) (by rw [c48]; exact RL.out.2.2)).mono ?_
      rintro e w25 ⟨c, rfl, hc, f⟩
      have GG : Hid (Below w.heap.size w w25) := (S.out.step (fr_bw f)).1
      clear f S RL c48
      go_wp2
      go_ret
      exact ⟨rfl, GG.out⟩
  · rw [if_neg cl] at k2
    have K2 := Sv.hid k2
    rw [decide_eq_false cl] at FL
    clear k1 k2 k3 k4 cl
    go_wp2_with fail
    refine (FL.out _).mono ?_
    rintro e wq ⟨rfl, hq⟩
    subst hq
    clear FL
    go_wp2_with fail
    refine (under6 (t := 9218868437227405311) (by omega) _).mono ?_
    rintro e w6 ⟨Bd, rfl, R, lq, f⟩
    replace S := Sv.hid (S.out.add (fr_bw f) R)
    clear R lq f
    go_wp2_with fail
    refine (square6 Bd 2200 (Rt.rr (9218868437227405311 - 4)) _ (S.out.get (by simp)) (by omega)).mono ?_
    rintro e w7 ⟨Bd2, rfl, R, lq, f⟩
    replace S := Sv.hid (S.out.add (fr_bw f) R)
    clear R lq f
    go_wp2_with fail
    refine (qcmp_any Bd2 Bn 4402 8806 (Rt.rr (9218868437227405311 - 4) * Rt.rr (9218868437227405311 - 4)) (Rt.nq x y) _ (S.out.get (by simp)) (S.out.get (by simp)) (by omega) (by omega) K2.out).mono ?_
    rintro e w7b ⟨c, rfl, hc, f⟩
    replace S := Sv.hid (S.out.step (fr_bw f))
    clear f K2
    go_wp2_with fail
    refine (root_any6 x y _ XB.out.1 XB.out.2).mono ?_
    rintro e w8 ⟨re, im, rfl, h1, b⟩
    have RL := Sv.hid (Rt.root_law XB.out.1 XB.out.2 XX.out.1 XX.out.2 h1)
    replace S : Hid (Lv w w8 _) := S.out.step b
    clear h1 b
    have FR : Hid (∀ wz, Calls Try.prog 6 #[.float .f64 re] wz fun e w' => e = .returned (.bool true) ∧ w' = wz) := fun wz => by
      have := finite6 re wz RL.out.1.1
      rw [RL.out.1.fin] at this
      exact this
    have FM : Hid (∀ wz, Calls Try.prog 6 #[.float .f64 im] wz fun e w' => e = .returned (.bool true) ∧ w' = wz) := fun wz => by
      have := finite6 im wz RL.out.2.1.1
      rw [RL.out.2.1.fin] at this
      exact this
    go_wp2_with fail
    refine (FR.out _).mono ?_
    rintro e wq ⟨rfl, hq⟩
    subst hq
    go_wp2_with fail
    refine (FM.out _).mono ?_
    rintro e wr ⟨rfl, hq⟩
    subst hq
    clear FR FM
    go_wp2_with fail
    refine (fraction6 re _ RL.out.1).mono ?_
    rintro e w9 ⟨Bu, rfl, R, lq, f⟩
    replace S := Sv.hid (S.out.add (fr_bw f) R)
    clear R lq f
    go_wp2_with fail
    refine (fraction6 im _ RL.out.2.1).mono ?_
    rintro e w10 ⟨Bv, rfl, R, lq, f⟩
    replace S := Sv.hid (S.out.add (fr_bw f) R)
    clear R lq f
    -- the first part's difference
    have hm := rt_mk w10
    have hF : Fr w10 (w10.alloc (.cells #[.bool false, .slice none 0 0, .slice none 0 0] 43)) := (Fr.refl w10).alloc _ _
    obtain ⟨D1, hB⟩ : ∃ B, B = w10.heap.size := ⟨_, rfl⟩
    have HD1 : Hid (D1 = w10.heap.size) := hB
    rw [← hB] at hm
    clear hB
    go_wp2_with fail
    rw [← HD1.out]
    generalize w10.alloc (.cells #[.bool false, .slice none 0 0, .slice none 0 0] 43) = w11 at *
    have HM := Sv.hid (And.intro hm hF)
    clear hm hF
    refine (square6 Bu 2200 (Sv.rv re) _ ((S.out.step (fr_bw HM.out.2)).get (by simp)) (by omega)).mono ?_
    rintro e w12 ⟨B1, rfl, R, lq, f⟩
    have H1 := Sv.hid (And.intro R f)
    clear R lq f
    go_wp2_with fail
    refine (square6 Bv 2200 (Sv.rv im) _ ((S.out.step (fr_bw (HM.out.2.trans H1.out.2))).get (by simp)) (by omega)).mono ?_
    rintro e w13 ⟨B2, rfl, R, lq, f⟩
    have H2 := Sv.hid (And.intro R f)
    clear R lq f
    go_wp2_with fail
    refine (qsub_any D1 B1 B2 4402 4402 (Sv.rv re * Sv.rv re) (Sv.rv im * Sv.rv im) _ _ _ _ (HM.out.1.mono (H1.out.2.trans H2.out.2)) (H1.out.1.mono H2.out.2) H2.out.1 (by omega)).mono ?_
    rintro e w14 hsf
    obtain ⟨rfl, hrv, hsv⟩ := hsf
    have hfr : Fr w10 w14 := by
      obtain ⟨w5, s, x, d, h1, rfl⟩ := hsv
      exact (((HM.out.2.trans H1.out.2).trans H2.out.2).trans h1).st (by have := HD1.out; omega) _ _ _
    have H3 := Sv.hid (And.intro hrv hfr)
    clear hsv hrv hfr H1 H2 HM
    obtain ⟨s3, A3, E3, t3⟩ := H3.out.1.rt
    have T3 := Sv.hid t3
    clear t3
    go_wp2_with fail
    refine (qsub_any D1 D1 Bx 8806 2200 (Sv.rv re * Sv.rv re - Sv.rv im * Sv.rv im) (Sv.rv x) _ _ _ _ T3.out H3.out.1 ((S.out.step (fr_bw H3.out.2)).get (by simp)) (by omega)).mono ?_
    rintro e w15 hsf
    obtain ⟨rfl, hrv, hsv⟩ := hsf
    have hfr : Fr w10 w15 := by
      obtain ⟨w5, s, x, d, h1, rfl⟩ := hsv
      exact (H3.out.2.trans h1).st (by have := HD1.out; omega) _ _ _
    replace S := Sv.hid (S.out.add (fr_bw hfr) hrv)
    clear hsv hrv hfr H3 T3 HD1
    -- the other part's
    have hm := rt_mk w15
    have hF : Fr w15 (w15.alloc (.cells #[.bool false, .slice none 0 0, .slice none 0 0] 43)) := (Fr.refl w15).alloc _ _
    obtain ⟨D2, hB⟩ : ∃ B, B = w15.heap.size := ⟨_, rfl⟩
    have HD2 : Hid (D2 = w15.heap.size) := hB
    rw [← hB] at hm
    clear hB
    have hne : Hid (Bv ≠ D2) := by
      have q : Rf w15 Bv (Sv.rv im) 2200 := S.out.get (by simp)
      have := q.lt
      have := HD2.out
      intro e
      omega
    go_wp2_with fail
    rw [← HD2.out]
    generalize w15.alloc (.cells #[.bool false, .slice none 0 0, .slice none 0 0] 43) = w16 at *
    have HM := Sv.hid (And.intro hm hF)
    clear hm hF
    refine (qmul_any D2 Bu Bv 2200 2200 (Sv.rv re) (Sv.rv im) _ _ _ _ HM.out.1 ((S.out.step (fr_bw HM.out.2)).get (by simp)) ((S.out.step (fr_bw HM.out.2)).get (by simp)) hne.out (by omega)).mono ?_
    rintro e w17 hsf
    obtain ⟨rfl, hrv, hsv⟩ := hsf
    have hfr : Fr w15 w17 := by
      obtain ⟨w5, s, x, d, h1, rfl⟩ := hsv
      exact (HM.out.2.trans h1).st (by have := HD2.out; omega) _ _ _
    have H3 := Sv.hid (And.intro hrv hfr)
    clear hsv hrv hfr HM hne
    obtain ⟨s3, A3, E3, t3⟩ := H3.out.1.rt
    have T3 := Sv.hid t3
    clear t3
    go_wp2_with fail
    refine (qadd_any D2 D2 D2 4402 4402 (Sv.rv re * Sv.rv im) (Sv.rv re * Sv.rv im) _ _ _ _ T3.out H3.out.1 H3.out.1 (by omega)).mono ?_
    rintro e w18 hsf
    obtain ⟨rfl, hrv, hsv⟩ := hsf
    have hfr : Fr w15 w18 := by
      obtain ⟨w5, s, x, d, h1, rfl⟩ := hsv
      exact (H3.out.2.trans h1).st (by have := HD2.out; omega) _ _ _
    have H4 := Sv.hid (And.intro hrv hfr)
    clear hsv hrv hfr H3 T3
    obtain ⟨s3, A3, E3, t3⟩ := H4.out.1.rt
    have T3 := Sv.hid t3
    clear t3
    go_wp2_with fail
    refine (qsub_any D2 D2 By 8806 2200 (Sv.rv re * Sv.rv im + Sv.rv re * Sv.rv im) (Sv.rv y) _ _ _ _ T3.out H4.out.1 ((S.out.step (fr_bw H4.out.2)).get (by simp)) (by omega)).mono ?_
    rintro e w19 hsf
    obtain ⟨rfl, hrv, hsv⟩ := hsf
    have hfr : Fr w15 w19 := by
      obtain ⟨w5, s, x, d, h1, rfl⟩ := hsv
      exact (H4.out.2.trans h1).st (by have := HD2.out; omega) _ _ _
    replace S := Sv.hid (S.out.add (fr_bw hfr) hrv)
    clear hsv hrv hfr H4 T3 HD2
    -- the bound
    have hm := rt_mk w19
    have hF : Fr w19 (w19.alloc (.cells #[.bool false, .slice none 0 0, .slice none 0 0] 43)) := (Fr.refl w19).alloc _ _
    obtain ⟨D3, hB⟩ : ∃ B, B = w19.heap.size := ⟨_, rfl⟩
    have HD3 : Hid (D3 = w19.heap.size) := hB
    rw [← hB] at hm
    clear hB
    go_wp2_with fail
    rw [← HD3.out]
    generalize w19.alloc (.cells #[.bool false, .slice none 0 0, .slice none 0 0] 43) = w20 at *
    have HM := Sv.hid (And.intro hm hF)
    clear hm hF
    refine (fraction6 4391009636686233600 _ ⟨by decide, by decide⟩).mono ?_
    rintro e w21 ⟨B1, rfl, R, lq, f⟩
    have H1 := Sv.hid (And.intro R f)
    clear R lq f
    go_wp2_with fail
    refine (square6 B1 2200 _ _ H1.out.1 (by omega)).mono ?_
    rintro e w22 ⟨B2, rfl, R, lq, f⟩
    have hne : Hid (B2 ≠ D3) := by
      have q := HM.out.1.nw.1
      have q2 := H1.out.2.1.size
      intro e
      omega
    have H2 := Sv.hid (And.intro R f)
    clear R lq f
    go_wp2_with fail
    refine (qmul_any D3 Bn B2 8806 4402 (Rt.nq x y) _ _ _ _ _ (HM.out.1.mono (H1.out.2.trans H2.out.2)) ((S.out.step (fr_bw (HM.out.2.trans (H1.out.2.trans H2.out.2)))).get (by simp)) H2.out.1 hne.out (by omega)).mono ?_
    rintro e w23 hsf
    obtain ⟨rfl, hrv, hsv⟩ := hsf
    have hfr : Fr w19 w23 := by
      obtain ⟨w5, s, x, d, h1, rfl⟩ := hsv
      exact (((HM.out.2.trans H1.out.2).trans H2.out.2).trans h1).st (by have := HD3.out; omega) _ _ _
    replace S := Sv.hid (S.out.add (fr_bw hfr) hrv)
    clear hsv hrv hfr H1 H2 HM hne HD3
    go_wp2_with fail
    refine (norm6 D1 D2 11008 11008 (Sv.rv re * Sv.rv re - Sv.rv im * Sv.rv im - Sv.rv x) (Sv.rv re * Sv.rv im + Sv.rv re * Sv.rv im - Sv.rv y) _ (S.out.get (by simp)) (S.out.get (by simp)) (by omega) (by omega)).mono ?_
    rintro e w24 ⟨B1, rfl, R, lq, f⟩
    replace S := Sv.hid (S.out.add (fr_bw f) R)
    clear R lq f
    have c48 : Sv.rv 4391009636686233600 = 1 / 281474976710656 := rv_48
    go_wp2_with fail
    refine (qcmp_any B1 D3 _ _ _ _ _ (S.out.get (List.mem_cons_self ..)) (S.out.get (List.mem_cons_of_mem _ (List.mem_cons_self ..))) (by omega) (by omega) (by rw [c48]; exact RL.out.2.2)).mono ?_
    rintro e w25 ⟨c, rfl, hc, f⟩
    have GG : Hid (Below w.heap.size w w25) := (S.out.step (fr_bw f)).1
    clear f S RL c48
    go_wp2
    go_ret
    exact ⟨rfl, GG.out⟩
end Go.Proofs.Ytpfaaimfembhdaa
