/-
  OWN TEXT: what Whole of the reference returns, for every float.
-/
import Derived.Test.YtdfepflfmmmnpaaGreatDoorJnAp
namespace Go.Proofs.YtdfepflfmmmnpaaGreatDoor
open Go.ChangeShapes Go.WideShapes Go.ChangeAt Go.RowKit
set_option linter.unusedVariables false
attribute [local go_sem] frombits_call tobits_call run_neg
/-- whether it is too great for a part behind the point -/
theorem great_tests (x : Nat) (hx : x < 18446744073709551616) (hn : Fl.nan x = false) :
    Fl.leF 4841369599423283200 x = (!Fl.sg x && decide (4841369599423283200 ≤ Fl.rg x)) ∧ Fl.leF x 14064741636278059008 = (Fl.sg x && decide (4841369599423283200 ≤ Fl.rg x)) ∧ (¬ Fl.rg x = 0 → Fl.ltF x 0 = Fl.sg x) := by
  have hl := Fl.nan_le hn
  have hk := Fl.key_wd (Fl.sg x) (Fl.rg x) (by omega)
  rw [Fl.wd_self hx] at hk
  unfold Fl.leF Fl.ltF
  rw [hn, hk, show Fl.nan 4841369599423283200 = false from by decide, show Fl.nan 14064741636278059008 = false from by decide, show Fl.nan 0 = false from by decide, show Fl.key 4841369599423283200 = 4841369599423283200 from by decide, show Fl.key 14064741636278059008 = -4841369599423283200 from by decide, show Fl.key 0 = 0 from by decide]
  cases Fl.sg x
  · simp only [Bool.not_false, Bool.true_and, Bool.false_and, Bool.false_eq_true, if_false, decide_eq_false_iff_not, decide_eq_decide]
    refine ⟨?_, ?_, ?_⟩ <;> omega
  · simp only [Bool.not_false, Bool.not_true, Bool.true_and, Bool.false_and, if_true, decide_eq_false_iff_not, decide_eq_decide, decide_eq_true_eq]
    refine ⟨?_, ?_, ?_⟩ <;> omega
/-- what is not changed by being made whole -/
theorem wh_stay (x c : Nat) (hc : c = 1074) (hx : x < 18446744073709551616) (hn : Fl.nan x = false) (h : Fl.rg x = 0 ∨ 4841369599423283200 ≤ Fl.rg x) : Fl.whF x = x := by
  by_cases hi : Fl.rg x < 9218868437227405312
  · rw [Fl.whF_fin c hc hi]
    rcases h with h | h
    · rw [h, show Fl.vl 0 = 0 by decide, show Fl.rne 0 c = 0 by unfold Fl.rne; simp, Nat.zero_mul, show Fl.rq 0 0 = 0 from rfl]
      have := Fl.wd_self hx
      rw [h] at this
      exact this
    · have hv := Fl.vl_big (r := Fl.rg x) (by omega)
      obtain ⟨j, hj⟩ : ∃ j, Fl.rg x / 4503599627370496 - 1 = j + c := ⟨Fl.rg x / 4503599627370496 - 1 - c, by omega⟩
      rw [hj, Nat.pow_add, ← Nat.mul_assoc] at hv
      rw [hv, Fl.rne_exact, ← hv, Fl.rq_vl _ (by omega)]
      exact Fl.wd_self hx
  · have hl := Fl.nan_le hn
    have e : Fl.rg x = 9218868437227405312 := by omega
    unfold Fl.whF
    rw [Fl.read_inf e]
    show Ieee.double.write (.infinity (Fl.sg x)) = x
    have := Fl.wd_self hx
    rw [e] at this
    rw [← this, Fl.sg_wd _ _ (by omega)]
    cases Fl.sg x <;> rfl
set_option maxHeartbeats 8000000 in
theorem rwhole_stay (x : Nat) (w : World) (hx : x < 18446744073709551616) (h : Fl.nan x = true ∨ Fl.rg x = 0 ∨ 4841369599423283200 ≤ Fl.rg x) :
    Calls Tryz.prog 97 #[.float .f64 x] w fun e w' => e = .returned (.float .f64 x) ∧ w' = w := by
  cases hp : plainB x
  · clear h
    go_enter Tryz.func97, Tryz.ntmps97
    go_wp2_with (go_at_call 66; refine (plain_any _ _ (by assumption)).mono ?_; rintro e w ⟨rfl, rfl⟩)
    go_ret
    exact ⟨rfl, rfl⟩
  · have hpp := hp
    unfold plainB Fl.finB at hpp
    rw [Bool.and_eq_true, Bool.not_eq_true', decide_eq_true_eq, decide_eq_false_iff_not] at hpp
    have hn : Fl.nan x = false := by unfold Fl.nan; exact decide_eq_false (by omega)
    have hr : 4841369599423283200 ≤ Fl.rg x := by
      rcases h with h | h | h
      · rw [hn] at h; cases h
      · exact absurd h hpp.2
      · exact h
    obtain ⟨t1, t2, _⟩ := great_tests x hx hn
    have g1 := Fl.o_ge x 4841369599423283200
    have g2 := Fl.o_le x 14064741636278059008
    rw [t1, decide_eq_true hr, Bool.and_true] at g1
    rw [t2, decide_eq_true hr, Bool.and_true] at g2
    clear t1 t2 hr h hpp hn
    cases hs : Fl.sg x
    all_goals
      rw [hs] at g1 g2
      go_enter Tryz.func97, Tryz.ntmps97
      go_wp2_with (go_at_call 66; refine (plain_any _ _ (by assumption)).mono ?_; rintro e w ⟨rfl, rfl⟩)
      go_ret
      exact ⟨rfl, rfl⟩
theorem rsigned_pos (r x : Nat) (hr : r ≤ 9218868437227405312) (hn : Fl.nan x = false) : rsignedF (Fl.wd false r) x = Fl.wd (Fl.sg x) r := by
  have n1 : Fl.nan (Fl.wd false r) = false := by unfold Fl.nan; rw [Fl.rg_wd _ _ (by omega)]; exact decide_eq_false (by omega)
  have s1 : Fl.sg (Fl.wd false r) = false := Fl.sg_wd _ _ (by omega)
  have e1 : Fl.ng (Fl.wd false r) = Fl.wd true r := by
    rw [Fl.wd_false]
    unfold Fl.ng Fl.wd
    rw [if_pos (by omega), if_pos rfl, Nat.add_comm]
  unfold rsignedF Fl.minusB
  rw [n1, hn, s1, e1]
  cases Fl.sg x
  · rw [if_neg (by decide)]
  · rw [if_pos (by decide)]
set_option maxHeartbeats 8000000 in
theorem rwhole_small (x : Nat) (w : World) (hx : x < 18446744073709551616) (hz : ¬ Fl.rg x = 0) (hr : Fl.rg x < 4841369599423283200) :
    Calls Tryz.prog 97 #[.float .f64 x] w fun e w' => e = .returned (.float .f64 (Fl.whF x)) ∧ w' = w := by
  have hn : Fl.nan x = false := by unfold Fl.nan; exact decide_eq_false (by omega)
  have hp : plainB x = true := by unfold plainB Fl.finB; rw [decide_eq_true (by omega), decide_eq_false hz]; rfl
  obtain ⟨t1, t2, t3⟩ := great_tests x hx hn
  have g1 := Fl.o_ge x 4841369599423283200
  have g2 := Fl.o_le x 14064741636278059008
  have g3 := Fl.o_lt x 0
  rw [t1, decide_eq_false (by omega), Bool.and_false] at g1
  rw [t2, decide_eq_false (by omega), Bool.and_false] at g2
  rw [t3 hz] at g3
  obtain ⟨c, hc⟩ : ∃ c, c = 1074 := ⟨_, rfl⟩
  obtain ⟨q, T, hV, hT, hq, f1, f2, f3, f4, f5⟩ := wh_facts (Fl.rg x) c hc hr hz
  have hW := Fl.whF_fin c hc (x := x) (by omega)
  have hrne : Fl.rne (Fl.vl (Fl.rg x)) c = q + (if 2 ^ c < 2 * T ∨ (2 ^ c = 2 * T ∧ q % 2 = 1) then 1 else 0) := by
    unfold Fl.rne
    rw [hV, Nat.mul_comm q, Nat.mul_add_div (Nat.two_pow_pos c), Nat.div_eq_of_lt hT, Nat.add_zero, Nat.mul_add_mod, Nat.mod_eq_of_lt hT]
  have hneg : Fl.sg x = true → Op.negFloat .f64 x = Fl.rg x := by
    intro hs
    rw [Fl.neg_eq hx]
    have := Fl.sg_key hx
    have h2 := Fl.wd_self hx
    rw [hs] at h2
    unfold Fl.wd at h2
    rw [if_pos rfl] at h2
    unfold Fl.ng
    rw [if_neg (by omega)]; omega
  have hpos : Fl.sg x = false → x = Fl.rg x := by
    intro hs
    have h2 := Fl.wd_self hx
    rw [hs, Fl.wd_false] at h2
    exact h2.symm
  have SG : Hid (∀ (N : Nat) wz, N ≤ 9007199254740992 → Calls Tryz.prog 119 #[.float .f64 (floatOfInt .f64 (N : Int)), .float .f64 x] wz fun e w' => e = .returned (.float .f64 (Fl.wd (Fl.sg x) (Fl.rq (N * 2 ^ c) 0))) ∧ w' = wz) := by
    intro N wz hN
    have e1 := float_of_nat N c hc
    have hle := Fl.rq_le (N * 2 ^ c) 0
    have hlt : floatOfInt .f64 (N : Int) < 18446744073709551616 := by rw [e1]; exact Fl.wd_lt _ _ (by omega)
    have := rsigned_any (floatOfInt .f64 (N : Int)) x wz hlt hx
    have e2 : rsignedF (floatOfInt .f64 (N : Int)) x = Fl.wd (Fl.sg x) (Fl.rq (N * 2 ^ c) 0) := by
      rw [e1]
      exact rsigned_pos _ x hle hn
    rw [e2] at this
    exact this
  have hoo : ((q : Int) % 2 == 1) = decide (q % 2 = 1) := by rw [Bool.eq_iff_iff, beq_iff_eq, decide_eq_true_eq]; omega
  have hqq : (q : Int) + 1 = ((q + 1 : Nat) : Int) := rfl
  rw [hrne] at hW
  have HW : Hid _ := hW
  have e1 := fun (t1 t2 : TypeId) w h1 h2 => run_convert_float_int (P := Tryz.prog) (w := w) t1 t2 .f64 .u64 _ _ h1 h2 f1
  have e2 := fun (t : TypeId) w => run_float_arith (P := Tryz.prog) w .sub t .f64 _ _ _ f2
  have e3 := fun (t : TypeId) w => run_float_arith (P := Tryz.prog) w .add t .f64 _ _ _ f5
  have o1 := Fl.o_gt (Fl.rq T 0) 4602678819172646912
  have o2 := Fl.o_eq (Fl.rq T 0) 4602678819172646912
  rw [f3] at o1
  rw [f4] at o2
  have hq0 : (0 : Int) ≤ (q : Int) := by omega
  have hqI : (q : Int) < 4503599627370496 := by omega
  have S1 : Hid (∀ wz, Calls Tryz.prog 119 #[.float .f64 (floatOfInt .f64 (q : Int)), .float .f64 x] wz fun e w' => e = .returned (.float .f64 (Fl.wd (Fl.sg x) (Fl.rq (q * 2 ^ c) 0))) ∧ w' = wz) := fun wz => SG.out q wz (by omega)
  have S2 : Hid (∀ wz, Calls Tryz.prog 119 #[.float .f64 (floatOfInt .f64 ((q + 1 : Nat) : Int)), .float .f64 x] wz fun e w' => e = .returned (.float .f64 (Fl.wd (Fl.sg x) (Fl.rq ((q + 1) * 2 ^ c) 0))) ∧ w' = wz) := fun wz => SG.out (q + 1) wz (by omega)
  generalize floatOfInt .f64 ((q + 1 : Nat) : Int) = nW1 at *
  generalize Fl.rq T 0 = rT at *
  have cases3 : (decide (2 ^ c < 2 * T) = true ∧ Fl.whF x = Fl.wd (Fl.sg x) (Fl.rq ((q + 1) * 2 ^ c) 0)) ∨
      (decide (2 ^ c < 2 * T) = false ∧ decide (2 ^ c = 2 * T) = true ∧ ((q : Int) % 2 == 1) = true ∧ Fl.whF x = Fl.wd (Fl.sg x) (Fl.rq ((q + 1) * 2 ^ c) 0)) ∨
      (decide (2 ^ c < 2 * T) = false ∧ decide (2 ^ c = 2 * T) = true ∧ ((q : Int) % 2 == 1) = false ∧ Fl.whF x = Fl.wd (Fl.sg x) (Fl.rq (q * 2 ^ c) 0)) ∨
      (decide (2 ^ c < 2 * T) = false ∧ decide (2 ^ c = 2 * T) = false ∧ Fl.whF x = Fl.wd (Fl.sg x) (Fl.rq (q * 2 ^ c) 0)) := by
    rw [hoo]
    by_cases c1 : 2 ^ c < 2 * T
    · exact Or.inl ⟨decide_eq_true c1, by rw [HW.out, if_pos (Or.inl c1)]⟩
    · by_cases c2 : 2 ^ c = 2 * T
      · by_cases c3 : q % 2 = 1
        · exact Or.inr (Or.inl ⟨decide_eq_false c1, decide_eq_true c2, decide_eq_true c3, by rw [HW.out, if_pos (Or.inr ⟨c2, c3⟩)]⟩)
        · exact Or.inr (Or.inr (Or.inl ⟨decide_eq_false c1, decide_eq_true c2, decide_eq_false c3, by rw [HW.out, if_neg (by omega), Nat.add_zero]⟩))
      · exact Or.inr (Or.inr (Or.inr ⟨decide_eq_false c1, decide_eq_false c2, by rw [HW.out, if_neg (by omega), Nat.add_zero]⟩))
  have HC : Hid _ := cases3
  have HN : Hid _ := hneg
  have HP : Hid _ := hpos
  clear cases3 hneg hpos HW hW hrne hV hT SG t1 t2 t3 f1 f2 f3 f4 f5 hoo hc hq
  generalize Fl.wd (Fl.sg x) (Fl.rq ((q + 1) * 2 ^ c) 0) = R1 at *
  generalize Fl.wd (Fl.sg x) (Fl.rq (q * 2 ^ c) 0) = R0 at *
  generalize decide (2 ^ c < 2 * T) = b1 at *
  generalize decide (2 ^ c = 2 * T) = b2 at *
  generalize Fl.whF x = W at *
  cases hs : Fl.sg x
  · have hxr := HP.out hs
    rw [← hxr] at e1 e2
    rw [hs] at g3
    clear HN HP hxr hz hr hn
    rcases HC.out with ⟨h1, h4⟩ | ⟨h1, h2, h3, h4⟩ | ⟨h1, h2, h3, h4⟩ | ⟨h1, h2, h4⟩
    · rw [h4]
      rw [h1] at o1
      clear HC h4 hqq S1 h1 o2
      go_enter Tryz.func97, Tryz.ntmps97
      go_wp2_with (first
        | (go_at_call 66; refine (plain_any _ _ (by assumption)).mono ?_; rintro e w ⟨rfl, rfl⟩)
        | fail)
      refine (S2.out _).mono ?_
      rintro e w ⟨rfl, rfl⟩
      go_wp2
      go_ret
      exact ⟨rfl, rfl⟩
    · rw [h4]
      rw [h1] at o1
      rw [h2] at o2
      clear HC h4 hqq S1 h1 h2
      go_enter Tryz.func97, Tryz.ntmps97
      go_wp2_with (first
        | (go_at_call 66; refine (plain_any _ _ (by assumption)).mono ?_; rintro e w ⟨rfl, rfl⟩)
        | fail)
      refine (S2.out _).mono ?_
      rintro e w ⟨rfl, rfl⟩
      go_wp2
      go_ret
      exact ⟨rfl, rfl⟩
    · rw [h4]
      rw [h1] at o1
      rw [h2] at o2
      clear HC h4 hqq e3 S2 h1 h2
      go_enter Tryz.func97, Tryz.ntmps97
      go_wp2_with (first
        | (go_at_call 66; refine (plain_any _ _ (by assumption)).mono ?_; rintro e w ⟨rfl, rfl⟩)
        | fail)
      refine (S1.out _).mono ?_
      rintro e w ⟨rfl, rfl⟩
      go_wp2
      go_ret
      exact ⟨rfl, rfl⟩
    · rw [h4]
      rw [h1] at o1
      rw [h2] at o2
      clear HC h4 hqq hq0 hqI e3 S2 h1 h2
      go_enter Tryz.func97, Tryz.ntmps97
      go_wp2_with (first
        | (go_at_call 66; refine (plain_any _ _ (by assumption)).mono ?_; rintro e w ⟨rfl, rfl⟩)
        | fail)
      refine (S1.out _).mono ?_
      rintro e w ⟨rfl, rfl⟩
      go_wp2
      go_ret
      exact ⟨rfl, rfl⟩
  · have hxr := HN.out hs
    rw [hs] at g3
    clear HN HP hz hr hn
    generalize Fl.rg x = r at *
    rcases HC.out with ⟨h1, h4⟩ | ⟨h1, h2, h3, h4⟩ | ⟨h1, h2, h3, h4⟩ | ⟨h1, h2, h4⟩
    · rw [h4]
      rw [h1] at o1
      clear HC h4 hqq S1 h1 o2
      go_enter Tryz.func97, Tryz.ntmps97
      go_wp2_with (first
        | (go_at_call 66; refine (plain_any _ _ (by assumption)).mono ?_; rintro e w ⟨rfl, rfl⟩)
        | fail)
      refine (S2.out _).mono ?_
      rintro e w ⟨rfl, rfl⟩
      go_wp2
      go_ret
      exact ⟨rfl, rfl⟩
    · rw [h4]
      rw [h1] at o1
      rw [h2] at o2
      clear HC h4 hqq S1 h1 h2
      go_enter Tryz.func97, Tryz.ntmps97
      go_wp2_with (first
        | (go_at_call 66; refine (plain_any _ _ (by assumption)).mono ?_; rintro e w ⟨rfl, rfl⟩)
        | fail)
      refine (S2.out _).mono ?_
      rintro e w ⟨rfl, rfl⟩
      go_wp2
      go_ret
      exact ⟨rfl, rfl⟩
    · rw [h4]
      rw [h1] at o1
      rw [h2] at o2
      clear HC h4 hqq e3 S2 h1 h2
      go_enter Tryz.func97, Tryz.ntmps97
      go_wp2_with (first
        | (go_at_call 66; refine (plain_any _ _ (by assumption)).mono ?_; rintro e w ⟨rfl, rfl⟩)
        | fail)
      refine (S1.out _).mono ?_
      rintro e w ⟨rfl, rfl⟩
      go_wp2
      go_ret
      exact ⟨rfl, rfl⟩
    · rw [h4]
      rw [h1] at o1
      rw [h2] at o2
      clear HC h4 hqq hq0 hqI e3 S2 h1 h2
      go_enter Tryz.func97, Tryz.ntmps97
      go_wp2_with (first
        | (go_at_call 66; refine (plain_any _ _ (by assumption)).mono ?_; rintro e w ⟨rfl, rfl⟩)
        | fail)
      refine (S1.out _).mono ?_
      rintro e w ⟨rfl, rfl⟩
      go_wp2
      go_ret
      exact ⟨rfl, rfl⟩
end Go.Proofs.YtdfepflfmmmnpaaGreatDoor
/-
  OWN TEXT: the reference's float made whole (eddyref01.Whole), for every float.
-/
namespace Go.Proofs.YtdfepflfmmmnpaaGreatDoor
open Go.ChangeShapes Go.WideShapes Go.ChangeAt Go.RowKit
set_option linter.unusedVariables false
theorem same_self (z : Nat) : Fl.sameB z z = true := by unfold Fl.sameB; simp
/-- what both answer of a float made whole -/
theorem rwhole_any (x : Nat) (w : World) (hx : x < 18446744073709551616) : Calls Tryz.prog 97 #[.float .f64 x] w fun e w' => e = .returned (.float .f64 (if Fl.nan x then x else Fl.whF x)) ∧ w' = w := by
  cases hn : Fl.nan x
  · rw [if_neg (by decide)]
    by_cases c : Fl.rg x = 0 ∨ 4841369599423283200 ≤ Fl.rg x
    · rw [wh_stay x 1074 rfl hx hn c]
      exact rwhole_stay x w hx (Or.inr c)
    · exact rwhole_small x w hx (by omega) (by omega)
  · rw [if_pos rfl]
    exact rwhole_stay x w hx (Or.inl hn)
end Go.Proofs.YtdfepflfmmmnpaaGreatDoor
