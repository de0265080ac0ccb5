/-
  OWN TEXT: what Scale of the reference returns, for every float and whole number.
-/
import Derived.Test.YtlbikopancleoaaGreatDoorJnBq
import Derived.Test.YtlbikopancleoaaGreatDoorJnBd
import Derived.Test.YtlbikopancleoaaGreatDoorJnAs
import Derived.Test.YtlbikopancleoaaGreatDoorJnBe
namespace Go.Proofs.YtlbikopancleoaaGreatDoor
open Go.ChangeShapes Go.WideShapes Go.ChangeAt Go.RowKit
open Bg
set_option linter.unusedVariables false
attribute [local go_sem] frombits_call tobits_call
theorem ft_made (w : World) : Ft (w.alloc (.cells #[.bool false, .slice none 0 0, .int .i64 0, .int .i64 0, .bool false] 62)) w.heap.size false 0 0 0 := by
  refine ⟨⟨by simp, fun i x => ?_, fun i => World.frozen?_alloc_at _ _ _ _ rfl⟩, by simp, ⟨.slice none 0 0, by simp, nm_nil _⟩, by simp, by simp, by simp⟩
  rw [World.cell?_alloc_at _ _ _ _ rfl]
  rcases i with _ | _ | _ | _ | _ | i <;> simp
theorem scale_arith (A' k k' K p q P d c : Nat) (E n' : Int) (hc : c = 1074) (hE : E = (K : Int) - 1074 + k + n' + k') (hp : max E 0 = (p : Int)) (hq : max (-E) 0 = (q : Int)) (hP : n'.toNat = P) (hd : (-n').toNat = d) :
    A' * 2 ^ p * 2 ^ (c + d) = 2 ^ q * (A' * 2 ^ k' * 2 ^ k * 2 ^ K * 2 ^ P) := by
  have e : p + (c + d) = q + (k' + k + K + P) := by omega
  rw [Nat.mul_assoc, ← Nat.pow_add, e, Nat.pow_add, Nat.mul_left_comm, Nat.pow_add, Nat.pow_add, Nat.pow_add]
  simp only [Nat.mul_assoc]
set_option maxHeartbeats 8000000 in
theorem rscale_fin (x c : Nat) (n n' : Int) (w : World) (hx : x < 18446744073709551616) (hf : Fl.rg x < 9218868437227405312) (hz : ¬ Fl.rg x = 0) (hT : Tab w) (hw : 2 ≤ w.heap.size) (hn : max (-5000) (min 5000 n) = n') (hc : c = 1074) :
    Calls Tryz.prog 59 #[.float .f64 x, .int .i64 n] w fun e w' => e = .returned (.float .f64 (scF x n')) ∧ Fr w w' := by
  have hp : plainB x = true := by unfold plainB Fl.finB; rw [decide_eq_true hf, decide_eq_false hz]; rfl
  have hn1 : -5000 ≤ n' := by omega
  have hn2 : n' ≤ 5000 := by omega
  have hm1 := ft_made w
  have hF1 : Fr w (w.alloc (.cells #[.bool false, .slice none 0 0, .int .i64 0, .int .i64 0, .bool false] 62)) := (Fr.refl w).alloc _ _
  have hT1 := hT.mono (by omega) hF1
  obtain ⟨B, hB⟩ : ∃ B, B = w.heap.size := ⟨_, rfl⟩
  have HB : Hid (B = w.heap.size) := hB
  have HT : Hid (Tab w) := hT
  have hB1 : 1 < B := by omega
  rw [← hB] at hm1
  have HC : Hid (c = 1074) := hc
  have HS : Hid (scF x n' = Fl.wd (Fl.sg x) (Fl.rz (Fl.vl (Fl.rg x)) n')) := by
    show _ = _
    unfold scF
    rw [if_pos]
    unfold Fl.finB
    rw [decide_eq_true hf, decide_eq_false hz]; rfl
  clear hB hT hc
  go_enter Tryz.func59, Tryz.ntmps59
  go_wp2_with (first | (go_at_call 101; refine (plain_any _ _ (by assumption)).mono ?_; rintro e w ⟨rfl, rfl⟩) | fail)
  rw [← HB.out]
  generalize w.alloc (.cells #[.bool false, .slice none 0 0, .int .i64 0, .int .i64 0, .bool false] 62) = w1 at *
  refine (fsetfloat_any B x w1 hm1 hx hf hz hT1 hB1).mono ?_
  rintro e w2 ⟨rfl, ⟨M, K, hV, hM, hM2, hK, A, k, hft, hA, hA0, hA2, hk⟩, hfr⟩
  have f2 : Fr w w2 := hfr w hF1 (by have := HB.out; omega)
  have hT2 := HT.out.mono (by omega) f2
  have HV : Hid _ := hV
  have HA : Hid _ := hA
  clear hfr hm1 hF1 hT1 hV hA
  go_wp2_with fail
  refine (mantexp_any B (Fl.sg x) A ((K : Int) - 1074 + (k : Int)) n' w2 hft hA0 hA2 hT2 hB1 (by omega) (by omega) (by omega) (by omega)).mono ?_
  rintro e w3 ⟨rfl, w4, y, k', g1, g2, g3, g4, rfl⟩
  have hlA : A.log2 < 53 := (Nat.log2_lt (by omega)).2 (by omega)
  have ft4 := sf_ft (hft.mono g1) g2 (Fl.sg x) ((K : Int) - 1074 + (k : Int) + n' + (k' : Int))
  have f4 : Fr w (sf w4 B (Fl.sg x) y ((K : Int) - 1074 + (k : Int) + n' + (k' : Int))) := (f2.trans g1).sf (by have := HB.out; omega) _ _ _
  have hq0 : 0 < A / 2 ^ k' := Nat.div_pos (Nat.le_of_dvd hA0 g3) (Nat.two_pow_pos k')
  have hq1 : A / 2 ^ k' < 9007199254740992 := Nat.lt_of_le_of_lt (Nat.div_le_self _ _) hA2
  have HQ : Hid (A / 2 ^ k' * 2 ^ k' = A) := Nat.div_mul_cancel g3
  have hk' : k' ≤ 52 := by omega
  clear g1 g2 g3 g4 hft hT2 f2
  generalize sf w4 B (Fl.sg x) y ((K : Int) - 1074 + (k : Int) + n' + (k' : Int)) = w5 at *
  generalize A / 2 ^ k' = A' at *
  obtain ⟨E, hE⟩ : ∃ E : Int, E = (K : Int) - 1074 + (k : Int) + n' + (k' : Int) := ⟨_, rfl⟩
  rw [← hE] at ft4
  obtain ⟨p, hp'⟩ : ∃ p : Nat, max E 0 = (p : Int) := ⟨(max E 0).toNat, by omega⟩
  obtain ⟨q, hq'⟩ : ∃ q : Nat, max (-E) 0 = (q : Int) := ⟨(max (-E) 0).toNat, by omega⟩
  have AR := scale_arith A' k k' K p q n'.toNat (-n').toNat c E n' HC.out hE hp' hq' rfl rfl
  rw [HQ.out, HA.out, ← HV.out] at AR
  have C := float64_any B (Fl.sg x) A' (Fl.vl (Fl.rg x) * 2 ^ n'.toNat) (-n').toNat c p q E w5 ft4 hq0 hq1 hp' hq' (by omega) (by omega) HC.out AR
  have e1 : Fl.wd (Fl.sg x) (Fl.rq (Fl.vl (Fl.rg x) * 2 ^ n'.toNat) (-n').toNat) = scF x n' := by rw [HS.out]; rfl
  rw [e1] at C
  have CC : Hid (Calls Tryz.prog 104 #[.pointer (some ⟨B, 0, none⟩)] w5 fun e w' => e = .returned (.tuple #[.float .f64 (scF x n'), .int .i64 0]) ∧ Fr w5 w') := C
  clear C AR hp' hq' hE HQ HV HA HS ft4 hq0 hq1 e1
  go_wp2_with fail
  refine CC.out.mono ?_
  rintro e w6 ⟨rfl, f6⟩
  have f7 := f4.trans f6
  clear CC f4 f6
  go_wp2
  go_ret
  exact ⟨rfl, f7⟩
theorem rscale_any (x : Nat) (n : Int) (w : World) (hx : x < 18446744073709551616) (hT : Tab w) (hw : 2 ≤ w.heap.size) :
    Calls Tryz.prog 59 #[.float .f64 x, .int .i64 n] w fun e w' => e = .returned (.float .f64 (scF x n)) ∧ Fr w w' := by
  by_cases c : Fl.rg x = 0 ∨ 9218868437227405312 ≤ Fl.rg x
  · have hp : plainB x = false := by
      unfold plainB Fl.finB
      rcases c with c | c
      · rw [decide_eq_true c]; simp
      · rw [decide_eq_false (by omega)]; rfl
    rw [scF_stay c]
    clear c hT
    go_enter Tryz.func59, Tryz.ntmps59
    go_wp2_with (first | (go_at_call 101; refine (plain_any _ _ (by assumption)).mono ?_; rintro e w ⟨rfl, rfl⟩) | fail)
    go_ret
    exact ⟨rfl, Fr.refl _⟩
  · have e : scF x (max (-5000) (min 5000 n)) = scF x n := by
      rw [← scF_clamp (x := x) n, ← scF_clamp (x := x) (max (-5000) (min 5000 n))]
      congr 1
      omega
    have := rscale_fin x 1074 n _ w hx (by omega) (by omega) hT hw rfl rfl
    rw [e] at this
    exact this
end Go.Proofs.YtlbikopancleoaaGreatDoor
/-
  OWN TEXT: the reference's lengths, roots, polar forms, units (eddyref06), for every number.
-/
namespace Go.Proofs.YtlbikopancleoaaGreatDoor
open Go.ChangeShapes Go.WideShapes Go.ChangeAt Go.RowKit
open Bg
set_option linter.unusedVariables false
attribute [local go_sem] frombits_call tobits_call run_neg
theorem Tab.bw6 {w w' : World} (h : Tab w) (hs : 2 ≤ w.heap.size) (f : Bw w w') : Tab w' := fun j hj => (Below.cell f (p := ⟨1, j, none⟩) hs).trans (h j hj)
set_option maxHeartbeats 4000000 in
theorem rlength_any (a b : Nat) (w : World) (ha : a < 18446744073709551616) (hb : b < 18446744073709551616) (hT : Tab w) (hw : 2 ≤ w.heap.size) : Calls Tryz.prog 35 #[.complex .f64 a b] w fun e w' => ∃ r, e = .returned (.float .f64 r) ∧ lenR a b r ∧ Bw w w' := by
  have EA : Hid (∀ wz, Calls Tryz.prog 83 #[.float .f64 a] wz fun e w' => e = .returned (.bool (decide (Fl.rg a = 9218868437227405312))) ∧ w' = wz) := fun wz => rendless_any a wz ha
  have EB : Hid (∀ wz, Calls Tryz.prog 83 #[.float .f64 b] wz fun e w' => e = .returned (.bool (decide (Fl.rg b = 9218868437227405312))) ∧ w' = wz) := fun wz => rendless_any b wz hb
  have NA : Hid (∀ wz, Calls Tryz.prog 84 #[.float .f64 a] wz fun e w' => e = .returned (.bool (Fl.nan a)) ∧ w' = wz) := fun wz => rnone6_any a wz
  have NB : Hid (∀ wz, Calls Tryz.prog 84 #[.float .f64 b] wz fun e w' => e = .returned (.bool (Fl.nan b)) ∧ w' = wz) := fun wz => rnone6_any b wz
  have T : Hid (Tab w) := hT
  clear hT
  by_cases c1 : Fl.rg a = 9218868437227405312
  · have HL : Hid (lenR a b 9218868437227405312) := ⟨by decide, by rw [if_pos (Or.inl c1)]⟩
    rw [decide_eq_true c1] at EA
    clear c1
    go_enter Tryz.func35, Tryz.ntmps35
    go_wp2_with fail
    refine (EA.out _).mono ?_
    rintro e' w ⟨rfl, rfl⟩
    go_wp2_with fail
    refine (infp6 _).mono ?_
    rintro e' w ⟨rfl, rfl⟩
    go_wp2
    go_ret
    exact ⟨_, rfl, HL.out, Bw.refl _⟩
  · rw [decide_eq_false c1] at EA
    by_cases c2 : Fl.rg b = 9218868437227405312
    · have HL : Hid (lenR a b 9218868437227405312) := ⟨by decide, by rw [if_pos (Or.inr c2)]⟩
      rw [decide_eq_true c2] at EB
      clear c1 c2
      go_enter Tryz.func35, Tryz.ntmps35
      go_wp2_with fail
      refine (EA.out _).mono ?_
      rintro e' w ⟨rfl, rfl⟩
      go_wp2_with fail
      refine (EB.out _).mono ?_
      rintro e' w ⟨rfl, rfl⟩
      go_wp2_with fail
      refine (infp6 _).mono ?_
      rintro e' w ⟨rfl, rfl⟩
      go_wp2
      go_ret
      exact ⟨_, rfl, HL.out, Bw.refl _⟩
    · rw [decide_eq_false c2] at EB
      have c12 : ¬ (Fl.rg a = 9218868437227405312 ∨ Fl.rg b = 9218868437227405312) := by rintro (h | h); exact c1 h; exact c2 h
      cases n1 : Fl.nan a
      · rw [n1] at NA
        cases n2 : Fl.nan b
        · rw [n2] at NB
          have c34 : ¬ (Fl.nan a = true ∨ Fl.nan b = true) := by rw [n1, n2]; simp
          have GR : Hid (∀ wz, Calls Tryz.prog 85 #[.complex .f64 a b] wz fun e w' => e = .returned (.tuple #[.float .f64 (bigF a b), .float .f64 (smaF a b)]) ∧ w' = wz) := fun wz => rgreater_any a b wz ha hb
          have hbl := big_lt a b
          have hsl := sma_lt a b
          have hnb : Fl.nan (bigF a b) = false := by
            unfold bigF; split
            · rw [Fl.nan_rg]; exact n2
            · rw [Fl.nan_rg]; exact n1
          have o := Fl.o_eq (bigF a b) 0
          rw [(up_tests (by omega) hnb).2.1, show Fl.rg (bigF a b) = bigF a b by unfold Fl.rg; omega] at o
          have HLL : Hid (∀ r, r < 18446744073709551616 → (if bigF a b = 0 then r = 0 else lenP a b r) → lenR a b r) := fun r h0 h1 => ⟨h0, by rw [if_neg c12, if_neg c34]; exact h1⟩
          by_cases z : bigF a b = 0
          · rw [decide_eq_true z] at o
            have HL : Hid (lenR a b 0) := HLL.out 0 (by decide) (by rw [if_pos z])
            clear HLL c1 c2 c12 c34 n1 n2 hnb z
            generalize bigF a b = big at *
            generalize smaF a b = small at *
            go_enter Tryz.func35, Tryz.ntmps35
            go_wp2_with fail
            refine (EA.out _).mono ?_
            rintro e' w ⟨rfl, rfl⟩
            go_wp2_with fail
            refine (EB.out _).mono ?_
            rintro e' w ⟨rfl, rfl⟩
            go_wp2_with fail
            refine (NA.out _).mono ?_
            rintro e' w ⟨rfl, rfl⟩
            go_wp2_with fail
            refine (NB.out _).mono ?_
            rintro e' w ⟨rfl, rfl⟩
            go_wp2_with fail
            refine (GR.out _).mono ?_
            rintro e' w ⟨rfl, rfl⟩
            go_wp2
            go_ret
            exact ⟨_, rfl, HL.out, Bw.refl _⟩
          · rw [decide_eq_false z] at o
            have HL : Hid (∀ l, togR (scF (bigF a b) (-paE (bigF a b))) (scF (smaF a b) (-paE (bigF a b))) l → lenR a b (scF l (paE (bigF a b)))) := fun l hl => HLL.out _ (scF_lt (tog_lt hl) _) (by rw [if_neg z]; exact ⟨l, hl, rfl⟩)
            have PA : Hid (∀ wz, Calls Tryz.prog 81 #[.float .f64 (bigF a b)] wz fun e w' => e = .returned (.tuple #[.float .f64 (paF (bigF a b)), .int .i64 (paE (bigF a b))]) ∧ w' = wz) := fun wz => rparts_any (bigF a b) wz (by omega)
            obtain ⟨k1, k2⟩ := paE_small (bigF a b) (by omega)
            clear HLL c1 c2 c12 c34 n1 n2 hnb z
            generalize paE (bigF a b) = k at *
            generalize paF (bigF a b) = f at *
            generalize bigF a b = big at *
            generalize smaF a b = small at *
            go_enter Tryz.func35, Tryz.ntmps35
            go_wp2_with fail
            refine (EA.out _).mono ?_
            rintro e' w ⟨rfl, rfl⟩
            go_wp2_with fail
            refine (EB.out _).mono ?_
            rintro e' w ⟨rfl, rfl⟩
            go_wp2_with fail
            refine (NA.out _).mono ?_
            rintro e' w ⟨rfl, rfl⟩
            go_wp2_with fail
            refine (NB.out _).mono ?_
            rintro e' w ⟨rfl, rfl⟩
            go_wp2_with fail
            refine (GR.out _).mono ?_
            rintro e' w ⟨rfl, rfl⟩
            go_wp2_with fail
            refine (PA.out _).mono ?_
            rintro e' w ⟨rfl, rfl⟩
            go_wp2_with fail
            refine (rscale_any big (-k) _ (by omega) T.out hw).mono ?_
            rintro e w1 ⟨rfl, b1⟩
            have B1 : Bw w w1 := b1.1
            have s1 := Below.size B1
            clear b1
            go_wp2_with fail
            refine (rscale_any small (-k) _ (by omega) (T.out.bw6 hw B1) (by omega)).mono ?_
            rintro e w2 ⟨rfl, b2⟩
            have B2 : Bw w w2 := bw_trans B1 b2.1
            have s2 := Below.size B2
            clear b2 B1 s1
            have u1 := scF_lt (x := big) (by omega) (-k)
            have u2 := scF_lt (x := small) (by omega) (-k)
            generalize scF big (-k) = u at *
            generalize scF small (-k) = v at *
            go_wp2_with fail
            refine (rtogether_any u v _).mono ?_
            rintro e w3 ⟨l, rfl, hl, b3⟩
            have B3 := bw_trans B2 b3
            have s3 := Below.size B3
            have hll := tog_lt hl
            have HF : Hid (lenR a b (scF l k)) := HL.out l hl
            clear hl HL b3 B2 s2
            go_wp2_with fail
            refine (rscale_any l k _ hll (T.out.bw6 hw B3) (by omega)).mono ?_
            rintro e w4 ⟨rfl, b4⟩
            have B4 : Bw w w4 := bw_trans B3 b4.1
            clear b4 B3 s3 T
            generalize scF l k = r at *
            go_wp2
            go_ret
            exact ⟨r, rfl, HF.out, B4⟩
        · rw [n2] at NB
          have HL : Hid (lenR a b 9221120237041090561) := ⟨by decide, by rw [if_neg c12, if_pos (Or.inr n2)]; decide⟩
          clear c1 c2 c12 n1 n2
          go_enter Tryz.func35, Tryz.ntmps35
          go_wp2_with fail
          refine (EA.out _).mono ?_
          rintro e' w ⟨rfl, rfl⟩
          go_wp2_with fail
          refine (EB.out _).mono ?_
          rintro e' w ⟨rfl, rfl⟩
          go_wp2_with fail
          refine (NA.out _).mono ?_
          rintro e' w ⟨rfl, rfl⟩
          go_wp2_with fail
          refine (NB.out _).mono ?_
          rintro e' w ⟨rfl, rfl⟩
          go_wp2_with fail
          refine (nan6 _).mono ?_
          rintro e' w ⟨rfl, rfl⟩
          go_wp2
          go_ret
          exact ⟨_, rfl, HL.out, Bw.refl _⟩
      · rw [n1] at NA
        have HL : Hid (lenR a b 9221120237041090561) := ⟨by decide, by rw [if_neg c12, if_pos (Or.inl n1)]; decide⟩
        clear c1 c2 c12 n1
        go_enter Tryz.func35, Tryz.ntmps35
        go_wp2_with fail
        refine (EA.out _).mono ?_
        rintro e' w ⟨rfl, rfl⟩
        go_wp2_with fail
        refine (EB.out _).mono ?_
        rintro e' w ⟨rfl, rfl⟩
        go_wp2_with fail
        refine (NA.out _).mono ?_
        rintro e' w ⟨rfl, rfl⟩
        go_wp2_with fail
        refine (nan6 _).mono ?_
        rintro e' w ⟨rfl, rfl⟩
        go_wp2
        go_ret
        exact ⟨_, rfl, HL.out, Bw.refl _⟩
end Go.Proofs.YtlbikopancleoaaGreatDoor
