/-
  OWN TEXT: what common of package eddybig returns: a divisor of both numbers that is not nought.
-/
import Derived.Test.YthfdcembajhgcaaBgP
import Derived.Test.YthfdcembajhgcaaBgQ
import Derived.Test.YthfdcembajhgcaaBgR
namespace Go.Proofs.Ythfdcembajhgcaa
open Go.ChangeShapes Go.WideShapes Go.ChangeAt Go.RowKit
open Bg
set_option linter.unusedVariables false
theorem nm_uniq {w : World} {v : Value} {N M : Nat} (h : Nm w v N) (k : Nm w v M) : N = M := by
  obtain ⟨a, l, c, rfl, h1, h2, h3, h4, rfl, h6⟩ := h
  obtain ⟨a', l', c', e, k1, k2, k3, k4, rfl, k6⟩ := k
  simp only [Value.slice.injEq] at e
  obtain ⟨rfl, e2, rfl⟩ := e
  have : l = l' := by
    refine List.ext_getElem e2 fun i hi hi' => ?_
    obtain ⟨b, o, rfl, hb, hc⟩ := hs_len h3 (by omega)
    obtain ⟨b', o', e3, hb', hc'⟩ := hs_len k3 (by omega)
    cases e3
    have a1 := hc i hi
    rw [hc' i hi'] at a1
    have a2 : l'.getD i 0 = l.getD i 0 := by
      simp only [Option.some.injEq, Value.int.injEq, true_and] at a1
      omega
    rw [List.getD_eq_getElem?_getD, List.getD_eq_getElem?_getD, List.getElem?_eq_getElem hi, List.getElem?_eq_getElem hi'] at a2
    simpa using a2.symm
  rw [this]
noncomputable def wo (w : World) (v : Value) : Nat := Classical.epsilon (Nm w v)
theorem wo_eq {w : World} {v : Value} {N : Nat} (h : Nm w v N) : wo w v = N :=
  nm_uniq (Classical.epsilon_spec (p := Nm w v) ⟨N, h⟩) h
theorem nm_zero {w : World} {v : Value} {N : Nat} (h : Nm w v N) : ∃ a n c, v = .slice a n c ∧ n ≤ c ∧ c ≤ 1099511627776 ∧ (n = 0 ↔ N = 0) ∧ (2 < n → 18446744073709551616 ≤ N) ∧ (n ≤ 2 → N < 18446744073709551616) := by
  obtain ⟨a, l, c, rfl, h1, h2, h3, h4, rfl, h6⟩ := h
  have up := vL_lt l h4
  refine ⟨a, l.length, c, rfl, h1, h2, ⟨fun e => ?_, fun e => ?_⟩, fun e => ?_, fun e => ?_⟩
  · have : l = [] := List.length_eq_zero_iff.1 e
    subst this; rfl
  · by_cases z : l = []
    · subst z; rfl
    · have := vL_ge l h6 z
      have := Nat.pow_pos (n := l.length - 1) (show 0 < 4294967296 by omega)
      omega
  · have := vL_ge l h6 (by intro z; subst z; simp at e)
    have : 4294967296 ^ 2 ≤ 4294967296 ^ (l.length - 1) := Nat.pow_le_pow_right (by omega) (by omega)
    omega
  · have : 4294967296 ^ l.length ≤ 4294967296 ^ 2 := Nat.pow_le_pow_right (by omega) e
    omega
theorem bl_facts (P : Nat) (h : 18446744073709551616 ≤ P) (h2 : P.log2 < 32000000) : ∃ n : Nat, (bitLen P : Int) - 60 = n ∧ 5 ≤ n ∧ n < 32000000 ∧ 576460752303423488 ≤ P / 2 ^ n ∧ P / 2 ^ n < 1152921504606846976 := by
  have hz : P ≠ 0 := by omega
  have hb : bitLen P = P.log2 + 1 := by unfold bitLen; rw [if_neg hz]
  have h64 : 64 ≤ P.log2 := (Nat.le_log2 hz).2 h
  have up := Nat.lt_log2_self (n := P)
  have lo := Nat.log2_self_le hz
  refine ⟨P.log2 + 1 - 60, by omega, by omega, by omega, ?_, ?_⟩
  · rw [Nat.le_div_iff_mul_le (Nat.pow_pos (by omega)), show (576460752303423488 : Nat) = 2 ^ 59 from rfl, ← Nat.pow_add]
    rw [show 59 + (P.log2 + 1 - 60) = P.log2 by omega]
    exact lo
  · rw [Nat.div_lt_iff_lt_mul (Nat.pow_pos (by omega)), show (1152921504606846976 : Nat) = 2 ^ 60 from rfl, ← Nat.pow_add]
    rw [show 60 + (P.log2 + 1 - 60) = P.log2 + 1 by omega]
    exact up

set_option maxHeartbeats 8000000 in
set_option maxRecDepth 100000 in
theorem common_any (v u : Value) (N M : Nat) (w : World) (hv : Nm w v N) (hu : Nm w u M) (hN : N.log2 < 32000000) (hM : M.log2 < 32000000) (h0 : 0 < N) :
    Calls Try.prog 64 #[v, u] w fun e w' => ∃ x G, e = .returned x ∧ Nm w' x G ∧ G ∣ N ∧ G ∣ M ∧ Fr w w' := by
  go_enter Try.func64, Try.ntmps64
  go_wp2_with fail
  refine (cmpWords_any _ _ N M _ hv hu).mono ?_
  rintro e w1 ⟨rfl, hf1⟩
  obtain ⟨hc, hst⟩ : True ∧ True := ⟨trivial, trivial⟩
  have hci : cmpI N M < 0 ∨ ¬ cmpI N M < 0 := Decidable.em _
  have hcv : (cmpI N M < 0 → N < M) ∧ (¬ cmpI N M < 0 → M ≤ N) := by
    unfold cmpI
    split
    · omega
    · split <;> omega
  generalize cmpI N M = ci at *
  have hbr : ∃ av bv P Q, (ci < 0 ∧ av = u ∧ bv = v ∧ P = M ∧ Q = N ∨ ¬ ci < 0 ∧ av = v ∧ bv = u ∧ P = N ∧ Q = M) := by
    rcases hci with hci | hci
    · exact ⟨u, v, M, N, Or.inl ⟨hci, rfl, rfl, rfl, rfl⟩⟩
    · exact ⟨v, u, N, M, Or.inr ⟨hci, rfl, rfl, rfl, rfl⟩⟩
  clear hc hst
  have HH0 : Hid (0 < N) := h0
  rcases hci with hci | hci
  all_goals
    go_wp2
    go_loopw [0, 1] (fun av bv wr => ∃ P Q : Nat, Nm wr av P ∧ Nm wr bv Q ∧ Hid (Q ≤ P) ∧ Hid (P.log2 < 32000000) ∧ Hid (CD P Q N M) ∧ Fr w wr) (fun av bv wr => wo wr av + wo wr bv)
    case atStart => first
      | exact ⟨N, M, hv.mono hf1, hu.mono hf1, hcv.2 (by omega), hN, CD.refl _ _, hf1⟩
      | exact ⟨M, N, hu.mono hf1, hv.mono hf1, Nat.le_of_lt (hcv.1 (by omega)), hM, CD.swap _ _, hf1⟩
    case round =>
      obtain ⟨P, Q, hP, hQ, HLE, HLG, HCD, hfr⟩ := hrel
      obtain ⟨ba, bn, bc, rfl, hbn, hbc, z1, z2, z3⟩ := nm_zero hQ
      by_cases c : 2 < bn
      · have cI : (2 : Int) < bn := by omega
        have hQ64 := z2 c
        have hPQ := HLE.out
        obtain ⟨n, hn, hn5, hn6, hX1, hX2⟩ := bl_facts P (by omega) HLG.out
        have hQlg : Q.log2 < 32000000 := Nat.lt_of_le_of_lt (log2_up hPQ) HLG.out
        go_wp2_with fail
        refine (bitLen_any _ P _ hP HLG.out).mono ?_
        rintro e w2 ⟨rfl, rfl⟩
        have hbl : (0 : Int) ≤ bitLen P ∧ (bitLen P : Int) < 40000000 := by omega
        go_wp2_with fail
        try rw [hn]
        refine (topBits_any _ P n _ hP HLG.out hn6).mono ?_
        rintro e w3 ⟨rfl, hf3⟩
        rw [Nat.mod_eq_of_lt (show P / 2 ^ n < 18446744073709551616 by omega)]
        have HPX : Hid (P = P / 2 ^ n * 2 ^ n + P % 2 ^ n) := by
          show _ = _
          rw [Nat.mul_comm]; exact (Nat.div_add_mod _ _).symm
        have hYX : Q / 2 ^ n ≤ P / 2 ^ n := Nat.div_le_div_right hPQ
        generalize P / 2 ^ n = X at *
        have hQ3 := hQ.mono hf3
        go_wp2_with fail
        refine (topBits_any _ Q n _ hQ3 hQlg hn6).mono ?_
        rintro e w4 ⟨rfl, hf4⟩
        rw [Nat.mod_eq_of_lt (show Q / 2 ^ n < 18446744073709551616 by omega)]
        have HQY : Hid (Q = Q / 2 ^ n * 2 ^ n + Q % 2 ^ n) := by
          show _ = _
          rw [Nat.mul_comm]; exact (Nat.div_add_mod _ _).symm
        generalize Q / 2 ^ n = Y at *
        have hf34 := hf3.trans hf4
        have hP4 := hP.mono hf34
        have hQ4 := hQ.mono hf34
        have hF4 := hfr.trans hf34
        have HM0 : Hid (wo w2 u0 + wo w2 (Value.slice ba bn bc) = P + Q) := by
          show _ = _
          rw [wo_eq hP, wo_eq hQ]
        clear hP hQ hQ3 hf3 hf4 hf34 hfr hn hbl
        go_wp2
        go_loopw [6, 7, 8, 9, 10, 11, 12, 13, 14] (fun xv yv a0 a1 a2 b0 b1 b2 ev wz => wz = w4 ∧ ∃ x y u0 u1 u2 v0 v1 v2 : Nat, ∃ ee : Bool, xv = .int .u64 x ∧ yv = .int .u64 y ∧ a0 = .int .u64 u0 ∧ a1 = .int .u64 u1 ∧ a2 = .int .u64 u2 ∧ b0 = .int .u64 v0 ∧ b1 = .int .u64 v1 ∧ b2 = .int .u64 v2 ∧ ev = .bool ee ∧ Hid (LI X Y x y u0 u1 u2 v0 v1 v2 ee)) (fun xv yv _ _ _ _ _ _ _ _ => (intOf xv + intOf yv).toNat)
        case atStart => exact ⟨rfl, X, Y, 0, 1, 0, 0, 0, 1, false, rfl, rfl, rfl, rfl, rfl, rfl, rfl, rfl, rfl, li_start X Y hYX⟩
        case round =>
          obtain ⟨rfl, x, y, c0, c1, c2, d0, d1, d2, ee, rfl, rfl, rfl, rfl, rfl, rfl, rfl, rfl, rfl, HLI⟩ := hrel
          obtain ⟨i1, i2, i3, i4, i5, i6, i7⟩ := li_bounds HLI.out (by omega) _ hX2
          have i8 := HLI.out.le
          by_cases hcc : d2 ≤ y ∧ d1 + d2 ≤ x - y
          · obtain ⟨hc1, hc2⟩ := hcc
            have hc1I : (d2 : Int) ≤ y := by omega
            have hc2I : (d1 : Int) + d2 ≤ (x : Int) - y := by omega
            have hy0 : (y : Int) ≠ 0 := by have := HLI.out.k0; omega
            have HST := li_step HLI.out hc1 hc2
            obtain ⟨j1, j2, j3, j4, j5, j6, j7⟩ := li_bounds HST (by omega) _ hX2
            have hqI : (x : Int) / (y : Int) = ((x / y : Nat) : Int) := by simp
            have hqx : x / y ≤ x := Nat.div_le_self _ _
            have hqy : x / y * y ≤ x := Nat.div_mul_le_self _ _
            have hy3 : ((y : Int) == 0) = false := beq_eq_false_iff_ne.2 hy0
            have q0 : 0 ≤ (x : Int) / (y : Int) ∧ (x : Int) / (y : Int) ≤ x := by rw [hqI]; exact ⟨Int.natCast_nonneg _, Int.ofNat_le.2 hqx⟩
            have q1 : 0 ≤ (x : Int) / (y : Int) * (y : Int) ∧ (x : Int) / (y : Int) * (y : Int) ≤ x := by
              rw [hqI, ← Int.natCast_mul]; omega
            have q2 : 0 ≤ (x : Int) / (y : Int) * (c2 : Int) ∧ (c1 : Int) + (x : Int) / (y : Int) * (c2 : Int) < 1152921504606846976 := by
              rw [hqI, ← Int.natCast_mul]; omega
            have q3 : 0 ≤ (x : Int) / (y : Int) * (d2 : Int) ∧ (d1 : Int) + (x : Int) / (y : Int) * (d2 : Int) < 1152921504606846976 := by
              rw [hqI, ← Int.natCast_mul]; omega
            have HSTH : Hid _ := HST
            have HME : Hid (x - x / y * y < x) := by show _ < _; have := Nat.div_pos (show y ≤ x from i8) (by omega); have := Nat.mul_le_mul_right y this; omega
            obtain ⟨q00, q01⟩ := q0
            obtain ⟨q10, q11⟩ := q1
            obtain ⟨q20, q21⟩ := q2
            obtain ⟨q30, q31⟩ := q3
            have E1 : Hid ((x : Int) - (x : Int) / (y : Int) * (y : Int) = ((x - x / y * y : Nat) : Int)) := by show _ = _; rw [hqI, ← Int.natCast_mul]; omega
            have E2 : Hid ((c1 : Int) + (x : Int) / (y : Int) * (c2 : Int) = ((c1 + x / y * c2 : Nat) : Int)) := by show _ = _; rw [hqI, ← Int.natCast_mul]; omega
            have E3 : Hid ((d1 : Int) + (x : Int) / (y : Int) * (d2 : Int) = ((d1 + x / y * d2 : Nat) : Int)) := by show _ = _; rw [hqI, ← Int.natCast_mul]; omega
            clear HST j1 j2 j3 j4 j5 j6 j7 hqx hqy hqI
            go_wp2
            rw [E1.out, E2.out, E3.out]
            exact ⟨⟨trivial, _, _, _, _, _, _, _, _, _, rfl, rfl, rfl, rfl, rfl, rfl, rfl, rfl, rfl, HSTH.out⟩, by have := HME.out; simp only [intOf]; omega⟩
          · have hor : ¬ d2 ≤ y ∨ (d2 ≤ y ∧ ¬ d1 + d2 ≤ x - y) := by omega
            have HB : Hid _ := HLI.out.b
            clear HLI hcc
            rcases hor with hc1 | ⟨hc1, hc2⟩
            all_goals
              by_cases hz : d0 = 0
              · subst hz
                go_wp2_with fail
                refine (divWords_any _ _ P Q _ hP4 hQ4 HLG.out (by omega)).mono ?_
                rintro e w5 ⟨qv, rv, rfl, hq, hr, hf5⟩
                go_wp2
                have hw1 := hQ4.mono hf5
                refine ⟨⟨Q, P % Q, hw1, hr, Nat.le_of_lt (Nat.mod_lt _ (by omega)), hQlg, (CD.rest P Q).trans HCD.out, hF4.trans hf5⟩, ?_⟩
                rw [wo_eq hw1, wo_eq hr, HM0.out]
                have := Nat.mod_lt P (show 0 < Q by omega)
                omega
              · have hz3 : ((d0 : Int) == 0) = false := beq_eq_false_iff_ne.2 (by omega)
                have hz4 : (d0 : Int) ≠ 0 := by omega
                obtain ⟨p, pf, pt, k1, k2, k3, k4, k5, k6⟩ := HB.out.resolve_left hz
                have b30 : d1 ≤ 1073741824 := by
                  rcases Nat.lt_or_ge 1073741824 d1 with h | h
                  · have := Nat.mul_le_mul (Nat.le_of_lt h) (Nat.le_of_lt h); omega
                  · exact h
                have b1 : d0 ≤ 1073741824 ∧ c0 ≤ 1073741824 ∧ c1 ≤ 1073741824 := by omega
                obtain ⟨b1, b2, b3⟩ := b1
                have hpos : 0 < 2 ^ n := Nat.pow_pos (by omega)
                cases ee
                · obtain ⟨A, B, eA, eB, hBA, hp1, hp2⟩ := li_out' X Y (2 ^ n) P Q _ _ x c0 c1 d0 d1 p HPX.out HQY.out (Nat.mod_lt _ hpos) (Nat.mod_lt _ hpos) hz k1 k2 k3 k5 k6 (pf rfl)
                  have HT1 : Hid (∀ wz, Fr wr wz → Calls Try.prog 74 #[u0, .slice ba bn bc, .int .i64 (-(c0 : Int)), .int .i64 (d0 : Int)] wz fun e w' => ∃ x, e = .returned x ∧ Nm w' x A ∧ Fr wz w') := fun wz hz => blend_any _ _ P Q A _ _ wz (hP4.mono hz) (hQ4.mono hz) HLG.out HLE.out (by unfold Two; omega) eA
                  have HT2 : Hid (∀ wz, Fr wr wz → Calls Try.prog 74 #[u0, .slice ba bn bc, .int .i64 (c1 : Int), .int .i64 (-(d1 : Int))] wz fun e w' => ∃ x, e = .returned x ∧ Nm w' x B ∧ Fr wz w') := fun wz hz => blend_any _ _ P Q B _ _ wz (hP4.mono hz) (hQ4.mono hz) HLG.out HLE.out (by unfold Two; omega) eB
                  have HAB : Hid (A + B ≤ P) := by
                    show _ ≤ _
                    have := Nat.mul_le_mul_right A (show 1 ≤ d1 by omega)
                    have := Nat.mul_le_mul_right B (show 1 ≤ d0 by omega)
                    omega
                  have HC2 : Hid (CD A B N M) := (CD.out hp1 hp2).trans HCD.out
                  have HBA : Hid (B ≤ A) := hBA
                  clear pf pt eA eB hBA hp1 hp2 k4 HB
                  go_wp2_with fail
                  refine (HT1.out _ (Fr.refl _)).mono ?_
                  rintro e wA ⟨xA, rfl, hA, hfA⟩
                  go_wp2_with fail
                  refine (HT2.out _ hfA).mono ?_
                  rintro e wB ⟨xB, rfl, hB, hfB⟩
                  have hA2 := hA.mono hfB
                  clear hA
                  go_wp2
                  refine ⟨⟨A, B, hA2, hB, HBA, Nat.lt_of_le_of_lt (log2_up (by have := HAB.out; omega)) HLG.out, HC2, hF4.trans (hfA.trans hfB)⟩, ?_⟩
                  rw [wo_eq hA2, wo_eq hB, HM0.out]
                  have := HAB.out
                  omega
                · obtain ⟨A, B, eA, eB, hBA, hp1, hp2⟩ := li_out X Y (2 ^ n) P Q _ _ x c0 c1 d0 d1 p HPX.out HQY.out (Nat.mod_lt _ hpos) (Nat.mod_lt _ hpos) hz k1 k2 k3 k5 k6 (pt rfl)
                  have HT1 : Hid (∀ wz, Fr wr wz → Calls Try.prog 74 #[u0, .slice ba bn bc, .int .i64 (c0 : Int), .int .i64 (-(d0 : Int))] wz fun e w' => ∃ x, e = .returned x ∧ Nm w' x A ∧ Fr wz w') := fun wz hz => blend_any _ _ P Q A _ _ wz (hP4.mono hz) (hQ4.mono hz) HLG.out HLE.out (by unfold Two; omega) eA
                  have HT2 : Hid (∀ wz, Fr wr wz → Calls Try.prog 74 #[u0, .slice ba bn bc, .int .i64 (-(c1 : Int)), .int .i64 (d1 : Int)] wz fun e w' => ∃ x, e = .returned x ∧ Nm w' x B ∧ Fr wz w') := fun wz hz => blend_any _ _ P Q B _ _ wz (hP4.mono hz) (hQ4.mono hz) HLG.out HLE.out (by unfold Two; omega) eB
                  have HAB : Hid (A + B ≤ P) := by
                    show _ ≤ _
                    have := Nat.mul_le_mul_right A (show 1 ≤ d1 by omega)
                    have := Nat.mul_le_mul_right B (show 1 ≤ d0 by omega)
                    omega
                  have HC2 : Hid (CD A B N M) := (CD.out hp1 hp2).trans HCD.out
                  have HBA : Hid (B ≤ A) := hBA
                  clear pf pt eA eB hBA hp1 hp2 k4 HB
                  go_wp2_with fail
                  refine (HT1.out _ (Fr.refl _)).mono ?_
                  rintro e wA ⟨xA, rfl, hA, hfA⟩
                  go_wp2_with fail
                  refine (HT2.out _ hfA).mono ?_
                  rintro e wB ⟨xB, rfl, hB, hfB⟩
                  have hA2 := hA.mono hfB
                  clear hA
                  go_wp2
                  refine ⟨⟨A, B, hA2, hB, HBA, Nat.lt_of_le_of_lt (log2_up (by have := HAB.out; omega)) HLG.out, HC2, hF4.trans (hfA.trans hfB)⟩, ?_⟩
                  rw [wo_eq hA2, wo_eq hB, HM0.out]
                  have := HAB.out
                  omega
      · have hbn2 : bn ≤ 2 := by omega
        have cI : ¬ (2 : Int) < bn := by omega
        have hQ64 := z3 hbn2
        by_cases c0 : bn = 0
        · have hQ0 := z1.1 c0
          subst c0
          subst hQ0
          go_wp2_with fail
          refine (copied_any _ P _ hP HLG.out).mono ?_
          rintro e w5 ⟨x, rfl, hx, hf5⟩
          go_wp2
          go_ret
          have := HCD.out P (Nat.dvd_refl _) (Nat.dvd_zero _)
          exact ⟨x, P, rfl, hx, this.1, this.2, hfr.trans hf5⟩
        · have c0I : (bn : Int) ≠ 0 := by omega
          have c0I' : ((bn : Int) == 0) = false := beq_eq_false_iff_ne.2 c0I
          have hQp : 0 < Q := by
            rcases Nat.eq_zero_or_pos Q with h | h
            · exact absurd (z1.2 h) c0
            · exact h
          go_wp2_with fail
          refine (divWords_any _ _ P Q _ hP hQ HLG.out hQp).mono ?_
          rintro e w5 ⟨qv, rv, rfl, hq, hr, hf5⟩
          go_wp2_with fail
          refine (toUint_any _ Q _ (hQ.mono hf5)).mono ?_
          rintro e w6 ⟨rfl, rfl⟩
          rw [Nat.mod_eq_of_lt hQ64]
          go_wp2_with fail
          refine (toUint_any _ (P % Q) _ hr).mono ?_
          rintro e w7 ⟨rfl, rfl⟩
          have hrq := Nat.mod_lt P hQp
          rw [Nat.mod_eq_of_lt (show P % Q < 18446744073709551616 by omega)]
          have HC3 : Hid (CD Q (P % Q) N M) := (CD.rest P Q).trans HCD.out
          generalize P % Q = R at *
          have hF5 := hfr.trans hf5
          go_wp2
          go_loopw [20, 21] (fun xv yv wz => Fr w wz ∧ ∃ x y : Nat, xv = .int .u64 x ∧ yv = .int .u64 y ∧ x < 18446744073709551616 ∧ y < 18446744073709551616 ∧ Hid (CD x y N M)) (fun _ yv _ => (intOf yv).toNat)
          case atStart => exact ⟨hF5, Q, R, rfl, rfl, hQ64, by omega, HC3⟩
          case round =>
            obtain ⟨hF6, x, y, rfl, rfl, hx, hy, HC4⟩ := hrel
            by_cases hy0 : y = 0
            · subst hy0
              go_wp2_with fail
              refine (fromUint_any x _ hx).mono ?_
              rintro e w8 ⟨xv, rfl, hxv, hf8⟩
              go_wp2
              go_ret
              have := HC4.out x (Nat.dvd_refl _) (Nat.dvd_zero _)
              exact ⟨xv, x, rfl, hxv, this.1, this.2, hF6.trans hf8⟩
            · have hy1 : (y : Int) ≠ 0 := by omega
              have hy3 : ((y : Int) == 0) = false := beq_eq_false_iff_ne.2 hy1
              have hl := Nat.mod_lt x (show 0 < y by omega)
              have E1 : Hid ((x : Int) % (y : Int) = ((x % y : Nat) : Int)) := by show _ = _; simp
              have hl2 : (x : Int) % (y : Int) < y ∧ 0 ≤ (x : Int) % (y : Int) := by rw [E1.out]; exact ⟨Int.ofNat_lt.2 hl, Int.natCast_nonneg _⟩
              obtain ⟨hl2, hl3⟩ := hl2
              go_wp2
              go_region
              all_goals (try go_wp2)
              all_goals (
                go_roundw
                case rel =>
                  refine ⟨hF6.drew, y, x % y, rfl, ?_, hy, by omega, (CD.rest x y).trans HC4.out⟩
                  rw [← E1.out]
                case measure => simp only [intOf]; omega)
end Go.Proofs.Ythfdcembajhgcaa
