/-
  OWN TEXT: what topBits of package eddybig returns, for all words: 64 bits out of the middle.
-/
import Derived.Test.YthfdcembajhgcaaBgN
namespace Go.Proofs.Ythfdcembajhgcaa
open Go.ChangeShapes Go.WideShapes Go.ChangeAt Go.RowKit
open Bg
set_option linter.unusedVariables false
/-- 64 bits of a number, out of three words -/
theorem top_val (w0 w1 w2 R s : Nat) (h0 : w0 < 4294967296) (h1 : w1 < 4294967296) (hs : s < 32) :
    (w0 + 4294967296 * (w1 + 4294967296 * (w2 + 4294967296 * R))) / 2 ^ s % 18446744073709551616 = w2 * 2 ^ (64 - s) % 18446744073709551616 + w1 * 2 ^ (32 - s) + w0 / 2 ^ s ∧ w0 / 2 ^ s < 2 ^ (32 - s) ∧ w1 * 2 ^ (32 - s) < 2 ^ (64 - s) ∧ 2 ^ (64 - s) ∣ w2 * 2 ^ (64 - s) % 18446744073709551616 ∧ 2 ^ (32 - s) ∣ w2 * 2 ^ (64 - s) % 18446744073709551616 + w1 * 2 ^ (32 - s) ∧ w2 * 2 ^ (64 - s) % 18446744073709551616 + w1 * 2 ^ (32 - s) < 18446744073709551616 := by
  have p1 : 2 ^ s * 2 ^ (32 - s) = 4294967296 := by rw [← Nat.pow_add, show s + (32 - s) = 32 by omega]
  have p2 : 2 ^ (32 - s) * 4294967296 = 2 ^ (64 - s) := by rw [show 4294967296 = 2 ^ 32 by rfl, ← Nat.pow_add, show 32 - s + 32 = 64 - s by omega]
  have p3 : 2 ^ s * 2 ^ (64 - s) = 18446744073709551616 := by rw [← Nat.pow_add, show s + (64 - s) = 64 by omega]
  have q1 : 0 < 2 ^ s := Nat.pow_pos (by omega)
  have q2 : 0 < 2 ^ (32 - s) := Nat.pow_pos (by omega)
  generalize 2 ^ s = P at *
  generalize 2 ^ (32 - s) = Q at *
  generalize 2 ^ (64 - s) = T at *
  have a0 : w0 / P < Q := Nat.div_lt_of_lt_mul (by rw [p1]; exact h0)
  have a1 : w1 * Q + w0 / P < T := by
    have : (w1 + 1) * Q ≤ 4294967296 * Q := Nat.mul_le_mul_right _ h1
    rw [Nat.add_mul, Nat.one_mul, Nat.mul_comm 4294967296, p2] at this
    omega
  have e1 : (w0 + 4294967296 * (w1 + 4294967296 * (w2 + 4294967296 * R))) / P = w0 / P + Q * (w1 + 4294967296 * (w2 + 4294967296 * R)) := by
    rw [← p1, Nat.mul_assoc P, Nat.add_mul_div_left _ _ q1]
  have e2 : Q * (w1 + 4294967296 * (w2 + 4294967296 * R)) = w1 * Q + w2 * T + 18446744073709551616 * (Q * R) := by
    rw [← p2]
    rw [Nat.mul_add Q w1, Nat.mul_left_comm Q 4294967296, Nat.mul_add Q w2, Nat.mul_left_comm Q 4294967296 R, Nat.mul_comm Q w1, Nat.mul_left_comm w2 Q, Nat.mul_comm w2 4294967296, Nat.mul_left_comm Q 4294967296 w2]
    omega
  rw [e1, e2]
  clear e1 e2
  generalize w0 / P = z at *
  have e3 : w2 * T % 18446744073709551616 = T * (w2 % P) := by
    rw [← p3, Nat.mul_comm w2, Nat.mul_comm P, Nat.mul_mod_mul_left]
  have hT : T * (w2 % P) + T ≤ 18446744073709551616 := by
    rw [← p3, Nat.mul_comm P, ← Nat.mul_succ]
    exact Nat.mul_le_mul_left _ (Nat.mod_lt _ q1)
  refine ⟨?_, a0, by omega, ?_, ?_, by rw [e3]; omega⟩
  · rw [← Nat.add_assoc, Nat.add_mul_mod_self_left]
    have e4 := Nat.div_add_mod (w2 * T) 18446744073709551616
    rw [e3] at e4 ⊢
    rw [← e4]
    rw [show z + (w1 * Q + (18446744073709551616 * (w2 * T / 18446744073709551616) + T * (w2 % P))) = (z + w1 * Q + T * (w2 % P)) + 18446744073709551616 * (w2 * T / 18446744073709551616) by omega, Nat.add_mul_mod_self_left, Nat.mod_eq_of_lt (by omega)]
    omega
  · rw [e3]; exact Nat.dvd_mul_right _ _
  · rw [e3]
    refine Nat.dvd_add ?_ (Nat.dvd_mul_left _ _)
    rw [← p2]; exact Nat.dvd_trans (Nat.dvd_mul_right _ _) (Nat.dvd_mul_right _ _)
theorem or64 (x y s : Nat) (hy : y < 2 ^ s) (hx : 2 ^ s ∣ x) (h : x + y < 18446744073709551616) : bits BinOp.or IntKind.u64 (x : Int) (y : Int) = ((x + y : Nat) : Int) := by
  rw [u64_or_nat x y (by omega) (by omega), Nat.or_comm, or_low y x s hy hx, Nat.add_comm]
set_option maxHeartbeats 4000000 in
theorem topBits_core (a : Option Addr) (l : List Nat) (ca k s : Nat) (w : World) (hha : Hs w a l) (hda : Dg l) (hca : l.length ≤ ca) (hma : ca ≤ 1099511627776) (hlen : l.length ≤ 1000000) (hk : k ≤ 1000000) (hs : s < 32) :
    Calls Try.prog 73 #[.slice a l.length ca, .int .i64 ((32 * k + s : Nat) : Int)] w fun e w' => e = .returned (.int .u64 ((vL l / 2 ^ (32 * k + s) % 18446744073709551616 : Nat) : Int)) ∧ Fr w w' := by
  have q1 : (((32 * k + s : Nat) : Int)) / 32 = k := by omega
  have q2 : (((32 * k + s : Nat) : Int)) % 32 = s := by omega
  have q3 : (0 : Int) ≤ ((32 * k + s : Nat) : Int) := by omega
  have q4 : ((32 * k + s : Nat) : Int) ≤ 32000032 := by omega
  have HV : Hid (vL l / 2 ^ (32 * k + s) = (l.getD k 0 + 4294967296 * (l.getD (k + 1) 0 + 4294967296 * (l.getD (k + 2) 0 + 4294967296 * vL (l.drop (k + 3))))) / 2 ^ s) := by
    show _ = _
    rw [Nat.pow_add, ← Nat.div_div_eq_div_mul, ← pow32, ← vL_drop l k hda]
    congr 1
    have st : ∀ j, vL (l.drop j) = l.getD j 0 + 4294967296 * vL (l.drop (j + 1)) := by
      intro j
      by_cases h : j < l.length
      · exact vL_drop_succ l j h
      · rw [List.drop_of_length_le (by omega), List.drop_of_length_le (by omega), getD_out (by omega)]; rfl
    rw [st k, st (k + 1), st (k + 2)]
  have HT := top_val (l.getD k 0) (l.getD (k + 1) 0) (l.getD (k + 2) 0) (vL (l.drop (k + 3))) s (hda k) (hda (k + 1)) hs
  rw [← HV.out] at HT
  generalize vL l / 2 ^ (32 * k + s) % 18446744073709551616 = ans at *
  generalize hN0 : ((32 * k + s : Nat) : Int) = n0 at *
  clear hN0 HV
  have hx : ∀ j, j < l.length → ∃ b of, a = some ⟨b, of, none⟩ ∧ w.cell? ⟨b, of + j, none⟩ = some (.int .u32 (l.getD j 0 : Nat)) := by
    intro j hj
    obtain ⟨b, of, rfl, hb, hcell⟩ := hs_len hha (by omega)
    exact ⟨b, of, rfl, hcell j hj⟩
  have HX : Hid _ := hx
  have HY : Hid _ := HT
  clear hx HT
  generalize hn : l.length = n at *
  have HN : Hid (l.length = n) := hn
  clear hn
  go_enter Try.func73, Try.ntmps73
  go_wp2
  simp only [q1, q2]
  clear q1 q2 q3 q4
  have x0 := hda k
  have x1 := hda (k + 1)
  have x2 := hda (k + 2)
  have HX0 := HX.out k
  have HX1 := HX.out (k + 1)
  have HX2 := HX.out (k + 2)
  have HZ : ∀ j, n ≤ j → l.getD j 0 = 0 := fun j hj => getD_out (by rw [HN.out]; exact hj)
  have HZ0 := HZ k
  have HZ1 := HZ (k + 1)
  have HZ2 := HZ (k + 2)
  generalize l.getD k 0 = w0 at *
  generalize l.getD (k + 1) 0 = w1 at *
  generalize l.getD (k + 2) 0 = w2 at *
  have H0 : Hid _ := HX0
  have H1 : Hid _ := HX1
  have H2 : Hid _ := HX2
  have Z0 : Hid _ := HZ0
  have Z1 : Hid _ := HZ1
  have Z2 : Hid _ := HZ2
  clear HX0 HX1 HX2 HZ0 HZ1 HZ2 HZ HX hha hda
  obtain ⟨y1, y2, y3, y4, y5, y6⟩ := HY.out
  have eW2 : IntKind.u64.wrap ((w2 : Int) * 2 ^ (64 - s)) = ((w2 * 2 ^ (64 - s) % 18446744073709551616 : Nat) : Int) := by
    rw [IntKind.wrap_u64, show (w2 : Int) * 2 ^ (64 - s) = ((w2 * 2 ^ (64 - s) : Nat) : Int) by simp]; omega
  have eW1 : IntKind.u64.wrap ((w1 : Int) * 2 ^ (32 - s)) = ((w1 * 2 ^ (32 - s) : Nat) : Int) := by
    rw [IntKind.wrap_u64, show (w1 : Int) * 2 ^ (32 - s) = ((w1 * 2 ^ (32 - s) : Nat) : Int) by simp]; omega
  have eW0 : (w0 : Int) / 2 ^ s = ((w0 / 2 ^ s : Nat) : Int) := by simp
  have eZ2 : s = 0 → w2 * 2 ^ (64 - s) % 18446744073709551616 = 0 := by
    rintro rfl
    show w2 * 18446744073709551616 % _ = 0
    exact Nat.mul_mod_left _ _
  have eY2 : w2 = 0 → w2 * 2 ^ (64 - s) % 18446744073709551616 = 0 := by rintro rfl; rw [Nat.zero_mul]
  have eY1 : w1 = 0 → w1 * 2 ^ (32 - s) = 0 := by rintro rfl; rw [Nat.zero_mul]
  have eY0 : w0 = 0 → w0 / 2 ^ s = 0 := by rintro rfl; rw [Nat.zero_div]
  generalize w2 * 2 ^ (64 - s) % 18446744073709551616 = t2 at *
  generalize w1 * 2 ^ (32 - s) = t1 at *
  generalize w0 / 2 ^ s = t0 at *
  have hlt : t2 + t1 + t0 < 18446744073709551616 := by
    have : 2 ^ (32 - s) ≤ 2 ^ 32 := Nat.pow_le_pow_right (by omega) (by omega)
    obtain ⟨c, hc⟩ := y5
    have p4 : 2 ^ (32 - s) * 2 ^ (32 + s) = 18446744073709551616 := by rw [← Nat.pow_add, show 32 - s + (32 + s) = 64 by omega]
    rw [hc] at y6 ⊢
    rw [← p4] at y6 ⊢
    have hc2 := Nat.lt_of_mul_lt_mul_left y6
    have := Nat.mul_le_mul_left (2 ^ (32 - s)) (show c + 1 ≤ 2 ^ (32 + s) from hc2)
    rw [Nat.mul_succ] at this
    omega
  have eO1 := or64 t2 t1 (64 - s) y3 y4 y6
  have eO0 := or64 (t2 + t1) t0 (32 - s) y2 y5 hlt
  rw [← y1] at eO0
  clear y1 y2 y3 y4 y5 HY
  have Y2 : Hid _ := eY2
  have Y1 : Hid _ := eY1
  have Y0 : Hid _ := eY0
  have E2 : Hid _ := eZ2
  have T12 : Hid (t2 + t1 < 18446744073709551616) := y6
  have hT1 : t1 < 18446744073709551616 := by omega
  have O1 : Hid _ := eO1
  have O0 : Hid _ := eO0
  have W1 : Hid _ := eW1
  have W2 : Hid _ := eW2
  have W0 : Hid _ := eW0
  clear eY2 eY1 eY0 eZ2 y6 hlt eO1 eO0 eW0 eW1 eW2
  generalize h21 : t2 + t1 = t21 at *
  clear h21
  go_loopw [7, 8] (fun x i wr => wr = w ∧ ((i = .int .i64 2 ∧ x = .int .u64 0) ∨ (i = .int .i64 1 ∧ x = .int .u64 (t2 : Int)) ∨ (i = .int .i64 0 ∧ x = .int .u64 (t21 : Int)) ∨ (i = .int .i64 (-1) ∧ x = .int .u64 (ans : Int)))) (fun _ i _ => (intOf i + 1).toNat)
  case atStart => exact ⟨rfl, Or.inl ⟨rfl, rfl⟩⟩
  case round =>
    obtain ⟨rfl, hc⟩ := hrel
    rcases hc with ⟨rfl, rfl⟩ | ⟨rfl, rfl⟩ | ⟨rfl, rfl⟩ | ⟨rfl, rfl⟩
    · have fin : ∀ z : Int, z = (t2 : Int) → (True ∧ (Value.int IntKind.i64 1 = Value.int IntKind.i64 2 ∧ Value.int IntKind.u64 z = Value.int IntKind.u64 0 ∨ Value.int IntKind.i64 1 = Value.int IntKind.i64 1 ∧ Value.int IntKind.u64 z = Value.int IntKind.u64 t2 ∨ Value.int IntKind.i64 1 = Value.int IntKind.i64 0 ∧ Value.int IntKind.u64 z = Value.int IntKind.u64 t21 ∨ Value.int IntKind.i64 1 = Value.int IntKind.i64 (-1) ∧ Value.int IntKind.u64 z = Value.int IntKind.u64 ans)) ∧ (intOf (Value.int IntKind.i64 1) + 1).toNat < (intOf (Value.int IntKind.i64 2) + 1).toNat := by
        rintro z rfl
        exact ⟨⟨trivial, Or.inr (Or.inl ⟨rfl, rfl⟩)⟩, by decide⟩
      have FIN : Hid _ := fin
      clear fin
      by_cases c : k + 2 < n
      · obtain ⟨b, of, rfl, hcell⟩ := H2.out c
        have cI : (k : Int) + 2 < n := by omega
        by_cases hs0 : s = 0
        · have E := E2.out hs0
          subst hs0
          go_wp2
          exact FIN.out _ (by rw [E]; rfl)
        · have hs1 : (0 : Int) < (s : Int) := by omega
          go_wp2
          exact FIN.out _ W2.out
      · have cI : ¬ (k : Int) + 2 < n := by omega
        have E := Y2.out (Z2.out (by omega))
        by_cases hs0 : s = 0
        · subst hs0
          go_wp2
          exact FIN.out _ (by rw [E]; rfl)
        · have hs1 : (0 : Int) < (s : Int) := by omega
          go_wp2
          exact FIN.out _ (by rw [E]; simp)
    · have fin : ∀ z : Int, z = (t21 : Int) → (True ∧ (Value.int IntKind.i64 0 = Value.int IntKind.i64 2 ∧ Value.int IntKind.u64 z = Value.int IntKind.u64 0 ∨ Value.int IntKind.i64 0 = Value.int IntKind.i64 1 ∧ Value.int IntKind.u64 z = Value.int IntKind.u64 t2 ∨ Value.int IntKind.i64 0 = Value.int IntKind.i64 0 ∧ Value.int IntKind.u64 z = Value.int IntKind.u64 t21 ∨ Value.int IntKind.i64 0 = Value.int IntKind.i64 (-1) ∧ Value.int IntKind.u64 z = Value.int IntKind.u64 ans)) ∧ (intOf (Value.int IntKind.i64 0) + 1).toNat < (intOf (Value.int IntKind.i64 1) + 1).toNat := by
        rintro z rfl
        exact ⟨⟨trivial, Or.inr (Or.inr (Or.inl ⟨rfl, rfl⟩))⟩, by decide⟩
      have FIN : Hid _ := fin
      clear fin
      by_cases c : k + 1 < n
      · obtain ⟨b, of, rfl, hcell⟩ := H1.out c
        have cI : (k : Int) + 1 < n := by omega
        go_wp2
        exact FIN.out _ (by rw [W1.out]; exact O1.out)
      · have cI : ¬ (k : Int) + 1 < n := by omega
        have E := Y1.out (Z1.out (by omega))
        go_wp2
        exact FIN.out _ (by have := O1.out; rw [E] at this; simpa [IntKind.wrap_u64] using this)
    · have fin : ∀ z : Int, z = (ans : Int) → (True ∧ (Value.int IntKind.i64 (-1) = Value.int IntKind.i64 2 ∧ Value.int IntKind.u64 z = Value.int IntKind.u64 0 ∨ Value.int IntKind.i64 (-1) = Value.int IntKind.i64 1 ∧ Value.int IntKind.u64 z = Value.int IntKind.u64 t2 ∨ Value.int IntKind.i64 (-1) = Value.int IntKind.i64 0 ∧ Value.int IntKind.u64 z = Value.int IntKind.u64 t21 ∨ Value.int IntKind.i64 (-1) = Value.int IntKind.i64 (-1) ∧ Value.int IntKind.u64 z = Value.int IntKind.u64 ans)) ∧ (intOf (Value.int IntKind.i64 (-1)) + 1).toNat < (intOf (Value.int IntKind.i64 0) + 1).toNat := by
        rintro z rfl
        exact ⟨⟨trivial, Or.inr (Or.inr (Or.inr ⟨rfl, rfl⟩))⟩, by decide⟩
      have FIN : Hid _ := fin
      clear fin
      by_cases c : k < n
      · obtain ⟨b, of, rfl, hcell⟩ := H0.out c
        have cI : (k : Int) < n := by omega
        go_wp2
        exact FIN.out _ (by rw [W0.out]; exact O0.out)
      · have cI : ¬ (k : Int) < n := by omega
        have E := Y0.out (Z0.out (by omega))
        go_wp2
        exact FIN.out _ (by have := O0.out; rw [E] at this; simpa using this)
    · go_wp2
      go_ret
      exact ⟨rfl, Fr.refl _⟩
theorem topBits_any (v : Value) (N n : Nat) (w : World) (hv : Nm w v N) (hN : N.log2 < 32000000) (hn : n < 32000000) :
    Calls Try.prog 73 #[v, .int .i64 (n : Int)] w fun e w' => e = .returned (.int .u64 ((N / 2 ^ n % 18446744073709551616 : Nat) : Int)) ∧ Fr w w' := by
  obtain ⟨a, l, ca, rfl, hca, hma, hha, hda, rfl, hta, kl⟩ := hv.len 1000000 (by omega)
  have := topBits_core a l ca (n / 32) (n % 32) w hha hda hca hma kl (by omega) (by omega)
  rw [show 32 * (n / 32) + n % 32 = n by omega] at this
  exact this
end Go.Proofs.Ythfdcembajhgcaa
