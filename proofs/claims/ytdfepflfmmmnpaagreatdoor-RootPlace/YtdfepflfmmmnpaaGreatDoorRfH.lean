/-
  OWN TEXT: what Scale of the reference returns, for every float and whole number.
-/
import Derived.Test.YtdfepflfmmmnpaaGreatDoorRfG
namespace Go.Proofs.YtdfepflfmmmnpaaGreatDoor
open Go.ChangeShapes Go.WideShapes Go.ChangeAt Go.RowKit
open Bg
set_option linter.unusedVariables false
attribute [local go_sem] frombits_call tobits_call
theorem ft_made (w : World) : Ft (w.alloc (.cells #[.bool false, .slice none 0 0, .int .i64 0, .int .i64 0, .bool false] 62)) w.heap.size false 0 0 0 := by
  refine ⟨⟨by simp, fun i x => ?_, fun i => World.frozen?_alloc_at _ _ _ _ rfl⟩, by simp, ⟨.slice none 0 0, by simp, nm_nil _⟩, by simp, by simp, by simp⟩
  rw [World.cell?_alloc_at _ _ _ _ rfl]
  rcases i with _ | _ | _ | _ | _ | i <;> simp
theorem scale_arith (A' k k' K p q P d c : Nat) (E n' : Int) (hc : c = 1074) (hE : E = (K : Int) - 1074 + k + n' + k') (hp : max E 0 = (p : Int)) (hq : max (-E) 0 = (q : Int)) (hP : n'.toNat = P) (hd : (-n').toNat = d) :
    A' * 2 ^ p * 2 ^ (c + d) = 2 ^ q * (A' * 2 ^ k' * 2 ^ k * 2 ^ K * 2 ^ P) := by
  have e : p + (c + d) = q + (k' + k + K + P) := by omega
  rw [Nat.mul_assoc, ← Nat.pow_add, e, Nat.pow_add, Nat.mul_left_comm, Nat.pow_add, Nat.pow_add, Nat.pow_add]
  simp only [Nat.mul_assoc]
set_option maxHeartbeats 8000000 in
theorem rscale_fin (x c : Nat) (n n' : Int) (w : World) (hx : x < 18446744073709551616) (hf : Fl.rg x < 9218868437227405312) (hz : ¬ Fl.rg x = 0) (hT : Tab w) (hw : 2 ≤ w.heap.size) (hn : max (-5000) (min 5000 n) = n') (hc : c = 1074) :
    Calls Tryz.prog 35 #[.float .f64 x, .int .i64 n] w fun e w' => e = .returned (.float .f64 (scF x n')) ∧ Fr w w' := by
  have hp : plainB x = true := by unfold plainB Fl.finB; rw [decide_eq_true hf, decide_eq_false hz]; rfl
  have hn1 : -5000 ≤ n' := by omega
  have hn2 : n' ≤ 5000 := by omega
  have hm1 := ft_made w
  have hF1 : Fr w (w.alloc (.cells #[.bool false, .slice none 0 0, .int .i64 0, .int .i64 0, .bool false] 62)) := (Fr.refl w).alloc _ _
  have hT1 := hT.mono (by omega) hF1
  obtain ⟨B, hB⟩ : ∃ B, B = w.heap.size := ⟨_, rfl⟩
  have HB : Hid (B = w.heap.size) := hB
  have HT : Hid (Tab w) := hT
  have hB1 : 1 < B := by omega
  rw [← hB] at hm1
  have HC : Hid (c = 1074) := hc
  have HS : Hid (scF x n' = Fl.wd (Fl.sg x) (Fl.rz (Fl.vl (Fl.rg x)) n')) := by
    show _ = _
    unfold scF
    rw [if_pos]
    unfold Fl.finB
    rw [decide_eq_true hf, decide_eq_false hz]; rfl
  clear hB hT hc
  go_enter Tryz.func35, Tryz.ntmps35
  go_wp2_with (first | (go_at_call 66; refine (plain_any _ _ (by assumption)).mono ?_; rintro e w ⟨rfl, rfl⟩) | fail)
  rw [← HB.out]
  generalize w.alloc (.cells #[.bool false, .slice none 0 0, .int .i64 0, .int .i64 0, .bool false] 62) = w1 at *
  refine (fsetfloat_any B x w1 hm1 hx hf hz hT1 hB1).mono ?_
  rintro e w2 ⟨rfl, ⟨M, K, hV, hM, hM2, hK, A, k, hft, hA, hA0, hA2, hk⟩, hfr⟩
  have f2 : Fr w w2 := hfr w hF1 (by have := HB.out; omega)
  have hT2 := HT.out.mono (by omega) f2
  have HV : Hid _ := hV
  have HA : Hid _ := hA
  clear hfr hm1 hF1 hT1 hV hA
  go_wp2_with fail
  refine (mantexp_any B (Fl.sg x) A ((K : Int) - 1074 + (k : Int)) n' w2 hft hA0 hA2 hT2 hB1 (by omega) (by omega) (by omega) (by omega)).mono ?_
  rintro e w3 ⟨rfl, w4, y, k', g1, g2, g3, g4, rfl⟩
  have hlA : A.log2 < 53 := (Nat.log2_lt (by omega)).2 (by omega)
  have ft4 := sf_ft (hft.mono g1) g2 (Fl.sg x) ((K : Int) - 1074 + (k : Int) + n' + (k' : Int))
  have f4 : Fr w (sf w4 B (Fl.sg x) y ((K : Int) - 1074 + (k : Int) + n' + (k' : Int))) := (f2.trans g1).sf (by have := HB.out; omega) _ _ _
  have hq0 : 0 < A / 2 ^ k' := Nat.div_pos (Nat.le_of_dvd hA0 g3) (Nat.two_pow_pos k')
  have hq1 : A / 2 ^ k' < 9007199254740992 := Nat.lt_of_le_of_lt (Nat.div_le_self _ _) hA2
  have HQ : Hid (A / 2 ^ k' * 2 ^ k' = A) := Nat.div_mul_cancel g3
  have hk' : k' ≤ 52 := by omega
  clear g1 g2 g3 g4 hft hT2 f2
  generalize sf w4 B (Fl.sg x) y ((K : Int) - 1074 + (k : Int) + n' + (k' : Int)) = w5 at *
  generalize A / 2 ^ k' = A' at *
  obtain ⟨E, hE⟩ : ∃ E : Int, E = (K : Int) - 1074 + (k : Int) + n' + (k' : Int) := ⟨_, rfl⟩
  rw [← hE] at ft4
  obtain ⟨p, hp'⟩ : ∃ p : Nat, max E 0 = (p : Int) := ⟨(max E 0).toNat, by omega⟩
  obtain ⟨q, hq'⟩ : ∃ q : Nat, max (-E) 0 = (q : Int) := ⟨(max (-E) 0).toNat, by omega⟩
  have AR := scale_arith A' k k' K p q n'.toNat (-n').toNat c E n' HC.out hE hp' hq' rfl rfl
  rw [HQ.out, HA.out, ← HV.out] at AR
  have C := float64_any B (Fl.sg x) A' (Fl.vl (Fl.rg x) * 2 ^ n'.toNat) (-n').toNat c p q E w5 ft4 hq0 hq1 hp' hq' (by omega) (by omega) HC.out AR
  have e1 : Fl.wd (Fl.sg x) (Fl.rq (Fl.vl (Fl.rg x) * 2 ^ n'.toNat) (-n').toNat) = scF x n' := by rw [HS.out]; rfl
  rw [e1] at C
  have CC : Hid (Calls Tryz.prog 69 #[.pointer (some ⟨B, 0, none⟩)] w5 fun e w' => e = .returned (.tuple #[.float .f64 (scF x n'), .int .i64 0]) ∧ Fr w5 w') := C
  clear C AR hp' hq' hE HQ HV HA HS ft4 hq0 hq1 e1
  go_wp2_with fail
  refine CC.out.mono ?_
  rintro e w6 ⟨rfl, f6⟩
  have f7 := f4.trans f6
  clear CC f4 f6
  go_wp2
  go_ret
  exact ⟨rfl, f7⟩
theorem rscale_any (x : Nat) (n : Int) (w : World) (hx : x < 18446744073709551616) (hT : Tab w) (hw : 2 ≤ w.heap.size) :
    Calls Tryz.prog 35 #[.float .f64 x, .int .i64 n] w fun e w' => e = .returned (.float .f64 (scF x n)) ∧ Fr w w' := by
  by_cases c : Fl.rg x = 0 ∨ 9218868437227405312 ≤ Fl.rg x
  · have hp : plainB x = false := by
      unfold plainB Fl.finB
      rcases c with c | c
      · rw [decide_eq_true c]; simp
      · rw [decide_eq_false (by omega)]; rfl
    rw [scF_stay c]
    clear c hT
    go_enter Tryz.func35, Tryz.ntmps35
    go_wp2_with (first | (go_at_call 66; refine (plain_any _ _ (by assumption)).mono ?_; rintro e w ⟨rfl, rfl⟩) | fail)
    go_ret
    exact ⟨rfl, Fr.refl _⟩
  · have e : scF x (max (-5000) (min 5000 n)) = scF x n := by
      rw [← scF_clamp (x := x) n, ← scF_clamp (x := x) (max (-5000) (min 5000 n))]
      congr 1
      omega
    have := rscale_fin x 1074 n _ w hx (by omega) (by omega) hT hw rfl rfl
    rw [e] at this
    exact this
end Go.Proofs.YtdfepflfmmmnpaaGreatDoor
