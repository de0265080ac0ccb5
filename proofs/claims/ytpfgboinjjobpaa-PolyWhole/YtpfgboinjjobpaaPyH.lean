/-
  OWN TEXT: package poly: values at a place (steps, At), of lists of whole complex numbers.
-/
import Derived.Test.YtpfgboinjjobpaaPyG
namespace Go.Proofs.Ytpfgboinjjobpaa
open Go.ChangeShapes Go.WideShapes Go.ChangeAt Go.RowKit
set_option linter.unusedVariables false
attribute [local go_sem] frombits_call tobits_call run_neg
theorem isAdd8 : isOp .add := Or.inl rfl
theorem isSub8 : isOp .sub := Or.inr (Or.inl rfl)
theorem isMul8 : isOp .mul := Or.inr (Or.inr (Or.inl rfl))
/-- a product of whatever numbers -/
theorem pmul_free (x y u v : Nat) (w : World) : Calls Try.prog 14 #[.complex .f64 x y, .complex .f64 u v] w fun e w' => ∃ r s, e = .returned (.complex .f64 r s) ∧ Bw w w' := by
  obtain ⟨p1, w1, _, e1, b1⟩ := op_run .mul isMul8 x u w
  obtain ⟨p2, w2, _, e2, b2⟩ := op_run .mul isMul8 y v w1
  obtain ⟨r, w3, _, e3, b3⟩ := op_run .sub isSub8 p1 p2 w2
  obtain ⟨p3, w4, _, e4, b4⟩ := op_run .mul isMul8 x v w3
  obtain ⟨p4, w5, _, e5, b5⟩ := op_run .mul isMul8 y u w4
  obtain ⟨s, w6, _, e6, b6⟩ := op_run .add isAdd8 p3 p4 w5
  have B := bw_trans (bw_trans (bw_trans (bw_trans (bw_trans b1 b2) b3) b4) b5) b6
  clear b1 b2 b3 b4 b5 b6
  go_enter Try.func14, Try.ntmps14
  go_wp2
  go_ret
  exact ⟨r, s, rfl, B⟩
theorem cadd_free (x y u v : Nat) (w : World) : ∃ r s w1, (∀ t, (binOp .add t (.complex .f64 x y) (.complex .f64 u v)).run Try.prog w = .ok (.complex .f64 r s) w1) ∧ Bw w w1 := by
  obtain ⟨r, w1, _, e1, b1⟩ := op_run .add isAdd8 x u w
  obtain ⟨s, w2, _, e2, b2⟩ := op_run .add isAdd8 y v w1
  exact ⟨r, s, w2, fun t => csum_run8 (Or.inl rfl) e1 e2 t, bw_trans b1 b2⟩
/-- how great the steps get -/
def Steps (l : List Py.G) (n Z : Nat) (U : Nat → Nat) : Prop := Py.Le (Py.co l n) (U n) ∧ (∀ k, k < n → ∃ D, Py.Le (Py.co l k) D ∧ U (k + 1) * Z + D ≤ U k) ∧ ∀ k, k ≤ n → U k ≤ 9007199254740992
set_option maxHeartbeats 4000000 in
theorem steps8 {c : Nat} (hc : c = 1074) {w : World} {b o cap n x y Z : Nat} {l : List Py.G} {g : Py.G} (U : Nat → Nat) (hn : l.length = n + 1) (hm : n < 1000) (h : Gl c w b o l) (hg : wC c x y g) (lg : Py.Le g Z) (hU : Steps l n Z U) : Calls Try.prog 38 #[.slice (some ⟨b, o, none⟩) (n + 1) cap, .complex .f64 x y] w fun e w' => ∃ r s p q, e = .returned (.tuple #[.complex .f64 r s, .complex .f64 p q]) ∧ wC c r s (Py.ev l g) ∧ Bw w w' := by
  obtain ⟨x0, y0, q0, L⟩ := last8 (cap := cap) n hn (by omega) h
  have HL := hide L
  have HG := hide h
  have HN := hide hn
  have HU := hide hU
  have HZ := hide hg
  have HQ : Hid (wC c x0 y0 (Py.ev (l.drop n) g) ∧ Py.Le (Py.ev (l.drop n) g) (U n)) := by
    have e : Py.ev (l.drop n) g = Py.co l n := by
      rw [Py.ev_drop _ _ (by omega), List.drop_of_length_le (by omega), Py.ev, Py.nought_gm, Py.nought_ga]
    show _ ∧ _
    rw [e]; exact ⟨q0, hU.1⟩
  clear L h hn hU hg q0
  go_enter Try.func38, Try.ntmps38
  go_wp2_with fail
  refine HL.out.mono ?_
  rintro e' w ⟨rfl, rfl⟩
  clear HL
  go_wp2
  go_loopw [4, 5, 6] (fun v t i wr => ∃ (k r s p q : Nat), k ≤ n ∧ i = .int .i64 ((k : Int) - 1) ∧ v = .complex .f64 r s ∧ t = .complex .f64 p q ∧ wC c r s (Py.ev (l.drop k) g) ∧ Py.Le (Py.ev (l.drop k) g) (U k) ∧ Bw w wr) (fun _ _ i _ => (intOf i + 1).toNat)
  case atStart => exact ⟨n, x0, y0, 0, 0, Nat.le_refl _, by simp; try omega, rfl, rfl, HQ.out.1, HQ.out.2, Bw.refl _⟩
  case round =>
    obtain ⟨k, r, s, p, q, hk, rfl, rfl, rfl, hrs, hle, hbw⟩ := hrel
    cases k with
    | zero =>
      have HR := hide hrs
      clear hrs hle
      go_wp2
      go_ret2
      exact ⟨r, s, p, q, rfl, HR.out, hbw⟩
    | succ j =>
      rw [show (((j + 1 : Nat) : Int) - 1) = (j : Int) by omega]
      have hj := HU.out.2.2 j (by omega)
      obtain ⟨D, hD, hD2⟩ := HU.out.2.1 j (by omega)
      obtain ⟨a1, a2, ha, MU⟩ := pmul8 hc hrs HZ.out hle lg (by omega)
      have hbound := hle.mul lg
      obtain ⟨cx, cy, ec, qc⟩ := (HG.out.bw hbw).2 j (by have := HN.out; omega)
      obtain ⟨d1, d2, hd, AD⟩ := c_add hc ha qc hbound hD (by omega)
      have HR : Hid (wC c d1 d2 (Py.ev (l.drop j) g) ∧ Py.Le (Py.ev (l.drop j) g) (U j)) := by
        show _ ∧ _
        rw [Py.ev_drop _ _ (by have := HN.out; omega)]
        exact ⟨hd, (hbound.add hD).mono hD2⟩
      have HM := hide MU
      clear MU hd ha qc hbound hD hD2 hj hrs hle
      go_wp2_with fail
      refine (pmul_free p q x y _).mono ?_
      rintro e' w1 ⟨p1, q1, rfl, b1⟩
      obtain ⟨p2, q2, w2, EA, b2⟩ := cadd_free p1 q1 r s w1
      go_wp2_with fail
      refine (HM.out _).mono ?_
      rintro e' w3 ⟨rfl, rfl⟩
      have hb0 := hbw
      replace hbw := bw_trans (bw_trans hbw b1) b2
      have ec2 : w3.cell? ⟨b, o + j, none⟩ = some (.complex .f64 cx cy) := by
        have := (Below.cell (bw_trans b1 b2) (p := ⟨b, o + j, none⟩) (by have := HG.out.1; have := Below.size hb0; show b < _; omega)).trans ec
        exact this
      clear ec b1 b2 HM EA hb0
      have hj2 : (j : Int) < (n : Int) + 1 := by omega
      go_wp2
      go_roundw
      case rel => exact ⟨j, d1, d2, p2, q2, by omega, by simp, rfl, rfl, HR.out.1, HR.out.2, hbw⟩
      case measure => simp [intOf]; try omega
end Go.Proofs.Ytpfgboinjjobpaa
