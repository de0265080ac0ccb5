/-
  OWN TEXT: package poly: values at a place (steps, At), of lists of whole complex numbers.
-/
import Derived.Test.YtmbjgakehghdjaaJav
import Derived.Deep.RegionHeld
namespace Go.Proofs.Ytmbjgakehghdjaa
open Go.ChangeShapes Go.WideShapes Go.ChangeAt Go.RowKit
set_option linter.unusedVariables false
attribute [local go_sem] frombits_call tobits_call run_neg
theorem isAdd8 : isOp .add := Or.inl rfl
theorem isSub8 : isOp .sub := Or.inr (Or.inl rfl)
theorem isMul8 : isOp .mul := Or.inr (Or.inr (Or.inl rfl))
/-- a product of whatever numbers -/
theorem pmul_free (x y u v : Nat) (w : World) : Calls Try.prog 23 #[.complex .f64 x y, .complex .f64 u v] w fun e w' => ∃ r s, e = .returned (.complex .f64 r s) ∧ Bw w w' := by
  obtain ⟨p1, w1, _, e1, b1⟩ := op_run .mul isMul8 x u w
  obtain ⟨p2, w2, _, e2, b2⟩ := op_run .mul isMul8 y v w1
  obtain ⟨r, w3, _, e3, b3⟩ := op_run .sub isSub8 p1 p2 w2
  obtain ⟨p3, w4, _, e4, b4⟩ := op_run .mul isMul8 x v w3
  obtain ⟨p4, w5, _, e5, b5⟩ := op_run .mul isMul8 y u w4
  obtain ⟨s, w6, _, e6, b6⟩ := op_run .add isAdd8 p3 p4 w5
  have B := bw_trans (bw_trans (bw_trans (bw_trans (bw_trans b1 b2) b3) b4) b5) b6
  clear b1 b2 b3 b4 b5 b6
  go_enter Try.func23, Try.ntmps23
  go_wp2
  go_ret
  exact ⟨r, s, rfl, B⟩
theorem cadd_free (x y u v : Nat) (w : World) : ∃ r s w1, (∀ t, (binOp .add t (.complex .f64 x y) (.complex .f64 u v)).run Try.prog w = .ok (.complex .f64 r s) w1) ∧ Bw w w1 := by
  obtain ⟨r, w1, _, e1, b1⟩ := op_run .add isAdd8 x u w
  obtain ⟨s, w2, _, e2, b2⟩ := op_run .add isAdd8 y v w1
  exact ⟨r, s, w2, fun t => csum_run8 (Or.inl rfl) e1 e2 t, bw_trans b1 b2⟩
/-- how great the steps get -/
def Steps (l : List Py.G) (n Z : Nat) (U : Nat → Nat) : Prop := Py.Le (Py.co l n) (U n) ∧ (∀ k, k < n → ∃ D, Py.Le (Py.co l k) D ∧ U (k + 1) * Z + D ≤ U k) ∧ ∀ k, k ≤ n → U k ≤ 9007199254740992
set_option maxHeartbeats 4000000 in
theorem steps8 {c : Nat} (hc : c = 1074) {w : World} {b o cap n x y Z : Nat} {l : List Py.G} {g : Py.G} (U : Nat → Nat) (hn : l.length = n + 1) (hm : n < 1000) (h : Gl c w b o l) (hg : wC c x y g) (lg : Py.Le g Z) (hU : Steps l n Z U) : Calls Try.prog 69 #[.slice (some ⟨b, o, none⟩) (n + 1) cap, .complex .f64 x y] w fun e w' => ∃ r s p q, e = .returned (.tuple #[.complex .f64 r s, .complex .f64 p q]) ∧ wC c r s (Py.ev l g) ∧ Bw w w' := by
  obtain ⟨x0, y0, q0, L⟩ := last8 (cap := cap) n hn (by omega) h
  have HL := hide L
  have HG := hide h
  have HN := hide hn
  have HU := hide hU
  have HZ := hide hg
  have HQ : Hid (wC c x0 y0 (Py.ev (l.drop n) g) ∧ Py.Le (Py.ev (l.drop n) g) (U n)) := by
    have e : Py.ev (l.drop n) g = Py.co l n := by
      rw [Py.ev_drop _ _ (by omega), List.drop_of_length_le (by omega), Py.ev, Py.nought_gm, Py.nought_ga]
    show _ ∧ _
    rw [e]; exact ⟨q0, hU.1⟩
  clear L h hn hU hg q0
  go_enter Try.func69, Try.ntmps69
  go_wp2_with fail
  refine HL.out.mono ?_
  rintro e' w ⟨rfl, rfl⟩
  clear HL
  go_wp2
  go_loopw [4, 5, 6] (fun v t i wr => ∃ (k r s p q : Nat), k ≤ n ∧ i = .int .i64 ((k : Int) - 1) ∧ v = .complex .f64 r s ∧ t = .complex .f64 p q ∧ wC c r s (Py.ev (l.drop k) g) ∧ Py.Le (Py.ev (l.drop k) g) (U k) ∧ Bw w wr) (fun _ _ i _ => (intOf i + 1).toNat)
  case atStart => exact ⟨n, x0, y0, 0, 0, Nat.le_refl _, by simp; try omega, rfl, rfl, HQ.out.1, HQ.out.2, Bw.refl _⟩
  case round =>
    obtain ⟨k, r, s, p, q, hk, rfl, rfl, rfl, hrs, hle, hbw⟩ := hrel
    cases k with
    | zero =>
      have HR := hide hrs
      clear hrs hle
      go_wp2
      go_ret2
      exact ⟨r, s, p, q, rfl, HR.out, hbw⟩
    | succ j =>
      rw [show (((j + 1 : Nat) : Int) - 1) = (j : Int) by omega]
      have hj := HU.out.2.2 j (by omega)
      obtain ⟨D, hD, hD2⟩ := HU.out.2.1 j (by omega)
      obtain ⟨a1, a2, ha, MU⟩ := pmul8 hc hrs HZ.out hle lg (by omega)
      have hbound := hle.mul lg
      obtain ⟨cx, cy, ec, qc⟩ := (HG.out.bw hbw).2 j (by have := HN.out; omega)
      obtain ⟨d1, d2, hd, AD⟩ := c_add hc ha qc hbound hD (by omega)
      have HR : Hid (wC c d1 d2 (Py.ev (l.drop j) g) ∧ Py.Le (Py.ev (l.drop j) g) (U j)) := by
        show _ ∧ _
        rw [Py.ev_drop _ _ (by have := HN.out; omega)]
        exact ⟨hd, (hbound.add hD).mono hD2⟩
      have HM := hide MU
      clear MU hd ha qc hbound hD hD2 hj hrs hle
      go_wp2_with fail
      refine (pmul_free p q x y _).mono ?_
      rintro e' w1 ⟨p1, q1, rfl, b1⟩
      obtain ⟨p2, q2, w2, EA, b2⟩ := cadd_free p1 q1 r s w1
      go_wp2_with fail
      refine (HM.out _).mono ?_
      rintro e' w3 ⟨rfl, rfl⟩
      have hb0 := hbw
      replace hbw := bw_trans (bw_trans hbw b1) b2
      have ec2 : w3.cell? ⟨b, o + j, none⟩ = some (.complex .f64 cx cy) := by
        have := (Below.cell (bw_trans b1 b2) (p := ⟨b, o + j, none⟩) (by have := HG.out.1; have := Below.size hb0; show b < _; omega)).trans ec
        exact this
      clear ec b1 b2 HM EA hb0
      have hj2 : (j : Int) < (n : Int) + 1 := by omega
      go_wp2
      go_roundw
      case rel => exact ⟨j, d1, d2, p2, q2, by omega, by simp, rfl, rfl, HR.out.1, HR.out.2, hbw⟩
      case measure => simp [intOf]; try omega
end Go.Proofs.Ytmbjgakehghdjaa
/-
  OWN TEXT: package poly: At, Add, of lists of whole complex numbers.
-/
namespace Go.Proofs.Ytmbjgakehghdjaa
open Go.ChangeShapes Go.WideShapes Go.ChangeAt Go.RowKit
set_option linter.unusedVariables false
attribute [local go_sem] frombits_call tobits_call run_neg run_store_cx
theorem at8 {c : Nat} (hc : c = 1074) {w : World} {b o cap n x y Z : Nat} {l : List Py.G} {g : Py.G} (U : Nat → Nat) (hm : May n l) (h : Gl c w b o l) (hg : wC c x y g) (lg : Py.Le g Z) (hZ : Z ≤ 1099511627776) (hU : Steps l n Z U) : Calls Try.prog 50 #[.slice (some ⟨b, o, none⟩) (n + 1) cap, .complex .f64 x y] w fun e w' => ∃ r s, e = .returned (.tuple #[.complex .f64 r s, .int .i64 0]) ∧ wC c r s (Py.ev l g) ∧ Bw w w' := by
  have C := hide (checkwith8 (cap := cap) hc hm h hg (lg.mono hZ))
  have S : Hid (∀ wz, Bw w wz → Calls Try.prog 69 #[.slice (some ⟨b, o, none⟩) (n + 1) cap, .complex .f64 x y] wz fun e w' => ∃ r s p q, e = .returned (.tuple #[.complex .f64 r s, .complex .f64 p q]) ∧ wC c r s (Py.ev l g) ∧ Bw wz w') := fun wz hz => steps8 hc U hm.1 (by have := hm.2.1; omega) (h.bw hz) hg lg hU
  clear hm h hg lg hZ hU
  go_enter Try.func50, Try.ntmps50
  go_wp2_with fail
  refine C.out.mono ?_
  rintro e' w1 ⟨rfl, b1⟩
  clear C
  go_wp2_with fail
  refine (S.out _ b1).mono ?_
  rintro e' w2 ⟨r, s, p, q, rfl, hrs, b2⟩
  have HR := hide hrs
  have F : Hid (∀ wz, Calls Try.prog 61 #[.complex .f64 r s] wz fun e w' => e = .returned (.bool true) ∧ w' = wz) := fun wz => pfinite8 hrs wz
  replace b1 := bw_trans b1 b2
  clear S hrs b2
  go_wp2_with fail
  refine (F.out _).mono ?_
  rintro e' w3 ⟨rfl, rfl⟩
  clear F
  go_wp2
  go_ret2
  exact ⟨r, s, rfl, HR.out, b1⟩
/-- an answered polynomial: its coefficients are those of F -/
def Ans (c : Nat) (w w' : World) (e : Ending) (N : Nat) (F : Nat → Py.G) : Prop := ∃ B m l, e = .returned (.tuple #[.slice (some ⟨B, 0, none⟩) (m + 1) (m + 1), .int .i64 0]) ∧ May m l ∧ m + 1 ≤ N ∧ Gl c w' B 0 l ∧ w.heap.size ≤ B ∧ Bw w w' ∧ ∀ i, Py.co l i = F i
theorem Ans.of {c : Nat} {w w' : World} {B n : Nat} {l : List Py.G} (hn : l.length = n) (h0 : 0 < n) (hm : n ≤ 65) (h : Gl c w' B 0 l) (hB : w.heap.size ≤ B) (hb : Bw w w') (hl : ∀ i, Py.Le (Py.co l i) 1099511627776) : Ans c w w' (.returned (.tuple #[.slice (some ⟨B, 0, none⟩) (Py.tl l n) (Py.tl l n), .int .i64 0])) n (Py.co l) := by
  have hp := Py.tl_pos l n h0
  have hle := Py.tl_le l n
  have hlast := Py.tl_last l n
  have hlen := Py.tr_len l
  rw [hn] at hlen
  obtain ⟨m, hm'⟩ : ∃ m, Py.tl l n = m + 1 := ⟨Py.tl l n - 1, by omega⟩
  refine ⟨B, m, Py.tr l, by rw [hm'], ⟨by omega, by omega, ?_, fun i _ => by rw [Py.co_tr]; exact hl i⟩, by omega, ?_, hB, hb, Py.co_tr l⟩
  · rw [hm'] at hlast
    rw [Py.co_tr]
    rcases hlast with k | k | k
    · omega
    · left; omega
    · right; rw [Nat.add_sub_cancel] at k; exact k
  · unfold Py.tr; rw [hn]; exact h.take _
theorem Gl.setBelow {c : Nat} {w w0 : World} {b o : Nat} {l : List Py.G} (h : Gl c w0 b o l) (hb : Bw w0 w) : Gl c w b o l := h.bw hb
set_option maxHeartbeats 4000000 in
theorem add_core {c : Nat} (hc : c = 1074) {w : World} {b o cap n b' o' cap' n' A A' : Nat} {l l' : List Py.G} (sw : Bool) (hm : May n l) (h : Gl c w b o l) (hm' : May n' l') (h' : Gl c w b' o' l') (hl : ∀ i, Py.Le (Py.co l i) A) (hl' : ∀ i, Py.Le (Py.co l' i) A') (hA : A + A' ≤ 1099511627776) (hnn : if sw then n' < n else n' ≤ n) :
    Calls Try.prog 62 (if sw then #[.slice (some ⟨b', o', none⟩) (n' + 1) cap', .slice (some ⟨b, o, none⟩) (n + 1) cap] else #[.slice (some ⟨b, o, none⟩) (n + 1) cap, .slice (some ⟨b', o', none⟩) (n' + 1) cap']) w fun e w' => Ans c w w' e (n + 1) (fun i => Py.ga (Py.co l i) (Py.co l' i)) := by
  have C : Hid (Calls Try.prog 74 (if sw then #[.slice (some ⟨b', o', none⟩) (n' + 1) cap', .slice (some ⟨b, o, none⟩) (n + 1) cap] else #[.slice (some ⟨b, o, none⟩) (n + 1) cap, .slice (some ⟨b', o', none⟩) (n' + 1) cap']) w fun e w' => e = .returned (.int .i64 0) ∧ Bw w w') := by
    show Calls _ _ _ _ _
    cases sw
    · exact checktwo8 hc hm h hm' h'
    · exact checktwo8 hc hm' h' hm h
  have CP : Hid (∀ wz, Bw w wz → Calls Try.prog 75 #[.slice (some ⟨b, o, none⟩) (n + 1) cap] wz fun e w' => e = .returned (.slice (some ⟨wz.heap.size, 0, none⟩) (n + 1) (n + 1)) ∧ Gw c w' wz.heap.size l ∧ Bw wz w') := fun wz hz => copied8 (n + 1) hm.1 (by have := hm.2.1; omega) (h.bw hz)
  have hn64 := hm.2.1
  have hle : n' ≤ n := by cases sw <;> simp at hnn <;> omega
  have HL := hide hl
  have HL' := hide hl'
  have HG' := hide h'
  have HN := hide hm.1
  have HN' := hide hm'.1
  clear hm h hm' h' hl hl'
  cases sw
  · have t0 : ¬ (n : Int) + 1 < (n' : Int) + 1 := by omega
    simp only [Bool.false_eq_true, if_false] at C ⊢
    clear hnn
    go_enter Try.func62, Try.ntmps62
    go_wp2_with fail
    refine C.out.mono ?_
    rintro e' w1 ⟨rfl, b1⟩
    clear C
    go_wp2_with fail
    refine (CP.out _ b1).mono ?_
    rintro e' w2 ⟨rfl, hw2, b2⟩
    replace b2 := bw_trans b1 b2
    have hB : w.heap.size ≤ w1.heap.size := Below.size b1
    have HW := hide hw2
    generalize w1.heap.size = B at *
    clear CP hw2 b1
    go_wp2
    go_loopw [27] (fun i wr => ∃ (k : Nat) (L : List Py.G), k ≤ n' + 1 ∧ i = .int .i64 k ∧ L.length = n + 1 ∧ Gw c wr B L ∧ (∀ i, Py.co L i = if i < k then Py.ga (Py.co l i) (Py.co l' i) else Py.co l i) ∧ Bw w wr) (fun i _ => n' + 1 - (intOf i).toNat)
    case atStart => exact ⟨0, l, Nat.zero_le _, rfl, HN.out, HW.out, fun i => by rw [if_neg (by omega)], b2⟩
    case round =>
      obtain ⟨k, L, hk, rfl, hL, hw, hco, hbw⟩ := hrel
      clear HW b2
      by_cases hk1 : k < n' + 1
      · obtain ⟨x, y, e1, q1⟩ := (HG'.out.bw hbw).2 k (by have := HN'.out; omega)
        obtain ⟨u, v, e2, q2⟩ := hw.1.2 k (by omega)
        have e3 := hw.2 k
        rw [Nat.zero_add] at e2
        rw [hco k, if_neg (by omega)] at q2
        obtain ⟨r, s, q3, E⟩ := c_add hc q2 q1 (HL.out k) (HL'.out k) (by omega)
        have hk2 : (k : Int) < (n' : Int) + 1 := by omega
        have hk3 : (k : Int) < (n : Int) + 1 := by omega
        have R : Hid (Gw c (wr.setCell ⟨B, k, none⟩ (.complex .f64 r s)) B (L.set k (Py.ga (Py.co l k) (Py.co l' k))) ∧ (∀ i, Py.co (L.set k (Py.ga (Py.co l k) (Py.co l' k))) i = if i < k + 1 then Py.ga (Py.co l i) (Py.co l' i) else Py.co l i) ∧ Bw w (wr.setCell ⟨B, k, none⟩ (.complex .f64 r s))) := by
          refine ⟨hw.set k r s _ (by omega) q3, fun i => ?_, Below.setCell hbw hB _⟩
          rw [Py.co_set _ _ _ _ (by omega)]
          by_cases z : i = k
          · subst z; rw [if_pos rfl, if_pos (by omega)]
          · rw [if_neg z, hco i]
            by_cases z2 : i < k
            · rw [if_pos z2, if_pos (by omega)]
            · rw [if_neg z2, if_neg (by omega)]
        have HLL := hide hL
        clear q1 q2 q3 hw hco hbw hL
        go_wp2
        go_roundw
        case rel => exact ⟨k + 1, _, by omega, by simp, by rw [List.length_set]; exact HLL.out, R.out.1, R.out.2.1, R.out.2.2⟩
        case measure => simp [intOf]; omega
      · have hk3 : k = n' + 1 := by omega
        subst hk3
        have hF : ∀ i, Py.co L i = Py.ga (Py.co l i) (Py.co l' i) := fun i => by
          rw [hco i]
          by_cases z : i < n' + 1
          · rw [if_pos z]
          · rw [if_neg z, Py.co_out (l := l') (by have := HN'.out; omega), Py.ga_nought]
        have hle2 : ∀ i, Py.Le (Py.co L i) 1099511627776 := fun i => by rw [hF]; exact ((HL.out i).add (HL'.out i)).mono hA
        have HF := hide hF
        have HW := hide hw
        have H2 := hide hle2
        have HLL := hide hL
        clear hF hle2 hw hco hL
        go_wp2_with fail
        refine (answered8 hc (n + 1) HLL.out (by omega) (by omega) (Nat.le_refl _) HW.out.1 H2.out).mono ?_
        rintro e' w3 ⟨rfl, b3⟩
        have A9 := Ans.of HLL.out (by omega) (by omega) (HW.out.1.bw b3) hB (bw_trans hbw b3) H2.out
        have AA : Hid (Ans c w w3 (.returned (.tuple #[.slice (some ⟨B, 0, none⟩) (Py.tl L (n + 1)) (Py.tl L (n + 1)), .int .i64 0])) (n + 1) (fun i => Py.ga (Py.co l i) (Py.co l' i))) := by
          obtain ⟨B', m, l9, z1, z2, z3, z4, z5, z6, z7⟩ := A9
          exact ⟨B', m, l9, z1, z2, z3, z4, z5, z6, fun i => (z7 i).trans (HF.out i)⟩
        clear A9 HW H2 HF HLL
        generalize Py.tl L (n + 1) = tt at *
        go_wp2
        go_ret2
        exact AA.out
  · have hnn' : n' < n := by simpa using hnn
    have t0 : (n' : Int) + 1 < (n : Int) + 1 := by omega
    simp only [if_true] at C ⊢
    clear hnn
    go_enter Try.func62, Try.ntmps62
    go_wp2_with fail
    refine C.out.mono ?_
    rintro e' w1 ⟨rfl, b1⟩
    clear C
    go_wp2_with fail
    refine (CP.out _ b1).mono ?_
    rintro e' w2 ⟨rfl, hw2, b2⟩
    replace b2 := bw_trans b1 b2
    have hB : w.heap.size ≤ w1.heap.size := Below.size b1
    have HW := hide hw2
    generalize w1.heap.size = B at *
    clear CP hw2 b1
    go_wp2
    go_loopw [27] (fun i wr => ∃ (k : Nat) (L : List Py.G), k ≤ n' + 1 ∧ i = .int .i64 k ∧ L.length = n + 1 ∧ Gw c wr B L ∧ (∀ i, Py.co L i = if i < k then Py.ga (Py.co l i) (Py.co l' i) else Py.co l i) ∧ Bw w wr) (fun i _ => n' + 1 - (intOf i).toNat)
    case atStart => exact ⟨0, l, Nat.zero_le _, rfl, HN.out, HW.out, fun i => by rw [if_neg (by omega)], b2⟩
    case round =>
      obtain ⟨k, L, hk, rfl, hL, hw, hco, hbw⟩ := hrel
      clear HW b2
      by_cases hk1 : k < n' + 1
      · obtain ⟨x, y, e1, q1⟩ := (HG'.out.bw hbw).2 k (by have := HN'.out; omega)
        obtain ⟨u, v, e2, q2⟩ := hw.1.2 k (by omega)
        have e3 := hw.2 k
        rw [Nat.zero_add] at e2
        rw [hco k, if_neg (by omega)] at q2
        obtain ⟨r, s, q3, E⟩ := c_add hc q2 q1 (HL.out k) (HL'.out k) (by omega)
        have hk2 : (k : Int) < (n' : Int) + 1 := by omega
        have hk3 : (k : Int) < (n : Int) + 1 := by omega
        have R : Hid (Gw c (wr.setCell ⟨B, k, none⟩ (.complex .f64 r s)) B (L.set k (Py.ga (Py.co l k) (Py.co l' k))) ∧ (∀ i, Py.co (L.set k (Py.ga (Py.co l k) (Py.co l' k))) i = if i < k + 1 then Py.ga (Py.co l i) (Py.co l' i) else Py.co l i) ∧ Bw w (wr.setCell ⟨B, k, none⟩ (.complex .f64 r s))) := by
          refine ⟨hw.set k r s _ (by omega) q3, fun i => ?_, Below.setCell hbw hB _⟩
          rw [Py.co_set _ _ _ _ (by omega)]
          by_cases z : i = k
          · subst z; rw [if_pos rfl, if_pos (by omega)]
          · rw [if_neg z, hco i]
            by_cases z2 : i < k
            · rw [if_pos z2, if_pos (by omega)]
            · rw [if_neg z2, if_neg (by omega)]
        have HLL := hide hL
        clear q1 q2 q3 hw hco hbw hL
        go_wp2
        go_roundw
        case rel => exact ⟨k + 1, _, by omega, by simp, by rw [List.length_set]; exact HLL.out, R.out.1, R.out.2.1, R.out.2.2⟩
        case measure => simp [intOf]; omega
      · have hk3 : k = n' + 1 := by omega
        subst hk3
        have hF : ∀ i, Py.co L i = Py.ga (Py.co l i) (Py.co l' i) := fun i => by
          rw [hco i]
          by_cases z : i < n' + 1
          · rw [if_pos z]
          · rw [if_neg z, Py.co_out (l := l') (by have := HN'.out; omega), Py.ga_nought]
        have hle2 : ∀ i, Py.Le (Py.co L i) 1099511627776 := fun i => by rw [hF]; exact ((HL.out i).add (HL'.out i)).mono hA
        have HF := hide hF
        have HW := hide hw
        have H2 := hide hle2
        have HLL := hide hL
        clear hF hle2 hw hco hL
        go_wp2_with fail
        refine (answered8 hc (n + 1) HLL.out (by omega) (by omega) (Nat.le_refl _) HW.out.1 H2.out).mono ?_
        rintro e' w3 ⟨rfl, b3⟩
        have A9 := Ans.of HLL.out (by omega) (by omega) (HW.out.1.bw b3) hB (bw_trans hbw b3) H2.out
        have AA : Hid (Ans c w w3 (.returned (.tuple #[.slice (some ⟨B, 0, none⟩) (Py.tl L (n + 1)) (Py.tl L (n + 1)), .int .i64 0])) (n + 1) (fun i => Py.ga (Py.co l i) (Py.co l' i))) := by
          obtain ⟨B', m, l9, z1, z2, z3, z4, z5, z6, z7⟩ := A9
          exact ⟨B', m, l9, z1, z2, z3, z4, z5, z6, fun i => (z7 i).trans (HF.out i)⟩
        clear A9 HW H2 HF HLL
        generalize Py.tl L (n + 1) = tt at *
        go_wp2
        go_ret2
        exact AA.out
theorem add8 {c : Nat} (hc : c = 1074) {w : World} {b o cap n b' o' cap' n' A A' : Nat} {l l' : List Py.G} (hm : May n l) (h : Gl c w b o l) (hm' : May n' l') (h' : Gl c w b' o' l') (hl : ∀ i, Py.Le (Py.co l i) A) (hl' : ∀ i, Py.Le (Py.co l' i) A') (hA : A + A' ≤ 1099511627776) :
    Calls Try.prog 62 #[.slice (some ⟨b, o, none⟩) (n + 1) cap, .slice (some ⟨b', o', none⟩) (n' + 1) cap'] w fun e w' => Ans c w w' e (max n n' + 1) (fun i => Py.ga (Py.co l i) (Py.co l' i)) := by
  by_cases k : n' ≤ n
  · have := add_core (cap := cap) (cap' := cap') hc false hm h hm' h' hl hl' hA (by simpa using k)
    rw [Nat.max_eq_left k]
    simpa using this
  · have := add_core (cap := cap') (cap' := cap) hc true hm' h' hm h hl' hl (by omega) (by simp; omega)
    rw [Nat.max_eq_right (by omega)]
    have e : (fun i => Py.ga (Py.co l i) (Py.co l' i)) = fun i => Py.ga (Py.co l' i) (Py.co l i) := funext fun i => Py.ga_comm _ _
    rw [e]
    simpa using this
end Go.Proofs.Ytmbjgakehghdjaa
/-
  OWN TEXT: a region whose last call writes what its loads read: a load may be taken first as long as that call waits for it.
-/
namespace Go.Proofs.Ytmbjgakehghdjaa
section
variable {P : Program} {ops : Array Oper} {Q : Exit → Act → World → Prop} {md : Region.Mode} {S : World → Prop} {k : Nat}

/-- whatever order is picked from here on, and 'S' holds behind every operation ahead of number 'k' -/
def wpAnyK (P : Program) (md : Region.Mode) (ops : Array Oper) (Q : Exit → Act → World → Prop) (S : World → Prop) (k : Nat) : Nat → Array Bool → Act → World → Prop
  | 0, listed, a, w => Region.ready md ops listed = [] ∧ Q .normal a w
  | fuel + 1, listed, a, w =>
    (Region.ready md ops listed = [] → Q .normal a w) ∧
    ∀ i ∈ Region.ready md ops listed, wpOp P ops Q i (fun a' w' => (i ≠ k → listed.getD k true = false → S w') ∧ wpAnyK P md ops Q S k fuel (listed.setIfInBounds i true) a' w') a w

theorem wpAny_of_K : ∀ (fuel : Nat) (listed : Array Bool) (a : Act) (w : World), wpAnyK P md ops Q S k fuel listed a w → wpAny P md ops Q fuel listed a w
  | 0, _, _, _, h => h
  | fuel + 1, _, _, _, h => ⟨h.1, fun i hi => wpOp_mono (fun a' w' h' => wpAny_of_K fuel _ a' w' h'.2) (h.2 i hi)⟩

/-- those of 'blk' have not come up, and each waits for 'i' or for another one of 'blk' -/
def waits (md : Region.Mode) (ops : Array Oper) (listed : Array Bool) (i : Nat) (blk : List Nat) : Bool :=
  blk.all fun m => !(listed.getD m true) && (match ops[m]? with | some o => o.after.toList.any (fun e => Region.binds md e && (e.on == i || blk.contains e.on)) | none => true)

theorem waits_not {listed : Array Bool} {i : Nat} {blk : List Nat} (hw : waits md ops listed i blk = true) (hi : i ∈ Region.ready md ops listed) {j : Nat} (hj : j ∈ Region.ready md ops listed) : j ∉ blk := by
  intro hb
  have h0 := List.all_eq_true.1 hw
  have h1 := h0 j hb
  obtain ⟨hjun, oj, hoj, hall⟩ := mem_ready.1 hj
  rw [hoj] at h1
  simp only [Bool.and_eq_true, List.any_eq_true, Bool.or_eq_true] at h1
  obtain ⟨_, e, he, hbe, h2⟩ := h1
  have h3 := hall e (by simpa using he) hbe
  have h4 : listed.getD e.on true = false := by
    rcases h2 with h2 | h2
    · rw [eq_of_beq h2]; exact (mem_ready.1 hi).1
    · have h5 := h0 e.on (by simpa using h2)
      simp only [Bool.and_eq_true, Bool.not_eq_true'] at h5
      exact h5.1
  rcases Nat.lt_or_ge e.on listed.size with h' | h'
  · simp [h'] at h3 h4; rw [h4] at h3; cases h3
  · simp [Array.getElem?_eq_none h'] at h3

theorem waits_un {listed : Array Bool} {i m : Nat} {blk : List Nat} (hw : waits md ops listed i blk = true) (hm : m ∈ blk) : listed.getD m true = false := by
  have h1 := List.all_eq_true.1 hw m hm
  rw [Bool.and_eq_true, Bool.not_eq_true'] at h1
  exact h1.1

theorem waits_set {listed : Array Bool} {i j : Nat} {blk : List Nat} (hw : waits md ops listed i blk = true) (hj : j ∉ blk) : waits md ops (listed.setIfInBounds j true) i blk = true := by
  refine List.all_eq_true.2 fun m hm => ?_
  have h1 := List.all_eq_true.1 hw m hm
  have hne : j ≠ m := fun e => by subst e; exact hj hm
  rw [getD_set_ne true hne]
  exact h1

theorem wpAnyK_first {i : Nat} {oi : Oper} {v : Value} {blk : List Nat} (hi : ops[i]? = some oi) (hsel : ∀ (j : Nat) (o : Oper) cs b, ops[j]? = some o → o.op ≠ .select cs b)
    (hQ : ∀ c a w, Q (.panic c) (a.put oi.dst v) w → Q (.panic c) a w) (hk : k ∈ blk) :
    ∀ (fuel : Nat) (listed : Array Bool) (a : Act) (w : World),
      (∀ j oj, ops[j]? = some oj → j ≠ i → listed.getD j true = false → (∀ e ∈ oj.after, Region.binds md e = true → e.on ≠ i) → oi.apart ops oj = true) →
      i ∈ Region.ready md ops listed → waits md ops listed i blk = true → YieldsIf P ops S oi v a → S w →
      wpAnyK P md ops Q S k fuel (listed.setIfInBounds i true) (a.put oi.dst v) w → wpAnyK P md ops Q S k (fuel + 1) listed a w := by
  intro fuel
  induction fuel with
  | zero =>
    intro listed a w _ hr hw hy hS H
    refine ⟨fun h => (by rw [h] at hr; cases hr), fun j hj => ?_⟩
    by_cases hji : j = i
    · subst hji; exact hy.wpOp hi hS ⟨fun _ _ => hS, H⟩
    · have := ready_mono hj hji
      rw [H.1] at this
      cases this
  | succ fuel ih =>
    intro listed a w hfree hr hw hy hS H
    refine ⟨fun h => (by rw [h] at hr; cases hr), fun j hj => ?_⟩
    by_cases hji : j = i
    · subst hji; exact hy.wpOp hi hS ⟨fun _ _ => hS, H⟩
    · have h1 := H.2 j (ready_mono hj hji)
      have hjb := waits_not hw hr hj
      have hjk : j ≠ k := fun e => hjb (e ▸ hk)
      have hkun := waits_un hw hk
      have hik : i ≠ k := fun e => waits_not hw hr hr (e ▸ hk)
      have hkun' : (listed.setIfInBounds i true).getD k true = false := by rw [getD_set_ne true hik]; exact hkun
      obtain ⟨hjun, oj, hoj, hall⟩ := mem_ready.1 hj
      have hnot : ∀ e ∈ oj.after, Region.binds md e = true → e.on ≠ i := fun e he hb heq => by
        have h1 := hall e he hb
        have h0 := (mem_ready.1 hr).1
        rw [heq] at h1
        rcases Nat.lt_or_ge i listed.size with h' | h'
        · simp [h'] at h0 h1; rw [h0] at h1; cases h1
        · simp [Array.getElem?_eq_none h'] at h1
      have h2 := wpOp_putIf hoj (hfree j oj hoj hji hjun hnot) (fun cs b => hsel i oi cs b hi) (fun cs b => hsel j oj cs b hoj) hQ hy h1
      have hfree' : ∀ k ok, ops[k]? = some ok → k ≠ i → (listed.setIfInBounds j true).getD k true = false →
          (∀ e ∈ ok.after, Region.binds md e = true → e.on ≠ i) → oi.apart ops ok = true := fun k ok hk hki hun hno => by
        refine hfree k ok hk hki ?_ hno
        by_cases hjk : j = k
        · subst hjk; exact hjun
        · rw [getD_set_ne true hjk] at hun; exact hun
      refine wpOp_mono (fun a' w' h3 => ⟨fun _ _ => h3.2.1 hjk hkun', ih (listed.setIfInBounds j true) a' w' hfree' (ready_mono hr (Ne.symm hji)) (waits_set hw hjb) h3.1 (h3.2.1 hjk hkun') ?_⟩) h2
      rw [Array.setIfInBounds_comm _ _ hji]
      exact h3.2.2

/-- what waits for 'i', up to 'k' -/
def behind (md : Region.Mode) (ops : Array Oper) (i k : Nat) : List Nat :=
  (List.range (k + 1)).foldl (fun acc m => match ops[m]? with | some o => if o.after.toList.any (fun e => Region.binds md e && (e.on == i || acc.contains e.on)) then m :: acc else acc | none => acc) []

theorem wpAnyK_take (i d : Nat) {oi : Oper} {v : Value} {fuel : Nat} {listed : Array Bool} {a : Act} {w : World} (hi : ops[i]? = some oi)
    (hs : Region.noSelect ops = true) (hf : Region.free md ops listed i = true) (hr : (Region.ready md ops listed).contains i = true)
    (hk : (behind md ops i k).contains k = true) (hb : waits md ops listed i (behind md ops i k) = true)
    (hQ : ∀ c a w, Q (.panic c) (a.put oi.dst v) w → Q (.panic c) a w) (hd : oi.dst = some d) (hy : YieldsIf P ops S oi v a) (hS : S w)
    (h : wpAnyK P md ops Q S k fuel (listed.setIfInBounds i true) (a.put (some d) v) w) : wpAnyK P md ops Q S k (fuel + 1) listed a w := by
  rw [← hd] at h
  exact wpAnyK_first hi (Region.noSelect_spec hs) hQ (by simpa using hk) fuel listed a w (Region.free_spec hi hf) (by simpa using hr) hb hy hS h

/-- one alone may come up -/
theorem wpAnyK_one (i : Nat) {o : Oper} {fuel : Nat} {listed : Array Bool} {a : Act} {w : World} (hr : Region.ready md ops listed = [i]) (ho : ops[i]? = some o)
    (h : ∀ K' : Act → World → Prop, Shut (∀ a w, (i ≠ k → listed.getD k true = false → S w) → wpAnyK P md ops Q S k fuel (listed.setIfInBounds i true) a w → K' a w) → if Region.wanted o (yielded ops a.tmps) = true then Oper.wp P o a w K' Q else K' (a.put o.dst undef) w) : wpAnyK P md ops Q S k (fuel + 1) listed a w := by
  refine ⟨fun h0 => absurd (hr ▸ h0) (by simp), ?_⟩
  rw [hr]
  intro j hj
  rw [List.mem_singleton] at hj
  subst hj
  exact wpOp_step ho (fun K' hK => h K' (fun a w hS hW => hK a w ⟨hS, hW⟩))

/-- one of two may come up -/
theorem wpAnyK_two (i j : Nat) {o p : Oper} {fuel : Nat} {listed : Array Bool} {a : Act} {w : World} (hr : Region.ready md ops listed = [i, j]) (ho : ops[i]? = some o) (hp : ops[j]? = some p)
    (h : ∀ K' : Act → World → Prop, Shut (∀ a w, (i ≠ k → listed.getD k true = false → S w) → wpAnyK P md ops Q S k fuel (listed.setIfInBounds i true) a w → K' a w) → if Region.wanted o (yielded ops a.tmps) = true then Oper.wp P o a w K' Q else K' (a.put o.dst undef) w)
    (h' : ∀ K' : Act → World → Prop, Shut (∀ a w, (j ≠ k → listed.getD k true = false → S w) → wpAnyK P md ops Q S k fuel (listed.setIfInBounds j true) a w → K' a w) → if Region.wanted p (yielded ops a.tmps) = true then Oper.wp P p a w K' Q else K' (a.put p.dst undef) w) : wpAnyK P md ops Q S k (fuel + 1) listed a w := by
  refine ⟨fun h0 => absurd (hr ▸ h0) (by simp), ?_⟩
  rw [hr]
  intro m hm
  rcases List.mem_cons.mp hm with e | hm
  · subst e
    exact wpOp_step ho (fun K' hK => h K' (fun a w hS hW => hK a w ⟨hS, hW⟩))
  · rw [List.mem_singleton] at hm
    subst hm
    exact wpOp_step hp (fun K' hK => h' K' (fun a w hS hW => hK a w ⟨hS, hW⟩))

theorem wpAnyK_done {listed : Array Bool} {a : Act} {w : World} (hr : Region.ready md ops listed = []) (h : Q .normal a w) :
    ∀ fuel, wpAnyK P md ops Q S k fuel listed a w
  | 0 => ⟨hr, h⟩
  | _ + 1 => ⟨fun _ => h, by rw [hr]; simp⟩

theorem wp_region_K (S : World → Prop) (k n : Nat) (l : Array Bool) {id : Nat} {a : Act} {w : World} (hm : P.follows .mixedOrders = true) (hn : ops.size = n) (hl : Array.replicate n false = l)
    (h : wpAnyK P .any ops Q S k n l a w.drew) : (Code.region id ops true).wp P Q a w := by
  subst hn; subst hl
  exact wp_region_any hm (wpAny_of_K _ _ _ _ h)
end
end Go.Proofs.Ytmbjgakehghdjaa
