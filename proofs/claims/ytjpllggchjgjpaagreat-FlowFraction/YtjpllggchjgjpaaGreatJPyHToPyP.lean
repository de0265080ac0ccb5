/-
 OWN TEXT: package poly: values at a place (steps, At), of lists of whole complex numbers.
-/
import Derived.Test.YtjpllggchjgjpaaGreatJPyDToPyG
import Derived.Test.YtjpllggchjgjpaaGreatJBhL
import Derived.OwnWalk
namespace Go.Proofs.YtjpllggchjgjpaaGreat
open Go.ChangeShapes Go.WideShapes Go.ChangeAt Go.RowKit
set_option linter.unusedVariables false
attribute [local go_sem] frombits_call tobits_call run_neg
theorem isAdd8 : isOp .add := Or.inl rfl
theorem isSub8 : isOp .sub := Or.inr (Or.inl rfl)
theorem isMul8 : isOp .mul := Or.inr (Or.inr (Or.inl rfl))
/-- a product of whatever numbers -/
theorem pmul_free (x y u v : Nat) (w : World) : Calls Tryz.prog 98 #[.complex .f64 x y, .complex .f64 u v] w fun e w' => ∃ r s, e = .returned (.complex .f64 r s) ∧ Bw w w' := by
 obtain ⟨p1, w1, _, e1, b1⟩ := op_run .mul isMul8 x u w
 obtain ⟨p2, w2, _, e2, b2⟩ := op_run .mul isMul8 y v w1
 obtain ⟨r, w3, _, e3, b3⟩ := op_run .sub isSub8 p1 p2 w2
 obtain ⟨p3, w4, _, e4, b4⟩ := op_run .mul isMul8 x v w3
 obtain ⟨p4, w5, _, e5, b5⟩ := op_run .mul isMul8 y u w4
 obtain ⟨s, w6, _, e6, b6⟩ := op_run .add isAdd8 p3 p4 w5
 have B := bw_trans (bw_trans (bw_trans (bw_trans (bw_trans b1 b2) b3) b4) b5) b6
 clear b1 b2 b3 b4 b5 b6
 go_enter Tryz.func98, Tryz.ntmps98
 go_wp2
 go_ret
 exact ⟨r, s, rfl, B⟩
theorem cadd_free (x y u v : Nat) (w : World) : ∃ r s w1, (∀ t, (binOp .add t (.complex .f64 x y) (.complex .f64 u v)).run Tryz.prog w = .ok (.complex .f64 r s) w1) ∧ Bw w w1 := by
 obtain ⟨r, w1, _, e1, b1⟩ := op_run .add isAdd8 x u w
 obtain ⟨s, w2, _, e2, b2⟩ := op_run .add isAdd8 y v w1
 exact ⟨r, s, w2, fun t => csum_run8 (Or.inl rfl) e1 e2 t, bw_trans b1 b2⟩
/-- how great the steps get -/
def Steps (l : List Py.G) (n Z : Nat) (U : Nat → Nat) : Prop := Py.Le (Py.co l n) (U n) ∧ (∀ k, k < n → ∃ D, Py.Le (Py.co l k) D ∧ U (k + 1) * Z + D ≤ U k) ∧ ∀ k, k ≤ n → U k ≤ 9007199254740992
set_option maxHeartbeats 4000000 in
theorem steps8 {c : Nat} (hc : c = 1074) {w : World} {b o cap n x y Z : Nat} {l : List Py.G} {g : Py.G} (U : Nat → Nat) (hn : l.length = n + 1) (hm : n < 1000) (h : Gl c w b o l) (hg : wC c x y g) (lg : Py.Le g Z) (hU : Steps l n Z U) : Calls Tryz.prog 93 #[.slice (some ⟨b, o, none⟩) (n + 1) cap, .complex .f64 x y] w fun e w' => ∃ r s p q, e = .returned (.tuple #[.complex .f64 r s, .complex .f64 p q]) ∧ wC c r s (Py.ev l g) ∧ Bw w w' := by
 obtain ⟨x0, y0, q0, L⟩ := last8 (cap := cap) n hn (by omega) h
 have HL := hide L
 have HG := hide h
 have HN := hide hn
 have HU := hide hU
 have HZ := hide hg
 have HQ : Hid (wC c x0 y0 (Py.ev (l.drop n) g) ∧ Py.Le (Py.ev (l.drop n) g) (U n)) := by
  have e : Py.ev (l.drop n) g = Py.co l n := by
   rw [Py.ev_drop _ _ (by omega), List.drop_of_length_le (by omega), Py.ev, Py.nought_gm, Py.nought_ga]
  show _ ∧ _
  rw [e]; exact ⟨q0, hU.1⟩
 clear L h hn hU hg q0
 go_enter Tryz.func93, Tryz.ntmps93
 go_wp2_with fail
 refine HL.out.mono ?_
 rintro e' w ⟨rfl, rfl⟩
 clear HL
 go_wp2
 go_loopw [4, 5, 6] (fun v t i wr => ∃ (k r s p q : Nat), k ≤ n ∧ i = .int .i64 ((k : Int) - 1) ∧ v = .complex .f64 r s ∧ t = .complex .f64 p q ∧ wC c r s (Py.ev (l.drop k) g) ∧ Py.Le (Py.ev (l.drop k) g) (U k) ∧ Bw w wr) (fun _ _ i _ => (intOf i + 1).toNat)
 case atStart => exact ⟨n, x0, y0, 0, 0, Nat.le_refl _, by simp; try omega, rfl, rfl, HQ.out.1, HQ.out.2, Bw.refl _⟩
 case round =>
  obtain ⟨k, r, s, p, q, hk, rfl, rfl, rfl, hrs, hle, hbw⟩ := hrel
  cases k with
  | zero =>
   have HR := hide hrs
   clear hrs hle
   go_wp2
   go_ret2
   exact ⟨r, s, p, q, rfl, HR.out, hbw⟩
  | succ j =>
   rw [show (((j + 1 : Nat) : Int) - 1) = (j : Int) by omega]
   have hj := HU.out.2.2 j (by omega)
   obtain ⟨D, hD, hD2⟩ := HU.out.2.1 j (by omega)
   obtain ⟨a1, a2, ha, MU⟩ := pmul8 hc hrs HZ.out hle lg (by omega)
   have hbound := hle.mul lg
   obtain ⟨cx, cy, ec, qc⟩ := (HG.out.bw hbw).2 j (by have := HN.out; omega)
   obtain ⟨d1, d2, hd, AD⟩ := c_add hc ha qc hbound hD (by omega)
   have HR : Hid (wC c d1 d2 (Py.ev (l.drop j) g) ∧ Py.Le (Py.ev (l.drop j) g) (U j)) := by
    show _ ∧ _
    rw [Py.ev_drop _ _ (by have := HN.out; omega)]
    exact ⟨hd, (hbound.add hD).mono hD2⟩
   have HM := hide MU
   clear MU hd ha qc hbound hD hD2 hj hrs hle
   go_wp2_with fail
   refine (pmul_free p q x y _).mono ?_
   rintro e' w1 ⟨p1, q1, rfl, b1⟩
   obtain ⟨p2, q2, w2, EA, b2⟩ := cadd_free p1 q1 r s w1
   go_wp2_with fail
   refine (HM.out _).mono ?_
   rintro e' w3 ⟨rfl, rfl⟩
   have hb0 := hbw
   replace hbw := bw_trans (bw_trans hbw b1) b2
   have ec2 : w3.cell? ⟨b, o + j, none⟩ = some (.complex .f64 cx cy) := by
    have := (Below.cell (bw_trans b1 b2) (p := ⟨b, o + j, none⟩) (by have := HG.out.1; have := Below.size hb0; show b < _; omega)).trans ec
    exact this
   clear ec b1 b2 HM EA hb0
   have hj2 : (j : Int) < (n : Int) + 1 := by omega
   go_wp2
   go_roundw
   case rel => exact ⟨j, d1, d2, p2, q2, by omega, by simp, rfl, rfl, HR.out.1, HR.out.2, hbw⟩
   case measure => simp [intOf]; try omega
end Go.Proofs.YtjpllggchjgjpaaGreat

/-
 OWN TEXT: package poly: At, Add, of lists of whole complex numbers.
-/
namespace Go.Proofs.YtjpllggchjgjpaaGreat
open Go.ChangeShapes Go.WideShapes Go.ChangeAt Go.RowKit
set_option linter.unusedVariables false
attribute [local go_sem] frombits_call tobits_call run_neg run_store_cx
theorem at8 {c : Nat} (hc : c = 1074) {w : World} {b o cap n x y Z : Nat} {l : List Py.G} {g : Py.G} (U : Nat → Nat) (hm : May n l) (h : Gl c w b o l) (hg : wC c x y g) (lg : Py.Le g Z) (hZ : Z ≤ 1099511627776) (hU : Steps l n Z U) : Calls Tryz.prog 74 #[.slice (some ⟨b, o, none⟩) (n + 1) cap, .complex .f64 x y] w fun e w' => ∃ r s, e = .returned (.tuple #[.complex .f64 r s, .int .i64 0]) ∧ wC c r s (Py.ev l g) ∧ Bw w w' := by
 have C := hide (checkwith8 (cap := cap) hc hm h hg (lg.mono hZ))
 have S : Hid (∀ wz, Bw w wz → Calls Tryz.prog 93 #[.slice (some ⟨b, o, none⟩) (n + 1) cap, .complex .f64 x y] wz fun e w' => ∃ r s p q, e = .returned (.tuple #[.complex .f64 r s, .complex .f64 p q]) ∧ wC c r s (Py.ev l g) ∧ Bw wz w') := fun wz hz => steps8 hc U hm.1 (by have := hm.2.1; omega) (h.bw hz) hg lg hU
 clear hm h hg lg hZ hU
 go_enter Tryz.func74, Tryz.ntmps74
 go_wp2_with fail
 refine C.out.mono ?_
 rintro e' w1 ⟨rfl, b1⟩
 clear C
 go_wp2_with fail
 refine (S.out _ b1).mono ?_
 rintro e' w2 ⟨r, s, p, q, rfl, hrs, b2⟩
 have HR := hide hrs
 have F : Hid (∀ wz, Calls Tryz.prog 32 #[.complex .f64 r s] wz fun e w' => e = .returned (.bool true) ∧ w' = wz) := fun wz => pfinite8 hrs wz
 replace b1 := bw_trans b1 b2
 clear S hrs b2
 go_wp2_with fail
 refine (F.out _).mono ?_
 rintro e' w3 ⟨rfl, rfl⟩
 clear F
 go_wp2
 go_ret2
 exact ⟨r, s, rfl, HR.out, b1⟩
/-- an answered polynomial: its coefficients are those of F -/
def Ans (c : Nat) (w w' : World) (e : Ending) (N : Nat) (F : Nat → Py.G) : Prop := ∃ B m l, e = .returned (.tuple #[.slice (some ⟨B, 0, none⟩) (m + 1) (m + 1), .int .i64 0]) ∧ May m l ∧ m + 1 ≤ N ∧ Gl c w' B 0 l ∧ w.heap.size ≤ B ∧ Bw w w' ∧ ∀ i, Py.co l i = F i
theorem Ans.of {c : Nat} {w w' : World} {B n : Nat} {l : List Py.G} (hn : l.length = n) (h0 : 0 < n) (hm : n ≤ 65) (h : Gl c w' B 0 l) (hB : w.heap.size ≤ B) (hb : Bw w w') (hl : ∀ i, Py.Le (Py.co l i) 1099511627776) : Ans c w w' (.returned (.tuple #[.slice (some ⟨B, 0, none⟩) (Py.tl l n) (Py.tl l n), .int .i64 0])) n (Py.co l) := by
 have hp := Py.tl_pos l n h0
 have hle := Py.tl_le l n
 have hlast := Py.tl_last l n
 have hlen := Py.tr_len l
 rw [hn] at hlen
 obtain ⟨m, hm'⟩ : ∃ m, Py.tl l n = m + 1 := ⟨Py.tl l n - 1, by omega⟩
 refine ⟨B, m, Py.tr l, by rw [hm'], ⟨by omega, by omega, ?_, fun i _ => by rw [Py.co_tr]; exact hl i⟩, by omega, ?_, hB, hb, Py.co_tr l⟩
 ·
  rw [hm'] at hlast
  rw [Py.co_tr]
  rcases hlast with k | k | k
  · omega
  · left; omega
  · right; rw [Nat.add_sub_cancel] at k; exact k
 · unfold Py.tr; rw [hn]; exact h.take _
set_option maxHeartbeats 4000000 in
theorem add_core {c : Nat} (hc : c = 1074) {w : World} {b o cap n b' o' cap' n' A A' : Nat} {l l' : List Py.G} (sw : Bool) (hm : May n l) (h : Gl c w b o l) (hm' : May n' l') (h' : Gl c w b' o' l') (hl : ∀ i, Py.Le (Py.co l i) A) (hl' : ∀ i, Py.Le (Py.co l' i) A') (hA : A + A' ≤ 1099511627776) (hnn : if sw then n' < n else n' ≤ n) :
  Calls Tryz.prog 41 (if sw then #[.slice (some ⟨b', o', none⟩) (n' + 1) cap', .slice (some ⟨b, o, none⟩) (n + 1) cap] else #[.slice (some ⟨b, o, none⟩) (n + 1) cap, .slice (some ⟨b', o', none⟩) (n' + 1) cap']) w fun e w' => Ans c w w' e (n + 1) (fun i => Py.ga (Py.co l i) (Py.co l' i)) := by
 have C : Hid (Calls Tryz.prog 69 (if sw then #[.slice (some ⟨b', o', none⟩) (n' + 1) cap', .slice (some ⟨b, o, none⟩) (n + 1) cap] else #[.slice (some ⟨b, o, none⟩) (n + 1) cap, .slice (some ⟨b', o', none⟩) (n' + 1) cap']) w fun e w' => e = .returned (.int .i64 0) ∧ Bw w w') := by
  show Calls _ _ _ _ _
  cases sw
  · exact checktwo8 hc hm h hm' h'
  · exact checktwo8 hc hm' h' hm h
 have CP : Hid (∀ wz, Bw w wz → Calls Tryz.prog 70 #[.slice (some ⟨b, o, none⟩) (n + 1) cap] wz fun e w' => e = .returned (.slice (some ⟨wz.heap.size, 0, none⟩) (n + 1) (n + 1)) ∧ Gw c w' wz.heap.size l ∧ Bw wz w') := fun wz hz => copied8 (n + 1) hm.1 (by have := hm.2.1; omega) (h.bw hz)
 have hn64 := hm.2.1
 have hle : n' ≤ n := by cases sw <;> simp at hnn <;> omega
 have HL := hide hl
 have HL' := hide hl'
 have HG' := hide h'
 have HN := hide hm.1
 have HN' := hide hm'.1
 clear hm h hm' h' hl hl'
 cases sw
 ·
  have t0 : ¬ (n : Int) + 1 < (n' : Int) + 1 := by omega
  simp only [Bool.false_eq_true, if_false] at C ⊢
  clear hnn
  go_enter Tryz.func41, Tryz.ntmps41
  go_wp2_with fail
  refine C.out.mono ?_
  rintro e' w1 ⟨rfl, b1⟩
  clear C
  go_wp2_with fail
  refine (CP.out _ b1).mono ?_
  rintro e' w2 ⟨rfl, hw2, b2⟩
  replace b2 := bw_trans b1 b2
  have hB : w.heap.size ≤ w1.heap.size := Below.size b1
  have HW := hide hw2
  generalize w1.heap.size = B at *
  clear CP hw2 b1
  go_wp2
  go_loopw [27] (fun i wr => ∃ (k : Nat) (L : List Py.G), k ≤ n' + 1 ∧ i = .int .i64 k ∧ L.length = n + 1 ∧ Gw c wr B L ∧ (∀ i, Py.co L i = if i < k then Py.ga (Py.co l i) (Py.co l' i) else Py.co l i) ∧ Bw w wr) (fun i _ => n' + 1 - (intOf i).toNat)
  case atStart => exact ⟨0, l, Nat.zero_le _, rfl, HN.out, HW.out, fun i => by rw [if_neg (by omega)], b2⟩
  case round =>
   obtain ⟨k, L, hk, rfl, hL, hw, hco, hbw⟩ := hrel
   clear HW b2
   by_cases hk1 : k < n' + 1
   ·
    obtain ⟨x, y, e1, q1⟩ := (HG'.out.bw hbw).2 k (by have := HN'.out; omega)
    obtain ⟨u, v, e2, q2⟩ := hw.1.2 k (by omega)
    have e3 := hw.2 k
    rw [Nat.zero_add] at e2
    rw [hco k, if_neg (by omega)] at q2
    obtain ⟨r, s, q3, E⟩ := c_add hc q2 q1 (HL.out k) (HL'.out k) (by omega)
    have hk2 : (k : Int) < (n' : Int) + 1 := by omega
    have hk3 : (k : Int) < (n : Int) + 1 := by omega
    have R : Hid (Gw c (wr.setCell ⟨B, k, none⟩ (.complex .f64 r s)) B (L.set k (Py.ga (Py.co l k) (Py.co l' k))) ∧ (∀ i, Py.co (L.set k (Py.ga (Py.co l k) (Py.co l' k))) i = if i < k + 1 then Py.ga (Py.co l i) (Py.co l' i) else Py.co l i) ∧ Bw w (wr.setCell ⟨B, k, none⟩ (.complex .f64 r s))) := by
     refine ⟨hw.set k r s _ (by omega) q3, fun i => ?_, Below.setCell hbw hB _⟩
     rw [Py.co_set _ _ _ _ (by omega)]
     by_cases z : i = k
     · subst z; rw [if_pos rfl, if_pos (by omega)]
     ·
      rw [if_neg z, hco i]
      by_cases z2 : i < k
      · rw [if_pos z2, if_pos (by omega)]
      · rw [if_neg z2, if_neg (by omega)]
    have HLL := hide hL
    clear q1 q2 q3 hw hco hbw hL
    go_wp2
    go_roundw
    case rel => exact ⟨k + 1, _, by omega, by simp, by rw [List.length_set]; exact HLL.out, R.out.1, R.out.2.1, R.out.2.2⟩
    case measure => simp [intOf]; omega
   ·
    have hk3 : k = n' + 1 := by omega
    subst hk3
    have hF : ∀ i, Py.co L i = Py.ga (Py.co l i) (Py.co l' i) := fun i => by
     rw [hco i]
     by_cases z : i < n' + 1
     · rw [if_pos z]
     · rw [if_neg z, Py.co_out (l := l') (by have := HN'.out; omega), Py.ga_nought]
    have hle2 : ∀ i, Py.Le (Py.co L i) 1099511627776 := fun i => by rw [hF]; exact ((HL.out i).add (HL'.out i)).mono hA
    have HF := hide hF
    have HW := hide hw
    have H2 := hide hle2
    have HLL := hide hL
    clear hF hle2 hw hco hL
    go_wp2_with fail
    refine (answered8 hc (n + 1) HLL.out (by omega) (by omega) (Nat.le_refl _) HW.out.1 H2.out).mono ?_
    rintro e' w3 ⟨rfl, b3⟩
    have A9 := Ans.of HLL.out (by omega) (by omega) (HW.out.1.bw b3) hB (bw_trans hbw b3) H2.out
    have AA : Hid (Ans c w w3 (.returned (.tuple #[.slice (some ⟨B, 0, none⟩) (Py.tl L (n + 1)) (Py.tl L (n + 1)), .int .i64 0])) (n + 1) (fun i => Py.ga (Py.co l i) (Py.co l' i))) := by
     obtain ⟨B', m, l9, z1, z2, z3, z4, z5, z6, z7⟩ := A9
     exact ⟨B', m, l9, z1, z2, z3, z4, z5, z6, fun i => (z7 i).trans (HF.out i)⟩
    clear A9 HW H2 HF HLL
    generalize Py.tl L (n + 1) = tt at *
    go_wp2
    go_ret2
    exact AA.out
 ·
  have hnn' : n' < n := by simpa using hnn
  have t0 : (n' : Int) + 1 < (n : Int) + 1 := by omega
  simp only [if_true] at C ⊢
  clear hnn
  go_enter Tryz.func41, Tryz.ntmps41
  go_wp2_with fail
  refine C.out.mono ?_
  rintro e' w1 ⟨rfl, b1⟩
  clear C
  go_wp2_with fail
  refine (CP.out _ b1).mono ?_
  rintro e' w2 ⟨rfl, hw2, b2⟩
  replace b2 := bw_trans b1 b2
  have hB : w.heap.size ≤ w1.heap.size := Below.size b1
  have HW := hide hw2
  generalize w1.heap.size = B at *
  clear CP hw2 b1
  go_wp2
  go_loopw [27] (fun i wr => ∃ (k : Nat) (L : List Py.G), k ≤ n' + 1 ∧ i = .int .i64 k ∧ L.length = n + 1 ∧ Gw c wr B L ∧ (∀ i, Py.co L i = if i < k then Py.ga (Py.co l i) (Py.co l' i) else Py.co l i) ∧ Bw w wr) (fun i _ => n' + 1 - (intOf i).toNat)
  case atStart => exact ⟨0, l, Nat.zero_le _, rfl, HN.out, HW.out, fun i => by rw [if_neg (by omega)], b2⟩
  case round =>
   obtain ⟨k, L, hk, rfl, hL, hw, hco, hbw⟩ := hrel
   clear HW b2
   by_cases hk1 : k < n' + 1
   ·
    obtain ⟨x, y, e1, q1⟩ := (HG'.out.bw hbw).2 k (by have := HN'.out; omega)
    obtain ⟨u, v, e2, q2⟩ := hw.1.2 k (by omega)
    have e3 := hw.2 k
    rw [Nat.zero_add] at e2
    rw [hco k, if_neg (by omega)] at q2
    obtain ⟨r, s, q3, E⟩ := c_add hc q2 q1 (HL.out k) (HL'.out k) (by omega)
    have hk2 : (k : Int) < (n' : Int) + 1 := by omega
    have hk3 : (k : Int) < (n : Int) + 1 := by omega
    have R : Hid (Gw c (wr.setCell ⟨B, k, none⟩ (.complex .f64 r s)) B (L.set k (Py.ga (Py.co l k) (Py.co l' k))) ∧ (∀ i, Py.co (L.set k (Py.ga (Py.co l k) (Py.co l' k))) i = if i < k + 1 then Py.ga (Py.co l i) (Py.co l' i) else Py.co l i) ∧ Bw w (wr.setCell ⟨B, k, none⟩ (.complex .f64 r s))) := by
     refine ⟨hw.set k r s _ (by omega) q3, fun i => ?_, Below.setCell hbw hB _⟩
     rw [Py.co_set _ _ _ _ (by omega)]
     by_cases z : i = k
     · subst z; rw [if_pos rfl, if_pos (by omega)]
     ·
      rw [if_neg z, hco i]
      by_cases z2 : i < k
      · rw [if_pos z2, if_pos (by omega)]
      · rw [if_neg z2, if_neg (by omega)]
    have HLL := hide hL
    clear q1 q2 q3 hw hco hbw hL
    go_wp2
    go_roundw
    case rel => exact ⟨k + 1, _, by omega, by simp, by rw [List.length_set]; exact HLL.out, R.out.1, R.out.2.1, R.out.2.2⟩
    case measure => simp [intOf]; omega
   ·
    have hk3 : k = n' + 1 := by omega
    subst hk3
    have hF : ∀ i, Py.co L i = Py.ga (Py.co l i) (Py.co l' i) := fun i => by
     rw [hco i]
     by_cases z : i < n' + 1
     · rw [if_pos z]
     · rw [if_neg z, Py.co_out (l := l') (by have := HN'.out; omega), Py.ga_nought]
    have hle2 : ∀ i, Py.Le (Py.co L i) 1099511627776 := fun i => by rw [hF]; exact ((HL.out i).add (HL'.out i)).mono hA
    have HF := hide hF
    have HW := hide hw
    have H2 := hide hle2
    have HLL := hide hL
    clear hF hle2 hw hco hL
    go_wp2_with fail
    refine (answered8 hc (n + 1) HLL.out (by omega) (by omega) (Nat.le_refl _) HW.out.1 H2.out).mono ?_
    rintro e' w3 ⟨rfl, b3⟩
    have A9 := Ans.of HLL.out (by omega) (by omega) (HW.out.1.bw b3) hB (bw_trans hbw b3) H2.out
    have AA : Hid (Ans c w w3 (.returned (.tuple #[.slice (some ⟨B, 0, none⟩) (Py.tl L (n + 1)) (Py.tl L (n + 1)), .int .i64 0])) (n + 1) (fun i => Py.ga (Py.co l i) (Py.co l' i))) := by
     obtain ⟨B', m, l9, z1, z2, z3, z4, z5, z6, z7⟩ := A9
     exact ⟨B', m, l9, z1, z2, z3, z4, z5, z6, fun i => (z7 i).trans (HF.out i)⟩
    clear A9 HW H2 HF HLL
    generalize Py.tl L (n + 1) = tt at *
    go_wp2
    go_ret2
    exact AA.out
theorem add8 {c : Nat} (hc : c = 1074) {w : World} {b o cap n b' o' cap' n' A A' : Nat} {l l' : List Py.G} (hm : May n l) (h : Gl c w b o l) (hm' : May n' l') (h' : Gl c w b' o' l') (hl : ∀ i, Py.Le (Py.co l i) A) (hl' : ∀ i, Py.Le (Py.co l' i) A') (hA : A + A' ≤ 1099511627776) :
  Calls Tryz.prog 41 #[.slice (some ⟨b, o, none⟩) (n + 1) cap, .slice (some ⟨b', o', none⟩) (n' + 1) cap'] w fun e w' => Ans c w w' e (max n n' + 1) (fun i => Py.ga (Py.co l i) (Py.co l' i)) := by
 by_cases k : n' ≤ n
 ·
  have := add_core (cap := cap) (cap' := cap') hc false hm h hm' h' hl hl' hA (by simpa using k)
  rw [Nat.max_eq_left k]
  simpa using this
 ·
  have := add_core (cap := cap') (cap' := cap) hc true hm' h' hm h hl' hl (by omega) (by simp; omega)
  rw [Nat.max_eq_right (by omega)]
  have e : (fun i => Py.ga (Py.co l i) (Py.co l' i)) = fun i => Py.ga (Py.co l' i) (Py.co l i) := funext fun i => Py.ga_comm _ _
  rw [e]
  simpa using this
end Go.Proofs.YtjpllggchjgjpaaGreat

/-
 OWN TEXT: package poly: Mul, of lists of whole complex numbers.
-/
namespace Go.Proofs.YtjpllggchjgjpaaGreat
open Go.ChangeShapes Go.WideShapes Go.ChangeAt Go.RowKit
set_option linter.unusedVariables false
attribute [local go_sem] frombits_call tobits_call run_neg run_store_cx
theorem wrap_small (g : Nat) (h : g < 1000000) : IntKind.i64.wrap (g : Int) = g := by
 rw [IntKind.wrap_i64]
 omega
theorem ts_begin (a b : List Py.G) (k f : Nat) (h : k < f + b.length) (h2 : f = 0 ∨ k = f + (b.length - 1)) (hf : f ≤ k) : Py.ts a b k (f + 1) = Py.gm (Py.co a f) (Py.co b (k - f)) := by
 rw [Py.ts, if_pos hf]
 have := Py.ts_far a b k 0 f (fun i _ q1 q2 => by rw [Py.co_out (l := b) (by omega), Py.gm_nought])
 rw [Nat.zero_add] at this
 rw [this]
 exact Py.nought_ga _
set_option maxHeartbeats 4000000 in
theorem prods8 {c : Nat} (hc : c = 1074) {w : World} {b o cap n b' o' cap' n' A A' k : Nat} {l l' : List Py.G} (hn : l.length = n + 1) (hn' : l'.length = n' + 1) (h64 : n ≤ 64) (h64' : n' ≤ 64) (h : Gl c w b o l) (h' : Gl c w b' o' l') (hl : ∀ i, Py.Le (Py.co l i) A) (hl' : ∀ i, Py.Le (Py.co l' i) A') (hA : (n + 1) * (A * A') ≤ 1099511627776) (hk : k ≤ n + n') :
  Calls Tryz.prog 90 #[.slice (some ⟨b, o, none⟩) (n + 1) cap, .slice (some ⟨b', o', none⟩) (n' + 1) cap', .int .i64 k] w fun e w' => ∃ r s, e = .returned (.complex .f64 r s) ∧ wC c r s (Py.ts l l' k (n + 1)) ∧ Bw w w' := by
 obtain ⟨f, hf0⟩ : ∃ f, f = k - n' := ⟨_, rfl⟩
 obtain ⟨d, hd0⟩ : ∃ d, d = min k n := ⟨_, rfl⟩
 have m1 : (if (k : Int) - ((n' : Int) + 1) + 1 > 0 then (k : Int) - ((n' : Int) + 1) + 1 else 0) = (f : Int) := by
  split <;> omega
 have m2 : (if (n : Int) + 1 - 1 < (k : Int) then (n : Int) + 1 - 1 else (k : Int)) = (d : Int) := by
  split <;> omega
 have m3 : (if (n : Int) < (k : Int) then (n : Int) else (k : Int)) = (d : Int) := by
  split <;> omega
 have m5 : (if n < k then (n : Int) else (k : Int)) = (d : Int) := by
  split <;> omega
 have m4 : (if 0 < (k : Int) - ((n' : Int) + 1) + 1 then (k : Int) - ((n' : Int) + 1) + 1 else 0) = (f : Int) := by
  split <;> omega
 obtain ⟨g, hg0⟩ : ∃ g, k = f + g := ⟨k - f, by omega⟩
 have F1 : Hid (g ≤ n' ∧ (f = 0 ∨ g = n') ∧ f ≤ n ∧ d ≤ n ∧ d ≤ k ∧ (d = k ∨ d = n) ∧ f ≤ d) := by show _ ∧ _; omega
 clear m1 m2 hf0 hd0
 have HK := hide hg0
 have hfn : (f : Int) < (n : Int) + 1 := by have := F1.out; omega
 have hgn : (g : Int) < (n' : Int) + 1 := by have := F1.out; omega
 have hsub : (k : Int) - f = g := by omega
 clear hg0
 obtain ⟨x, y, e1, q1⟩ := h.2 f (by have := F1.out; omega)
 obtain ⟨u, v, e2, q2⟩ := h'.2 g (by have := F1.out; omega)
 obtain ⟨r, s, q3, P⟩ := pmul8 hc q1 q2 (hl f) (hl' g) (by
  have : 1 * (A * A') ≤ (n + 1) * (A * A') := Nat.mul_le_mul_right _ (by omega)
  omega)
 have HP := hide P
 have H0 : Hid (wC c r s (Py.ts l l' k (f + 1))) := by
  show wC _ _ _ _
  rw [ts_begin l l' k f (by have := F1.out; have := HK.out; omega) (by have := F1.out; have := HK.out; omega) (by have := HK.out; omega), show k - f = g by have := HK.out; omega]
  exact q3
 have HG := hide h
 have HG' := hide h'
 have HL := hide hl
 have HL' := hide hl'
 have HN := hide hn
 have HN' := hide hn'
 have HA := hide hA
 clear h h' hl hl' q1 q2 q3 P hn hn' hA hk
 go_enter Tryz.func90, Tryz.ntmps90
 go_wp2_with fail
 have wg : IntKind.i64.wrap (g : Int) = g := wrap_small g (by omega)
 have S0 : w.drew.cell? ⟨b, o + f, none⟩ = some (.complex .f64 x y) ∧ w.drew.cell? ⟨b', o' + g, none⟩ = some (.complex .f64 u v) := ⟨e1, e2⟩
 refine wp_region_K (fun w' => w'.cell? ⟨b, o + f, none⟩ = some (.complex .f64 x y) ∧ w'.cell? ⟨b', o' + g, none⟩ = some (.complex .f64 u v)) 11 12 #[false, false, false, false, false, false, false, false, false, false, false, false] (by kernel_rfl) (by kernel_rfl) (by kernel_rfl) ?_
 refine wpAnyK_take 0 22 (v := ?v0) rfl (by kernel_rfl) (by kernel_rfl) (by kernel_rfl) (by kernel_rfl) (by kernel_rfl) (fun _ _ _ h => h) rfl (Or.inl ⟨by rfl, ?h0⟩) (by assumption) ?r0
 case h0 => (intro w hSw; go_simp; with_reducible rfl)
 simp only [Act.put, List.setIfInBounds_toArray, List.set_cons_zero, List.set_cons_succ]
 refine wpAnyK_take 1 23 (v := ?v1) rfl (by kernel_rfl) (by kernel_rfl) (by kernel_rfl) (by kernel_rfl) (by kernel_rfl) (fun _ _ _ h => h) rfl (Or.inl ⟨by rfl, ?h1⟩) (by assumption) ?r1
 case h1 => (intro w hSw; go_simp; with_reducible rfl)
 simp only [Act.put, List.setIfInBounds_toArray, List.set_cons_zero, List.set_cons_succ]
 refine wpAnyK_take 2 24 (v := ?v2) rfl (by kernel_rfl) (by kernel_rfl) (by kernel_rfl) (by kernel_rfl) (by kernel_rfl) (fun _ _ _ h => h) rfl (Or.inl ⟨by rfl, ?h2⟩) (by assumption) ?r2
 case h2 => (intro w hSw; go_simp; with_reducible rfl)
 simp only [Act.put, List.setIfInBounds_toArray, List.set_cons_zero, List.set_cons_succ]
 refine wpAnyK_take 3 25 (v := ?v3) rfl (by kernel_rfl) (by kernel_rfl) (by kernel_rfl) (by kernel_rfl) (by kernel_rfl) (fun _ _ _ h => h) rfl (Or.inl ⟨by rfl, ?h3⟩) (by assumption) ?r3
 case h3 => (intro w hSw; go_simp; with_reducible rfl)
 simp only [Act.put, List.setIfInBounds_toArray, List.set_cons_zero, List.set_cons_succ]
 refine wpAnyK_take 4 26 (v := ?v4) rfl (by kernel_rfl) (by kernel_rfl) (by kernel_rfl) (by kernel_rfl) (by kernel_rfl) (fun _ _ _ h => h) rfl (Or.inl ⟨by rfl, ?h4⟩) (by assumption) ?r4
 case h4 => (intro w hSw; go_simp; with_reducible rfl)
 simp only [Act.put, List.setIfInBounds_toArray, List.set_cons_zero, List.set_cons_succ]
 refine wpAnyK_take 5 27 (v := ?v5) rfl (by kernel_rfl) (by kernel_rfl) (by kernel_rfl) (by kernel_rfl) (by kernel_rfl) (fun _ _ _ h => h) rfl (Or.inl ⟨by rfl, ?h5⟩) (by assumption) ?r5
 case h5 => (intro w hSw; go_simp; with_reducible rfl)
 simp only [Act.put, List.setIfInBounds_toArray, List.set_cons_zero, List.set_cons_succ]
 refine wpAnyK_take 6 28 (v := ?v6) rfl (by kernel_rfl) (by kernel_rfl) (by kernel_rfl) (by kernel_rfl) (by kernel_rfl) (fun _ _ _ h => h) rfl (Or.inl ⟨by rfl, ?h6⟩) (by assumption) ?r6
 case h6 => (intro w hSw; go_simp; with_reducible rfl)
 simp only [Act.put, List.setIfInBounds_toArray, List.set_cons_zero, List.set_cons_succ]
 refine wpAnyK_take 7 29 (v := ?v7) rfl (by kernel_rfl) (by kernel_rfl) (by kernel_rfl) (by kernel_rfl) (by kernel_rfl) (fun _ _ _ h => h) rfl (Or.inl ⟨by rfl, ?h7⟩) (by assumption) ?r7
 case h7 => (intro w hSw; go_simp; with_reducible rfl)
 simp only [Act.put, List.setIfInBounds_toArray, List.set_cons_zero, List.set_cons_succ]
 refine wpAnyK_take 8 30 (v := ?v8) rfl (by kernel_rfl) (by kernel_rfl) (by kernel_rfl) (by kernel_rfl) (by kernel_rfl) (fun _ _ _ h => h) rfl (Or.inl ⟨by rfl, ?h8⟩) (by assumption) ?r8
 case h8 => (intro w hSw; go_simp; with_reducible rfl)
 simp only [Act.put, List.setIfInBounds_toArray, List.set_cons_zero, List.set_cons_succ]
 refine wpAnyK_take 9 31 (v := ?v9) rfl (by kernel_rfl) (by kernel_rfl) (by kernel_rfl) (by kernel_rfl) (by kernel_rfl) (fun _ _ _ h => h) rfl (Or.inl ⟨by rfl, ?h9⟩) (by assumption) ?r9
 case h9 => (intro w hSw; go_simp; with_reducible rfl)
 simp only [Act.put, List.setIfInBounds_toArray, List.set_cons_zero, List.set_cons_succ]
 refine wpAnyK_one 10 (by kernel_rfl) rfl (fun K hK => ?_)
 go_simp
 go_wp2_with (go_at_call 98; refine (HP.out _).mono ?_; rintro e' w7 ⟨rfl, hw7⟩; subst hw7)
 refine hK.out _ _ (fun _ _ => S0) ?_
 clear hK K
 simp only [List.setIfInBounds_toArray, List.set_cons_zero, List.set_cons_succ]
 refine wpAnyK_one 11 (by kernel_rfl) rfl (fun K hK => ?_)
 go_simp
 refine hK.out _ _ (fun h => absurd rfl h) ?_
 clear hK K
 simp only [List.setIfInBounds_toArray, List.set_cons_zero, List.set_cons_succ]
 refine wpAnyK_done (by kernel_rfl) ?_ _
 clear S0 e1 e2 HP wg
 go_wp2
 go_loopw [9, 10] (fun v i wr => ∃ (j r s : Nat), f + 1 ≤ j ∧ j ≤ d + 1 ∧ i = .int .i64 j ∧ v = .complex .f64 r s ∧ wC c r s (Py.ts l l' k j) ∧ Bw w wr) (fun _ i _ => d + 1 - (intOf i).toNat)
 case atStart => exact ⟨f + 1, r, s, Nat.le_refl _, by have := F1.out; omega, by simp, rfl, H0.out, (Bw.refl _).drew⟩
 case round =>
  obtain ⟨i, r2, s2, hi1, hi2, rfl, rfl, hrs, hbw⟩ := hrel
  by_cases hid : i < d + 1
  ·
   obtain ⟨g2, hg2⟩ : ∃ g2, k = i + g2 := ⟨k - i, by have := F1.out; omega⟩
   have hin : (i : Int) < (n : Int) + 1 := by have := F1.out; omega
   have hgn2 : (g2 : Int) < (n' : Int) + 1 := by have := F1.out; have := HK.out; omega
   have hsub2 : (k : Int) - i = g2 := by omega
   have hid2 : (i : Int) ≤ d := by omega
   obtain ⟨x2, y2, e1, q1⟩ := (HG.out.bw hbw).2 i (by have := HN.out; omega)
   obtain ⟨u2, v2, e2, q2⟩ := (HG'.out.bw hbw).2 g2 (by have := HN'.out; omega)
   have b0 : 1 * (A * A') ≤ (n + 1) * (A * A') := Nat.mul_le_mul_right _ (by omega)
   have b1 : i * (A * A') + A * A' ≤ (n + 1) * (A * A') := by
    have : (i + 1) * (A * A') ≤ (n + 1) * (A * A') := Nat.mul_le_mul_right _ (by omega)
    rwa [Nat.add_mul, Nat.one_mul] at this
   obtain ⟨p2, p3, q3, P2⟩ := pmul8 hc q1 q2 (HL.out i) (HL'.out g2) (by have := HA.out; omega)
   obtain ⟨r3, s3, q4, E⟩ := c_add hc hrs q3 (Py.ts_le HL.out HL'.out k i) ((HL.out i).mul (HL'.out g2)) (by have := HA.out; omega)
   have HP2 := hide P2
   have R : Hid (wC c r3 s3 (Py.ts l l' k (i + 1))) := by
    show wC _ _ _ _
    rw [Py.ts, if_pos (by omega), show k - i = g2 by omega]
    exact q4
   clear q1 q2 q3 q4 P2 hrs b0 b1 hg2 H0
   go_wp2_with fail
   have wg2 : IntKind.i64.wrap (g2 : Int) = g2 := wrap_small g2 (by omega)
   have S0 : wr.drew.cell? ⟨b, o + i, none⟩ = some (.complex .f64 x2 y2) ∧ wr.drew.cell? ⟨b', o' + g2, none⟩ = some (.complex .f64 u2 v2) := ⟨e1, e2⟩
   refine wp_region_K (fun w' => w'.cell? ⟨b, o + i, none⟩ = some (.complex .f64 x2 y2) ∧ w'.cell? ⟨b', o' + g2, none⟩ = some (.complex .f64 u2 v2)) 13 14 #[false, false, false, false, false, false, false, false, false, false, false, false, false, false] (by kernel_rfl) (by kernel_rfl) (by kernel_rfl) ?_
   refine wpAnyK_take 0 40 (v := ?vb0) rfl (by kernel_rfl) (by kernel_rfl) (by kernel_rfl) (by kernel_rfl) (by kernel_rfl) (fun _ _ _ h => h) rfl (Or.inl ⟨by rfl, ?hb0⟩) (by assumption) ?rb0
   case hb0 => (intro w hSw; go_simp; with_reducible rfl)
   simp only [Act.put, List.setIfInBounds_toArray, List.set_cons_zero, List.set_cons_succ]
   refine wpAnyK_take 1 41 (v := ?vb1) rfl (by kernel_rfl) (by kernel_rfl) (by kernel_rfl) (by kernel_rfl) (by kernel_rfl) (fun _ _ _ h => h) rfl (Or.inl ⟨by rfl, ?hb1⟩) (by assumption) ?rb1
   case hb1 => (intro w hSw; go_simp; with_reducible rfl)
   simp only [Act.put, List.setIfInBounds_toArray, List.set_cons_zero, List.set_cons_succ]
   refine wpAnyK_take 2 42 (v := ?vb2) rfl (by kernel_rfl) (by kernel_rfl) (by kernel_rfl) (by kernel_rfl) (by kernel_rfl) (fun _ _ _ h => h) rfl (Or.inl ⟨by rfl, ?hb2⟩) (by assumption) ?rb2
   case hb2 => (intro w hSw; go_simp; with_reducible rfl)
   simp only [Act.put, List.setIfInBounds_toArray, List.set_cons_zero, List.set_cons_succ]
   refine wpAnyK_take 3 43 (v := ?vb3) rfl (by kernel_rfl) (by kernel_rfl) (by kernel_rfl) (by kernel_rfl) (by kernel_rfl) (fun _ _ _ h => h) rfl (Or.inl ⟨by rfl, ?hb3⟩) (by assumption) ?rb3
   case hb3 => (intro w hSw; go_simp; with_reducible rfl)
   simp only [Act.put, List.setIfInBounds_toArray, List.set_cons_zero, List.set_cons_succ]
   refine wpAnyK_take 4 44 (v := ?vb4) rfl (by kernel_rfl) (by kernel_rfl) (by kernel_rfl) (by kernel_rfl) (by kernel_rfl) (fun _ _ _ h => h) rfl (Or.inl ⟨by rfl, ?hb4⟩) (by assumption) ?rb4
   case hb4 => (intro w hSw; go_simp; with_reducible rfl)
   simp only [Act.put, List.setIfInBounds_toArray, List.set_cons_zero, List.set_cons_succ]
   refine wpAnyK_take 5 45 (v := ?vb5) rfl (by kernel_rfl) (by kernel_rfl) (by kernel_rfl) (by kernel_rfl) (by kernel_rfl) (fun _ _ _ h => h) rfl (Or.inl ⟨by rfl, ?hb5⟩) (by assumption) ?rb5
   case hb5 => (intro w hSw; go_simp; with_reducible rfl)
   simp only [Act.put, List.setIfInBounds_toArray, List.set_cons_zero, List.set_cons_succ]
   refine wpAnyK_take 6 46 (v := ?vb6) rfl (by kernel_rfl) (by kernel_rfl) (by kernel_rfl) (by kernel_rfl) (by kernel_rfl) (fun _ _ _ h => h) rfl (Or.inl ⟨by rfl, ?hb6⟩) (by assumption) ?rb6
   case hb6 => (intro w hSw; go_simp; with_reducible rfl)
   simp only [Act.put, List.setIfInBounds_toArray, List.set_cons_zero, List.set_cons_succ]
   refine wpAnyK_take 7 47 (v := ?vb7) rfl (by kernel_rfl) (by kernel_rfl) (by kernel_rfl) (by kernel_rfl) (by kernel_rfl) (fun _ _ _ h => h) rfl (Or.inl ⟨by rfl, ?hb7⟩) (by assumption) ?rb7
   case hb7 => (intro w hSw; go_simp; with_reducible rfl)
   simp only [Act.put, List.setIfInBounds_toArray, List.set_cons_zero, List.set_cons_succ]
   refine wpAnyK_take 8 48 (v := ?vb8) rfl (by kernel_rfl) (by kernel_rfl) (by kernel_rfl) (by kernel_rfl) (by kernel_rfl) (fun _ _ _ h => h) rfl (Or.inl ⟨by rfl, ?hb8⟩) (by assumption) ?rb8
   case hb8 => (intro w hSw; go_simp; with_reducible rfl)
   simp only [Act.put, List.setIfInBounds_toArray, List.set_cons_zero, List.set_cons_succ]
   refine wpAnyK_take 9 49 (v := ?vb9) rfl (by kernel_rfl) (by kernel_rfl) (by kernel_rfl) (by kernel_rfl) (by kernel_rfl) (fun _ _ _ h => h) rfl (Or.inl ⟨by rfl, ?hb9⟩) (by assumption) ?rb9
   case hb9 => (intro w hSw; go_simp; with_reducible rfl)
   simp only [Act.put, List.setIfInBounds_toArray, List.set_cons_zero, List.set_cons_succ]
   refine wpAnyK_take 10 50 (v := ?vb10) rfl (by kernel_rfl) (by kernel_rfl) (by kernel_rfl) (by kernel_rfl) (by kernel_rfl) (fun _ _ _ h => h) rfl (Or.inl ⟨by rfl, ?hb10⟩) (by assumption) ?rb10
   case hb10 => (intro w hSw; go_simp; with_reducible rfl)
   simp only [Act.put, List.setIfInBounds_toArray, List.set_cons_zero, List.set_cons_succ]
   refine wpAnyK_one 11 (by kernel_rfl) rfl (fun K hK => ?_)
   go_simp
   go_wp2_with (go_at_call 98; refine (HP2.out _).mono ?_; rintro e' w7 ⟨rfl, hw7⟩; subst hw7)
   refine hK.out _ _ (fun _ _ => S0) ?_
   clear hK K
   simp only [List.setIfInBounds_toArray, List.set_cons_zero, List.set_cons_succ]
   refine wpAnyK_take 12 52 (v := ?vb12) rfl (by kernel_rfl) (by kernel_rfl) (by kernel_rfl) (by kernel_rfl) (by kernel_rfl) (fun _ _ _ h => h) rfl (Or.inl ⟨by rfl, ?hb12⟩) (by assumption) ?rb12
   case hb12 => (intro w hSw; go_simp; with_reducible rfl)
   simp only [Act.put, List.setIfInBounds_toArray, List.set_cons_zero, List.set_cons_succ]
   refine wpAnyK_one 13 (by kernel_rfl) rfl (fun K hK => ?_)
   go_simp
   refine hK.out _ _ (fun h => absurd rfl h) ?_
   clear hK K
   simp only [List.setIfInBounds_toArray, List.set_cons_zero, List.set_cons_succ]
   refine wpAnyK_done (by kernel_rfl) ?_ _
   clear S0 e1 e2 HP2 wg2
   go_wp2
   go_roundw
   case rel => exact ⟨i + 1, r3, s3, by omega, by omega, by simp, rfl, R.out, hbw.drew⟩
   case measure => simp [intOf]; omega
  ·
   have hi3 : i = d + 1 := by omega
   have R : Hid (wC c r2 s2 (Py.ts l l' k (n + 1))) := by
    show wC _ _ _ _
    rw [hi3] at hrs
    have hF := F1.out
    have e := Py.ts_far l l' k (d + 1) (n - d) (fun z z1 z2 z3 => by exfalso; omega)
    rw [show d + 1 + (n - d) = n + 1 by omega] at e
    rw [e]
    exact hrs
   have hid2 : ¬ (i : Int) ≤ d := by omega
   clear hrs hi3 H0 hc
   go_wp2
   go_ret
   exact ⟨r2, s2, rfl, R.out, hbw⟩
end Go.Proofs.YtjpllggchjgjpaaGreat

/-
 OWN TEXT: package poly: Mul, of lists of whole complex numbers.
-/
namespace Go.Proofs.YtjpllggchjgjpaaGreat
open Go.ChangeShapes Go.WideShapes Go.ChangeAt Go.RowKit
set_option linter.unusedVariables false
attribute [local go_sem] frombits_call tobits_call run_neg run_store_cx
end Go.Proofs.YtjpllggchjgjpaaGreat

/-
 OWN TEXT: package poly: Shift, of lists of whole complex numbers.
-/
namespace Go.Proofs.YtjpllggchjgjpaaGreat
open Go.ChangeShapes Go.WideShapes Go.ChangeAt Go.RowKit
set_option linter.unusedVariables false
attribute [local go_sem] frombits_call tobits_call run_neg run_store_cx
end Go.Proofs.YtjpllggchjgjpaaGreat

/-
 OWN TEXT: package poly: Of, of lists of whole complex numbers.
-/
namespace Go.Proofs.YtjpllggchjgjpaaGreat
open Go.ChangeShapes Go.WideShapes Go.ChangeAt Go.RowKit
set_option linter.unusedVariables false
attribute [local go_sem] frombits_call tobits_call run_neg run_store_cx
set_option maxHeartbeats 4000000 in
theorem withzero8 {c : Nat} (hc : c = 1074) {w : World} {b cap n x y A Z : Nat} {l : List Py.G} {g : Py.G} (hn : l.length = n + 1) (h64 : n ≤ 64) (h : Gl c w b 0 l) (hg : wC c x y g) (lg : Py.Le g Z) (hl : ∀ i, Py.Le (Py.co l i) A) (hA : A * (Z + 1) ≤ 9007199254740992) :
  Calls Tryz.prog 86 #[.slice (some ⟨b, 0, none⟩) (n + 1) cap, .complex .f64 x y] w fun e w' => e = .returned (.slice (some ⟨w.heap.size, 0, none⟩) (n + 1 + 1) (n + 1 + 1)) ∧ Gw c w' w.heap.size (Py.wz l g) ∧ Bw w w' := by
 have hmk := make_c ((n : Int) + 1 + 1) (n + 1 + 1) (by omega) (by omega)
 have hZA : Z * A + A ≤ 9007199254740992 := by rw [Nat.mul_add, Nat.mul_one, Nat.mul_comm] at hA; exact hA
 have G0 := hide (Gw.made c w (n + 1 + 1) 26)
 have b0 := bw_alloc w (.cells (zcC (n + 1 + 1)) 26)
 obtain ⟨x0, y0, e0, q0⟩ := h.2 0 (by omega)
 have e0' : (w.alloc (.cells (zcC (n + 1 + 1)) 26)).cell? ⟨b, 0, none⟩ = some (.complex .f64 x0 y0) := (Below.cell b0 (p := ⟨b, 0, none⟩) h.1).trans e0
 obtain ⟨p1, p2, q1, P⟩ := pmul8 hc hg q0 lg (hl 0) (by omega)
 obtain ⟨r, s, q2, NG⟩ := pneg8 q1
 have HP := hide P
 have HNG := hide NG
 have t0 : Hid (Py.gn (Py.gm g (Py.co l 0)) = Py.co (Py.wz l g) 0) := by
  show _ = _
  rw [Py.co_wz, Py.co_zero]
  exact Py.gext (by unfold Py.gn Py.gs; simp only; omega) (by unfold Py.gn Py.gs; simp only; omega)
 rw [t0.out] at q2
 have hbB : b < w.heap.size := h.1
 have G1 : Gw c ((w.alloc (.cells (zcC (n + 1 + 1)) 26)).setCell ⟨w.heap.size, 0, none⟩ (.complex .f64 r s)) w.heap.size ((List.replicate (n + 1 + 1) (0, 0)).set 0 (Py.co (Py.wz l g) 0)) := G0.out.set 0 r s _ (by simp) q2
 have b1 : Bw w ((w.alloc (.cells (zcC (n + 1 + 1)) 26)).setCell ⟨w.heap.size, 0, none⟩ (.complex .f64 r s)) := Below.setCell b0 (Nat.le_refl _) _
 obtain ⟨ux, uy, eu, qu⟩ := G0.out.1.2 0 (by simp)
 rw [Nat.zero_add] at eu
 have ef := G0.out.2 0
 obtain ⟨F, hF⟩ := (h.bw b1).words
 have hcp := copy_c (w := (w.alloc (.cells (zcC (n + 1 + 1)) 26)).setCell ⟨w.heap.size, 0, none⟩ (.complex .f64 r s)) (l := l) 1 (n + 1) (n + 1) cap (n + 1) F G1 (fun i hi => (hF i hi).1) hn (Nat.le_refl _) (by simp; omega)
 have G2 := Gw.lay (l := l) 1 F G1 (fun i hi => (hF i hi).2) (by simp; omega)
 have b2 := bw_setCells w.heap.size (Nat.le_refl _) (vsC F (n + 1)) 1 _ b1
 rw [hn] at G2
 have G3 : Hid (∃ L : List Py.G, L.length = n + 1 + 1 ∧ Gw c (((w.alloc (.cells (zcC (n + 1 + 1)) 26)).setCell ⟨w.heap.size, 0, none⟩ (.complex .f64 r s)).setCells w.heap.size 1 (vsC F (n + 1))) w.heap.size L ∧ ∀ t, Py.co L t = if t < 1 then Py.co (Py.wz l g) t else Py.co ((0, 0) :: l) t) := by
  refine ⟨_, by rw [lay_len]; simp, G2, fun t => ?_⟩
  rw [co_lay _ _ _ (by simp; omega)]
  by_cases z : t < 1
  ·
   have : t = 0 := by omega
   subst this
   rw [if_neg (by omega), if_pos (by omega), Py.co_set _ _ _ _ (by simp), if_pos rfl]
  ·
   obtain ⟨t', rfl⟩ : ∃ t', t = t' + 1 := ⟨t - 1, by omega⟩
   rw [if_neg z, Py.co_succ]
   by_cases z2 : t' < n + 1
   · rw [if_pos (by omega), Nat.add_sub_cancel]
   · rw [if_neg (by omega), Py.co_set _ _ _ _ (by simp), if_neg (by omega), co_rep, Py.co_out (by omega)]
 have HLL := hide hl
 have HGL := hide h
 have HGG := hide hg
 have HLG := hide lg
 have HN := hide hn
 have HC := hide hc
 clear P NG G2 G1 hF qu q2 q1 q0 G0 b0 b1 h hl hg lg hn hc e0 t0
 go_enter Tryz.func86, Tryz.ntmps86
 go_wp2_with fail
 generalize w.alloc (.cells (zcC (n + 1 + 1)) 26) = W at *
 generalize hB : w.heap.size = B at *
 have HBB := hide hB
 clear hB
 refine (HP.out _).mono ?_
 rintro e' w7 ⟨rfl, hw7⟩
 subst hw7
 go_wp2_with fail
 refine (HNG.out _).mono ?_
 rintro e' w7 ⟨rfl, hw7⟩
 subst hw7
 clear HP HNG
 generalize ((w7.setCell ⟨B, 0, none⟩ (.complex .f64 r s)).setCells B 1 (vsC F (n + 1))) = W2 at *
 go_wp2
 obtain ⟨L0, hL0, hG3, hT⟩ := G3.out
 have HG3 := hide hG3
 have HT := hide hT
 clear G3 hG3 hT hcp hmk eu ef e0'
 go_loopw [7] (fun q wr => ∃ (i : Nat) (L : List Py.G), 1 ≤ i ∧ i ≤ n + 1 ∧ q = .int .i64 i ∧ L.length = n + 1 + 1 ∧ Gw c wr B L ∧ (∀ t, Py.co L t = if t < i then Py.co (Py.wz l g) t else Py.co ((0, 0) :: l) t) ∧ Bw w wr) (fun q _ => n + 1 - (intOf q).toNat)
 case atStart => exact ⟨1, L0, Nat.le_refl _, by omega, rfl, hL0, HG3.out, HT.out, b2⟩
 case round =>
  obtain ⟨i, L, hi1, hi2, rfl, hL, hw, hco, hbw⟩ := hrel
  clear HG3 HT b2 hL0
  by_cases hi3 : i < n + 1
  ·
   have hi4 : (i : Int) < (n : Int) + 1 := by omega
   have hi5 : (i : Int) < (n : Int) + 1 + 1 := by omega
   obtain ⟨x1, y1, e1, q1⟩ := hw.1.2 i (by omega)
   obtain ⟨x2, y2, e2, q2⟩ := (HGL.out.bw hbw).2 i (by have := HN.out; omega)
   have e3 := hw.2 i
   rw [Nat.zero_add] at e1 e2
   rw [hco i, if_neg (by omega)] at q1
   have l1 : Py.Le (Py.co ((0, 0) :: l) i) A := by
    cases i with
    | zero => exact Py.Le.nought _
    | succ i => exact HLL.out i
   obtain ⟨p3, p4, q3, P⟩ := pmul8 HC.out HGG.out q2 HLG.out (HLL.out i) (by omega)
   obtain ⟨r2, s2, q4, E⟩ := c_sub HC.out q1 q3 l1 (HLG.out.mul (HLL.out i)) (by omega)
   rw [← Py.co_wz] at q4
   have HP := hide P
   have R : Hid (Gw c (wr.drew.setCell ⟨B, i, none⟩ (.complex .f64 r2 s2)) B (L.set i (Py.co (Py.wz l g) i)) ∧ (∀ t, Py.co (L.set i (Py.co (Py.wz l g) i)) t = if t < i + 1 then Py.co (Py.wz l g) t else Py.co ((0, 0) :: l) t) ∧ Bw w (wr.drew.setCell ⟨B, i, none⟩ (.complex .f64 r2 s2))) := by
    have hwd : Gw c wr.drew B L := ⟨⟨hw.1.1, hw.1.2⟩, hw.2⟩
    refine ⟨hwd.set i r2 s2 _ (by omega) q4, fun t => ?_, Below.setCell hbw.drew (by have := HBB.out; show w.heap.size ≤ B; omega) _⟩
    rw [Py.co_set _ _ _ _ (by omega)]
    by_cases z : t = i
    · subst z; rw [if_pos rfl, if_pos (by omega)]
    ·
     rw [if_neg z, hco t]
     by_cases z2 : t < i
     · rw [if_pos z2, if_pos (by omega)]
     · rw [if_neg z2, if_neg (by omega)]
   have HL1 := hide hL
   clear q1 q2 q3 q4 l1 P hw hco hbw hL
   go_wp2_with fail
   have S0 : wr.drew.cell? ⟨B, i, none⟩ = some (.complex .f64 x1 y1) ∧ wr.drew.cell? ⟨b, i, none⟩ = some (.complex .f64 x2 y2) ∧ wr.drew.frozen? ⟨B, i, none⟩ = false := ⟨e1, e2, e3⟩
   refine wp_region_K (fun w' => w'.cell? ⟨B, i, none⟩ = some (.complex .f64 x1 y1) ∧ w'.cell? ⟨b, i, none⟩ = some (.complex .f64 x2 y2) ∧ w'.frozen? ⟨B, i, none⟩ = false) 12 13 #[false, false, false, false, false, false, false, false, false, false, false, false, false] (by kernel_rfl) (by kernel_rfl) (by kernel_rfl) ?_
   refine wpAnyK_take 0 30 (v := ?v0) rfl (by kernel_rfl) (by kernel_rfl) (by kernel_rfl) (by kernel_rfl) (by kernel_rfl) (fun _ _ _ h => h) rfl (Or.inl ⟨by rfl, ?h0⟩) (by assumption) ?r0
   case h0 => (intro w hSw; go_simp; with_reducible rfl)
   simp only [Act.put, List.setIfInBounds_toArray, List.set_cons_zero, List.set_cons_succ]
   refine wpAnyK_take 1 31 (v := ?v1) rfl (by kernel_rfl) (by kernel_rfl) (by kernel_rfl) (by kernel_rfl) (by kernel_rfl) (fun _ _ _ h => h) rfl (Or.inl ⟨by rfl, ?h1⟩) (by assumption) ?r1
   case h1 => (intro w hSw; go_simp; with_reducible rfl)
   simp only [Act.put, List.setIfInBounds_toArray, List.set_cons_zero, List.set_cons_succ]
   refine wpAnyK_take 2 32 (v := ?v2) rfl (by kernel_rfl) (by kernel_rfl) (by kernel_rfl) (by kernel_rfl) (by kernel_rfl) (fun _ _ _ h => h) rfl (Or.inl ⟨by rfl, ?h2⟩) (by assumption) ?r2
   case h2 => (intro w hSw; go_simp; with_reducible rfl)
   simp only [Act.put, List.setIfInBounds_toArray, List.set_cons_zero, List.set_cons_succ]
   refine wpAnyK_take 3 33 (v := ?v3) rfl (by kernel_rfl) (by kernel_rfl) (by kernel_rfl) (by kernel_rfl) (by kernel_rfl) (fun _ _ _ h => h) rfl (Or.inl ⟨by rfl, ?h3⟩) (by assumption) ?r3
   case h3 => (intro w hSw; go_simp; with_reducible rfl)
   simp only [Act.put, List.setIfInBounds_toArray, List.set_cons_zero, List.set_cons_succ]
   refine wpAnyK_take 4 34 (v := ?v4) rfl (by kernel_rfl) (by kernel_rfl) (by kernel_rfl) (by kernel_rfl) (by kernel_rfl) (fun _ _ _ h => h) rfl (Or.inl ⟨by rfl, ?h4⟩) (by assumption) ?r4
   case h4 => (intro w hSw; go_simp; with_reducible rfl)
   simp only [Act.put, List.setIfInBounds_toArray, List.set_cons_zero, List.set_cons_succ]
   refine wpAnyK_take 5 35 (v := ?v5) rfl (by kernel_rfl) (by kernel_rfl) (by kernel_rfl) (by kernel_rfl) (by kernel_rfl) (fun _ _ _ h => h) rfl (Or.inl ⟨by rfl, ?h5⟩) (by assumption) ?r5
   case h5 => (intro w hSw; go_simp; with_reducible rfl)
   simp only [Act.put, List.setIfInBounds_toArray, List.set_cons_zero, List.set_cons_succ]
   refine wpAnyK_take 6 36 (v := ?v6) rfl (by kernel_rfl) (by kernel_rfl) (by kernel_rfl) (by kernel_rfl) (by kernel_rfl) (fun _ _ _ h => h) rfl (Or.inl ⟨by rfl, ?h6⟩) (by assumption) ?r6
   case h6 => (intro w hSw; go_simp; with_reducible rfl)
   simp only [Act.put, List.setIfInBounds_toArray, List.set_cons_zero, List.set_cons_succ]
   refine wpAnyK_take 7 37 (v := ?v7) rfl (by kernel_rfl) (by kernel_rfl) (by kernel_rfl) (by kernel_rfl) (by kernel_rfl) (fun _ _ _ h => h) rfl (Or.inl ⟨by rfl, ?h7⟩) (by assumption) ?r7
   case h7 => (intro w hSw; go_simp; with_reducible rfl)
   simp only [Act.put, List.setIfInBounds_toArray, List.set_cons_zero, List.set_cons_succ]
   refine wpAnyK_take 8 38 (v := ?v8) rfl (by kernel_rfl) (by kernel_rfl) (by kernel_rfl) (by kernel_rfl) (by kernel_rfl) (fun _ _ _ h => h) rfl (Or.inl ⟨by rfl, ?h8⟩) (by assumption) ?r8
   case h8 => (intro w hSw; go_simp; with_reducible rfl)
   simp only [Act.put, List.setIfInBounds_toArray, List.set_cons_zero, List.set_cons_succ]
   refine wpAnyK_one 9 (by kernel_rfl) rfl (fun K hK => ?_)
   go_simp
   go_wp2_with (go_at_call 98; refine (HP.out _).mono ?_; rintro e' w7 ⟨rfl, hw7⟩; subst hw7)
   refine hK.out _ _ (fun _ _ => S0) ?_
   clear hK K
   simp only [List.setIfInBounds_toArray, List.set_cons_zero, List.set_cons_succ]
   refine wpAnyK_take 10 40 (v := ?v10) rfl (by kernel_rfl) (by kernel_rfl) (by kernel_rfl) (by kernel_rfl) (by kernel_rfl) (fun _ _ _ h => h) rfl (Or.inl ⟨by rfl, ?h10⟩) (by assumption) ?r10
   case h10 => (intro w hSw; go_simp; with_reducible rfl)
   simp only [Act.put, List.setIfInBounds_toArray, List.set_cons_zero, List.set_cons_succ]
   refine wpAnyK_take 11 41 (v := ?v11) rfl (by kernel_rfl) (by kernel_rfl) (by kernel_rfl) (by kernel_rfl) (by kernel_rfl) (fun _ _ _ h => h) rfl (Or.inl ⟨by rfl, ?h11⟩) (by assumption) ?r11
   case h11 => (intro w hSw; go_simp; with_reducible rfl)
   simp only [Act.put, List.setIfInBounds_toArray, List.set_cons_zero, List.set_cons_succ]
   refine wpAnyK_one 12 (by kernel_rfl) rfl (fun K hK => ?_)
   go_simp
   refine hK.out _ _ (fun h => absurd rfl h) ?_
   clear hK K
   simp only [List.setIfInBounds_toArray, List.set_cons_zero, List.set_cons_succ]
   refine wpAnyK_done (by kernel_rfl) ?_ _
   clear S0 e1 e2 e3 HP
   go_wp2
   go_roundw
   case rel => exact ⟨i + 1, _, by omega, by omega, by simp, by rw [List.length_set]; exact HL1.out, R.out.1, R.out.2.1, R.out.2.2⟩
   case measure => simp [intOf]; omega
  ·
   have hi4 : i = n + 1 := by omega
   subst hi4
   have hLe : L = Py.wz l g := Py.list_ext (by rw [Py.wz_len, HN.out, hL]) (fun t ht => by
    rw [hco t]
    by_cases z : t < n + 1
    · rw [if_pos z]
    ·
     have : t = n + 1 := by omega
     subst this
     rw [if_neg (by omega), Py.co_wz, Py.co_out (l := l) (i := n + 1) (by have := HN.out; omega), Py.gm_nought]
     exact Py.gext (by unfold Py.gs; simp only; omega) (by unfold Py.gs; simp only; omega))
   have HW : Hid (Gw c wr B (Py.wz l g)) := by rw [← hLe]; exact hw
   have hlt : ¬ ((n + 1 : Nat) : Int) < (n : Int) + 1 := by omega
   clear hw hco hL hLe
   go_wp2
   go_ret
   rw [HBB.out]
   exact ⟨rfl, HW.out, hbw⟩
end Go.Proofs.YtjpllggchjgjpaaGreat

/-
 OWN TEXT: package poly: Of, of lists of whole complex numbers.
-/
namespace Go.Proofs.YtjpllggchjgjpaaGreat
open Go.ChangeShapes Go.WideShapes Go.ChangeAt Go.RowKit
set_option linter.unusedVariables false
attribute [local go_sem] frombits_call tobits_call run_neg run_store_cx
theorem one_le (i A : Nat) (h : 1 ≤ A) : Py.Le (Py.co [(1, 0)] i) A := by
 refine Py.Le.mono (M := 1) ?_ h
 cases i with
 | zero => show (1 : Int) * 1 + 0 * 0 ≤ _; decide
 | succ i => exact Py.Le.nought _
set_option maxHeartbeats 4000000 in
theorem of8 {c : Nat} (hc : c = 1074) {w : World} {b o cap m Z : Nat} {zs : List Py.G} (hn : zs.length = m) (h64 : m ≤ 64) (h : Gl c w b o zs) (hz : ∀ i, Py.Le (Py.co zs i) Z) (hZ : Z ≤ 1099511627776) (hA : (Z + 1) ^ m ≤ 1099511627776) :
  Calls Tryz.prog 62 #[.slice (some ⟨b, o, none⟩) m cap] w fun e w' => Ans c w w' e (m + 1) (Py.co (Py.ofl [(1, 0)] zs)) := by
 have C := hide (places8 (cap := cap) hc m hn (by omega) h (fun i _ => (hz i).mono hZ))
 have t1 : ¬ 64 < (m : Int) := by omega
 have HN := hide hn
 have HZ := hide hz
 have HG := hide h
 have HA := hide hA
 have HC := hide hc
 clear h hz hn hA hc
 go_enter Tryz.func62, Tryz.ntmps62
 go_wp2_with fail
 refine C.out.mono ?_
 rintro e' w1 ⟨rfl, b1⟩
 clear C
 go_wp2
 have G0 : Hid (Gl c (w1.alloc (.cells #[.complex .f64 4607182418800017408 0] 26)) w1.heap.size 0 [(1, 0)]) := by
  refine ⟨by simp, fun i hi => ?_⟩
  match i, hi with
  | 0, _ => exact ⟨4607182418800017408, 0, by simp, wC.one HC.out⟩
 have hB : w.heap.size ≤ w1.heap.size := Below.size b1
 have b2 := bw_trans b1 (bw_alloc w1 (.cells #[.complex .f64 4607182418800017408 0] 26))
 generalize w1.alloc (.cells #[.complex .f64 4607182418800017408 0] 26) = W at *
 generalize w1.heap.size = B0 at *
 go_loopw [4, 16] (fun p q wr => ∃ (k B : Nat), k ≤ m ∧ q = .int .i64 k ∧ p = .slice (some ⟨B, 0, none⟩) (k + 1) (k + 1) ∧ Gl c wr B 0 (Py.ofl [(1, 0)] (zs.take k)) ∧ w.heap.size ≤ B ∧ Bw w wr) (fun _ q _ => m - (intOf q).toNat)
 case atStart => exact ⟨0, B0, Nat.zero_le _, rfl, rfl, G0.out, hB, b2⟩
 case round =>
  obtain ⟨k, B, hk, rfl, rfl, hG, hB1, hbw⟩ := hrel
  clear G0 b2 hB
  have hlen : (Py.ofl [(1, 0)] (zs.take k)).length = k + 1 := by
   rw [Py.ofl_len, List.length_take]; have := HN.out; simp only [List.length_cons, List.length_nil]; omega
  have hle : ∀ i, Py.Le (Py.co (Py.ofl [(1, 0)] (zs.take k)) i) ((Z + 1) ^ k) := fun i => by
   have := Py.ofl_le (p := [(1, 0)]) (zs := zs.take k) (A := 1) (Z := Z) (fun i => one_le i 1 (Nat.le_refl _)) (fun z hz => by
    obtain ⟨i, hi, rfl⟩ := List.getElem_of_mem hz
    have h1 := HZ.out i
    rw [List.length_take] at hi
    have h2 : Py.co zs i = zs[i] := by simp [Py.co, List.getD, show i < zs.length by omega]
    rw [h2] at h1
    rw [List.getElem_take]
    exact h1) i
   rw [Nat.one_mul, List.length_take, Nat.min_eq_left (by have := HN.out; omega)] at this
   exact this
  by_cases hk1 : k < m
  ·
   have hk2 : (k : Int) < m := by omega
   obtain ⟨x, y, e, q⟩ := (HG.out.bw hbw).2 k (by have := HN.out; omega)
   have hpow : (Z + 1) ^ k * (Z + 1) ≤ 1099511627776 := by
    rw [← Nat.pow_succ]
    exact Nat.le_trans (Nat.pow_le_pow_right (by omega) (by omega)) HA.out
   have WZ := hide (withzero8 (cap := k + 1) HC.out hlen (by omega) hG q (HZ.out k) hle (by omega))
   have hnext : Py.wz (Py.ofl [(1, 0)] (zs.take k)) (Py.co zs k) = Py.ofl [(1, 0)] (zs.take (k + 1)) := by
    have hkz : k < zs.length := by have := HN.out; omega
    rw [List.take_succ_eq_append_getElem hkz, Py.ofl_snoc]
    congr 1
    simp [Py.co, List.getD, hkz]
   have HNX := hide hnext
   clear q hlen hle hG hnext hpow
   go_wp2_with fail
   refine WZ.out.mono ?_
   rintro e' w2 ⟨rfl, hw2, b2⟩
   have R : Hid (Gl c w2 wr.heap.size 0 (Py.ofl [(1, 0)] (zs.take (k + 1))) ∧ w.heap.size ≤ wr.heap.size ∧ Bw w w2) := by
    refine ⟨?_, Below.size hbw, bw_trans hbw b2⟩
    rw [← HNX.out]; exact hw2.1
   clear WZ hw2 b2 hbw HNX e
   generalize wr.heap.size = B2 at *
   go_wp2
   go_roundw
   case rel => exact ⟨k + 1, B2, by omega, by simp, rfl, R.out.1, R.out.2.1, R.out.2.2⟩
   case measure => simp [intOf]; omega
  ·
   have hk3 : k = m := by omega
   subst hk3
   have ht : zs.take k = zs := List.take_of_length_le (by have := HN.out; omega)
   rw [ht] at hG hlen hle
   have H2 : Hid (∀ i, Py.Le (Py.co (Py.ofl [(1, 0)] zs) i) 1099511627776) := fun i => (hle i).mono HA.out
   have HW := hide hG
   have HLL := hide hlen
   clear hG hlen hle ht
   go_wp2_with fail
   refine (answered8 HC.out (k + 1) HLL.out (by omega) (by omega) (Nat.le_refl _) HW.out H2.out).mono ?_
   rintro e' w3 ⟨rfl, b3⟩
   have AA := hide (Ans.of HLL.out (by omega) (by omega) (HW.out.bw b3) hB1 (bw_trans hbw b3) H2.out)
   clear HW H2 HLL
   generalize Py.tl (Py.ofl [(1, 0)] zs) (k + 1) = tt at *
   go_wp2
   go_ret2
   exact AA.out
end Go.Proofs.YtjpllggchjgjpaaGreat

/-
 OWN TEXT: package poly: a product divided by one of its factors, of lists of whole complex numbers.
-/
namespace Go.Proofs.YtjpllggchjgjpaaGreat
open Go.ChangeShapes Go.WideShapes Go.ChangeAt Go.RowKit
set_option linter.unusedVariables false
attribute [local go_sem] frombits_call tobits_call run_neg run_store_cx
theorem Gw.bw {c : Nat} {w w' : World} {B : Nat} {l : List Py.G} (h : Gw c w B l) (k : Bw w w') : Gw c w' B l :=
 ⟨h.1.bw k, fun i => (Below.frozen k (p := ⟨B, i, none⟩) h.1.1).trans (h.2 i)⟩
theorem Gw.drew {c : Nat} {w : World} {B : Nat} {l : List Py.G} (h : Gw c w B l) : Gw c w.drew B l := ⟨⟨h.1.1, h.1.2⟩, h.2⟩
end Go.Proofs.YtjpllggchjgjpaaGreat

/-
 OWN TEXT: package poly: Div of a product by one of its factors, of lists of whole complex numbers.
-/
namespace Go.Proofs.YtjpllggchjgjpaaGreat
open Go.ChangeShapes Go.WideShapes Go.ChangeAt Go.RowKit
set_option linter.unusedVariables false
attribute [local go_sem] frombits_call tobits_call run_neg run_store_cx
end Go.Proofs.YtjpllggchjgjpaaGreat

