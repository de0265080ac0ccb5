/-
  OWN TEXT: package poly: At, Add, of lists of whole complex numbers.
-/
import Derived.Test.YtpfgboinjjobpaaPyH
namespace Go.Proofs.Ytpfgboinjjobpaa
open Go.ChangeShapes Go.WideShapes Go.ChangeAt Go.RowKit
set_option linter.unusedVariables false
attribute [local go_sem] frombits_call tobits_call run_neg run_store_cx
theorem at8 {c : Nat} (hc : c = 1074) {w : World} {b o cap n x y Z : Nat} {l : List Py.G} {g : Py.G} (U : Nat → Nat) (hm : May n l) (h : Gl c w b o l) (hg : wC c x y g) (lg : Py.Le g Z) (hZ : Z ≤ 1099511627776) (hU : Steps l n Z U) : Calls Try.prog 33 #[.slice (some ⟨b, o, none⟩) (n + 1) cap, .complex .f64 x y] w fun e w' => ∃ r s, e = .returned (.tuple #[.complex .f64 r s, .int .i64 0]) ∧ wC c r s (Py.ev l g) ∧ Bw w w' := by
  have C := hide (checkwith8 (cap := cap) hc hm h hg (lg.mono hZ))
  have S : Hid (∀ wz, Bw w wz → Calls Try.prog 38 #[.slice (some ⟨b, o, none⟩) (n + 1) cap, .complex .f64 x y] wz fun e w' => ∃ r s p q, e = .returned (.tuple #[.complex .f64 r s, .complex .f64 p q]) ∧ wC c r s (Py.ev l g) ∧ Bw wz w') := fun wz hz => steps8 hc U hm.1 (by have := hm.2.1; omega) (h.bw hz) hg lg hU
  clear hm h hg lg hZ hU
  go_enter Try.func33, Try.ntmps33
  go_wp2_with fail
  refine C.out.mono ?_
  rintro e' w1 ⟨rfl, b1⟩
  clear C
  go_wp2_with fail
  refine (S.out _ b1).mono ?_
  rintro e' w2 ⟨r, s, p, q, rfl, hrs, b2⟩
  have HR := hide hrs
  have F : Hid (∀ wz, Calls Try.prog 39 #[.complex .f64 r s] wz fun e w' => e = .returned (.bool true) ∧ w' = wz) := fun wz => pfinite8 hrs wz
  replace b1 := bw_trans b1 b2
  clear S hrs b2
  go_wp2_with fail
  refine (F.out _).mono ?_
  rintro e' w3 ⟨rfl, rfl⟩
  clear F
  go_wp2
  go_ret2
  exact ⟨r, s, rfl, HR.out, b1⟩
theorem lat8 {c : Nat} (hc : c = 1074) {w : World} {b o cap n x y Z : Nat} {l : List Py.G} {g : Py.G} (U : Nat → Nat) (hm : May n l) (h : Gl c w b o l) (hg : wC c x y g) (lg : Py.Le g Z) (hZ : Z ≤ 1099511627776) (hU : Steps l n Z U) : Calls Try.prog 11 #[.slice (some ⟨b, o, none⟩) (n + 1) cap, .complex .f64 x y] w fun e w' => ∃ r s, e = .returned (.complex .f64 r s) ∧ wC c r s (Py.ev l g) ∧ Bw w w' := by
  have C := hide (at8 (cap := cap) hc U hm h hg lg hZ hU)
  clear hm h hg lg hZ hU
  go_enter Try.func11, Try.ntmps11
  go_wp2_with fail
  refine C.out.mono ?_
  rintro e' w1 ⟨r, s, rfl, hrs, b1⟩
  have HR := hide hrs
  clear C hrs
  go_wp2
  go_ret
  exact ⟨r, s, rfl, HR.out, b1⟩
/-- an answered polynomial: its coefficients are those of F -/
def Ans (c : Nat) (w w' : World) (e : Ending) (N : Nat) (F : Nat → Py.G) : Prop := ∃ B m l, e = .returned (.tuple #[.slice (some ⟨B, 0, none⟩) (m + 1) (m + 1), .int .i64 0]) ∧ May m l ∧ m + 1 ≤ N ∧ Gl c w' B 0 l ∧ w.heap.size ≤ B ∧ Bw w w' ∧ ∀ i, Py.co l i = F i
theorem Ans.of {c : Nat} {w w' : World} {B n : Nat} {l : List Py.G} (hn : l.length = n) (h0 : 0 < n) (hm : n ≤ 65) (h : Gl c w' B 0 l) (hB : w.heap.size ≤ B) (hb : Bw w w') (hl : ∀ i, Py.Le (Py.co l i) 1099511627776) : Ans c w w' (.returned (.tuple #[.slice (some ⟨B, 0, none⟩) (Py.tl l n) (Py.tl l n), .int .i64 0])) n (Py.co l) := by
  have hp := Py.tl_pos l n h0
  have hle := Py.tl_le l n
  have hlast := Py.tl_last l n
  have hlen := Py.tr_len l
  rw [hn] at hlen
  obtain ⟨m, hm'⟩ : ∃ m, Py.tl l n = m + 1 := ⟨Py.tl l n - 1, by omega⟩
  refine ⟨B, m, Py.tr l, by rw [hm'], ⟨by omega, by omega, ?_, fun i _ => by rw [Py.co_tr]; exact hl i⟩, by omega, ?_, hB, hb, Py.co_tr l⟩
  · rw [hm'] at hlast
    rw [Py.co_tr]
    rcases hlast with k | k | k
    · omega
    · left; omega
    · right; rw [Nat.add_sub_cancel] at k; exact k
  · unfold Py.tr; rw [hn]; exact h.take _
theorem Gl.setBelow {c : Nat} {w w0 : World} {b o : Nat} {l : List Py.G} (h : Gl c w0 b o l) (hb : Bw w0 w) : Gl c w b o l := h.bw hb
set_option maxHeartbeats 4000000 in
theorem add_core {c : Nat} (hc : c = 1074) {w : World} {b o cap n b' o' cap' n' A A' : Nat} {l l' : List Py.G} (sw : Bool) (hm : May n l) (h : Gl c w b o l) (hm' : May n' l') (h' : Gl c w b' o' l') (hl : ∀ i, Py.Le (Py.co l i) A) (hl' : ∀ i, Py.Le (Py.co l' i) A') (hA : A + A' ≤ 1099511627776) (hnn : if sw then n' < n else n' ≤ n) :
    Calls Try.prog 8 (if sw then #[.slice (some ⟨b', o', none⟩) (n' + 1) cap', .slice (some ⟨b, o, none⟩) (n + 1) cap] else #[.slice (some ⟨b, o, none⟩) (n + 1) cap, .slice (some ⟨b', o', none⟩) (n' + 1) cap']) w fun e w' => Ans c w w' e (n + 1) (fun i => Py.ga (Py.co l i) (Py.co l' i)) := by
  have C : Hid (Calls Try.prog 25 (if sw then #[.slice (some ⟨b', o', none⟩) (n' + 1) cap', .slice (some ⟨b, o, none⟩) (n + 1) cap] else #[.slice (some ⟨b, o, none⟩) (n + 1) cap, .slice (some ⟨b', o', none⟩) (n' + 1) cap']) w fun e w' => e = .returned (.int .i64 0) ∧ Bw w w') := by
    show Calls _ _ _ _ _
    cases sw
    · exact checktwo8 hc hm h hm' h'
    · exact checktwo8 hc hm' h' hm h
  have CP : Hid (∀ wz, Bw w wz → Calls Try.prog 26 #[.slice (some ⟨b, o, none⟩) (n + 1) cap] wz fun e w' => e = .returned (.slice (some ⟨wz.heap.size, 0, none⟩) (n + 1) (n + 1)) ∧ Gw c w' wz.heap.size l ∧ Bw wz w') := fun wz hz => copied8 (n + 1) hm.1 (by have := hm.2.1; omega) (h.bw hz)
  have hn64 := hm.2.1
  have hle : n' ≤ n := by cases sw <;> simp at hnn <;> omega
  have HL := hide hl
  have HL' := hide hl'
  have HG' := hide h'
  have HN := hide hm.1
  have HN' := hide hm'.1
  clear hm h hm' h' hl hl'
  cases sw
  · have t0 : ¬ (n : Int) + 1 < (n' : Int) + 1 := by omega
    simp only [Bool.false_eq_true, if_false] at C ⊢
    clear hnn
    go_enter Try.func8, Try.ntmps8
    go_wp2_with fail
    refine C.out.mono ?_
    rintro e' w1 ⟨rfl, b1⟩
    clear C
    go_wp2_with fail
    refine (CP.out _ b1).mono ?_
    rintro e' w2 ⟨rfl, hw2, b2⟩
    replace b2 := bw_trans b1 b2
    have hB : w.heap.size ≤ w1.heap.size := Below.size b1
    have HW := hide hw2
    generalize w1.heap.size = B at *
    clear CP hw2 b1
    go_wp2
    go_loopw [27] (fun i wr => ∃ (k : Nat) (L : List Py.G), k ≤ n' + 1 ∧ i = .int .i64 k ∧ L.length = n + 1 ∧ Gw c wr B L ∧ (∀ i, Py.co L i = if i < k then Py.ga (Py.co l i) (Py.co l' i) else Py.co l i) ∧ Bw w wr) (fun i _ => n' + 1 - (intOf i).toNat)
    case atStart => exact ⟨0, l, Nat.zero_le _, rfl, HN.out, HW.out, fun i => by rw [if_neg (by omega)], b2⟩
    case round =>
      obtain ⟨k, L, hk, rfl, hL, hw, hco, hbw⟩ := hrel
      clear HW b2
      by_cases hk1 : k < n' + 1
      · obtain ⟨x, y, e1, q1⟩ := (HG'.out.bw hbw).2 k (by have := HN'.out; omega)
        obtain ⟨u, v, e2, q2⟩ := hw.1.2 k (by omega)
        have e3 := hw.2 k
        rw [Nat.zero_add] at e2
        rw [hco k, if_neg (by omega)] at q2
        obtain ⟨r, s, q3, E⟩ := c_add hc q2 q1 (HL.out k) (HL'.out k) (by omega)
        have hk2 : (k : Int) < (n' : Int) + 1 := by omega
        have hk3 : (k : Int) < (n : Int) + 1 := by omega
        have R : Hid (Gw c (wr.setCell ⟨B, k, none⟩ (.complex .f64 r s)) B (L.set k (Py.ga (Py.co l k) (Py.co l' k))) ∧ (∀ i, Py.co (L.set k (Py.ga (Py.co l k) (Py.co l' k))) i = if i < k + 1 then Py.ga (Py.co l i) (Py.co l' i) else Py.co l i) ∧ Bw w (wr.setCell ⟨B, k, none⟩ (.complex .f64 r s))) := by
          refine ⟨hw.set k r s _ (by omega) q3, fun i => ?_, Below.setCell hbw hB _⟩
          rw [Py.co_set _ _ _ _ (by omega)]
          by_cases z : i = k
          · subst z; rw [if_pos rfl, if_pos (by omega)]
          · rw [if_neg z, hco i]
            by_cases z2 : i < k
            · rw [if_pos z2, if_pos (by omega)]
            · rw [if_neg z2, if_neg (by omega)]
        have HLL := hide hL
        clear q1 q2 q3 hw hco hbw hL
        go_wp2
        go_roundw
        case rel => exact ⟨k + 1, _, by omega, by simp, by rw [List.length_set]; exact HLL.out, R.out.1, R.out.2.1, R.out.2.2⟩
        case measure => simp [intOf]; omega
      · have hk3 : k = n' + 1 := by omega
        subst hk3
        have hF : ∀ i, Py.co L i = Py.ga (Py.co l i) (Py.co l' i) := fun i => by
          rw [hco i]
          by_cases z : i < n' + 1
          · rw [if_pos z]
          · rw [if_neg z, Py.co_out (l := l') (by have := HN'.out; omega), Py.ga_nought]
        have hle2 : ∀ i, Py.Le (Py.co L i) 1099511627776 := fun i => by rw [hF]; exact ((HL.out i).add (HL'.out i)).mono hA
        have HF := hide hF
        have HW := hide hw
        have H2 := hide hle2
        have HLL := hide hL
        clear hF hle2 hw hco hL
        go_wp2_with fail
        refine (answered8 hc (n + 1) HLL.out (by omega) (by omega) (Nat.le_refl _) HW.out.1 H2.out).mono ?_
        rintro e' w3 ⟨rfl, b3⟩
        have A9 := Ans.of HLL.out (by omega) (by omega) (HW.out.1.bw b3) hB (bw_trans hbw b3) H2.out
        have AA : Hid (Ans c w w3 (.returned (.tuple #[.slice (some ⟨B, 0, none⟩) (Py.tl L (n + 1)) (Py.tl L (n + 1)), .int .i64 0])) (n + 1) (fun i => Py.ga (Py.co l i) (Py.co l' i))) := by
          obtain ⟨B', m, l9, z1, z2, z3, z4, z5, z6, z7⟩ := A9
          exact ⟨B', m, l9, z1, z2, z3, z4, z5, z6, fun i => (z7 i).trans (HF.out i)⟩
        clear A9 HW H2 HF HLL
        generalize Py.tl L (n + 1) = tt at *
        go_wp2
        go_ret2
        exact AA.out
  · have hnn' : n' < n := by simpa using hnn
    have t0 : (n' : Int) + 1 < (n : Int) + 1 := by omega
    simp only [if_true] at C ⊢
    clear hnn
    go_enter Try.func8, Try.ntmps8
    go_wp2_with fail
    refine C.out.mono ?_
    rintro e' w1 ⟨rfl, b1⟩
    clear C
    go_wp2_with fail
    refine (CP.out _ b1).mono ?_
    rintro e' w2 ⟨rfl, hw2, b2⟩
    replace b2 := bw_trans b1 b2
    have hB : w.heap.size ≤ w1.heap.size := Below.size b1
    have HW := hide hw2
    generalize w1.heap.size = B at *
    clear CP hw2 b1
    go_wp2
    go_loopw [27] (fun i wr => ∃ (k : Nat) (L : List Py.G), k ≤ n' + 1 ∧ i = .int .i64 k ∧ L.length = n + 1 ∧ Gw c wr B L ∧ (∀ i, Py.co L i = if i < k then Py.ga (Py.co l i) (Py.co l' i) else Py.co l i) ∧ Bw w wr) (fun i _ => n' + 1 - (intOf i).toNat)
    case atStart => exact ⟨0, l, Nat.zero_le _, rfl, HN.out, HW.out, fun i => by rw [if_neg (by omega)], b2⟩
    case round =>
      obtain ⟨k, L, hk, rfl, hL, hw, hco, hbw⟩ := hrel
      clear HW b2
      by_cases hk1 : k < n' + 1
      · obtain ⟨x, y, e1, q1⟩ := (HG'.out.bw hbw).2 k (by have := HN'.out; omega)
        obtain ⟨u, v, e2, q2⟩ := hw.1.2 k (by omega)
        have e3 := hw.2 k
        rw [Nat.zero_add] at e2
        rw [hco k, if_neg (by omega)] at q2
        obtain ⟨r, s, q3, E⟩ := c_add hc q2 q1 (HL.out k) (HL'.out k) (by omega)
        have hk2 : (k : Int) < (n' : Int) + 1 := by omega
        have hk3 : (k : Int) < (n : Int) + 1 := by omega
        have R : Hid (Gw c (wr.setCell ⟨B, k, none⟩ (.complex .f64 r s)) B (L.set k (Py.ga (Py.co l k) (Py.co l' k))) ∧ (∀ i, Py.co (L.set k (Py.ga (Py.co l k) (Py.co l' k))) i = if i < k + 1 then Py.ga (Py.co l i) (Py.co l' i) else Py.co l i) ∧ Bw w (wr.setCell ⟨B, k, none⟩ (.complex .f64 r s))) := by
          refine ⟨hw.set k r s _ (by omega) q3, fun i => ?_, Below.setCell hbw hB _⟩
          rw [Py.co_set _ _ _ _ (by omega)]
          by_cases z : i = k
          · subst z; rw [if_pos rfl, if_pos (by omega)]
          · rw [if_neg z, hco i]
            by_cases z2 : i < k
            · rw [if_pos z2, if_pos (by omega)]
            · rw [if_neg z2, if_neg (by omega)]
        have HLL := hide hL
        clear q1 q2 q3 hw hco hbw hL
        go_wp2
        go_roundw
        case rel => exact ⟨k + 1, _, by omega, by simp, by rw [List.length_set]; exact HLL.out, R.out.1, R.out.2.1, R.out.2.2⟩
        case measure => simp [intOf]; omega
      · have hk3 : k = n' + 1 := by omega
        subst hk3
        have hF : ∀ i, Py.co L i = Py.ga (Py.co l i) (Py.co l' i) := fun i => by
          rw [hco i]
          by_cases z : i < n' + 1
          · rw [if_pos z]
          · rw [if_neg z, Py.co_out (l := l') (by have := HN'.out; omega), Py.ga_nought]
        have hle2 : ∀ i, Py.Le (Py.co L i) 1099511627776 := fun i => by rw [hF]; exact ((HL.out i).add (HL'.out i)).mono hA
        have HF := hide hF
        have HW := hide hw
        have H2 := hide hle2
        have HLL := hide hL
        clear hF hle2 hw hco hL
        go_wp2_with fail
        refine (answered8 hc (n + 1) HLL.out (by omega) (by omega) (Nat.le_refl _) HW.out.1 H2.out).mono ?_
        rintro e' w3 ⟨rfl, b3⟩
        have A9 := Ans.of HLL.out (by omega) (by omega) (HW.out.1.bw b3) hB (bw_trans hbw b3) H2.out
        have AA : Hid (Ans c w w3 (.returned (.tuple #[.slice (some ⟨B, 0, none⟩) (Py.tl L (n + 1)) (Py.tl L (n + 1)), .int .i64 0])) (n + 1) (fun i => Py.ga (Py.co l i) (Py.co l' i))) := by
          obtain ⟨B', m, l9, z1, z2, z3, z4, z5, z6, z7⟩ := A9
          exact ⟨B', m, l9, z1, z2, z3, z4, z5, z6, fun i => (z7 i).trans (HF.out i)⟩
        clear A9 HW H2 HF HLL
        generalize Py.tl L (n + 1) = tt at *
        go_wp2
        go_ret2
        exact AA.out
theorem add8 {c : Nat} (hc : c = 1074) {w : World} {b o cap n b' o' cap' n' A A' : Nat} {l l' : List Py.G} (hm : May n l) (h : Gl c w b o l) (hm' : May n' l') (h' : Gl c w b' o' l') (hl : ∀ i, Py.Le (Py.co l i) A) (hl' : ∀ i, Py.Le (Py.co l' i) A') (hA : A + A' ≤ 1099511627776) :
    Calls Try.prog 8 #[.slice (some ⟨b, o, none⟩) (n + 1) cap, .slice (some ⟨b', o', none⟩) (n' + 1) cap'] w fun e w' => Ans c w w' e (max n n' + 1) (fun i => Py.ga (Py.co l i) (Py.co l' i)) := by
  by_cases k : n' ≤ n
  · have := add_core (cap := cap) (cap' := cap') hc false hm h hm' h' hl hl' hA (by simpa using k)
    rw [Nat.max_eq_left k]
    simpa using this
  · have := add_core (cap := cap') (cap' := cap) hc true hm' h' hm h hl' hl (by omega) (by simp; omega)
    rw [Nat.max_eq_right (by omega)]
    have e : (fun i => Py.ga (Py.co l i) (Py.co l' i)) = fun i => Py.ga (Py.co l' i) (Py.co l i) := funext fun i => Py.ga_comm _ _
    rw [e]
    simpa using this
end Go.Proofs.Ytpfgboinjjobpaa
