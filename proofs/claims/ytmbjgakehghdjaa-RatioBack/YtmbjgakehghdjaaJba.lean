/-
  OWN TEXT: package ratio: turnedSigns; package poly: Slope, of lists of whole complex numbers.
-/
import Derived.Test.YtmbjgakehghdjaaJaz
import Derived.Deep.MidRow
import Derived.Laws.ResultCell
namespace Go.Proofs.Ytmbjgakehghdjaa
open Go.ChangeShapes Go.WideShapes Go.ChangeAt Go.RowKit
set_option linter.unusedVariables false
attribute [local go_sem] frombits_call tobits_call run_neg run_store_cx
/-- nothing but block B turned -/
def Ob (B : Nat) (w w' : World) : Prop := w'.heap.size = w.heap.size ∧ (∀ p : Addr, p.block ≠ B → w'.cell? p = w.cell? p ∧ w'.frozen? p = w.frozen? p) ∧ ∀ w0, Bw w0 w → w0.heap.size ≤ B → Bw w0 w'
theorem Ob.refl (B : Nat) (w : World) : Ob B w w := ⟨rfl, fun _ _ => ⟨rfl, rfl⟩, fun _ h _ => h⟩
theorem Ob.set {B : Nat} {w w' : World} (h : Ob B w w') (i : Nat) (v : Value) : Ob B w (w'.setCell ⟨B, i, none⟩ v) := by
  refine ⟨by simpa [World.setCell] using h.1, fun p hp => ⟨?_, (World.frozen?_setCell _ _ _ _).trans (h.2.1 p hp).2⟩, fun w0 h0 hB => Below.setCell (h.2.2 w0 h0 hB) hB v⟩
  rw [World.cell?_setCell_other _ _ _ _ (fun e => hp (by rw [← e]))]
  exact (h.2.1 p hp).1
theorem Ob.gl {c B : Nat} {w w' : World} {b o : Nat} {l : List Py.G} (k : Ob B w w') (h : Gl c w b o l) (hb : b ≠ B) : Gl c w' b o l := by
  refine ⟨by rw [k.1]; exact h.1, fun i hi => ?_⟩
  obtain ⟨x, y, e, q⟩ := h.2 i hi
  exact ⟨x, y, ((k.2.1 ⟨b, o + i, none⟩ hb).1).trans e, q⟩
set_option maxHeartbeats 4000000 in
theorem turned10 {c : Nat} {w : World} {B cap n : Nat} {l : List Py.G} (hn : l.length = n + 1) (hm : n ≤ 64) (h : Gw c w B l) : Calls Try.prog 38 #[.slice (some ⟨B, 0, none⟩) (n + 1) cap] w fun e w' => e = .returned (.slice (some ⟨B, 0, none⟩) (n + 1) cap) ∧ (∃ L, L.length = n + 1 ∧ Gw c w' B L ∧ ∀ i, Py.co L i = Py.gn (Py.co l i)) ∧ Ob B w w' := by
  have HG := hide h
  have HN := hide hn
  clear h hn
  go_enter Try.func38, Try.ntmps38
  go_wp2
  go_loopw [7] (fun i wr => ∃ (k : Nat) (L : List Py.G), k ≤ n + 1 ∧ i = .int .i64 k ∧ L.length = n + 1 ∧ Gw c wr B L ∧ (∀ i, Py.co L i = if i < k then Py.gn (Py.co l i) else Py.co l i) ∧ Ob B w wr) (fun i _ => n + 1 - (intOf i).toNat)
  case atStart => exact ⟨0, l, Nat.zero_le _, rfl, HN.out, HG.out, fun i => by rw [if_neg (by omega)], Ob.refl _ _⟩
  case round =>
    obtain ⟨k, L, hk, rfl, hL, hw, hco, hob⟩ := hrel
    by_cases hk1 : k < n + 1
    · obtain ⟨x, y, e1, q1⟩ := hw.1.2 k (by omega)
      rw [Nat.zero_add] at e1
      have e3 := hw.2 k
      obtain ⟨r, s, q2, P⟩ := pneg8 q1
      rw [hco k, if_neg (by omega)] at q2
      have HP := hide P
      have hk2 : (k : Int) < (n : Int) + 1 := by omega
      have R : Hid (Gw c (wr.setCell ⟨B, k, none⟩ (.complex .f64 r s)) B (L.set k (Py.gn (Py.co l k))) ∧ (∀ i, Py.co (L.set k (Py.gn (Py.co l k))) i = if i < k + 1 then Py.gn (Py.co l i) else Py.co l i) ∧ Ob B w (wr.setCell ⟨B, k, none⟩ (.complex .f64 r s))) := by
        refine ⟨hw.set k r s _ (by omega) q2, fun i => ?_, hob.set _ _⟩
        rw [Py.co_set _ _ _ _ (by omega)]
        by_cases z : i = k
        · subst z; rw [if_pos rfl, if_pos (by omega)]
        · rw [if_neg z, hco i]
          by_cases z2 : i < k
          · rw [if_pos z2, if_pos (by omega)]
          · rw [if_neg z2, if_neg (by omega)]
      have HLL := hide hL
      clear q1 q2 hw hco hob hL P
      go_wp2_with fail
      refine (HP.out _).mono ?_
      rintro e' w7 ⟨rfl, hw7⟩
      subst hw7
      go_wp2
      go_roundw
      case rel => exact ⟨k + 1, _, by omega, by simp, by rw [List.length_set]; exact HLL.out, R.out.1, R.out.2.1, R.out.2.2⟩
      case measure => simp [intOf]; omega
    · have hk3 : k = n + 1 := by omega
      subst hk3
      have R : Hid (∃ L, L.length = n + 1 ∧ Gw c wr B L ∧ ∀ i, Py.co L i = Py.gn (Py.co l i)) := by
        refine ⟨L, hL, hw, fun i => ?_⟩
        rw [hco i]
        by_cases z : i < n + 1
        · rw [if_pos z]
        · rw [if_neg z, Py.co_out (by have := HN.out; omega)]; rfl
      have HO := hide hob
      clear hL hw hco hob
      have hlt' : ¬ ((n + 1 : Nat) : Int) < (n : Int) + 1 := by omega
      go_wp2
      go_ret
      exact ⟨rfl, R.out, HO.out⟩
/-- a number times a whole one -/
def gk (k : Nat) (g : Py.G) : Py.G := ((k : Int) * g.1, (k : Int) * g.2)
theorem gk_le {k M : Nat} {g : Py.G} (h : Py.Le g M) : Py.Le (gk k g) (k * M) := by
  have e : gk k g = Py.gm ((k : Int), 0) g := Py.gext (by unfold gk Py.gm; simp) (by unfold gk Py.gm; simp)
  rw [e]
  refine Py.Le.mul ?_ h
  show (k : Int) * k + 0 * 0 ≤ _
  omega
theorem deg_all : ∀ k : Fin 66, floatOfInt .f64 (k.val : Int) < 18446744073709551616 ∧ Fl.rg (floatOfInt .f64 (k.val : Int)) < 9218868437227405312 ∧ Fl.val (floatOfInt .f64 (k.val : Int)) = (k.val : Int) * ((2 ^ 1074 : Nat) : Int) := by decide +kernel
theorem w_deg {c : Nat} (hc : c = 1074) (k : Nat) (h : k ≤ 65) : wI c (floatOfInt .f64 (k : Int)) (k : Int) := by
  have := deg_all ⟨k, by omega⟩
  subst hc
  exact this
theorem pscale10 {c x y : Nat} {g : Py.G} {M : Nat} (hc : c = 1074) (hg : wC c x y g) (lg : Py.Le g M) (k : Nat) (hk : k ≤ 65) (hs : k * M ≤ 9007199254740992) : ∃ r s, wC c r s (gk k g) ∧ ∀ w, Calls Try.prog 52 #[.complex .f64 x y, .float .f64 (floatOfInt .f64 (k : Int))] w fun e w' => e = .returned (.complex .f64 r s) ∧ w' = w := by
  have hw := w_deg hc k hk
  have hb := (gk_le (k := k) lg).one
  obtain ⟨r, h1, e1⟩ := w_mul hc hg.1 hw (by rw [Int.mul_comm]; exact Nat.le_trans hb.1 hs)
  obtain ⟨s, h2, e2⟩ := w_mul hc hg.2 hw (by rw [Int.mul_comm]; exact Nat.le_trans hb.2 hs)
  refine ⟨r, s, ⟨(show (gk k g).1 = g.1 * (k : Int) from Int.mul_comm _ _) ▸ h1, (show (gk k g).2 = g.2 * (k : Int) from Int.mul_comm _ _) ▸ h2⟩, fun w => ?_⟩
  clear h1 h2 hb hw hg lg hs
  generalize floatOfInt .f64 (k : Int) = f at *
  go_enter Try.func52, Try.ntmps52
  go_wp2
  go_ret
  exact ⟨rfl, rfl⟩
set_option maxHeartbeats 4000000 in
theorem slope10 {c : Nat} (hc : c = 1074) {w : World} {b o cap n A : Nat} {l : List Py.G} (hm : May n l) (h : Gl c w b o l) (hl : ∀ i, Py.Le (Py.co l i) A) (hA : 65 * A ≤ 1099511627776) :
    Calls Try.prog 22 #[.slice (some ⟨b, o, none⟩) (n + 1) cap] w fun e w' => Ans c w w' e (max n 1) (fun i => gk (i + 1) (Py.co l (i + 1))) := by
  have C := hide (check8 (cap := cap) hc hm h)
  have h64 := hm.2.1
  by_cases z : n = 0
  · subst z
    have HZ : Hid (∀ i, gk (i + 1) (Py.co l (i + 1)) = (0, 0)) := fun i => by rw [Py.co_out (by have := hm.1; omega)]; unfold gk; simp
    clear hm h hl hA hc
    go_enter Try.func22, Try.ntmps22
    go_wp2_with fail
    refine C.out.mono ?_
    rintro e' w1 ⟨rfl, b1⟩
    clear C
    go_wp2_with fail
    refine (nought8 c _).mono ?_
    rintro e' w4 ⟨rfl, hg, b4⟩
    have R : Hid (Ans c w w4 (.returned (.tuple #[.slice (some ⟨w1.heap.size, 0, none⟩) 1 1, .int .i64 0])) (max 0 1) (fun i => gk (i + 1) (Py.co l (i + 1)))) :=
      ⟨_, 0, _, rfl, May.nought, by omega, hg, Below.size b1, bw_trans b1 b4, fun i => (co_nought i).trans (HZ.out i).symm⟩
    clear hg b4 HZ
    generalize w1.heap.size = B at *
    go_wp2
    go_ret2
    exact R.out
  · obtain ⟨m, rfl⟩ : ∃ m, n = m + 1 := ⟨n - 1, by omega⟩
    have t1 : ((m : Int) + 1 + 1 == 1) = false := by rw [beq_eq_false_iff_ne]; omega
    have hmk := make_c ((m : Int) + 1 + 1 - 1) (m + 1) (by omega) (by omega)
    have hmk2 := make_c ((m : Int) + 1) (m + 1) (by omega) (by omega)
    have HL := hide hl
    have HG := hide h
    have HN := hide hm.1
    have HC := hide hc
    clear hm h hl hc
    go_enter Try.func22, Try.ntmps22
    go_wp2_with fail
    refine C.out.mono ?_
    rintro e' w1 ⟨rfl, b1⟩
    clear C
    go_wp2
    have G0 := hide (Gw.made c w1 (m + 1) 27)
    have hB : w.heap.size ≤ w1.heap.size := Below.size b1
    have b2 := bw_trans b1 (bw_alloc w1 (.cells (zcC (m + 1)) 27))
    clear hmk hmk2 b1
    generalize w1.alloc (.cells (zcC (m + 1)) 27) = W at *
    generalize w1.heap.size = B at *
    go_loopw [22] (fun i wr => ∃ (k : Nat) (L : List Py.G), k ≤ m + 1 ∧ i = .int .i64 k ∧ L.length = m + 1 ∧ Gw c wr B L ∧ (∀ i, i < k → Py.co L i = gk (i + 1) (Py.co l (i + 1))) ∧ Bw w wr) (fun i _ => m + 1 - (intOf i).toNat)
    case atStart => exact ⟨0, _, Nat.zero_le _, rfl, by simp, G0.out, fun i hi => by omega, b2⟩
    case round =>
      obtain ⟨k, L, hk, rfl, hL, hw, hco, hbw⟩ := hrel
      clear G0 b2
      by_cases hk1 : k < m + 1
      · have hk2 : (k : Int) < (m : Int) + 1 := by omega
        obtain ⟨x, y, e1, q1⟩ := (HG.out.bw hbw).2 (k + 1) (by have := HN.out; omega)
        obtain ⟨r, s, q2, P⟩ := pscale10 HC.out q1 (HL.out (k + 1)) (k + 1) (by omega) (by
          have : (k + 1) * A ≤ 65 * A := Nat.mul_le_mul_right _ (by omega)
          omega)
        rw [show ((k + 1 : Nat) : Int) = (k : Int) + 1 by omega] at P
        obtain ⟨u, v, e2, q3⟩ := hw.1.2 k (by omega)
        rw [Nat.zero_add] at e2
        have e3 := hw.2 k
        have HP := hide P
        have R : Hid (Gw c (wr.setCell ⟨B, k, none⟩ (.complex .f64 r s)) B (L.set k (gk (k + 1) (Py.co l (k + 1)))) ∧ (∀ i, i < k + 1 → Py.co (L.set k (gk (k + 1) (Py.co l (k + 1)))) i = gk (i + 1) (Py.co l (i + 1))) ∧ Bw w (wr.setCell ⟨B, k, none⟩ (.complex .f64 r s))) := by
          refine ⟨hw.set k r s _ (by omega) q2, fun i hi => ?_, Below.setCell hbw hB _⟩
          rw [Py.co_set _ _ _ _ (by omega)]
          by_cases z : i = k
          · subst z; rw [if_pos rfl]
          · rw [if_neg z]; exact hco i (by omega)
        have HLL := hide hL
        clear q1 q2 q3 P hw hco hbw hL
        go_wp2_with fail
        refine (HP.out _).mono ?_
        rintro e' w7 ⟨rfl, hw7⟩
        subst hw7
        go_wp2
        go_roundw
        case rel => exact ⟨k + 1, _, by omega, by simp, by rw [List.length_set]; exact HLL.out, R.out.1, R.out.2.1, R.out.2.2⟩
        case measure => simp [intOf]; omega
      · have hk3 : k = m + 1 := by omega
        subst hk3
        have hF : ∀ i, Py.co L i = gk (i + 1) (Py.co l (i + 1)) := fun i => by
          by_cases z : i < m + 1
          · exact hco i z
          · rw [Py.co_out (by omega), Py.co_out (l := l) (by have := HN.out; omega)]; unfold gk; simp
        have H2 : Hid (∀ i, Py.Le (Py.co L i) 1099511627776) := fun i => by
          by_cases z : i < m + 1
          · rw [hF]
            refine (gk_le (HL.out (i + 1))).mono ?_
            have : (i + 1) * A ≤ 65 * A := Nat.mul_le_mul_right _ (by omega)
            omega
          · rw [Py.co_out (by omega)]; exact Py.Le.nought _
        have HF := hide hF
        have HW := hide hw
        have HLL := hide hL
        clear hF hw hco hL
        have hlt' : ¬ ((m + 1 : Nat) : Int) < (m : Int) + 1 := by omega
        go_wp2_with fail
        refine (answered8 HC.out (m + 1) HLL.out (by omega) (by omega) (Nat.le_refl _) HW.out.1 H2.out).mono ?_
        rintro e' w3 ⟨rfl, b3⟩
        have A9 := Ans.of HLL.out (by omega) (by omega) (HW.out.1.bw b3) hB (bw_trans hbw b3) H2.out
        have AA : Hid (Ans c w w3 (.returned (.tuple #[.slice (some ⟨B, 0, none⟩) (Py.tl L (m + 1)) (Py.tl L (m + 1)), .int .i64 0])) (max (m + 1) 1) (fun i => gk (i + 1) (Py.co l (i + 1)))) := by
          obtain ⟨B', m', l9, z1, z2, z3, z4, z5, z6, z7⟩ := A9
          exact ⟨B', m', l9, z1, z2, by omega, z4, z5, z6, fun i => (z7 i).trans (HF.out i)⟩
        clear A9 HW H2 HF HLL
        generalize Py.tl L (m + 1) = tt at *
        go_wp2
        go_ret2
        exact AA.out
end Go.Proofs.Ytmbjgakehghdjaa
/-
  OWN TEXT: package ratio: the methods of work, of lists of whole complex numbers, where there is no error.
-/
namespace Go.Proofs.Ytmbjgakehghdjaa
open Go.ChangeShapes Go.WideShapes Go.ChangeAt Go.RowKit
set_option linter.unusedVariables false
attribute [local go_sem] frombits_call tobits_call run_neg run_store_cx
/-- a work without an error lies at block W -/
def Wk (w : World) (W : Nat) : Prop := W < w.heap.size ∧ w.cell? ⟨W, 0, none⟩ = some (.int .i64 0) ∧ w.frozen? ⟨W, 0, none⟩ = false
theorem Wk.bw {w w' : World} {W : Nat} (h : Wk w W) (k : Bw w w') : Wk w' W :=
  ⟨Nat.lt_of_lt_of_le h.1 (Below.size k), (Below.cell k (p := ⟨W, 0, none⟩) h.1).trans h.2.1, (Below.frozen k (p := ⟨W, 0, none⟩) h.1).trans h.2.2⟩
/-- a cell set to what it holds -/
theorem set_self {w : World} {b o : Nat} {v : Value} (h : w.cell? ⟨b, o, none⟩ = some v) : w.setCell ⟨b, o, none⟩ v = w := by
  have hh : (w.setCell ⟨b, o, none⟩ v).heap = w.heap := by
    unfold World.setCell
    simp only [Option.isSome_none, Bool.false_eq_true, if_false]
    apply Array.ext
    · simp
    · intro i h1 h2
      rw [Array.getElem_modify]
      split
      · rename_i e
        subst e
        unfold World.cell? at h
        simp only [Option.isSome_none, Bool.false_eq_true, if_false] at h
        rw [Array.getElem?_eq_getElem h2] at h
        cases hx : w.heap[b] with
        | cells c t f =>
          rw [hx] at h
          simp only at h ⊢
          obtain ⟨k1, k2⟩ := Array.getElem?_eq_some_iff.1 h
          rw [← k2, Array.setIfInBounds_def, dif_pos k1, Array.set_getElem_self]
        | _ => rfl
      · rfl
  have hw : w.setCell ⟨b, o, none⟩ v = { w with heap := (w.setCell ⟨b, o, none⟩ v).heap } := rfl
  rw [hw, hh]
/-- a polynomial as a value -/
def Ansv (c : Nat) (w w' : World) (e : Ending) (N : Nat) (F : Nat → Py.G) : Prop := ∃ B m l, e = .returned (.slice (some ⟨B, 0, none⟩) (m + 1) (m + 1)) ∧ May m l ∧ m + 1 ≤ N ∧ Gw c w' B l ∧ w.heap.size ≤ B ∧ Bw w w' ∧ ∀ i, Py.co l i = F i
theorem Ansv.use {c : Nat} {w w' : World} {e : Ending} {N : Nat} {F : Nat → Py.G} (h : Ansv c w w' e N F) : ∃ B m l, e = .returned (.slice (some ⟨B, 0, none⟩) (m + 1) (m + 1)) ∧ May m l ∧ m + 1 ≤ N ∧ Gw c w' B l ∧ w.heap.size ≤ B ∧ Bw w w' ∧ ∀ i, Py.co l i = F i := h
def Ansr (c : Nat) (w w' : World) (e : Ending) (N : Nat) (F : Nat → Py.G) : Prop := ∃ B m l, e = .returned (.slice (some ⟨B, 0, none⟩) (m + 1) (m + 1)) ∧ May m l ∧ m + 1 ≤ N ∧ Gl c w' B 0 l ∧ w.heap.size ≤ B ∧ Bw w w' ∧ ∀ i, Py.co l i = F i
theorem Ansr.use {c : Nat} {w w' : World} {e : Ending} {N : Nat} {F : Nat → Py.G} (h : Ansr c w w' e N F) : ∃ B m l, e = .returned (.slice (some ⟨B, 0, none⟩) (m + 1) (m + 1)) ∧ May m l ∧ m + 1 ≤ N ∧ Gl c w' B 0 l ∧ w.heap.size ≤ B ∧ Bw w w' ∧ ∀ i, Py.co l i = F i := h
theorem Ans.use {c : Nat} {w w' : World} {e : Ending} {N : Nat} {F : Nat → Py.G} (h : Ans c w w' e N F) : ∃ B m l, e = .returned (.tuple #[.slice (some ⟨B, 0, none⟩) (m + 1) (m + 1), .int .i64 0]) ∧ May m l ∧ m + 1 ≤ N ∧ Gl c w' B 0 l ∧ w.heap.size ≤ B ∧ Bw w w' ∧ ∀ i, Py.co l i = F i := h
theorem wmul10 {c : Nat} (hc : c = 1074) {w : World} {W b o cap n b' o' cap' n' A A' : Nat} {l l' : List Py.G} (hW : Wk w W) (hm : May n l) (h : Gl c w b o l) (hm' : May n' l') (h' : Gl c w b' o' l') (hl : ∀ i, Py.Le (Py.co l i) A) (hl' : ∀ i, Py.Le (Py.co l' i) A') (hA : (n + 1) * (A * A') ≤ 1099511627776) (h64 : n + n' ≤ 64) :
    Calls Try.prog 37 #[.pointer (some ⟨W, 0, none⟩), .slice (some ⟨b, o, none⟩) (n + 1) cap, .slice (some ⟨b', o', none⟩) (n' + 1) cap'] w fun e w' => Ansv c w w' e (n + n' + 1) (fun j => Py.ts l l' j (n + 1)) := by
  have M := hide (mul10 (cap := cap) (cap' := cap') hc hm h hm' h' hl hl' hA h64)
  have c0 := hW.2.1
  have HW := hide hW
  clear hm h hm' h' hl hl' hA h64 hW hc
  go_enter Try.func37, Try.ntmps37
  go_wp2_with fail
  refine M.out.mono ?_
  intro e' w1 h1
  obtain ⟨B, m, L, rfl, q1, q2, q3, q4, q5, q6⟩ := h1.use
  obtain ⟨_, c1, c2⟩ := HW.out.bw q5
  have R : Hid (Ansv c w w1 (.returned (.slice (some ⟨B, 0, none⟩) (m + 1) (m + 1))) (n + n' + 1) (fun j => Py.ts l l' j (n + 1))) := ⟨B, m, L, rfl, q1, q2, q3, q4, q5, q6⟩
  have S := hide (set_self c1)
  clear q1 q2 q3 q4 q5 q6 h1 M c0 HW
  go_wp2
  rw [S.out]
  go_ret
  exact R.out
theorem wadd10 {c : Nat} (hc : c = 1074) {w : World} {W b o cap n b' o' cap' n' A A' : Nat} {l l' : List Py.G} (hW : Wk w W) (hm : May n l) (h : Gl c w b o l) (hm' : May n' l') (h' : Gl c w b' o' l') (hl : ∀ i, Py.Le (Py.co l i) A) (hl' : ∀ i, Py.Le (Py.co l' i) A') (hA : A + A' ≤ 1099511627776) :
    Calls Try.prog 36 #[.pointer (some ⟨W, 0, none⟩), .slice (some ⟨b, o, none⟩) (n + 1) cap, .slice (some ⟨b', o', none⟩) (n' + 1) cap'] w fun e w' => Ansr c w w' e (max n n' + 1) (fun i => Py.ga (Py.co l i) (Py.co l' i)) := by
  have M := hide (add8 (cap := cap) (cap' := cap') hc hm h hm' h' hl hl' hA)
  have c0 := hW.2.1
  have HW := hide hW
  clear hm h hm' h' hl hl' hA hW hc
  go_enter Try.func36, Try.ntmps36
  go_wp2_with fail
  refine M.out.mono ?_
  intro e' w1 h1
  obtain ⟨B, m, L, rfl, q1, q2, q3, q4, q5, q6⟩ := h1.use
  obtain ⟨_, c1, c2⟩ := HW.out.bw q5
  have R : Hid (Ansr c w w1 (.returned (.slice (some ⟨B, 0, none⟩) (m + 1) (m + 1))) (max n n' + 1) (fun i => Py.ga (Py.co l i) (Py.co l' i))) := ⟨B, m, L, rfl, q1, q2, q3, q4, q5, q6⟩
  have S := hide (set_self c1)
  clear q1 q2 q3 q4 q5 q6 h1 M c0 HW
  go_wp2
  rw [S.out]
  go_ret
  exact R.out
theorem wslope10 {c : Nat} (hc : c = 1074) {w : World} {W b o cap n A : Nat} {l : List Py.G} (hW : Wk w W) (hm : May n l) (h : Gl c w b o l) (hl : ∀ i, Py.Le (Py.co l i) A) (hA : 65 * A ≤ 1099511627776) :
    Calls Try.prog 35 #[.pointer (some ⟨W, 0, none⟩), .slice (some ⟨b, o, none⟩) (n + 1) cap] w fun e w' => Ansr c w w' e (max n 1) (fun i => gk (i + 1) (Py.co l (i + 1))) := by
  have M := hide (slope10 (cap := cap) hc hm h hl hA)
  have c0 := hW.2.1
  have HW := hide hW
  clear hm h hl hA hW hc
  go_enter Try.func35, Try.ntmps35
  go_wp2_with fail
  refine M.out.mono ?_
  intro e' w1 h1
  obtain ⟨B, m, L, rfl, q1, q2, q3, q4, q5, q6⟩ := h1.use
  obtain ⟨_, c1, c2⟩ := HW.out.bw q5
  have R : Hid (Ansr c w w1 (.returned (.slice (some ⟨B, 0, none⟩) (m + 1) (m + 1))) (max n 1) (fun i => gk (i + 1) (Py.co l (i + 1)))) := ⟨B, m, L, rfl, q1, q2, q3, q4, q5, q6⟩
  have S := hide (set_self c1)
  clear q1 q2 q3 q4 q5 q6 h1 M c0 HW
  go_wp2
  rw [S.out]
  go_ret
  exact R.out
theorem fc_load {w : World} {F : Nat} {s t : Value} (h : Fc w F s t) : (loadVar 24 ⟨F, 0, none⟩).run Try.prog w = .ok (.agg #[s, t]) w := by
  refine run_loadVar_mid w F 0 24 [s, t] _ (fun j v hv => ?_) Try.underlying24 rfl (by kernel_rfl)
  match j, hv with
  | 0, hv => cases hv; exact h.2.1
  | 1, hv => cases hv; exact h.2.2
theorem int_load {w : World} {F : Nat} {e : Int} (h : w.cell? ⟨F, 0, none⟩ = some (.int .i64 e)) : (loadVar 28 ⟨F, 0, none⟩).run Try.prog w = .ok (.int .i64 e) w := by
  simp [loadVar, Sem.run_bind, isAgg, run_underlying Try.underlying28 w, h, go_sem]
theorem res_ct {fn : Func} {p q : Tmp} (hr : fn.results = #[.cell p 24, .tmp q]) (tmps : Array Value) (w : World) (F : Nat) (s t : Value) (hp : tmps.getD p undef = .pointer (some ⟨F, 0, none⟩)) (h : Fc w F s t) : (results fn tmps).run Try.prog w = .ok (.tuple #[.agg #[s, t], tmps.getD q undef]) w := by
  rw [results_cell_tmp hr, hp]
  simp only [asAddr, Sem.run_pure, Result.andThen_ok, fc_load h]
theorem res_cc {fn : Func} {p q : Tmp} (hr : fn.results = #[.cell p 24, .cell q 28]) (tmps : Array Value) (w : World) (F E : Nat) (s t : Value) (e : Int) (hp : tmps.getD p undef = .pointer (some ⟨F, 0, none⟩)) (hq : tmps.getD q undef = .pointer (some ⟨E, 0, none⟩)) (h : Fc w F s t) (he : w.cell? ⟨E, 0, none⟩ = some (.int .i64 e)) : (results fn tmps).run Try.prog w = .ok (.tuple #[.agg #[s, t], .int .i64 e]) w := by
  have hp' : tmps[p]?.getD undef = .pointer (some ⟨F, 0, none⟩) := by simpa using hp
  have hq' : tmps[q]?.getD undef = .pointer (some ⟨E, 0, none⟩) := by simpa using hq
  simp [results, hr, hp', hq', asAddr, fc_load h, int_load he]
theorem wanswered10 {c : Nat} {w : World} {W n' b' o' cap' : Nat} {s : Value} {l' : List Py.G} (hs : ∃ a n k, s = .slice a n k) (hW : Wk w W) (hm' : May n' l') (h' : Gl c w b' o' l') (hz : Nz n' l') :
    Calls Try.prog 34 #[.pointer (some ⟨W, 0, none⟩), .agg #[s, .slice (some ⟨b', o', none⟩) (n' + 1) cap']] w fun e w' => e = .returned (.tuple #[.agg #[s, .slice (some ⟨b', o', none⟩) (n' + 1) cap'], .int .i64 0]) ∧ Bw w w' := by
  have A3 : Hid (∀ wz, Bw w wz → Calls Try.prog 29 #[.slice (some ⟨b', o', none⟩) (n' + 1) cap'] wz fun e w' => e = .returned (.bool false) ∧ w' = wz) := fun wz hb => nzp10 (cap := cap') hm' (h'.bw hb) hz
  obtain ⟨a, n, k, rfl⟩ := hs
  have hb0 := bw_trans (bw_alloc w (.cells #[.slice a n k, .slice (some ⟨b', o', none⟩) (n' + 1) cap'] 24)) (bw_alloc _ (.cells #[.slice none 0 0, .slice none 0 0] 24))
  have c0 := (hW.bw hb0).2.1
  clear hm' h' hz hW
  go_enter Try.func34, Try.ntmps34
  go_wp2_with fail
  refine (A3.out _ hb0).mono ?_
  rintro e' w1 ⟨rfl, rfl⟩
  go_wp2
  have F1 := Fc.made (w.alloc (.cells #[.slice a n k, .slice (some ⟨b', o', none⟩) (n' + 1) cap'] 24)) (.slice a n k) (.slice (some ⟨b', o', none⟩) (n' + 1) cap') 24
  have hsz : (w.alloc (.cells #[.slice a n k, .slice (some ⟨b', o', none⟩) (n' + 1) cap'] 24)).heap.size = w.heap.size + 1 := by simp
  rw [hsz] at F1
  refine bodyPost_ret (res_ct rfl _ _ _ _ _ rfl F1) rfl ?_
  exact ⟨rfl, bw_trans (bw_alloc _ _) (bw_alloc _ _)⟩
end Go.Proofs.Ytmbjgakehghdjaa
/-
  OWN TEXT: package ratio: workOn, of fractions of whole complex numbers.
-/
namespace Go.Proofs.Ytmbjgakehghdjaa
open Go.ChangeShapes Go.WideShapes Go.ChangeAt Go.RowKit
set_option linter.unusedVariables false
attribute [local go_sem] frombits_call tobits_call run_neg run_store_cx
/-- a fraction that may be -/
def Fr (c : Nat) (w : World) (s t : Value) : Prop := ∃ b o cap n l b' o' cap' n' l', s = .slice (some ⟨b, o, none⟩) (n + 1) cap ∧ t = .slice (some ⟨b', o', none⟩) (n' + 1) cap' ∧ May n l ∧ Gl c w b o l ∧ May n' l' ∧ Gl c w b' o' l' ∧ Nz n' l'
theorem Fr.bw {c : Nat} {w w' : World} {s t : Value} (h : Fr c w s t) (k : Bw w w') : Fr c w' s t := by
  obtain ⟨b, o, cap, n, l, b', o', cap', n', l', h1, h2, h3, h4, h5, h6, h7⟩ := h
  exact ⟨b, o, cap, n, l, b', o', cap', n', l', h1, h2, h3, h4.bw k, h5, h6.bw k, h7⟩
theorem rcheckF {c : Nat} (hc : c = 1074) {w : World} {s t : Value} (h : Fr c w s t) : Calls Try.prog 8 #[.agg #[s, t]] w fun e w' => e = .returned (.int .i64 0) ∧ Bw w w' := by
  obtain ⟨b, o, cap, n, l, b', o', cap', n', l', rfl, rfl, h3, h4, h5, h6, h7⟩ := h
  exact rcheck10 hc h3 h4 h5 h6 h7
theorem res_w {fn : Func} {p : Tmp} (hr : fn.results = #[.cell p 64]) (tmps : Array Value) (w : World) (F : Nat) (hp : tmps.getD p undef = .pointer (some ⟨F, 0, none⟩)) (h : w.cell? ⟨F, 0, none⟩ = some (.int .i64 0)) : (results fn tmps).run Try.prog w = .ok (.agg #[.int .i64 0]) w := by
  have hp' : tmps[p]?.getD undef = .pointer (some ⟨F, 0, none⟩) := by simpa using hp
  have hl : (loadVar 64 ⟨F, 0, none⟩).run Try.prog w = .ok (.agg #[.int .i64 0]) w := by
    refine run_loadVar_mid w F 0 64 [.int .i64 0] _ (fun j v hv => ?_) Try.underlying64 rfl (by kernel_rfl)
    match j, hv with
    | 0, hv => cases hv; exact h
  simp [results, hr, hp', asAddr, hl]
set_option maxHeartbeats 4000000 in
theorem workon10 {c : Nat} (hc : c = 1074) {w : World} {b cap K : Nat} (hK : K ≤ 2) (hb : b < w.heap.size) (h : ∀ k, k < K → ∃ s t, w.cell? ⟨b, 2 * k, none⟩ = some s ∧ w.cell? ⟨b, 2 * k + 1, none⟩ = some t ∧ Fr c w s t) :
    Calls Try.prog 32 #[.slice (some ⟨b, 0, none⟩) K cap] w fun e w' => e = .returned (.agg #[.int .i64 0]) ∧ Bw w w' := by
  have H := hide h
  have HC := hide hc
  clear h hc
  go_enter Try.func32, Try.ntmps32
  go_wp2
  have W0 : Wk (w.alloc (.cells #[.int .i64 0] 64)) w.heap.size := ⟨by simp, by simp, World.frozen?_alloc_at _ _ _ _ rfl⟩
  have HW := hide W0
  have ba := bw_alloc w (.cells #[.int .i64 0] 64)
  clear W0
  generalize w.alloc (.cells #[.int .i64 0] 64) = W1 at *
  go_loopw [8] (fun i wr => ∃ k : Nat, k ≤ K ∧ i = .int .i64 k ∧ Bw W1 wr) (fun i _ => K - (intOf i).toNat)
  case atStart => exact ⟨0, Nat.zero_le _, rfl, Bw.refl _⟩
  case round =>
    obtain ⟨k, hk, rfl, hbw⟩ := hrel
    by_cases hk1 : k < K
    · have hk2 : (k : Int) < K := by omega
      obtain ⟨s, t, e1, e2, f⟩ := H.out k hk1
      have bz := bw_trans ba hbw
      replace e1 := (Below.cell bz (p := ⟨b, 2 * k, none⟩) hb).trans e1
      replace e2 := (Below.cell bz (p := ⟨b, 2 * k + 1, none⟩) hb).trans e2
      replace f := f.bw bz
      obtain ⟨b1, o1, cap1, n1, l1, b2, o2, cap2, n2, l2, rfl, rfl, h3, h4, h5, h6, h7⟩ := f
      have CK : Hid (∀ wz, Bw wr wz → Calls Try.prog 8 #[.agg #[.slice (some ⟨b1, o1, none⟩) (n1 + 1) cap1, .slice (some ⟨b2, o2, none⟩) (n2 + 1) cap2]] wz fun e w' => e = .returned (.int .i64 0) ∧ Bw wz w') := fun wz hz => rcheck10 HC.out h3 (h4.bw hz) h5 (h6.bw hz) h7
      have bA := bw_alloc wr (.cells #[.slice (some ⟨b1, o1, none⟩) (n1 + 1) cap1, .slice (some ⟨b2, o2, none⟩) (n2 + 1) cap2] 24)
      clear h3 h4 h5 h6 h7 bz
      rcases (show k = 0 ∨ k = 1 by omega) with rfl | rfl
      · go_wp2_with fail
        refine (CK.out _ bA).mono ?_
        rintro e' w5 ⟨rfl, b5⟩
        replace hbw := bw_trans (bw_trans hbw bA) b5
        clear CK bA b5 e1 e2
        go_wp2
        go_roundw
        case rel => exact ⟨1, by omega, by simp, hbw⟩
        case measure => simp [intOf]; omega
      · go_wp2_with fail
        refine (CK.out _ bA).mono ?_
        rintro e' w5 ⟨rfl, b5⟩
        replace hbw := bw_trans (bw_trans hbw bA) b5
        clear CK bA b5 e1 e2
        go_wp2
        go_roundw
        case rel => exact ⟨2, by omega, by simp, hbw⟩
        case measure => simp [intOf]; omega
    · have hk3 : k = K := by omega
      subst hk3
      obtain ⟨_, c1, c2⟩ := HW.out.bw hbw
      have S := hide (set_self c1)
      have F := bw_trans ba hbw
      go_wp2
      rw [S.out]
      refine bodyPost_ret (res_w rfl _ _ _ rfl c1) rfl ?_
      exact ⟨rfl, F⟩
end Go.Proofs.Ytmbjgakehghdjaa
