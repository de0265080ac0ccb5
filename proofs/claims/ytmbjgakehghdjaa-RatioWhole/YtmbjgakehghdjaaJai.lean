/-
  OWN TEXT: package poly: At, Add, of lists of whole complex numbers.
-/
import Derived.Test.YtmbjgakehghdjaaJah
import Derived.Deep.RegionHeld
namespace Go.Proofs.Ytmbjgakehghdjaa
open Go.ChangeShapes Go.WideShapes Go.ChangeAt Go.RowKit
set_option linter.unusedVariables false
attribute [local go_sem] frombits_call tobits_call run_neg run_store_cx
theorem at8 {c : Nat} (hc : c = 1074) {w : World} {b o cap n x y Z : Nat} {l : List Py.G} {g : Py.G} (U : Nat → Nat) (hm : May n l) (h : Gl c w b o l) (hg : wC c x y g) (lg : Py.Le g Z) (hZ : Z ≤ 1099511627776) (hU : Steps l n Z U) : Calls Try.prog 50 #[.slice (some ⟨b, o, none⟩) (n + 1) cap, .complex .f64 x y] w fun e w' => ∃ r s, e = .returned (.tuple #[.complex .f64 r s, .int .i64 0]) ∧ wC c r s (Py.ev l g) ∧ Bw w w' := by
  have C := hide (checkwith8 (cap := cap) hc hm h hg (lg.mono hZ))
  have S : Hid (∀ wz, Bw w wz → Calls Try.prog 69 #[.slice (some ⟨b, o, none⟩) (n + 1) cap, .complex .f64 x y] wz fun e w' => ∃ r s p q, e = .returned (.tuple #[.complex .f64 r s, .complex .f64 p q]) ∧ wC c r s (Py.ev l g) ∧ Bw wz w') := fun wz hz => steps8 hc U hm.1 (by have := hm.2.1; omega) (h.bw hz) hg lg hU
  clear hm h hg lg hZ hU
  go_enter Try.func50, Try.ntmps50
  go_wp2_with fail
  refine C.out.mono ?_
  rintro e' w1 ⟨rfl, b1⟩
  clear C
  go_wp2_with fail
  refine (S.out _ b1).mono ?_
  rintro e' w2 ⟨r, s, p, q, rfl, hrs, b2⟩
  have HR := hide hrs
  have F : Hid (∀ wz, Calls Try.prog 61 #[.complex .f64 r s] wz fun e w' => e = .returned (.bool true) ∧ w' = wz) := fun wz => pfinite8 hrs wz
  replace b1 := bw_trans b1 b2
  clear S hrs b2
  go_wp2_with fail
  refine (F.out _).mono ?_
  rintro e' w3 ⟨rfl, rfl⟩
  clear F
  go_wp2
  go_ret2
  exact ⟨r, s, rfl, HR.out, b1⟩
/-- an answered polynomial: its coefficients are those of F -/
def Ans (c : Nat) (w w' : World) (e : Ending) (N : Nat) (F : Nat → Py.G) : Prop := ∃ B m l, e = .returned (.tuple #[.slice (some ⟨B, 0, none⟩) (m + 1) (m + 1), .int .i64 0]) ∧ May m l ∧ m + 1 ≤ N ∧ Gl c w' B 0 l ∧ w.heap.size ≤ B ∧ Bw w w' ∧ ∀ i, Py.co l i = F i
theorem Ans.of {c : Nat} {w w' : World} {B n : Nat} {l : List Py.G} (hn : l.length = n) (h0 : 0 < n) (hm : n ≤ 65) (h : Gl c w' B 0 l) (hB : w.heap.size ≤ B) (hb : Bw w w') (hl : ∀ i, Py.Le (Py.co l i) 1099511627776) : Ans c w w' (.returned (.tuple #[.slice (some ⟨B, 0, none⟩) (Py.tl l n) (Py.tl l n), .int .i64 0])) n (Py.co l) := by
  have hp := Py.tl_pos l n h0
  have hle := Py.tl_le l n
  have hlast := Py.tl_last l n
  have hlen := Py.tr_len l
  rw [hn] at hlen
  obtain ⟨m, hm'⟩ : ∃ m, Py.tl l n = m + 1 := ⟨Py.tl l n - 1, by omega⟩
  refine ⟨B, m, Py.tr l, by rw [hm'], ⟨by omega, by omega, ?_, fun i _ => by rw [Py.co_tr]; exact hl i⟩, by omega, ?_, hB, hb, Py.co_tr l⟩
  · rw [hm'] at hlast
    rw [Py.co_tr]
    rcases hlast with k | k | k
    · omega
    · left; omega
    · right; rw [Nat.add_sub_cancel] at k; exact k
  · unfold Py.tr; rw [hn]; exact h.take _
theorem Gl.setBelow {c : Nat} {w w0 : World} {b o : Nat} {l : List Py.G} (h : Gl c w0 b o l) (hb : Bw w0 w) : Gl c w b o l := h.bw hb
set_option maxHeartbeats 4000000 in
theorem add_core {c : Nat} (hc : c = 1074) {w : World} {b o cap n b' o' cap' n' A A' : Nat} {l l' : List Py.G} (sw : Bool) (hm : May n l) (h : Gl c w b o l) (hm' : May n' l') (h' : Gl c w b' o' l') (hl : ∀ i, Py.Le (Py.co l i) A) (hl' : ∀ i, Py.Le (Py.co l' i) A') (hA : A + A' ≤ 1099511627776) (hnn : if sw then n' < n else n' ≤ n) :
    Calls Try.prog 62 (if sw then #[.slice (some ⟨b', o', none⟩) (n' + 1) cap', .slice (some ⟨b, o, none⟩) (n + 1) cap] else #[.slice (some ⟨b, o, none⟩) (n + 1) cap, .slice (some ⟨b', o', none⟩) (n' + 1) cap']) w fun e w' => Ans c w w' e (n + 1) (fun i => Py.ga (Py.co l i) (Py.co l' i)) := by
  have C : Hid (Calls Try.prog 74 (if sw then #[.slice (some ⟨b', o', none⟩) (n' + 1) cap', .slice (some ⟨b, o, none⟩) (n + 1) cap] else #[.slice (some ⟨b, o, none⟩) (n + 1) cap, .slice (some ⟨b', o', none⟩) (n' + 1) cap']) w fun e w' => e = .returned (.int .i64 0) ∧ Bw w w') := by
    show Calls _ _ _ _ _
    cases sw
    · exact checktwo8 hc hm h hm' h'
    · exact checktwo8 hc hm' h' hm h
  have CP : Hid (∀ wz, Bw w wz → Calls Try.prog 75 #[.slice (some ⟨b, o, none⟩) (n + 1) cap] wz fun e w' => e = .returned (.slice (some ⟨wz.heap.size, 0, none⟩) (n + 1) (n + 1)) ∧ Gw c w' wz.heap.size l ∧ Bw wz w') := fun wz hz => copied8 (n + 1) hm.1 (by have := hm.2.1; omega) (h.bw hz)
  have hn64 := hm.2.1
  have hle : n' ≤ n := by cases sw <;> simp at hnn <;> omega
  have HL := hide hl
  have HL' := hide hl'
  have HG' := hide h'
  have HN := hide hm.1
  have HN' := hide hm'.1
  clear hm h hm' h' hl hl'
  cases sw
  · have t0 : ¬ (n : Int) + 1 < (n' : Int) + 1 := by omega
    simp only [Bool.false_eq_true, if_false] at C ⊢
    clear hnn
    go_enter Try.func62, Try.ntmps62
    go_wp2_with fail
    refine C.out.mono ?_
    rintro e' w1 ⟨rfl, b1⟩
    clear C
    go_wp2_with fail
    refine (CP.out _ b1).mono ?_
    rintro e' w2 ⟨rfl, hw2, b2⟩
    replace b2 := bw_trans b1 b2
    have hB : w.heap.size ≤ w1.heap.size := Below.size b1
    have HW := hide hw2
    generalize w1.heap.size = B at *
    clear CP hw2 b1
    go_wp2
    go_loopw [27] (fun i wr => ∃ (k : Nat) (L : List Py.G), k ≤ n' + 1 ∧ i = .int .i64 k ∧ L.length = n + 1 ∧ Gw c wr B L ∧ (∀ i, Py.co L i = if i < k then Py.ga (Py.co l i) (Py.co l' i) else Py.co l i) ∧ Bw w wr) (fun i _ => n' + 1 - (intOf i).toNat)
    case atStart => exact ⟨0, l, Nat.zero_le _, rfl, HN.out, HW.out, fun i => by rw [if_neg (by omega)], b2⟩
    case round =>
      obtain ⟨k, L, hk, rfl, hL, hw, hco, hbw⟩ := hrel
      clear HW b2
      by_cases hk1 : k < n' + 1
      · obtain ⟨x, y, e1, q1⟩ := (HG'.out.bw hbw).2 k (by have := HN'.out; omega)
        obtain ⟨u, v, e2, q2⟩ := hw.1.2 k (by omega)
        have e3 := hw.2 k
        rw [Nat.zero_add] at e2
        rw [hco k, if_neg (by omega)] at q2
        obtain ⟨r, s, q3, E⟩ := c_add hc q2 q1 (HL.out k) (HL'.out k) (by omega)
        have hk2 : (k : Int) < (n' : Int) + 1 := by omega
        have hk3 : (k : Int) < (n : Int) + 1 := by omega
        have R : Hid (Gw c (wr.setCell ⟨B, k, none⟩ (.complex .f64 r s)) B (L.set k (Py.ga (Py.co l k) (Py.co l' k))) ∧ (∀ i, Py.co (L.set k (Py.ga (Py.co l k) (Py.co l' k))) i = if i < k + 1 then Py.ga (Py.co l i) (Py.co l' i) else Py.co l i) ∧ Bw w (wr.setCell ⟨B, k, none⟩ (.complex .f64 r s))) := by
          refine ⟨hw.set k r s _ (by omega) q3, fun i => ?_, Below.setCell hbw hB _⟩
          rw [Py.co_set _ _ _ _ (by omega)]
          by_cases z : i = k
          · subst z; rw [if_pos rfl, if_pos (by omega)]
          · rw [if_neg z, hco i]
            by_cases z2 : i < k
            · rw [if_pos z2, if_pos (by omega)]
            · rw [if_neg z2, if_neg (by omega)]
        have HLL := hide hL
        clear q1 q2 q3 hw hco hbw hL
        go_wp2
        go_roundw
        case rel => exact ⟨k + 1, _, by omega, by simp, by rw [List.length_set]; exact HLL.out, R.out.1, R.out.2.1, R.out.2.2⟩
        case measure => simp [intOf]; omega
      · have hk3 : k = n' + 1 := by omega
        subst hk3
        have hF : ∀ i, Py.co L i = Py.ga (Py.co l i) (Py.co l' i) := fun i => by
          rw [hco i]
          by_cases z : i < n' + 1
          · rw [if_pos z]
          · rw [if_neg z, Py.co_out (l := l') (by have := HN'.out; omega), Py.ga_nought]
        have hle2 : ∀ i, Py.Le (Py.co L i) 1099511627776 := fun i => by rw [hF]; exact ((HL.out i).add (HL'.out i)).mono hA
        have HF := hide hF
        have HW := hide hw
        have H2 := hide hle2
        have HLL := hide hL
        clear hF hle2 hw hco hL
        go_wp2_with fail
        refine (answered8 hc (n + 1) HLL.out (by omega) (by omega) (Nat.le_refl _) HW.out.1 H2.out).mono ?_
        rintro e' w3 ⟨rfl, b3⟩
        have A9 := Ans.of HLL.out (by omega) (by omega) (HW.out.1.bw b3) hB (bw_trans hbw b3) H2.out
        have AA : Hid (Ans c w w3 (.returned (.tuple #[.slice (some ⟨B, 0, none⟩) (Py.tl L (n + 1)) (Py.tl L (n + 1)), .int .i64 0])) (n + 1) (fun i => Py.ga (Py.co l i) (Py.co l' i))) := by
          obtain ⟨B', m, l9, z1, z2, z3, z4, z5, z6, z7⟩ := A9
          exact ⟨B', m, l9, z1, z2, z3, z4, z5, z6, fun i => (z7 i).trans (HF.out i)⟩
        clear A9 HW H2 HF HLL
        generalize Py.tl L (n + 1) = tt at *
        go_wp2
        go_ret2
        exact AA.out
  · have hnn' : n' < n := by simpa using hnn
    have t0 : (n' : Int) + 1 < (n : Int) + 1 := by omega
    simp only [if_true] at C ⊢
    clear hnn
    go_enter Try.func62, Try.ntmps62
    go_wp2_with fail
    refine C.out.mono ?_
    rintro e' w1 ⟨rfl, b1⟩
    clear C
    go_wp2_with fail
    refine (CP.out _ b1).mono ?_
    rintro e' w2 ⟨rfl, hw2, b2⟩
    replace b2 := bw_trans b1 b2
    have hB : w.heap.size ≤ w1.heap.size := Below.size b1
    have HW := hide hw2
    generalize w1.heap.size = B at *
    clear CP hw2 b1
    go_wp2
    go_loopw [27] (fun i wr => ∃ (k : Nat) (L : List Py.G), k ≤ n' + 1 ∧ i = .int .i64 k ∧ L.length = n + 1 ∧ Gw c wr B L ∧ (∀ i, Py.co L i = if i < k then Py.ga (Py.co l i) (Py.co l' i) else Py.co l i) ∧ Bw w wr) (fun i _ => n' + 1 - (intOf i).toNat)
    case atStart => exact ⟨0, l, Nat.zero_le _, rfl, HN.out, HW.out, fun i => by rw [if_neg (by omega)], b2⟩
    case round =>
      obtain ⟨k, L, hk, rfl, hL, hw, hco, hbw⟩ := hrel
      clear HW b2
      by_cases hk1 : k < n' + 1
      · obtain ⟨x, y, e1, q1⟩ := (HG'.out.bw hbw).2 k (by have := HN'.out; omega)
        obtain ⟨u, v, e2, q2⟩ := hw.1.2 k (by omega)
        have e3 := hw.2 k
        rw [Nat.zero_add] at e2
        rw [hco k, if_neg (by omega)] at q2
        obtain ⟨r, s, q3, E⟩ := c_add hc q2 q1 (HL.out k) (HL'.out k) (by omega)
        have hk2 : (k : Int) < (n' : Int) + 1 := by omega
        have hk3 : (k : Int) < (n : Int) + 1 := by omega
        have R : Hid (Gw c (wr.setCell ⟨B, k, none⟩ (.complex .f64 r s)) B (L.set k (Py.ga (Py.co l k) (Py.co l' k))) ∧ (∀ i, Py.co (L.set k (Py.ga (Py.co l k) (Py.co l' k))) i = if i < k + 1 then Py.ga (Py.co l i) (Py.co l' i) else Py.co l i) ∧ Bw w (wr.setCell ⟨B, k, none⟩ (.complex .f64 r s))) := by
          refine ⟨hw.set k r s _ (by omega) q3, fun i => ?_, Below.setCell hbw hB _⟩
          rw [Py.co_set _ _ _ _ (by omega)]
          by_cases z : i = k
          · subst z; rw [if_pos rfl, if_pos (by omega)]
          · rw [if_neg z, hco i]
            by_cases z2 : i < k
            · rw [if_pos z2, if_pos (by omega)]
            · rw [if_neg z2, if_neg (by omega)]
        have HLL := hide hL
        clear q1 q2 q3 hw hco hbw hL
        go_wp2
        go_roundw
        case rel => exact ⟨k + 1, _, by omega, by simp, by rw [List.length_set]; exact HLL.out, R.out.1, R.out.2.1, R.out.2.2⟩
        case measure => simp [intOf]; omega
      · have hk3 : k = n' + 1 := by omega
        subst hk3
        have hF : ∀ i, Py.co L i = Py.ga (Py.co l i) (Py.co l' i) := fun i => by
          rw [hco i]
          by_cases z : i < n' + 1
          · rw [if_pos z]
          · rw [if_neg z, Py.co_out (l := l') (by have := HN'.out; omega), Py.ga_nought]
        have hle2 : ∀ i, Py.Le (Py.co L i) 1099511627776 := fun i => by rw [hF]; exact ((HL.out i).add (HL'.out i)).mono hA
        have HF := hide hF
        have HW := hide hw
        have H2 := hide hle2
        have HLL := hide hL
        clear hF hle2 hw hco hL
        go_wp2_with fail
        refine (answered8 hc (n + 1) HLL.out (by omega) (by omega) (Nat.le_refl _) HW.out.1 H2.out).mono ?_
        rintro e' w3 ⟨rfl, b3⟩
        have A9 := Ans.of HLL.out (by omega) (by omega) (HW.out.1.bw b3) hB (bw_trans hbw b3) H2.out
        have AA : Hid (Ans c w w3 (.returned (.tuple #[.slice (some ⟨B, 0, none⟩) (Py.tl L (n + 1)) (Py.tl L (n + 1)), .int .i64 0])) (n + 1) (fun i => Py.ga (Py.co l i) (Py.co l' i))) := by
          obtain ⟨B', m, l9, z1, z2, z3, z4, z5, z6, z7⟩ := A9
          exact ⟨B', m, l9, z1, z2, z3, z4, z5, z6, fun i => (z7 i).trans (HF.out i)⟩
        clear A9 HW H2 HF HLL
        generalize Py.tl L (n + 1) = tt at *
        go_wp2
        go_ret2
        exact AA.out
theorem add8 {c : Nat} (hc : c = 1074) {w : World} {b o cap n b' o' cap' n' A A' : Nat} {l l' : List Py.G} (hm : May n l) (h : Gl c w b o l) (hm' : May n' l') (h' : Gl c w b' o' l') (hl : ∀ i, Py.Le (Py.co l i) A) (hl' : ∀ i, Py.Le (Py.co l' i) A') (hA : A + A' ≤ 1099511627776) :
    Calls Try.prog 62 #[.slice (some ⟨b, o, none⟩) (n + 1) cap, .slice (some ⟨b', o', none⟩) (n' + 1) cap'] w fun e w' => Ans c w w' e (max n n' + 1) (fun i => Py.ga (Py.co l i) (Py.co l' i)) := by
  by_cases k : n' ≤ n
  · have := add_core (cap := cap) (cap' := cap') hc false hm h hm' h' hl hl' hA (by simpa using k)
    rw [Nat.max_eq_left k]
    simpa using this
  · have := add_core (cap := cap') (cap' := cap) hc true hm' h' hm h hl' hl (by omega) (by simp; omega)
    rw [Nat.max_eq_right (by omega)]
    have e : (fun i => Py.ga (Py.co l i) (Py.co l' i)) = fun i => Py.ga (Py.co l' i) (Py.co l i) := funext fun i => Py.ga_comm _ _
    rw [e]
    simpa using this
end Go.Proofs.Ytmbjgakehghdjaa
/-
  OWN TEXT: a region whose last call writes what its loads read: a load may be taken first as long as that call waits for it.
-/
namespace Go.Proofs.Ytmbjgakehghdjaa
section
variable {P : Program} {ops : Array Oper} {Q : Exit → Act → World → Prop} {md : Region.Mode} {S : World → Prop} {k : Nat}

/-- whatever order is picked from here on, and 'S' holds behind every operation ahead of number 'k' -/
def wpAnyK (P : Program) (md : Region.Mode) (ops : Array Oper) (Q : Exit → Act → World → Prop) (S : World → Prop) (k : Nat) : Nat → Array Bool → Act → World → Prop
  | 0, listed, a, w => Region.ready md ops listed = [] ∧ Q .normal a w
  | fuel + 1, listed, a, w =>
    (Region.ready md ops listed = [] → Q .normal a w) ∧
    ∀ i ∈ Region.ready md ops listed, wpOp P ops Q i (fun a' w' => (i ≠ k → listed.getD k true = false → S w') ∧ wpAnyK P md ops Q S k fuel (listed.setIfInBounds i true) a' w') a w

theorem wpAny_of_K : ∀ (fuel : Nat) (listed : Array Bool) (a : Act) (w : World), wpAnyK P md ops Q S k fuel listed a w → wpAny P md ops Q fuel listed a w
  | 0, _, _, _, h => h
  | fuel + 1, _, _, _, h => ⟨h.1, fun i hi => wpOp_mono (fun a' w' h' => wpAny_of_K fuel _ a' w' h'.2) (h.2 i hi)⟩

/-- those of 'blk' have not come up, and each waits for 'i' or for another one of 'blk' -/
def waits (md : Region.Mode) (ops : Array Oper) (listed : Array Bool) (i : Nat) (blk : List Nat) : Bool :=
  blk.all fun m => !(listed.getD m true) && (match ops[m]? with | some o => o.after.toList.any (fun e => Region.binds md e && (e.on == i || blk.contains e.on)) | none => true)

theorem waits_not {listed : Array Bool} {i : Nat} {blk : List Nat} (hw : waits md ops listed i blk = true) (hi : i ∈ Region.ready md ops listed) {j : Nat} (hj : j ∈ Region.ready md ops listed) : j ∉ blk := by
  intro hb
  have h0 := List.all_eq_true.1 hw
  have h1 := h0 j hb
  obtain ⟨hjun, oj, hoj, hall⟩ := mem_ready.1 hj
  rw [hoj] at h1
  simp only [Bool.and_eq_true, List.any_eq_true, Bool.or_eq_true] at h1
  obtain ⟨_, e, he, hbe, h2⟩ := h1
  have h3 := hall e (by simpa using he) hbe
  have h4 : listed.getD e.on true = false := by
    rcases h2 with h2 | h2
    · rw [eq_of_beq h2]; exact (mem_ready.1 hi).1
    · have h5 := h0 e.on (by simpa using h2)
      simp only [Bool.and_eq_true, Bool.not_eq_true'] at h5
      exact h5.1
  rcases Nat.lt_or_ge e.on listed.size with h' | h'
  · simp [h'] at h3 h4; rw [h4] at h3; cases h3
  · simp [Array.getElem?_eq_none h'] at h3

theorem waits_un {listed : Array Bool} {i m : Nat} {blk : List Nat} (hw : waits md ops listed i blk = true) (hm : m ∈ blk) : listed.getD m true = false := by
  have h1 := List.all_eq_true.1 hw m hm
  rw [Bool.and_eq_true, Bool.not_eq_true'] at h1
  exact h1.1

theorem waits_set {listed : Array Bool} {i j : Nat} {blk : List Nat} (hw : waits md ops listed i blk = true) (hj : j ∉ blk) : waits md ops (listed.setIfInBounds j true) i blk = true := by
  refine List.all_eq_true.2 fun m hm => ?_
  have h1 := List.all_eq_true.1 hw m hm
  have hne : j ≠ m := fun e => by subst e; exact hj hm
  rw [getD_set_ne true hne]
  exact h1

theorem wpAnyK_first {i : Nat} {oi : Oper} {v : Value} {blk : List Nat} (hi : ops[i]? = some oi) (hsel : ∀ (j : Nat) (o : Oper) cs b, ops[j]? = some o → o.op ≠ .select cs b)
    (hQ : ∀ c a w, Q (.panic c) (a.put oi.dst v) w → Q (.panic c) a w) (hk : k ∈ blk) :
    ∀ (fuel : Nat) (listed : Array Bool) (a : Act) (w : World),
      (∀ j oj, ops[j]? = some oj → j ≠ i → listed.getD j true = false → (∀ e ∈ oj.after, Region.binds md e = true → e.on ≠ i) → oi.apart ops oj = true) →
      i ∈ Region.ready md ops listed → waits md ops listed i blk = true → YieldsIf P ops S oi v a → S w →
      wpAnyK P md ops Q S k fuel (listed.setIfInBounds i true) (a.put oi.dst v) w → wpAnyK P md ops Q S k (fuel + 1) listed a w := by
  intro fuel
  induction fuel with
  | zero =>
    intro listed a w _ hr hw hy hS H
    refine ⟨fun h => (by rw [h] at hr; cases hr), fun j hj => ?_⟩
    by_cases hji : j = i
    · subst hji; exact hy.wpOp hi hS ⟨fun _ _ => hS, H⟩
    · have := ready_mono hj hji
      rw [H.1] at this
      cases this
  | succ fuel ih =>
    intro listed a w hfree hr hw hy hS H
    refine ⟨fun h => (by rw [h] at hr; cases hr), fun j hj => ?_⟩
    by_cases hji : j = i
    · subst hji; exact hy.wpOp hi hS ⟨fun _ _ => hS, H⟩
    · have h1 := H.2 j (ready_mono hj hji)
      have hjb := waits_not hw hr hj
      have hjk : j ≠ k := fun e => hjb (e ▸ hk)
      have hkun := waits_un hw hk
      have hik : i ≠ k := fun e => waits_not hw hr hr (e ▸ hk)
      have hkun' : (listed.setIfInBounds i true).getD k true = false := by rw [getD_set_ne true hik]; exact hkun
      obtain ⟨hjun, oj, hoj, hall⟩ := mem_ready.1 hj
      have hnot : ∀ e ∈ oj.after, Region.binds md e = true → e.on ≠ i := fun e he hb heq => by
        have h1 := hall e he hb
        have h0 := (mem_ready.1 hr).1
        rw [heq] at h1
        rcases Nat.lt_or_ge i listed.size with h' | h'
        · simp [h'] at h0 h1; rw [h0] at h1; cases h1
        · simp [Array.getElem?_eq_none h'] at h1
      have h2 := wpOp_putIf hoj (hfree j oj hoj hji hjun hnot) (fun cs b => hsel i oi cs b hi) (fun cs b => hsel j oj cs b hoj) hQ hy h1
      have hfree' : ∀ k ok, ops[k]? = some ok → k ≠ i → (listed.setIfInBounds j true).getD k true = false →
          (∀ e ∈ ok.after, Region.binds md e = true → e.on ≠ i) → oi.apart ops ok = true := fun k ok hk hki hun hno => by
        refine hfree k ok hk hki ?_ hno
        by_cases hjk : j = k
        · subst hjk; exact hjun
        · rw [getD_set_ne true hjk] at hun; exact hun
      refine wpOp_mono (fun a' w' h3 => ⟨fun _ _ => h3.2.1 hjk hkun', ih (listed.setIfInBounds j true) a' w' hfree' (ready_mono hr (Ne.symm hji)) (waits_set hw hjb) h3.1 (h3.2.1 hjk hkun') ?_⟩) h2
      rw [Array.setIfInBounds_comm _ _ hji]
      exact h3.2.2

/-- what waits for 'i', up to 'k' -/
def behind (md : Region.Mode) (ops : Array Oper) (i k : Nat) : List Nat :=
  (List.range (k + 1)).foldl (fun acc m => match ops[m]? with | some o => if o.after.toList.any (fun e => Region.binds md e && (e.on == i || acc.contains e.on)) then m :: acc else acc | none => acc) []

theorem wpAnyK_take (i d : Nat) {oi : Oper} {v : Value} {fuel : Nat} {listed : Array Bool} {a : Act} {w : World} (hi : ops[i]? = some oi)
    (hs : Region.noSelect ops = true) (hf : Region.free md ops listed i = true) (hr : (Region.ready md ops listed).contains i = true)
    (hk : (behind md ops i k).contains k = true) (hb : waits md ops listed i (behind md ops i k) = true)
    (hQ : ∀ c a w, Q (.panic c) (a.put oi.dst v) w → Q (.panic c) a w) (hd : oi.dst = some d) (hy : YieldsIf P ops S oi v a) (hS : S w)
    (h : wpAnyK P md ops Q S k fuel (listed.setIfInBounds i true) (a.put (some d) v) w) : wpAnyK P md ops Q S k (fuel + 1) listed a w := by
  rw [← hd] at h
  exact wpAnyK_first hi (Region.noSelect_spec hs) hQ (by simpa using hk) fuel listed a w (Region.free_spec hi hf) (by simpa using hr) hb hy hS h

/-- one alone may come up -/
theorem wpAnyK_one (i : Nat) {o : Oper} {fuel : Nat} {listed : Array Bool} {a : Act} {w : World} (hr : Region.ready md ops listed = [i]) (ho : ops[i]? = some o)
    (h : ∀ K' : Act → World → Prop, Shut (∀ a w, (i ≠ k → listed.getD k true = false → S w) → wpAnyK P md ops Q S k fuel (listed.setIfInBounds i true) a w → K' a w) → if Region.wanted o (yielded ops a.tmps) = true then Oper.wp P o a w K' Q else K' (a.put o.dst undef) w) : wpAnyK P md ops Q S k (fuel + 1) listed a w := by
  refine ⟨fun h0 => absurd (hr ▸ h0) (by simp), ?_⟩
  rw [hr]
  intro j hj
  rw [List.mem_singleton] at hj
  subst hj
  exact wpOp_step ho (fun K' hK => h K' (fun a w hS hW => hK a w ⟨hS, hW⟩))

/-- one of two may come up -/
theorem wpAnyK_two (i j : Nat) {o p : Oper} {fuel : Nat} {listed : Array Bool} {a : Act} {w : World} (hr : Region.ready md ops listed = [i, j]) (ho : ops[i]? = some o) (hp : ops[j]? = some p)
    (h : ∀ K' : Act → World → Prop, Shut (∀ a w, (i ≠ k → listed.getD k true = false → S w) → wpAnyK P md ops Q S k fuel (listed.setIfInBounds i true) a w → K' a w) → if Region.wanted o (yielded ops a.tmps) = true then Oper.wp P o a w K' Q else K' (a.put o.dst undef) w)
    (h' : ∀ K' : Act → World → Prop, Shut (∀ a w, (j ≠ k → listed.getD k true = false → S w) → wpAnyK P md ops Q S k fuel (listed.setIfInBounds j true) a w → K' a w) → if Region.wanted p (yielded ops a.tmps) = true then Oper.wp P p a w K' Q else K' (a.put p.dst undef) w) : wpAnyK P md ops Q S k (fuel + 1) listed a w := by
  refine ⟨fun h0 => absurd (hr ▸ h0) (by simp), ?_⟩
  rw [hr]
  intro m hm
  rcases List.mem_cons.mp hm with e | hm
  · subst e
    exact wpOp_step ho (fun K' hK => h K' (fun a w hS hW => hK a w ⟨hS, hW⟩))
  · rw [List.mem_singleton] at hm
    subst hm
    exact wpOp_step hp (fun K' hK => h' K' (fun a w hS hW => hK a w ⟨hS, hW⟩))

theorem wpAnyK_done {listed : Array Bool} {a : Act} {w : World} (hr : Region.ready md ops listed = []) (h : Q .normal a w) :
    ∀ fuel, wpAnyK P md ops Q S k fuel listed a w
  | 0 => ⟨hr, h⟩
  | _ + 1 => ⟨fun _ => h, by rw [hr]; simp⟩

theorem wp_region_K (S : World → Prop) (k n : Nat) (l : Array Bool) {id : Nat} {a : Act} {w : World} (hm : P.follows .mixedOrders = true) (hn : ops.size = n) (hl : Array.replicate n false = l)
    (h : wpAnyK P .any ops Q S k n l a w.drew) : (Code.region id ops true).wp P Q a w := by
  subst hn; subst hl
  exact wp_region_any hm (wpAny_of_K _ _ _ _ h)
end
end Go.Proofs.Ytmbjgakehghdjaa
/-
  OWN TEXT: package poly: Mul, of lists of whole complex numbers.
-/
namespace Go.Proofs.Ytmbjgakehghdjaa
open Go.ChangeShapes Go.WideShapes Go.ChangeAt Go.RowKit
set_option linter.unusedVariables false
attribute [local go_sem] frombits_call tobits_call run_neg run_store_cx
theorem wrap_small (g : Nat) (h : g < 1000000) : IntKind.i64.wrap (g : Int) = g := by
  rw [IntKind.wrap_i64]
  omega
theorem ts_begin (a b : List Py.G) (k f : Nat) (h : k < f + b.length) (h2 : f = 0 ∨ k = f + (b.length - 1)) (hf : f ≤ k) : Py.ts a b k (f + 1) = Py.gm (Py.co a f) (Py.co b (k - f)) := by
  rw [Py.ts, if_pos hf]
  have := Py.ts_far a b k 0 f (fun i _ q1 q2 => by rw [Py.co_out (l := b) (by omega), Py.gm_nought])
  rw [Nat.zero_add] at this
  rw [this]
  exact Py.nought_ga _
set_option maxHeartbeats 4000000 in
theorem prods8 {c : Nat} (hc : c = 1074) {w : World} {b o cap n b' o' cap' n' A A' k : Nat} {l l' : List Py.G} (hn : l.length = n + 1) (hn' : l'.length = n' + 1) (h64 : n ≤ 64) (h64' : n' ≤ 64) (h : Gl c w b o l) (h' : Gl c w b' o' l') (hl : ∀ i, Py.Le (Py.co l i) A) (hl' : ∀ i, Py.Le (Py.co l' i) A') (hA : (n + 1) * (A * A') ≤ 1099511627776) (hk : k ≤ n + n') :
    Calls Try.prog 76 #[.slice (some ⟨b, o, none⟩) (n + 1) cap, .slice (some ⟨b', o', none⟩) (n' + 1) cap', .int .i64 k] w fun e w' => ∃ r s, e = .returned (.complex .f64 r s) ∧ wC c r s (Py.ts l l' k (n + 1)) ∧ Bw w w' := by
  obtain ⟨f, hf0⟩ : ∃ f, f = k - n' := ⟨_, rfl⟩
  obtain ⟨d, hd0⟩ : ∃ d, d = min k n := ⟨_, rfl⟩
  have m1 : (if (k : Int) - ((n' : Int) + 1) + 1 > 0 then (k : Int) - ((n' : Int) + 1) + 1 else 0) = (f : Int) := by
    split <;> omega
  have m2 : (if (n : Int) + 1 - 1 < (k : Int) then (n : Int) + 1 - 1 else (k : Int)) = (d : Int) := by
    split <;> omega
  have m3 : (if (n : Int) < (k : Int) then (n : Int) else (k : Int)) = (d : Int) := by
    split <;> omega
  have m5 : (if n < k then (n : Int) else (k : Int)) = (d : Int) := by
    split <;> omega
  have m4 : (if 0 < (k : Int) - ((n' : Int) + 1) + 1 then (k : Int) - ((n' : Int) + 1) + 1 else 0) = (f : Int) := by
    split <;> omega
  obtain ⟨g, hg0⟩ : ∃ g, k = f + g := ⟨k - f, by omega⟩
  have F1 : Hid (g ≤ n' ∧ (f = 0 ∨ g = n') ∧ f ≤ n ∧ d ≤ n ∧ d ≤ k ∧ (d = k ∨ d = n) ∧ f ≤ d) := by show _ ∧ _; omega
  clear m1 m2 hf0 hd0
  have HK := hide hg0
  have hfn : (f : Int) < (n : Int) + 1 := by have := F1.out; omega
  have hgn : (g : Int) < (n' : Int) + 1 := by have := F1.out; omega
  have hsub : (k : Int) - f = g := by omega
  clear hg0
  obtain ⟨x, y, e1, q1⟩ := h.2 f (by have := F1.out; omega)
  obtain ⟨u, v, e2, q2⟩ := h'.2 g (by have := F1.out; omega)
  obtain ⟨r, s, q3, P⟩ := pmul8 hc q1 q2 (hl f) (hl' g) (by
    have : 1 * (A * A') ≤ (n + 1) * (A * A') := Nat.mul_le_mul_right _ (by omega)
    omega)
  have HP := hide P
  have H0 : Hid (wC c r s (Py.ts l l' k (f + 1))) := by
    show wC _ _ _ _
    rw [ts_begin l l' k f (by have := F1.out; have := HK.out; omega) (by have := F1.out; have := HK.out; omega) (by have := HK.out; omega), show k - f = g by have := HK.out; omega]
    exact q3
  have HG := hide h
  have HG' := hide h'
  have HL := hide hl
  have HL' := hide hl'
  have HN := hide hn
  have HN' := hide hn'
  have HA := hide hA
  clear h h' hl hl' q1 q2 q3 P hn hn' hA hk
  go_enter Try.func76, Try.ntmps76
  go_wp2_with fail
  have wg : IntKind.i64.wrap (g : Int) = g := wrap_small g (by omega)
  have S0 : w.drew.cell? ⟨b, o + f, none⟩ = some (.complex .f64 x y) ∧ w.drew.cell? ⟨b', o' + g, none⟩ = some (.complex .f64 u v) := ⟨e1, e2⟩
  refine wp_region_K (fun w' => w'.cell? ⟨b, o + f, none⟩ = some (.complex .f64 x y) ∧ w'.cell? ⟨b', o' + g, none⟩ = some (.complex .f64 u v)) 11 12 #[false, false, false, false, false, false, false, false, false, false, false, false] (by kernel_rfl) (by kernel_rfl) (by kernel_rfl) ?_
  refine wpAnyK_take 0 22 (v := ?v0) rfl (by kernel_rfl) (by kernel_rfl) (by kernel_rfl) (by kernel_rfl) (by kernel_rfl) (fun _ _ _ h => h) rfl (Or.inl ⟨by rfl, ?h0⟩) (by assumption) ?r0
  case h0 => (intro w hSw; go_simp; with_reducible rfl)
  simp only [Act.put, List.setIfInBounds_toArray, List.set_cons_zero, List.set_cons_succ]
  refine wpAnyK_take 1 23 (v := ?v1) rfl (by kernel_rfl) (by kernel_rfl) (by kernel_rfl) (by kernel_rfl) (by kernel_rfl) (fun _ _ _ h => h) rfl (Or.inl ⟨by rfl, ?h1⟩) (by assumption) ?r1
  case h1 => (intro w hSw; go_simp; with_reducible rfl)
  simp only [Act.put, List.setIfInBounds_toArray, List.set_cons_zero, List.set_cons_succ]
  refine wpAnyK_take 2 24 (v := ?v2) rfl (by kernel_rfl) (by kernel_rfl) (by kernel_rfl) (by kernel_rfl) (by kernel_rfl) (fun _ _ _ h => h) rfl (Or.inl ⟨by rfl, ?h2⟩) (by assumption) ?r2
  case h2 => (intro w hSw; go_simp; with_reducible rfl)
  simp only [Act.put, List.setIfInBounds_toArray, List.set_cons_zero, List.set_cons_succ]
  refine wpAnyK_take 3 25 (v := ?v3) rfl (by kernel_rfl) (by kernel_rfl) (by kernel_rfl) (by kernel_rfl) (by kernel_rfl) (fun _ _ _ h => h) rfl (Or.inl ⟨by rfl, ?h3⟩) (by assumption) ?r3
  case h3 => (intro w hSw; go_simp; with_reducible rfl)
  simp only [Act.put, List.setIfInBounds_toArray, List.set_cons_zero, List.set_cons_succ]
  refine wpAnyK_take 4 26 (v := ?v4) rfl (by kernel_rfl) (by kernel_rfl) (by kernel_rfl) (by kernel_rfl) (by kernel_rfl) (fun _ _ _ h => h) rfl (Or.inl ⟨by rfl, ?h4⟩) (by assumption) ?r4
  case h4 => (intro w hSw; go_simp; with_reducible rfl)
  simp only [Act.put, List.setIfInBounds_toArray, List.set_cons_zero, List.set_cons_succ]
  refine wpAnyK_take 5 27 (v := ?v5) rfl (by kernel_rfl) (by kernel_rfl) (by kernel_rfl) (by kernel_rfl) (by kernel_rfl) (fun _ _ _ h => h) rfl (Or.inl ⟨by rfl, ?h5⟩) (by assumption) ?r5
  case h5 => (intro w hSw; go_simp; with_reducible rfl)
  simp only [Act.put, List.setIfInBounds_toArray, List.set_cons_zero, List.set_cons_succ]
  refine wpAnyK_take 6 28 (v := ?v6) rfl (by kernel_rfl) (by kernel_rfl) (by kernel_rfl) (by kernel_rfl) (by kernel_rfl) (fun _ _ _ h => h) rfl (Or.inl ⟨by rfl, ?h6⟩) (by assumption) ?r6
  case h6 => (intro w hSw; go_simp; with_reducible rfl)
  simp only [Act.put, List.setIfInBounds_toArray, List.set_cons_zero, List.set_cons_succ]
  refine wpAnyK_take 7 29 (v := ?v7) rfl (by kernel_rfl) (by kernel_rfl) (by kernel_rfl) (by kernel_rfl) (by kernel_rfl) (fun _ _ _ h => h) rfl (Or.inl ⟨by rfl, ?h7⟩) (by assumption) ?r7
  case h7 => (intro w hSw; go_simp; with_reducible rfl)
  simp only [Act.put, List.setIfInBounds_toArray, List.set_cons_zero, List.set_cons_succ]
  refine wpAnyK_take 8 30 (v := ?v8) rfl (by kernel_rfl) (by kernel_rfl) (by kernel_rfl) (by kernel_rfl) (by kernel_rfl) (fun _ _ _ h => h) rfl (Or.inl ⟨by rfl, ?h8⟩) (by assumption) ?r8
  case h8 => (intro w hSw; go_simp; with_reducible rfl)
  simp only [Act.put, List.setIfInBounds_toArray, List.set_cons_zero, List.set_cons_succ]
  refine wpAnyK_take 9 31 (v := ?v9) rfl (by kernel_rfl) (by kernel_rfl) (by kernel_rfl) (by kernel_rfl) (by kernel_rfl) (fun _ _ _ h => h) rfl (Or.inl ⟨by rfl, ?h9⟩) (by assumption) ?r9
  case h9 => (intro w hSw; go_simp; with_reducible rfl)
  simp only [Act.put, List.setIfInBounds_toArray, List.set_cons_zero, List.set_cons_succ]
  refine wpAnyK_one 10 (by kernel_rfl) rfl (fun K hK => ?_)
  go_simp
  go_wp2_with (go_at_call 23; refine (HP.out _).mono ?_; rintro e' w7 ⟨rfl, hw7⟩; subst hw7)
  refine hK.out _ _ (fun _ _ => S0) ?_
  clear hK K
  simp only [List.setIfInBounds_toArray, List.set_cons_zero, List.set_cons_succ]
  refine wpAnyK_one 11 (by kernel_rfl) rfl (fun K hK => ?_)
  go_simp
  refine hK.out _ _ (fun h => absurd rfl h) ?_
  clear hK K
  simp only [List.setIfInBounds_toArray, List.set_cons_zero, List.set_cons_succ]
  refine wpAnyK_done (by kernel_rfl) ?_ _
  clear S0 e1 e2 HP wg
  go_wp2
  go_loopw [9, 10] (fun v i wr => ∃ (j r s : Nat), f + 1 ≤ j ∧ j ≤ d + 1 ∧ i = .int .i64 j ∧ v = .complex .f64 r s ∧ wC c r s (Py.ts l l' k j) ∧ Bw w wr) (fun _ i _ => d + 1 - (intOf i).toNat)
  case atStart => exact ⟨f + 1, r, s, Nat.le_refl _, by have := F1.out; omega, by simp, rfl, H0.out, (Bw.refl _).drew⟩
  case round =>
    obtain ⟨i, r2, s2, hi1, hi2, rfl, rfl, hrs, hbw⟩ := hrel
    by_cases hid : i < d + 1
    · obtain ⟨g2, hg2⟩ : ∃ g2, k = i + g2 := ⟨k - i, by have := F1.out; omega⟩
      have hin : (i : Int) < (n : Int) + 1 := by have := F1.out; omega
      have hgn2 : (g2 : Int) < (n' : Int) + 1 := by have := F1.out; have := HK.out; omega
      have hsub2 : (k : Int) - i = g2 := by omega
      have hid2 : (i : Int) ≤ d := by omega
      obtain ⟨x2, y2, e1, q1⟩ := (HG.out.bw hbw).2 i (by have := HN.out; omega)
      obtain ⟨u2, v2, e2, q2⟩ := (HG'.out.bw hbw).2 g2 (by have := HN'.out; omega)
      have b0 : 1 * (A * A') ≤ (n + 1) * (A * A') := Nat.mul_le_mul_right _ (by omega)
      have b1 : i * (A * A') + A * A' ≤ (n + 1) * (A * A') := by
        have : (i + 1) * (A * A') ≤ (n + 1) * (A * A') := Nat.mul_le_mul_right _ (by omega)
        rwa [Nat.add_mul, Nat.one_mul] at this
      obtain ⟨p2, p3, q3, P2⟩ := pmul8 hc q1 q2 (HL.out i) (HL'.out g2) (by have := HA.out; omega)
      obtain ⟨r3, s3, q4, E⟩ := c_add hc hrs q3 (Py.ts_le HL.out HL'.out k i) ((HL.out i).mul (HL'.out g2)) (by have := HA.out; omega)
      have HP2 := hide P2
      have R : Hid (wC c r3 s3 (Py.ts l l' k (i + 1))) := by
        show wC _ _ _ _
        rw [Py.ts, if_pos (by omega), show k - i = g2 by omega]
        exact q4
      clear q1 q2 q3 q4 P2 hrs b0 b1 hg2 H0
      go_wp2_with fail
      have wg2 : IntKind.i64.wrap (g2 : Int) = g2 := wrap_small g2 (by omega)
      have S0 : wr.drew.cell? ⟨b, o + i, none⟩ = some (.complex .f64 x2 y2) ∧ wr.drew.cell? ⟨b', o' + g2, none⟩ = some (.complex .f64 u2 v2) := ⟨e1, e2⟩
      refine wp_region_K (fun w' => w'.cell? ⟨b, o + i, none⟩ = some (.complex .f64 x2 y2) ∧ w'.cell? ⟨b', o' + g2, none⟩ = some (.complex .f64 u2 v2)) 13 14 #[false, false, false, false, false, false, false, false, false, false, false, false, false, false] (by kernel_rfl) (by kernel_rfl) (by kernel_rfl) ?_
      refine wpAnyK_take 0 40 (v := ?vb0) rfl (by kernel_rfl) (by kernel_rfl) (by kernel_rfl) (by kernel_rfl) (by kernel_rfl) (fun _ _ _ h => h) rfl (Or.inl ⟨by rfl, ?hb0⟩) (by assumption) ?rb0
      case hb0 => (intro w hSw; go_simp; with_reducible rfl)
      simp only [Act.put, List.setIfInBounds_toArray, List.set_cons_zero, List.set_cons_succ]
      refine wpAnyK_take 1 41 (v := ?vb1) rfl (by kernel_rfl) (by kernel_rfl) (by kernel_rfl) (by kernel_rfl) (by kernel_rfl) (fun _ _ _ h => h) rfl (Or.inl ⟨by rfl, ?hb1⟩) (by assumption) ?rb1
      case hb1 => (intro w hSw; go_simp; with_reducible rfl)
      simp only [Act.put, List.setIfInBounds_toArray, List.set_cons_zero, List.set_cons_succ]
      refine wpAnyK_take 2 42 (v := ?vb2) rfl (by kernel_rfl) (by kernel_rfl) (by kernel_rfl) (by kernel_rfl) (by kernel_rfl) (fun _ _ _ h => h) rfl (Or.inl ⟨by rfl, ?hb2⟩) (by assumption) ?rb2
      case hb2 => (intro w hSw; go_simp; with_reducible rfl)
      simp only [Act.put, List.setIfInBounds_toArray, List.set_cons_zero, List.set_cons_succ]
      refine wpAnyK_take 3 43 (v := ?vb3) rfl (by kernel_rfl) (by kernel_rfl) (by kernel_rfl) (by kernel_rfl) (by kernel_rfl) (fun _ _ _ h => h) rfl (Or.inl ⟨by rfl, ?hb3⟩) (by assumption) ?rb3
      case hb3 => (intro w hSw; go_simp; with_reducible rfl)
      simp only [Act.put, List.setIfInBounds_toArray, List.set_cons_zero, List.set_cons_succ]
      refine wpAnyK_take 4 44 (v := ?vb4) rfl (by kernel_rfl) (by kernel_rfl) (by kernel_rfl) (by kernel_rfl) (by kernel_rfl) (fun _ _ _ h => h) rfl (Or.inl ⟨by rfl, ?hb4⟩) (by assumption) ?rb4
      case hb4 => (intro w hSw; go_simp; with_reducible rfl)
      simp only [Act.put, List.setIfInBounds_toArray, List.set_cons_zero, List.set_cons_succ]
      refine wpAnyK_take 5 45 (v := ?vb5) rfl (by kernel_rfl) (by kernel_rfl) (by kernel_rfl) (by kernel_rfl) (by kernel_rfl) (fun _ _ _ h => h) rfl (Or.inl ⟨by rfl, ?hb5⟩) (by assumption) ?rb5
      case hb5 => (intro w hSw; go_simp; with_reducible rfl)
      simp only [Act.put, List.setIfInBounds_toArray, List.set_cons_zero, List.set_cons_succ]
      refine wpAnyK_take 6 46 (v := ?vb6) rfl (by kernel_rfl) (by kernel_rfl) (by kernel_rfl) (by kernel_rfl) (by kernel_rfl) (fun _ _ _ h => h) rfl (Or.inl ⟨by rfl, ?hb6⟩) (by assumption) ?rb6
      case hb6 => (intro w hSw; go_simp; with_reducible rfl)
      simp only [Act.put, List.setIfInBounds_toArray, List.set_cons_zero, List.set_cons_succ]
      refine wpAnyK_take 7 47 (v := ?vb7) rfl (by kernel_rfl) (by kernel_rfl) (by kernel_rfl) (by kernel_rfl) (by kernel_rfl) (fun _ _ _ h => h) rfl (Or.inl ⟨by rfl, ?hb7⟩) (by assumption) ?rb7
      case hb7 => (intro w hSw; go_simp; with_reducible rfl)
      simp only [Act.put, List.setIfInBounds_toArray, List.set_cons_zero, List.set_cons_succ]
      refine wpAnyK_take 8 48 (v := ?vb8) rfl (by kernel_rfl) (by kernel_rfl) (by kernel_rfl) (by kernel_rfl) (by kernel_rfl) (fun _ _ _ h => h) rfl (Or.inl ⟨by rfl, ?hb8⟩) (by assumption) ?rb8
      case hb8 => (intro w hSw; go_simp; with_reducible rfl)
      simp only [Act.put, List.setIfInBounds_toArray, List.set_cons_zero, List.set_cons_succ]
      refine wpAnyK_take 9 49 (v := ?vb9) rfl (by kernel_rfl) (by kernel_rfl) (by kernel_rfl) (by kernel_rfl) (by kernel_rfl) (fun _ _ _ h => h) rfl (Or.inl ⟨by rfl, ?hb9⟩) (by assumption) ?rb9
      case hb9 => (intro w hSw; go_simp; with_reducible rfl)
      simp only [Act.put, List.setIfInBounds_toArray, List.set_cons_zero, List.set_cons_succ]
      refine wpAnyK_take 10 50 (v := ?vb10) rfl (by kernel_rfl) (by kernel_rfl) (by kernel_rfl) (by kernel_rfl) (by kernel_rfl) (fun _ _ _ h => h) rfl (Or.inl ⟨by rfl, ?hb10⟩) (by assumption) ?rb10
      case hb10 => (intro w hSw; go_simp; with_reducible rfl)
      simp only [Act.put, List.setIfInBounds_toArray, List.set_cons_zero, List.set_cons_succ]
      refine wpAnyK_one 11 (by kernel_rfl) rfl (fun K hK => ?_)
      go_simp
      go_wp2_with (go_at_call 23; refine (HP2.out _).mono ?_; rintro e' w7 ⟨rfl, hw7⟩; subst hw7)
      refine hK.out _ _ (fun _ _ => S0) ?_
      clear hK K
      simp only [List.setIfInBounds_toArray, List.set_cons_zero, List.set_cons_succ]
      refine wpAnyK_take 12 52 (v := ?vb12) rfl (by kernel_rfl) (by kernel_rfl) (by kernel_rfl) (by kernel_rfl) (by kernel_rfl) (fun _ _ _ h => h) rfl (Or.inl ⟨by rfl, ?hb12⟩) (by assumption) ?rb12
      case hb12 => (intro w hSw; go_simp; with_reducible rfl)
      simp only [Act.put, List.setIfInBounds_toArray, List.set_cons_zero, List.set_cons_succ]
      refine wpAnyK_one 13 (by kernel_rfl) rfl (fun K hK => ?_)
      go_simp
      refine hK.out _ _ (fun h => absurd rfl h) ?_
      clear hK K
      simp only [List.setIfInBounds_toArray, List.set_cons_zero, List.set_cons_succ]
      refine wpAnyK_done (by kernel_rfl) ?_ _
      clear S0 e1 e2 HP2 wg2
      go_wp2
      go_roundw
      case rel => exact ⟨i + 1, r3, s3, by omega, by omega, by simp, rfl, R.out, hbw.drew⟩
      case measure => simp [intOf]; omega
    · have hi3 : i = d + 1 := by omega
      have R : Hid (wC c r2 s2 (Py.ts l l' k (n + 1))) := by
        show wC _ _ _ _
        rw [hi3] at hrs
        have hF := F1.out
        have e := Py.ts_far l l' k (d + 1) (n - d) (fun z z1 z2 z3 => by exfalso; omega)
        rw [show d + 1 + (n - d) = n + 1 by omega] at e
        rw [e]
        exact hrs
      have hid2 : ¬ (i : Int) ≤ d := by omega
      clear hrs hi3 H0 hc
      go_wp2
      go_ret
      exact ⟨r2, s2, rfl, R.out, hbw⟩
end Go.Proofs.Ytmbjgakehghdjaa
