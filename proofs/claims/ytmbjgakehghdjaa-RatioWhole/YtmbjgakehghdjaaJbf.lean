/-
  OWN TEXT: the law's polynomials of whole numbers (eddylaw10.whole).
-/
import Derived.Test.YtmbjgakehghdjaaJbe
namespace Go.Proofs.Ytmbjgakehghdjaa
open Go.ChangeShapes Go.WideShapes Go.ChangeAt Go.RowKit
set_option linter.unusedVariables false
attribute [local go_sem] frombits_call tobits_call run_neg run_store_cx
def slen : Value → Nat
  | .slice _ n _ => n
  | _ => 0
set_option maxHeartbeats 8000000 in
theorem whole10 {c : Nat} (hc : c = 1074) (a : Option Addr) (len cap : Nat) (w : World) (h : Ix w a len) (hlen : len ≤ 140737488355328) :
    Calls Try.prog 18 #[.slice a len cap] w fun e w' => ∃ B m cp l, e = .returned (.slice (some ⟨B, 0, none⟩) (m + 1) cp) ∧ Gw c w' B l ∧ l.length = m + 1 ∧ m ≤ 3 ∧ m + 1 ≤ cp ∧ Py.co l m ≠ (0, 0) ∧ (∀ i, E8 (Py.co l i)) ∧ w.heap.size ≤ B ∧ Bw w w' := by
  obtain ⟨i0, hi, hz0, hz1, hz2⟩ := info_parts8 info_c128
  have hu : Try.prog.underlying 22 = some (.slice 27) := by kernel_rfl
  obtain ⟨B, hB⟩ : ∃ B, w.heap.size = B := ⟨_, rfl⟩
  have HB := hide hB
  have HI := hide h
  have HC := hide hc
  clear hB h hc
  go_enter Try.func18, Try.ntmps18
  go_wp2_with fail
  go_loopw [3, 4] (fun v q wr => ∃ (k : Nat) (vals : List Value) (L : List Py.G), k ≤ 4 ∧ q = .int .i64 (2 * (k : Int)) ∧ L.length = k ∧ Vl c vals L ∧ wr.ownsRow B 27 1 v k vals ∧ (∀ i, E8 (Py.co L i)) ∧ Bw w wr) (fun _ q _ => 16 - (intOf q).toNat)
  case atStart => exact ⟨0, [], [], by omega, rfl, rfl, ⟨rfl, fun j hj => by simp at hj⟩, World.ownsRow_nil _ _ _ _, fun i => E8.nought, Bw.refl _⟩
  case round =>
    obtain ⟨k, vals, L, hk, rfl, hL, hV, hown, hle, hbw⟩ := hrel
    have hwlen : ∃ (a' : Option Addr) (cp : Nat), u3 = .slice a' k cp := by
      rcases hown.2 with ⟨e, z⟩ | ⟨g, cp, _, e, _⟩
      · subst z; exact ⟨none, 0, e⟩
      · exact ⟨_, cp, e⟩
    by_cases hgo : 2 * k + 1 < len ∧ k < 4
    · obtain ⟨i, hi0⟩ : ∃ i, i = 2 * k := ⟨_, rfl⟩
      obtain ⟨i1, hi1⟩ : ∃ i1, i1 = i + 1 := ⟨_, rfl⟩
      have hs0 : 2 * (k : Int) = (i : Int) := by omega
      have hs : (i : Int) + 1 = (i1 : Int) := by omega
      have h1 : (i1 : Int) < len := by omega
      have h0 : (i : Int) < len := by omega
      have h7 : (k : Int) < 4 := by omega
      obtain ⟨b, off, rfl, hbs, hcells⟩ := (HI.out).resolve_left (by omega)
      obtain ⟨z1, ez1⟩ := hcells i (by omega)
      obtain ⟨z2, ez2⟩ := hcells i1 (by omega)
      have c1 : wr.cell? ⟨b, off + i, none⟩ = some (.int .i64 z1) := (Below.cell hbw (p := ⟨b, off + i, none⟩) hbs).trans ez1
      have c2 : wr.cell? ⟨b, off + i1, none⟩ = some (.int .i64 z2) := (Below.cell hbw (p := ⟨b, off + i1, none⟩) hbs).trans ez2
      obtain ⟨x, m1, qx, lx, W1⟩ := small10 HC.out z1
      obtain ⟨y, m2, qy, ly, W2⟩ := small10 HC.out z2
      have HW1 := hide W1
      have HW2 := hide W2
      have hbs2 : Hid (b < wr.heap.size) := Nat.lt_of_lt_of_le hbs (Below.size hbw)
      have HRW : Hid (∀ z, u3.ownBlock = some z → w.heap.size ≤ z) := fun z e => by have := (hown.lt z e).1; have := HB.out; omega
      have HNB : Hid (u3.ownBlock ≠ some b) := fun e => by have := HRW.out b e; omega
      have HB2 : Hid (B ≤ wr.heap.size) := by have := HB.out; have := Below.size hbw; show B ≤ _; omega
      obtain ⟨a', cp0, hu3⟩ := hwlen
      have HOA : Hid ((wr.drew.alloc (.cells #[.complex .f64 x y] 27)).ownsRow B 27 1 u3 k vals) := World.ownsRow.alloc (w := wr.drew) hown _
      have HBA : Hid (Bw w (wr.drew.alloc (.cells #[.complex .f64 x y] 27))) := bw_trans hbw.drew (bw_alloc _ _)
      have HCE : Hid ((wr.drew.alloc (.cells #[.complex .f64 x y] 27)).cell? ((⟨wr.heap.size, 0, none⟩ : Addr).add 0) = some (.complex .f64 x y)) := by
        show World.cell? _ (⟨wr.drew.heap.size, 0, none⟩ : Addr) = _
        rw [World.cell?_alloc_at _ _ _ _ rfl]
        rfl
      have HSZ : Hid ((wr.drew.alloc (.cells #[.complex .f64 x y] 27)).heap.size = wr.heap.size + 1) := by show _ = _; simp
      have S1 : (wr.drew.alloc (.cells #[.complex .f64 x y] 27)).cell? ⟨b, off + i, none⟩ = some (.int .i64 z1) ∧ (wr.drew.alloc (.cells #[.complex .f64 x y] 27)).cell? ⟨b, off + i1, none⟩ = some (.int .i64 z2) :=
        ⟨(World.cell?_alloc_past _ _ _ hbs2.out).trans c1, (World.cell?_alloc_past _ _ _ hbs2.out).trans c2⟩
      have HV2 := hide (hV.snoc ⟨qx, qy⟩ (g := (m1, m2)))
      have HLE : Hid (∀ j, E8 (Py.co (L ++ [(m1, m2)]) j)) := fun j => by
        rw [Py.co_append]
        by_cases z : j < L.length
        · rw [if_pos z]; exact hle j
        · rw [if_neg z]
          generalize j - L.length = t
          cases t with
          | zero => exact ⟨lx, ly⟩
          | succ t => exact E8.nought
      have HLL := hide hL
      have wg : IntKind.i64.wrap (i1 : Int) = i1 := by rw [IntKind.wrap_i64]; omega
      have HI0 := hide hi0
      subst hu3
      clear hV hown hle W1 W2 qx qy lx ly hL hi1 hi0 ez1 ez2 hcells hbs HI hgo
      rw [hs0]
      clear hs0
      go_wp2_with fail
      have S0 : wr.drew.cell? ⟨b, off + i, none⟩ = some (.int .i64 z1) ∧ wr.drew.cell? ⟨b, off + i1, none⟩ = some (.int .i64 z2) := ⟨c1, c2⟩
      generalize hWS : wr.heap.size = WS at HCE HSZ HB2 hbs2 ⊢
      refine wp_region_K (fun w' => w'.cell? ⟨b, off + i, none⟩ = some (.int .i64 z1) ∧ w'.cell? ⟨b, off + i1, none⟩ = some (.int .i64 z2)) 15 16 #[false, false, false, false, false, false, false, false, false, false, false, false, false, false, false, false] (by kernel_rfl) (by kernel_rfl) (by kernel_rfl) ?_
      refine wpAnyK_take 0 17 (v := ?v0) rfl (by kernel_rfl) (by kernel_rfl) (by kernel_rfl) (by kernel_rfl) (by kernel_rfl) (fun _ _ _ h => h) rfl (Or.inl ⟨by rfl, ?h0⟩) (by assumption) ?r0
      case h0 => (intro w hSw; go_simp; with_reducible rfl)
      simp only [Act.put, List.setIfInBounds_toArray, List.set_cons_zero, List.set_cons_succ]
      refine wpAnyK_take 1 18 (v := ?v1) rfl (by kernel_rfl) (by kernel_rfl) (by kernel_rfl) (by kernel_rfl) (by kernel_rfl) (fun _ _ _ h => h) rfl (Or.inl ⟨by rfl, ?h1⟩) (by assumption) ?r1
      case h1 => (intro w hSw; go_simp; with_reducible rfl)
      simp only [Act.put, List.setIfInBounds_toArray, List.set_cons_zero, List.set_cons_succ]
      refine wpAnyK_take 2 19 (v := ?v2) rfl (by kernel_rfl) (by kernel_rfl) (by kernel_rfl) (by kernel_rfl) (by kernel_rfl) (fun _ _ _ h => h) rfl (Or.inl ⟨by rfl, ?h2⟩) (by assumption) ?r2
      case h2 => (intro w hSw; go_simp; with_reducible rfl)
      simp only [Act.put, List.setIfInBounds_toArray, List.set_cons_zero, List.set_cons_succ]
      refine wpAnyK_take 3 20 (v := ?v3) rfl (by kernel_rfl) (by kernel_rfl) (by kernel_rfl) (by kernel_rfl) (by kernel_rfl) (fun _ _ _ h => h) rfl (Or.inl ⟨by rfl, ?h3⟩) (by assumption) ?r3
      case h3 => (intro w hSw; go_simp; with_reducible rfl)
      simp only [Act.put, List.setIfInBounds_toArray, List.set_cons_zero, List.set_cons_succ]
      refine wpAnyK_take 4 21 (v := ?v4) rfl (by kernel_rfl) (by kernel_rfl) (by kernel_rfl) (by kernel_rfl) (by kernel_rfl) (fun _ _ _ h => h) rfl (Or.inl ⟨by rfl, ?h4⟩) (by assumption) ?r4
      case h4 => (intro w hSw; go_simp; with_reducible rfl)
      simp only [Act.put, List.setIfInBounds_toArray, List.set_cons_zero, List.set_cons_succ]
      refine wpAnyK_take 6 23 (v := ?v6) rfl (by kernel_rfl) (by kernel_rfl) (by kernel_rfl) (by kernel_rfl) (by kernel_rfl) (fun _ _ _ h => h) rfl (Or.inl ⟨by rfl, ?h6⟩) (by assumption) ?r6
      case h6 => (intro w hSw; go_simp; with_reducible rfl)
      simp only [Act.put, List.setIfInBounds_toArray, List.set_cons_zero, List.set_cons_succ]
      refine wpAnyK_take 7 24 (v := ?v7) rfl (by kernel_rfl) (by kernel_rfl) (by kernel_rfl) (by kernel_rfl) (by kernel_rfl) (fun _ _ _ h => h) rfl (Or.inl ⟨by rfl, ?h7⟩) (by assumption) ?r7
      case h7 => (intro w hSw; go_simp; with_reducible rfl)
      simp only [Act.put, List.setIfInBounds_toArray, List.set_cons_zero, List.set_cons_succ]
      refine wpAnyK_take 8 25 (v := ?v8) rfl (by kernel_rfl) (by kernel_rfl) (by kernel_rfl) (by kernel_rfl) (by kernel_rfl) (fun _ _ _ h => h) rfl (Or.inl ⟨by rfl, ?h8⟩) (by assumption) ?r8
      case h8 => (intro w hSw; go_simp; with_reducible rfl)
      simp only [Act.put, List.setIfInBounds_toArray, List.set_cons_zero, List.set_cons_succ]
      refine wpAnyK_take 9 26 (v := ?v9) rfl (by kernel_rfl) (by kernel_rfl) (by kernel_rfl) (by kernel_rfl) (by kernel_rfl) (fun _ _ _ h => h) rfl (Or.inl ⟨by rfl, ?h9⟩) (by assumption) ?r9
      case h9 => (intro w hSw; go_simp; with_reducible rfl)
      simp only [Act.put, List.setIfInBounds_toArray, List.set_cons_zero, List.set_cons_succ]
      refine wpAnyK_take 10 27 (v := ?v10) rfl (by kernel_rfl) (by kernel_rfl) (by kernel_rfl) (by kernel_rfl) (by kernel_rfl) (fun _ _ _ h => h) rfl (Or.inl ⟨by rfl, ?h10⟩) (by assumption) ?r10
      case h10 => (intro w hSw; go_simp; with_reducible rfl)
      simp only [Act.put, List.setIfInBounds_toArray, List.set_cons_zero, List.set_cons_succ]
      refine wpAnyK_one 5 (by kernel_rfl) rfl (fun K hK => ?_)
      go_simp
      go_wp2_with (go_at_call 19; refine (HW1.out _).mono ?_; rintro e' w7 ⟨rfl, hw7⟩; subst hw7)
      refine hK.out _ _ (fun _ _ => S0) ?_
      clear hK K
      simp only [List.setIfInBounds_toArray, List.set_cons_zero, List.set_cons_succ]
      refine wpAnyK_one 11 (by kernel_rfl) rfl (fun K hK => ?_)
      go_simp
      go_wp2_with (go_at_call 19; refine (HW2.out _).mono ?_; rintro e' w7 ⟨rfl, hw7⟩; subst hw7)
      refine hK.out _ _ (fun _ _ => S0) ?_
      clear hK K
      simp only [List.setIfInBounds_toArray, List.set_cons_zero, List.set_cons_succ]
      refine wpAnyK_take 12 29 (v := ?v12) rfl (by kernel_rfl) (by kernel_rfl) (by kernel_rfl) (by kernel_rfl) (by kernel_rfl) (fun _ _ _ h => h) rfl (Or.inl ⟨by rfl, ?h12⟩) (by assumption) ?r12
      case h12 => (intro w hSw; go_simp; with_reducible rfl)
      simp only [Act.put, List.setIfInBounds_toArray, List.set_cons_zero, List.set_cons_succ]
      refine wpAnyK_one 13 (by kernel_rfl) rfl (fun K hK => ?_)
      go_simp
      refine hK.out _ _ (fun _ _ => S1) ?_
      clear hK K
      simp only [List.setIfInBounds_toArray, List.set_cons_zero, List.set_cons_succ]
      refine wpAnyK_one 14 (by kernel_rfl) rfl (fun K hK => ?_)
      rw [if_pos (by rfl)]
      refine wp_append_lies _ _ _ 22 (by rfl) B 27 i0 (.complex .f64 0 0) 1 16 hu hi hz0 hz1 hz2 rfl (by decide) _ k vals (by rfl) HOA.out ⟨WS, 0, none⟩ 1 1 [.complex .f64 x y] (by rfl) rfl ?c1 ?c2 (by decide) ?c3 ?c4 ?c5 (WS + 1) ?c6 ?_
      case c1 =>
        intro j u hj
        match j, hj with
        | 0, hj => simp at hj; subst hj; exact HCE.out
      case c2 => intro u hu; simp at hu; subst hu; rfl
      case c3 => unfold maxLen; omega
      case c4 => omega
      case c5 => exact Nat.le_trans HB2.out (Nat.le_trans (Nat.le_succ _) (Nat.le_of_eq HSZ.out.symm))
      case c6 => exact HSZ.out
      intro g cp w9 hown' hgrow hat hlt
      refine hK.out _ _ (fun _ _ => ⟨hgrow.cell S1.1 ?d1, hgrow.cell S1.2 ?d1⟩) ?_
      case d1 => exact fun e => HNB.out e.symm
      clear hK K
      simp only [List.setIfInBounds_toArray, List.set_cons_zero, List.set_cons_succ]
      refine wpAnyK_one 15 (by kernel_rfl) rfl (fun K hK => ?_)
      go_simp
      refine hK.out _ _ (fun h => absurd rfl h) ?_
      clear hK K
      simp only [List.setIfInBounds_toArray, List.set_cons_zero, List.set_cons_succ]
      refine wpAnyK_done (by kernel_rfl) ?_ _
      have R : Hid (w9.ownsRow B 27 1 (.slice (some ⟨g, 0, none⟩) (k + 1) cp) (k + 1) (vals ++ [.complex .f64 x y]) ∧ Bw w w9) := by
        refine ⟨hown', Below.grown HBA.out hgrow ?_ HRW.out⟩
        exact Nat.le_trans (Nat.le_of_eq HB.out) (Nat.le_trans HB2.out (Nat.le_trans (Nat.le_succ _) (Nat.le_of_eq HSZ.out.symm)))
      clear hown' hgrow hat hlt S0 S1 HCE HSZ HOA HBA c1 c2 wg HW1 HW2 hs
      go_wp2
      go_roundw
      case rel => exact ⟨k + 1, _, _, by omega, by rw [show 2 * ((k + 1 : Nat) : Int) = (i : Int) + 2 by have := HI0.out; omega], by rw [List.length_append, HLL.out]; rfl, HV2.out, R.out.1, HLE.out, R.out.2⟩
      case measure => simp [intOf]; have := HI0.out; omega
    · by_cases hA : 2 * k + 1 < len
      · have hkk : k = 4 := by omega
        have t1 : 2 * (k : Int) + 1 < len := by omega
        have t2 : ¬ (k : Int) < 4 := by omega
        have hk0 : 0 < k := by omega
        clear hgo hA hkk hwlen
        obtain ⟨g, cp, hu3, hgB, hgl⟩ := hown.form (by omega)
        subst hu3
        have hG := hV.gw hL hown
        have hcp : k ≤ cp := by
          rcases hown.2 with ⟨e, _⟩ | ⟨g', cp', _, e, _, _, h, _⟩
          · cases e
          · cases e; exact h
        have HG := hide hG
        have HLL := hide hL
        have HLE := hide hle
        have hgw : w.heap.size ≤ g := by have := HB.out; omega
        clear hown hV hL hle hG
        go_wp2_with fail
        go_loopw [3] (fun v wr' => ∃ t : Nat, t ≤ k ∧ v = .slice (some ⟨g, 0, none⟩) t cp ∧ Gw c wr' g L ∧ Bw w wr') (fun v _ => slen v)
        case atStart => exact ⟨k, Nat.le_refl _, rfl, HG.out, hbw⟩
        case round =>
          obtain ⟨t, ht, rfl, hG, hbw2⟩ := hrel
          clear hbw HG
          cases t with
          | zero =>
            have G0 : Gw c (wr.alloc (.cells #[.complex .f64 4607182418800017408 0] 27)) wr.heap.size [(1, 0)] := by
              refine ⟨⟨by simp, fun i hi => ?_⟩, fun i => World.frozen?_alloc_at _ _ _ _ rfl⟩
              match i, hi with
              | 0, _ => exact ⟨4607182418800017408, 0, by simp, wC.one HC.out⟩
            have HG0 := hide G0
            have b2 := bw_trans hbw2 (bw_alloc wr (.cells #[.complex .f64 4607182418800017408 0] 27))
            have hsz := Below.size hbw2
            clear G0 hG
            go_wp2_with (go_at_call 7; refine (l10 _ _).mono ?_; rintro e' w7 ⟨rfl, hw7⟩; subst hw7)
            go_ret
            exact ⟨_, 0, 1, [(1, 0)], rfl, HG0.out, rfl, by omega, by omega, by decide, fun i => by cases i; exact ⟨by decide, by decide⟩; exact E8.nought, hsz, b2⟩
          | succ m =>
            obtain ⟨x, y, e1, q1⟩ := hG.1.2 m (by have := HLL.out; omega)
            rw [Nat.zero_add] at e1
            have CE := fun t w => ceq10 q1 (wC.nought c) t w
            have hj1 : ((m : Int) + 1 == 0) = false := by rw [beq_eq_false_iff_ne]; omega
            have hj2 : 0 < (m : Int) + 1 := by omega
            have hj3 : (m : Int) ≤ cp := by omega
            have HG := hide hG
            clear hG q1
            by_cases z : Py.co L m = (0, 0)
            · have CT : ∀ t w, (binOp .eql t (.complex .f64 x y) (.complex .f64 0 0)).run Try.prog w = .ok (.bool true) w := fun t w => by rw [CE, decide_eq_true z]
              clear CE z
              go_wp2
              go_roundw
              case rel => exact ⟨m, by omega, rfl, HG.out, hbw2⟩
              case measure => simp [slen]
            · have CT : ∀ t w, (binOp .eql t (.complex .f64 x y) (.complex .f64 0 0)).run Try.prog w = .ok (.bool false) w := fun t w => by rw [CE, decide_eq_false z]
              have HZ := hide z
              clear CE z
              go_wp2
              go_ret
              refine ⟨g, m, cp, L.take (m + 1), rfl, HG.out.take _, by rw [List.length_take, HLL.out]; omega, by omega, by omega, ?_, fun i => ?_, hgw, hbw2⟩
              · rw [Py.co_take, if_pos (by omega)]; exact HZ.out
              · rw [Py.co_take]
                split
                · exact HLE.out i
                · exact E8.nought
      · have t1 : ¬ 2 * (k : Int) + 1 < len := by omega
        clear hgo hA
        by_cases hk0 : k = 0
        · subst hk0
          obtain ⟨a', cp0, hu3⟩ := hwlen
          subst hu3
          have G0 : Gw c (wr.alloc (.cells #[.complex .f64 4607182418800017408 0] 27)) wr.heap.size [(1, 0)] := by
            refine ⟨⟨by simp, fun i hi => ?_⟩, fun i => World.frozen?_alloc_at _ _ _ _ rfl⟩
            match i, hi with
            | 0, _ => exact ⟨4607182418800017408, 0, by simp, wC.one HC.out⟩
          have HG0 := hide G0
          have b2 := bw_trans hbw (bw_alloc wr (.cells #[.complex .f64 4607182418800017408 0] 27))
          have hsz := Below.size hbw
          clear G0 hown hV hL hle
          go_wp2_with fail
          go_loopw [3] (fun v wr' => v = .slice a' 0 cp0 ∧ wr' = wr) (fun v _ => slen v)
          case atStart => exact ⟨rfl, rfl⟩
          case round =>
            obtain ⟨rfl, rfl⟩ := hrel
            go_wp2_with (go_at_call 7; refine (l10 _ _).mono ?_; rintro e' w7 ⟨rfl, hw7⟩; subst hw7)
            go_ret
            exact ⟨_, 0, 1, [(1, 0)], rfl, HG0.out, rfl, by omega, by omega, by decide, fun i => by cases i; exact ⟨by decide, by decide⟩; exact E8.nought, hsz, b2⟩
        · replace hk0 : 0 < k := by omega
          clear hwlen
          obtain ⟨g, cp, hu3, hgB, hgl⟩ := hown.form (by omega)
          subst hu3
          have hG := hV.gw hL hown
          have hcp : k ≤ cp := by
            rcases hown.2 with ⟨e, _⟩ | ⟨g', cp', _, e, _, _, h, _⟩
            · cases e
            · cases e; exact h
          have HG := hide hG
          have HLL := hide hL
          have HLE := hide hle
          have hgw : w.heap.size ≤ g := by have := HB.out; omega
          clear hown hV hL hle hG
          go_wp2_with fail
          go_loopw [3] (fun v wr' => ∃ t : Nat, t ≤ k ∧ v = .slice (some ⟨g, 0, none⟩) t cp ∧ Gw c wr' g L ∧ Bw w wr') (fun v _ => slen v)
          case atStart => exact ⟨k, Nat.le_refl _, rfl, HG.out, hbw⟩
          case round =>
            obtain ⟨t, ht, rfl, hG, hbw2⟩ := hrel
            clear hbw HG
            cases t with
            | zero =>
              have G0 : Gw c (wr.alloc (.cells #[.complex .f64 4607182418800017408 0] 27)) wr.heap.size [(1, 0)] := by
                refine ⟨⟨by simp, fun i hi => ?_⟩, fun i => World.frozen?_alloc_at _ _ _ _ rfl⟩
                match i, hi with
                | 0, _ => exact ⟨4607182418800017408, 0, by simp, wC.one HC.out⟩
              have HG0 := hide G0
              have b2 := bw_trans hbw2 (bw_alloc wr (.cells #[.complex .f64 4607182418800017408 0] 27))
              have hsz := Below.size hbw2
              clear G0 hG
              go_wp2_with (go_at_call 7; refine (l10 _ _).mono ?_; rintro e' w7 ⟨rfl, hw7⟩; subst hw7)
              go_ret
              exact ⟨_, 0, 1, [(1, 0)], rfl, HG0.out, rfl, by omega, by omega, by decide, fun i => by cases i; exact ⟨by decide, by decide⟩; exact E8.nought, hsz, b2⟩
            | succ m =>
              obtain ⟨x, y, e1, q1⟩ := hG.1.2 m (by have := HLL.out; omega)
              rw [Nat.zero_add] at e1
              have CE := fun t w => ceq10 q1 (wC.nought c) t w
              have hj1 : ((m : Int) + 1 == 0) = false := by rw [beq_eq_false_iff_ne]; omega
              have hj2 : 0 < (m : Int) + 1 := by omega
              have hj3 : (m : Int) ≤ cp := by omega
              have HG := hide hG
              clear hG q1
              by_cases z : Py.co L m = (0, 0)
              · have CT : ∀ t w, (binOp .eql t (.complex .f64 x y) (.complex .f64 0 0)).run Try.prog w = .ok (.bool true) w := fun t w => by rw [CE, decide_eq_true z]
                clear CE z
                go_wp2
                go_roundw
                case rel => exact ⟨m, by omega, rfl, HG.out, hbw2⟩
                case measure => simp [slen]
              · have CT : ∀ t w, (binOp .eql t (.complex .f64 x y) (.complex .f64 0 0)).run Try.prog w = .ok (.bool false) w := fun t w => by rw [CE, decide_eq_false z]
                have HZ := hide z
                clear CE z
                go_wp2
                go_ret
                refine ⟨g, m, cp, L.take (m + 1), rfl, HG.out.take _, by rw [List.length_take, HLL.out]; omega, by omega, by omega, ?_, fun i => ?_, hgw, hbw2⟩
                · rw [Py.co_take, if_pos (by omega)]; exact HZ.out
                · rw [Py.co_take]
                  split
                  · exact HLE.out i
                  · exact E8.nought
end Go.Proofs.Ytmbjgakehghdjaa
