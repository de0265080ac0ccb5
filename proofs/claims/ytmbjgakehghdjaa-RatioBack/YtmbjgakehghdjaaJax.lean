/-
  OWN TEXT: package poly: Mul, of lists of whole complex numbers.
-/
import Derived.Test.YtmbjgakehghdjaaJaw
namespace Go.Proofs.Ytmbjgakehghdjaa
open Go.ChangeShapes Go.WideShapes Go.ChangeAt Go.RowKit
set_option linter.unusedVariables false
attribute [local go_sem] frombits_call tobits_call run_neg run_store_cx
theorem wrap_small (g : Nat) (h : g < 1000000) : IntKind.i64.wrap (g : Int) = g := by
  rw [IntKind.wrap_i64]
  omega
theorem ts_begin (a b : List Py.G) (k f : Nat) (h : k < f + b.length) (h2 : f = 0 ∨ k = f + (b.length - 1)) (hf : f ≤ k) : Py.ts a b k (f + 1) = Py.gm (Py.co a f) (Py.co b (k - f)) := by
  rw [Py.ts, if_pos hf]
  have := Py.ts_far a b k 0 f (fun i _ q1 q2 => by rw [Py.co_out (l := b) (by omega), Py.gm_nought])
  rw [Nat.zero_add] at this
  rw [this]
  exact Py.nought_ga _
set_option maxHeartbeats 4000000 in
theorem prods8 {c : Nat} (hc : c = 1074) {w : World} {b o cap n b' o' cap' n' A A' k : Nat} {l l' : List Py.G} (hn : l.length = n + 1) (hn' : l'.length = n' + 1) (h64 : n ≤ 64) (h64' : n' ≤ 64) (h : Gl c w b o l) (h' : Gl c w b' o' l') (hl : ∀ i, Py.Le (Py.co l i) A) (hl' : ∀ i, Py.Le (Py.co l' i) A') (hA : (n + 1) * (A * A') ≤ 1099511627776) (hk : k ≤ n + n') :
    Calls Try.prog 76 #[.slice (some ⟨b, o, none⟩) (n + 1) cap, .slice (some ⟨b', o', none⟩) (n' + 1) cap', .int .i64 k] w fun e w' => ∃ r s, e = .returned (.complex .f64 r s) ∧ wC c r s (Py.ts l l' k (n + 1)) ∧ Bw w w' := by
  obtain ⟨f, hf0⟩ : ∃ f, f = k - n' := ⟨_, rfl⟩
  obtain ⟨d, hd0⟩ : ∃ d, d = min k n := ⟨_, rfl⟩
  have m1 : (if (k : Int) - ((n' : Int) + 1) + 1 > 0 then (k : Int) - ((n' : Int) + 1) + 1 else 0) = (f : Int) := by
    split <;> omega
  have m2 : (if (n : Int) + 1 - 1 < (k : Int) then (n : Int) + 1 - 1 else (k : Int)) = (d : Int) := by
    split <;> omega
  have m3 : (if (n : Int) < (k : Int) then (n : Int) else (k : Int)) = (d : Int) := by
    split <;> omega
  have m5 : (if n < k then (n : Int) else (k : Int)) = (d : Int) := by
    split <;> omega
  have m4 : (if 0 < (k : Int) - ((n' : Int) + 1) + 1 then (k : Int) - ((n' : Int) + 1) + 1 else 0) = (f : Int) := by
    split <;> omega
  obtain ⟨g, hg0⟩ : ∃ g, k = f + g := ⟨k - f, by omega⟩
  have F1 : Hid (g ≤ n' ∧ (f = 0 ∨ g = n') ∧ f ≤ n ∧ d ≤ n ∧ d ≤ k ∧ (d = k ∨ d = n) ∧ f ≤ d) := by show _ ∧ _; omega
  clear m1 m2 hf0 hd0
  have HK := hide hg0
  have hfn : (f : Int) < (n : Int) + 1 := by have := F1.out; omega
  have hgn : (g : Int) < (n' : Int) + 1 := by have := F1.out; omega
  have hsub : (k : Int) - f = g := by omega
  clear hg0
  obtain ⟨x, y, e1, q1⟩ := h.2 f (by have := F1.out; omega)
  obtain ⟨u, v, e2, q2⟩ := h'.2 g (by have := F1.out; omega)
  obtain ⟨r, s, q3, P⟩ := pmul8 hc q1 q2 (hl f) (hl' g) (by
    have : 1 * (A * A') ≤ (n + 1) * (A * A') := Nat.mul_le_mul_right _ (by omega)
    omega)
  have HP := hide P
  have H0 : Hid (wC c r s (Py.ts l l' k (f + 1))) := by
    show wC _ _ _ _
    rw [ts_begin l l' k f (by have := F1.out; have := HK.out; omega) (by have := F1.out; have := HK.out; omega) (by have := HK.out; omega), show k - f = g by have := HK.out; omega]
    exact q3
  have HG := hide h
  have HG' := hide h'
  have HL := hide hl
  have HL' := hide hl'
  have HN := hide hn
  have HN' := hide hn'
  have HA := hide hA
  clear h h' hl hl' q1 q2 q3 P hn hn' hA hk
  go_enter Try.func76, Try.ntmps76
  go_wp2_with fail
  have wg : IntKind.i64.wrap (g : Int) = g := wrap_small g (by omega)
  have S0 : w.drew.cell? ⟨b, o + f, none⟩ = some (.complex .f64 x y) ∧ w.drew.cell? ⟨b', o' + g, none⟩ = some (.complex .f64 u v) := ⟨e1, e2⟩
  refine wp_region_K (fun w' => w'.cell? ⟨b, o + f, none⟩ = some (.complex .f64 x y) ∧ w'.cell? ⟨b', o' + g, none⟩ = some (.complex .f64 u v)) 11 12 #[false, false, false, false, false, false, false, false, false, false, false, false] (by kernel_rfl) (by kernel_rfl) (by kernel_rfl) ?_
  refine wpAnyK_take 0 22 (v := ?v0) rfl (by kernel_rfl) (by kernel_rfl) (by kernel_rfl) (by kernel_rfl) (by kernel_rfl) (fun _ _ _ h => h) rfl (Or.inl ⟨by rfl, ?h0⟩) (by assumption) ?r0
  case h0 => (intro w hSw; go_simp; with_reducible rfl)
  simp only [Act.put, List.setIfInBounds_toArray, List.set_cons_zero, List.set_cons_succ]
  refine wpAnyK_take 1 23 (v := ?v1) rfl (by kernel_rfl) (by kernel_rfl) (by kernel_rfl) (by kernel_rfl) (by kernel_rfl) (fun _ _ _ h => h) rfl (Or.inl ⟨by rfl, ?h1⟩) (by assumption) ?r1
  case h1 => (intro w hSw; go_simp; with_reducible rfl)
  simp only [Act.put, List.setIfInBounds_toArray, List.set_cons_zero, List.set_cons_succ]
  refine wpAnyK_take 2 24 (v := ?v2) rfl (by kernel_rfl) (by kernel_rfl) (by kernel_rfl) (by kernel_rfl) (by kernel_rfl) (fun _ _ _ h => h) rfl (Or.inl ⟨by rfl, ?h2⟩) (by assumption) ?r2
  case h2 => (intro w hSw; go_simp; with_reducible rfl)
  simp only [Act.put, List.setIfInBounds_toArray, List.set_cons_zero, List.set_cons_succ]
  refine wpAnyK_take 3 25 (v := ?v3) rfl (by kernel_rfl) (by kernel_rfl) (by kernel_rfl) (by kernel_rfl) (by kernel_rfl) (fun _ _ _ h => h) rfl (Or.inl ⟨by rfl, ?h3⟩) (by assumption) ?r3
  case h3 => (intro w hSw; go_simp; with_reducible rfl)
  simp only [Act.put, List.setIfInBounds_toArray, List.set_cons_zero, List.set_cons_succ]
  refine wpAnyK_take 4 26 (v := ?v4) rfl (by kernel_rfl) (by kernel_rfl) (by kernel_rfl) (by kernel_rfl) (by kernel_rfl) (fun _ _ _ h => h) rfl (Or.inl ⟨by rfl, ?h4⟩) (by assumption) ?r4
  case h4 => (intro w hSw; go_simp; with_reducible rfl)
  simp only [Act.put, List.setIfInBounds_toArray, List.set_cons_zero, List.set_cons_succ]
  refine wpAnyK_take 5 27 (v := ?v5) rfl (by kernel_rfl) (by kernel_rfl) (by kernel_rfl) (by kernel_rfl) (by kernel_rfl) (fun _ _ _ h => h) rfl (Or.inl ⟨by rfl, ?h5⟩) (by assumption) ?r5
  case h5 => (intro w hSw; go_simp; with_reducible rfl)
  simp only [Act.put, List.setIfInBounds_toArray, List.set_cons_zero, List.set_cons_succ]
  refine wpAnyK_take 6 28 (v := ?v6) rfl (by kernel_rfl) (by kernel_rfl) (by kernel_rfl) (by kernel_rfl) (by kernel_rfl) (fun _ _ _ h => h) rfl (Or.inl ⟨by rfl, ?h6⟩) (by assumption) ?r6
  case h6 => (intro w hSw; go_simp; with_reducible rfl)
  simp only [Act.put, List.setIfInBounds_toArray, List.set_cons_zero, List.set_cons_succ]
  refine wpAnyK_take 7 29 (v := ?v7) rfl (by kernel_rfl) (by kernel_rfl) (by kernel_rfl) (by kernel_rfl) (by kernel_rfl) (fun _ _ _ h => h) rfl (Or.inl ⟨by rfl, ?h7⟩) (by assumption) ?r7
  case h7 => (intro w hSw; go_simp; with_reducible rfl)
  simp only [Act.put, List.setIfInBounds_toArray, List.set_cons_zero, List.set_cons_succ]
  refine wpAnyK_take 8 30 (v := ?v8) rfl (by kernel_rfl) (by kernel_rfl) (by kernel_rfl) (by kernel_rfl) (by kernel_rfl) (fun _ _ _ h => h) rfl (Or.inl ⟨by rfl, ?h8⟩) (by assumption) ?r8
  case h8 => (intro w hSw; go_simp; with_reducible rfl)
  simp only [Act.put, List.setIfInBounds_toArray, List.set_cons_zero, List.set_cons_succ]
  refine wpAnyK_take 9 31 (v := ?v9) rfl (by kernel_rfl) (by kernel_rfl) (by kernel_rfl) (by kernel_rfl) (by kernel_rfl) (fun _ _ _ h => h) rfl (Or.inl ⟨by rfl, ?h9⟩) (by assumption) ?r9
  case h9 => (intro w hSw; go_simp; with_reducible rfl)
  simp only [Act.put, List.setIfInBounds_toArray, List.set_cons_zero, List.set_cons_succ]
  refine wpAnyK_one 10 (by kernel_rfl) rfl (fun K hK => ?_)
  go_simp
  go_wp2_with (go_at_call 23; refine (HP.out _).mono ?_; rintro e' w7 ⟨rfl, hw7⟩; subst hw7)
  refine hK.out _ _ (fun _ _ => S0) ?_
  clear hK K
  simp only [List.setIfInBounds_toArray, List.set_cons_zero, List.set_cons_succ]
  refine wpAnyK_one 11 (by kernel_rfl) rfl (fun K hK => ?_)
  go_simp
  refine hK.out _ _ (fun h => absurd rfl h) ?_
  clear hK K
  simp only [List.setIfInBounds_toArray, List.set_cons_zero, List.set_cons_succ]
  refine wpAnyK_done (by kernel_rfl) ?_ _
  clear S0 e1 e2 HP wg
  go_wp2
  go_loopw [9, 10] (fun v i wr => ∃ (j r s : Nat), f + 1 ≤ j ∧ j ≤ d + 1 ∧ i = .int .i64 j ∧ v = .complex .f64 r s ∧ wC c r s (Py.ts l l' k j) ∧ Bw w wr) (fun _ i _ => d + 1 - (intOf i).toNat)
  case atStart => exact ⟨f + 1, r, s, Nat.le_refl _, by have := F1.out; omega, by simp, rfl, H0.out, (Bw.refl _).drew⟩
  case round =>
    obtain ⟨i, r2, s2, hi1, hi2, rfl, rfl, hrs, hbw⟩ := hrel
    by_cases hid : i < d + 1
    · obtain ⟨g2, hg2⟩ : ∃ g2, k = i + g2 := ⟨k - i, by have := F1.out; omega⟩
      have hin : (i : Int) < (n : Int) + 1 := by have := F1.out; omega
      have hgn2 : (g2 : Int) < (n' : Int) + 1 := by have := F1.out; have := HK.out; omega
      have hsub2 : (k : Int) - i = g2 := by omega
      have hid2 : (i : Int) ≤ d := by omega
      obtain ⟨x2, y2, e1, q1⟩ := (HG.out.bw hbw).2 i (by have := HN.out; omega)
      obtain ⟨u2, v2, e2, q2⟩ := (HG'.out.bw hbw).2 g2 (by have := HN'.out; omega)
      have b0 : 1 * (A * A') ≤ (n + 1) * (A * A') := Nat.mul_le_mul_right _ (by omega)
      have b1 : i * (A * A') + A * A' ≤ (n + 1) * (A * A') := by
        have : (i + 1) * (A * A') ≤ (n + 1) * (A * A') := Nat.mul_le_mul_right _ (by omega)
        rwa [Nat.add_mul, Nat.one_mul] at this
      obtain ⟨p2, p3, q3, P2⟩ := pmul8 hc q1 q2 (HL.out i) (HL'.out g2) (by have := HA.out; omega)
      obtain ⟨r3, s3, q4, E⟩ := c_add hc hrs q3 (Py.ts_le HL.out HL'.out k i) ((HL.out i).mul (HL'.out g2)) (by have := HA.out; omega)
      have HP2 := hide P2
      have R : Hid (wC c r3 s3 (Py.ts l l' k (i + 1))) := by
        show wC _ _ _ _
        rw [Py.ts, if_pos (by omega), show k - i = g2 by omega]
        exact q4
      clear q1 q2 q3 q4 P2 hrs b0 b1 hg2 H0
      go_wp2_with fail
      have wg2 : IntKind.i64.wrap (g2 : Int) = g2 := wrap_small g2 (by omega)
      have S0 : wr.drew.cell? ⟨b, o + i, none⟩ = some (.complex .f64 x2 y2) ∧ wr.drew.cell? ⟨b', o' + g2, none⟩ = some (.complex .f64 u2 v2) := ⟨e1, e2⟩
      refine wp_region_K (fun w' => w'.cell? ⟨b, o + i, none⟩ = some (.complex .f64 x2 y2) ∧ w'.cell? ⟨b', o' + g2, none⟩ = some (.complex .f64 u2 v2)) 13 14 #[false, false, false, false, false, false, false, false, false, false, false, false, false, false] (by kernel_rfl) (by kernel_rfl) (by kernel_rfl) ?_
      refine wpAnyK_take 0 40 (v := ?vb0) rfl (by kernel_rfl) (by kernel_rfl) (by kernel_rfl) (by kernel_rfl) (by kernel_rfl) (fun _ _ _ h => h) rfl (Or.inl ⟨by rfl, ?hb0⟩) (by assumption) ?rb0
      case hb0 => (intro w hSw; go_simp; with_reducible rfl)
      simp only [Act.put, List.setIfInBounds_toArray, List.set_cons_zero, List.set_cons_succ]
      refine wpAnyK_take 1 41 (v := ?vb1) rfl (by kernel_rfl) (by kernel_rfl) (by kernel_rfl) (by kernel_rfl) (by kernel_rfl) (fun _ _ _ h => h) rfl (Or.inl ⟨by rfl, ?hb1⟩) (by assumption) ?rb1
      case hb1 => (intro w hSw; go_simp; with_reducible rfl)
      simp only [Act.put, List.setIfInBounds_toArray, List.set_cons_zero, List.set_cons_succ]
      refine wpAnyK_take 2 42 (v := ?vb2) rfl (by kernel_rfl) (by kernel_rfl) (by kernel_rfl) (by kernel_rfl) (by kernel_rfl) (fun _ _ _ h => h) rfl (Or.inl ⟨by rfl, ?hb2⟩) (by assumption) ?rb2
      case hb2 => (intro w hSw; go_simp; with_reducible rfl)
      simp only [Act.put, List.setIfInBounds_toArray, List.set_cons_zero, List.set_cons_succ]
      refine wpAnyK_take 3 43 (v := ?vb3) rfl (by kernel_rfl) (by kernel_rfl) (by kernel_rfl) (by kernel_rfl) (by kernel_rfl) (fun _ _ _ h => h) rfl (Or.inl ⟨by rfl, ?hb3⟩) (by assumption) ?rb3
      case hb3 => (intro w hSw; go_simp; with_reducible rfl)
      simp only [Act.put, List.setIfInBounds_toArray, List.set_cons_zero, List.set_cons_succ]
      refine wpAnyK_take 4 44 (v := ?vb4) rfl (by kernel_rfl) (by kernel_rfl) (by kernel_rfl) (by kernel_rfl) (by kernel_rfl) (fun _ _ _ h => h) rfl (Or.inl ⟨by rfl, ?hb4⟩) (by assumption) ?rb4
      case hb4 => (intro w hSw; go_simp; with_reducible rfl)
      simp only [Act.put, List.setIfInBounds_toArray, List.set_cons_zero, List.set_cons_succ]
      refine wpAnyK_take 5 45 (v := ?vb5) rfl (by kernel_rfl) (by kernel_rfl) (by kernel_rfl) (by kernel_rfl) (by kernel_rfl) (fun _ _ _ h => h) rfl (Or.inl ⟨by rfl, ?hb5⟩) (by assumption) ?rb5
      case hb5 => (intro w hSw; go_simp; with_reducible rfl)
      simp only [Act.put, List.setIfInBounds_toArray, List.set_cons_zero, List.set_cons_succ]
      refine wpAnyK_take 6 46 (v := ?vb6) rfl (by kernel_rfl) (by kernel_rfl) (by kernel_rfl) (by kernel_rfl) (by kernel_rfl) (fun _ _ _ h => h) rfl (Or.inl ⟨by rfl, ?hb6⟩) (by assumption) ?rb6
      case hb6 => (intro w hSw; go_simp; with_reducible rfl)
      simp only [Act.put, List.setIfInBounds_toArray, List.set_cons_zero, List.set_cons_succ]
      refine wpAnyK_take 7 47 (v := ?vb7) rfl (by kernel_rfl) (by kernel_rfl) (by kernel_rfl) (by kernel_rfl) (by kernel_rfl) (fun _ _ _ h => h) rfl (Or.inl ⟨by rfl, ?hb7⟩) (by assumption) ?rb7
      case hb7 => (intro w hSw; go_simp; with_reducible rfl)
      simp only [Act.put, List.setIfInBounds_toArray, List.set_cons_zero, List.set_cons_succ]
      refine wpAnyK_take 8 48 (v := ?vb8) rfl (by kernel_rfl) (by kernel_rfl) (by kernel_rfl) (by kernel_rfl) (by kernel_rfl) (fun _ _ _ h => h) rfl (Or.inl ⟨by rfl, ?hb8⟩) (by assumption) ?rb8
      case hb8 => (intro w hSw; go_simp; with_reducible rfl)
      simp only [Act.put, List.setIfInBounds_toArray, List.set_cons_zero, List.set_cons_succ]
      refine wpAnyK_take 9 49 (v := ?vb9) rfl (by kernel_rfl) (by kernel_rfl) (by kernel_rfl) (by kernel_rfl) (by kernel_rfl) (fun _ _ _ h => h) rfl (Or.inl ⟨by rfl, ?hb9⟩) (by assumption) ?rb9
      case hb9 => (intro w hSw; go_simp; with_reducible rfl)
      simp only [Act.put, List.setIfInBounds_toArray, List.set_cons_zero, List.set_cons_succ]
      refine wpAnyK_take 10 50 (v := ?vb10) rfl (by kernel_rfl) (by kernel_rfl) (by kernel_rfl) (by kernel_rfl) (by kernel_rfl) (fun _ _ _ h => h) rfl (Or.inl ⟨by rfl, ?hb10⟩) (by assumption) ?rb10
      case hb10 => (intro w hSw; go_simp; with_reducible rfl)
      simp only [Act.put, List.setIfInBounds_toArray, List.set_cons_zero, List.set_cons_succ]
      refine wpAnyK_one 11 (by kernel_rfl) rfl (fun K hK => ?_)
      go_simp
      go_wp2_with (go_at_call 23; refine (HP2.out _).mono ?_; rintro e' w7 ⟨rfl, hw7⟩; subst hw7)
      refine hK.out _ _ (fun _ _ => S0) ?_
      clear hK K
      simp only [List.setIfInBounds_toArray, List.set_cons_zero, List.set_cons_succ]
      refine wpAnyK_take 12 52 (v := ?vb12) rfl (by kernel_rfl) (by kernel_rfl) (by kernel_rfl) (by kernel_rfl) (by kernel_rfl) (fun _ _ _ h => h) rfl (Or.inl ⟨by rfl, ?hb12⟩) (by assumption) ?rb12
      case hb12 => (intro w hSw; go_simp; with_reducible rfl)
      simp only [Act.put, List.setIfInBounds_toArray, List.set_cons_zero, List.set_cons_succ]
      refine wpAnyK_one 13 (by kernel_rfl) rfl (fun K hK => ?_)
      go_simp
      refine hK.out _ _ (fun h => absurd rfl h) ?_
      clear hK K
      simp only [List.setIfInBounds_toArray, List.set_cons_zero, List.set_cons_succ]
      refine wpAnyK_done (by kernel_rfl) ?_ _
      clear S0 e1 e2 HP2 wg2
      go_wp2
      go_roundw
      case rel => exact ⟨i + 1, r3, s3, by omega, by omega, by simp, rfl, R.out, hbw.drew⟩
      case measure => simp [intOf]; omega
    · have hi3 : i = d + 1 := by omega
      have R : Hid (wC c r2 s2 (Py.ts l l' k (n + 1))) := by
        show wC _ _ _ _
        rw [hi3] at hrs
        have hF := F1.out
        have e := Py.ts_far l l' k (d + 1) (n - d) (fun z z1 z2 z3 => by exfalso; omega)
        rw [show d + 1 + (n - d) = n + 1 by omega] at e
        rw [e]
        exact hrs
      have hid2 : ¬ (i : Int) ≤ d := by omega
      clear hrs hi3 H0 hc
      go_wp2
      go_ret
      exact ⟨r2, s2, rfl, R.out, hbw⟩
end Go.Proofs.Ytmbjgakehghdjaa
/-
  OWN TEXT: package poly: Mul, of lists of whole complex numbers.
-/
namespace Go.Proofs.Ytmbjgakehghdjaa
open Go.ChangeShapes Go.WideShapes Go.ChangeAt Go.RowKit
set_option linter.unusedVariables false
attribute [local go_sem] frombits_call tobits_call run_neg run_store_cx
set_option maxHeartbeats 4000000 in
theorem mul8 {c : Nat} (hc : c = 1074) {w : World} {b o cap n b' o' cap' n' A A' : Nat} {l l' : List Py.G} (hm : May n l) (h : Gl c w b o l) (hm' : May n' l') (h' : Gl c w b' o' l') (hl : ∀ i, Py.Le (Py.co l i) A) (hl' : ∀ i, Py.Le (Py.co l' i) A') (hA : (n + 1) * (A * A') ≤ 1099511627776) (h64 : n + n' ≤ 64) (z : Py.co l n ≠ (0, 0)) (z' : Py.co l' n' ≠ (0, 0)) :
    Calls Try.prog 63 #[.slice (some ⟨b, o, none⟩) (n + 1) cap, .slice (some ⟨b', o', none⟩) (n' + 1) cap'] w fun e w' => Ans c w w' e (n + n' + 1) (fun j => Py.ts l l' j (n + 1)) := by
  have C := hide (checktwo8 (cap := cap) (cap' := cap') hc hm h hm' h')
  have L1 : Hid (∀ wz, Bw w wz → ∃ x y, Calls Try.prog 58 #[.slice (some ⟨b, o, none⟩) (n + 1) cap] wz (fun e w' => e = .returned (.complex .f64 x y) ∧ w' = wz) ∧ ∀ wz, Calls Try.prog 57 #[.complex .f64 x y] wz fun e w' => e = .returned (.bool false) ∧ w' = wz) := fun wz hz => by
    obtain ⟨x, y, q, L⟩ := last8 (cap := cap) n hm.1 (by omega) (h.bw hz)
    exact ⟨x, y, L, fun wz => by have k := isnought8 q wz; rw [decide_eq_false z] at k; exact k⟩
  have L2 : Hid (∀ wz, Bw w wz → ∃ x y, Calls Try.prog 58 #[.slice (some ⟨b', o', none⟩) (n' + 1) cap'] wz (fun e w' => e = .returned (.complex .f64 x y) ∧ w' = wz) ∧ ∀ wz, Calls Try.prog 57 #[.complex .f64 x y] wz fun e w' => e = .returned (.bool false) ∧ w' = wz) := fun wz hz => by
    obtain ⟨x, y, q, L⟩ := last8 (cap := cap') n' hm'.1 (by omega) (h'.bw hz)
    exact ⟨x, y, L, fun wz => by have k := isnought8 q wz; rw [decide_eq_false z'] at k; exact k⟩
  have PR : Hid (∀ wz k, Bw w wz → k ≤ n + n' → Calls Try.prog 76 #[.slice (some ⟨b, o, none⟩) (n + 1) cap, .slice (some ⟨b', o', none⟩) (n' + 1) cap', .int .i64 (k : Nat)] wz fun e w' => ∃ r s, e = .returned (.complex .f64 r s) ∧ wC c r s (Py.ts l l' k (n + 1)) ∧ Bw wz w') := fun wz k hz hk => prods8 hc hm.1 hm'.1 hm.2.1 hm'.2.1 (h.bw hz) (h'.bw hz) hl hl' hA hk
  have hmk := make_c ((n : Int) + 1 + (n' + 1) - 1) (n + n' + 1) (by omega) (by omega)
  have HLT : Hid (∀ j, Py.Le (Py.ts l l' j (n + 1)) 1099511627776) := fun j => (Py.ts_le hl hl' j (n + 1)).mono hA
  have HFAR : Hid (∀ j, n + n' + 1 ≤ j → Py.ts l l' j (n + 1) = (0, 0)) := fun j hj => by
    have := Py.ts_far l l' j 0 (n + 1) (fun i _ h2 h3 => by rw [Py.co_out (l := l') (by have := hm'.1; omega), Py.gm_nought])
    rw [Nat.zero_add] at this
    rw [this]; rfl
  have t1 : ¬ 65 < (n : Int) + 1 + (n' + 1) - 1 := by omega
  have HC := hide hc
  clear hm h hm' h' hl hl' hA z z' hc
  go_enter Try.func63, Try.ntmps63
  go_wp2_with fail
  refine C.out.mono ?_
  rintro e' w1 ⟨rfl, b1⟩
  clear C
  obtain ⟨x, y, LA, IA⟩ := L1.out _ b1
  obtain ⟨x', y', LB, IB⟩ := L2.out _ b1
  have HLA := hide LA
  have HLB := hide LB
  have HIA := hide IA
  have HIB := hide IB
  clear LA LB IA IB L1 L2
  go_wp2_with fail
  refine HLA.out.mono ?_
  rintro e' w2 ⟨rfl, hw2⟩
  subst hw2
  go_wp2_with fail
  refine (HIA.out _).mono ?_
  rintro e' w3 ⟨rfl, hw3⟩
  subst hw3
  go_wp2_with fail
  refine HLB.out.mono ?_
  rintro e' w2 ⟨rfl, hw2⟩
  subst hw2
  go_wp2_with fail
  refine (HIB.out _).mono ?_
  rintro e' w3 ⟨rfl, hw3⟩
  subst hw3
  clear HLA HIA HLB HIB
  go_wp2
  have G0 := hide (Gw.made c w3 (n + n' + 1) 27)
  have hB : w.heap.size ≤ w3.heap.size := Below.size b1
  have b2 := bw_trans b1 (bw_alloc w3 (.cells (zcC (n + n' + 1)) 27))
  clear hmk b1
  generalize w3.alloc (.cells (zcC (n + n' + 1)) 27) = W at *
  generalize w3.heap.size = B at *
  go_loopw [37] (fun i wr => ∃ (k : Nat) (L : List Py.G), k ≤ n + n' + 1 ∧ i = .int .i64 k ∧ L.length = n + n' + 1 ∧ Gw c wr B L ∧ (∀ i, i < k → Py.co L i = Py.ts l l' i (n + 1)) ∧ Bw w wr) (fun i _ => n + n' + 1 - (intOf i).toNat)
  case atStart => exact ⟨0, _, Nat.zero_le _, rfl, by simp, G0.out, fun i hi => by omega, b2⟩
  case round =>
    obtain ⟨k, L, hk, rfl, hL, hw, hco, hbw⟩ := hrel
    clear G0 b2
    by_cases hk1 : k < n + n' + 1
    · have hk2 : (k : Int) < (n : Int) + (n' : Int) + 1 := by omega
      have HLL := hide hL
      have HW := hide hw
      have HCO := hide hco
      clear hL hw hco
      go_wp2_with fail
      refine (PR.out _ k hbw (by omega)).mono ?_
      rintro e' w4 ⟨r, s, rfl, hrs, b4⟩
      have hw4 : Gw c w4 B L := by
        have hs : B < wr.heap.size := HW.out.1.1
        refine ⟨HW.out.1.bw b4, fun i => ?_⟩
        exact (Below.frozen b4 (p := ⟨B, i, none⟩) hs).trans (HW.out.2 i)
      obtain ⟨u, v, e2, q2⟩ := hw4.1.2 k (by have := HLL.out; omega)
      rw [Nat.zero_add] at e2
      have e3 := hw4.2 k
      have R : Hid (Gw c (w4.setCell ⟨B, k, none⟩ (.complex .f64 r s)) B (L.set k (Py.ts l l' k (n + 1))) ∧ (∀ i, i < k + 1 → Py.co (L.set k (Py.ts l l' k (n + 1))) i = Py.ts l l' i (n + 1)) ∧ Bw w (w4.setCell ⟨B, k, none⟩ (.complex .f64 r s))) := by
        refine ⟨hw4.set k r s _ (by have := HLL.out; omega) hrs, fun i hi => ?_, Below.setCell (bw_trans hbw b4) hB _⟩
        rw [Py.co_set _ _ _ _ (by have := HLL.out; omega)]
        by_cases z : i = k
        · subst z; rw [if_pos rfl]
        · rw [if_neg z]; exact HCO.out i (by omega)
      clear hrs b4 hw4 q2 hbw HW HCO
      go_wp2
      go_roundw
      case rel => exact ⟨k + 1, _, by omega, by simp, by rw [List.length_set]; exact HLL.out, R.out.1, R.out.2.1, R.out.2.2⟩
      case measure => simp [intOf]; omega
    · have hk3 : k = n + n' + 1 := by omega
      subst hk3
      have hF : ∀ i, Py.co L i = Py.ts l l' i (n + 1) := fun i => by
        by_cases z : i < n + n' + 1
        · exact hco i z
        · rw [Py.co_out (by omega), HFAR.out i (by omega)]
      have H2 : Hid (∀ i, Py.Le (Py.co L i) 1099511627776) := fun i => by rw [hF]; exact HLT.out i
      have HF := hide hF
      have HW := hide hw
      have HLL := hide hL
      clear hF hw hco hL HLT HFAR PR
      have hlt' : ¬ ((n + n' + 1 : Nat) : Int) < (n : Int) + (n' : Int) + 1 := by omega
      go_wp2_with fail
      refine (answered8 HC.out (n + n' + 1) HLL.out (by omega) (by omega) (Nat.le_refl _) HW.out.1 H2.out).mono ?_
      rintro e' w3 ⟨rfl, b3⟩
      have A9 := Ans.of HLL.out (by omega) (by omega) (HW.out.1.bw b3) hB (bw_trans hbw b3) H2.out
      have AA : Hid (Ans c w w3 (.returned (.tuple #[.slice (some ⟨B, 0, none⟩) (Py.tl L (n + n' + 1)) (Py.tl L (n + n' + 1)), .int .i64 0])) (n + n' + 1) (fun j => Py.ts l l' j (n + 1))) := by
        obtain ⟨B', m, l9, z1, z2, z3, z4, z5, z6, z7⟩ := A9
        exact ⟨B', m, l9, z1, z2, z3, z4, z5, z6, fun i => (z7 i).trans (HF.out i)⟩
      clear A9 HW H2 HF HLL
      generalize Py.tl L (n + n' + 1) = tt at *
      go_wp2
      go_ret2
      exact AA.out
end Go.Proofs.Ytmbjgakehghdjaa
/-
  OWN TEXT: package poly: Shift, of lists of whole complex numbers.
-/
namespace Go.Proofs.Ytmbjgakehghdjaa
open Go.ChangeShapes Go.WideShapes Go.ChangeAt Go.RowKit
set_option linter.unusedVariables false
attribute [local go_sem] frombits_call tobits_call run_neg run_store_cx
end Go.Proofs.Ytmbjgakehghdjaa
