/-
  OWN TEXT: zeros.Square of whole zeros.
-/
import Derived.Test.YtggphakliiodeaaGreatDoorJnBa
namespace Go.Proofs.YtggphakliiodeaaGreatDoor
open Go.ChangeShapes Go.WideShapes Go.ChangeAt Go.RowKit
set_option linter.unusedVariables false
theorem pfin9 {c x y : Nat} {g : Py.G} (h : clC c x y g) (w : World) : Calls Tryz.prog 21 #[.complex .f64 x y] w fun e w' => e = .returned (.bool true) ∧ w' = w := by
  have k := pfinite_any x y w h.1.1 h.2.1
  have e1 : Fl.finB x = true := by unfold Fl.finB; exact decide_eq_true h.1.2.1
  have e2 : Fl.finB y = true := by unfold Fl.finB; exact decide_eq_true h.2.2.1
  rw [e1, e2] at k
  exact k
theorem pdiv9 {c p q r s : Nat} {u v : Py.G} (hc : c = 1074) (hp : wC c p q (Py.gm u v)) (hr : wC c r s v) (hu1 : u.1.natAbs ≤ 1000) (hu2 : u.2.natAbs ≤ 1000) (hv1 : v.1.natAbs ≤ 1000) (hv2 : v.2.natAbs ≤ 1000) (h0 : v ≠ (0, 0)) :
    ∃ x y, clC c x y u ∧ ∀ w, Calls Tryz.prog 20 #[.complex .f64 p q, .complex .f64 r s] w fun e w' => e = .returned (.complex .f64 x y) ∧ w' = w := by
  rcases Nat.lt_or_ge v.1.natAbs v.2.natAbs with k | k
  · obtain ⟨x, y, h1, h2, h3⟩ := pdiv9b (v1 := u.1) (v2 := u.2) hc hp.1 hp.2 hr.1 hr.2 (by omega) k hv2 hu1 hu2 rfl rfl
    exact ⟨x, y, ⟨h1, h2⟩, h3⟩
  · obtain ⟨x, y, h1, h2, h3⟩ := pdiv9a (v1 := u.1) (v2 := u.2) hc hp.1 hp.2 hr.1 hr.2 (by
      intro z
      apply h0
      exact Py.gext z (by have : v.2.natAbs = 0 := by rw [z] at k; omega
                          simp only; omega)) k hv1 hu1 hu2 rfl rfl
    exact ⟨x, y, ⟨h1, h2⟩, h3⟩
set_option maxHeartbeats 1000000 in
theorem square9 {c : Nat} (hc : c = 1074) {w : World} {b cap : Nat} {l : List Py.G} {u v : Py.G} (hm : May 2 l) (h : Gl c w b 0 l) (h0 : Py.co l 0 = Py.gm u v) (h1 : Py.co l 1 = Py.gn (Py.ga u v)) (h2 : Py.co l 2 = (1, 0))
    (hu1 : u.1.natAbs ≤ 1000) (hu2 : u.2.natAbs ≤ 1000) (hv1 : v.1.natAbs ≤ 1000) (hv2 : v.2.natAbs ≤ 1000) :
    Calls Tryz.prog 8 #[.slice (some ⟨b, 0, none⟩) 3 cap] w fun e w' => ∃ a1 a2 b1 b2, e = .returned (.tuple #[.complex .f64 a1 a2, .complex .f64 b1 b2, .int .i64 0]) ∧ Bw w w' ∧ ((clC c a1 a2 u ∧ clC c b1 b2 v) ∨ (clC c a1 a2 v ∧ clC c b1 b2 u)) := by
  have CH := hide (check8 (cap := cap) hc hm h)
  have HL := hide h
  have hlen := hm.1
  have HC := hide hc
  have H0 := hide h0
  have H1 := hide h1
  have H2 := hide h2
  have HN := hide hlen
  have HU := hide (And.intro (And.intro hu1 hu2) (And.intro hv1 hv2))
  clear hm h h0 h1 h2 hc hlen hu1 hu2 hv1 hv2
  go_enter Tryz.func8, Tryz.ntmps8
  go_wp2_with fail
  refine CH.out.mono ?_
  rintro e' w1 ⟨rfl, b1⟩
  have G := hide b1
  replace HL := hide (HL.out.bw b1)
  clear b1 CH
  obtain ⟨x0, y0, c0, W0⟩ := HL.out.2 0 (by rw [HN.out]; decide)
  obtain ⟨x1, y1, c1, W1⟩ := HL.out.2 1 (by rw [HN.out]; decide)
  obtain ⟨x2, y2, c2, W2⟩ := HL.out.2 2 (by rw [HN.out]; decide)
  rw [H0.out] at W0
  rw [H1.out] at W1
  rw [H2.out] at W2
  have V0 := hide W0
  have V1 := hide W1
  have V2 := hide W2
  have HLW : Hid (b < w1.heap.size) := HL.out.1
  rw [Nat.zero_add] at c0 c1 c2
  clear W0 W1 W2
  go_wp2_with fail
  have S0 : w1.drew.cell? ⟨b, 2, none⟩ = some (.complex .f64 x2 y2) ∧ w1.drew.cell? ⟨b, 1, none⟩ = some (.complex .f64 x1 y1) ∧ w1.drew.cell? ⟨b, 0, none⟩ = some (.complex .f64 x0 y0) := ⟨c2, c1, c0⟩
  refine wp_region_K (fun w' => w'.cell? ⟨b, 2, none⟩ = some (.complex .f64 x2 y2) ∧ w'.cell? ⟨b, 1, none⟩ = some (.complex .f64 x1 y1) ∧ w'.cell? ⟨b, 0, none⟩ = some (.complex .f64 x0 y0)) 10 11 #[false, false, false, false, false, false, false, false, false, false, false] (by kernel_rfl) (by kernel_rfl) (by kernel_rfl) ?_
  refine wpAnyK_take 0 17 (v := ?va0) rfl (by kernel_rfl) (by kernel_rfl) (by kernel_rfl) (by kernel_rfl) (by kernel_rfl) (fun _ _ _ h => h) rfl (Or.inl ⟨by rfl, ?ha0⟩) (by assumption) ?ra0
  case ha0 => (intro w hSw; go_simp; with_reducible rfl)
  simp only [Act.put, List.setIfInBounds_toArray, List.set_cons_zero, List.set_cons_succ]
  refine wpAnyK_take 1 18 (v := ?va1) rfl (by kernel_rfl) (by kernel_rfl) (by kernel_rfl) (by kernel_rfl) (by kernel_rfl) (fun _ _ _ h => h) rfl (Or.inl ⟨by rfl, ?ha1⟩) (by assumption) ?ra1
  case ha1 => (intro w hSw; go_simp; with_reducible rfl)
  simp only [Act.put, List.setIfInBounds_toArray, List.set_cons_zero, List.set_cons_succ]
  refine wpAnyK_take 2 19 (v := ?va2) rfl (by kernel_rfl) (by kernel_rfl) (by kernel_rfl) (by kernel_rfl) (by kernel_rfl) (fun _ _ _ h => h) rfl (Or.inl ⟨by rfl, ?ha2⟩) (by assumption) ?ra2
  case ha2 => (intro w hSw; go_simp; with_reducible rfl)
  simp only [Act.put, List.setIfInBounds_toArray, List.set_cons_zero, List.set_cons_succ]
  refine wpAnyK_take 3 20 (v := ?va3) rfl (by kernel_rfl) (by kernel_rfl) (by kernel_rfl) (by kernel_rfl) (by kernel_rfl) (fun _ _ _ h => h) rfl (Or.inl ⟨by rfl, ?ha3⟩) (by assumption) ?ra3
  case ha3 => (intro w hSw; go_simp; with_reducible rfl)
  simp only [Act.put, List.setIfInBounds_toArray, List.set_cons_zero, List.set_cons_succ]
  refine wpAnyK_take 4 21 (v := ?va4) rfl (by kernel_rfl) (by kernel_rfl) (by kernel_rfl) (by kernel_rfl) (by kernel_rfl) (fun _ _ _ h => h) rfl (Or.inl ⟨by rfl, ?ha4⟩) (by assumption) ?ra4
  case ha4 => (intro w hSw; go_simp; with_reducible rfl)
  simp only [Act.put, List.setIfInBounds_toArray, List.set_cons_zero, List.set_cons_succ]
  refine wpAnyK_take 5 22 (v := ?va5) rfl (by kernel_rfl) (by kernel_rfl) (by kernel_rfl) (by kernel_rfl) (by kernel_rfl) (fun _ _ _ h => h) rfl (Or.inl ⟨by rfl, ?ha5⟩) (by assumption) ?ra5
  case ha5 => (intro w hSw; go_simp; with_reducible rfl)
  simp only [Act.put, List.setIfInBounds_toArray, List.set_cons_zero, List.set_cons_succ]
  refine wpAnyK_take 6 23 (v := ?va6) rfl (by kernel_rfl) (by kernel_rfl) (by kernel_rfl) (by kernel_rfl) (by kernel_rfl) (fun _ _ _ h => h) rfl (Or.inl ⟨by rfl, ?ha6⟩) (by assumption) ?ra6
  case ha6 => (intro w hSw; go_simp; with_reducible rfl)
  simp only [Act.put, List.setIfInBounds_toArray, List.set_cons_zero, List.set_cons_succ]
  refine wpAnyK_take 7 24 (v := ?va7) rfl (by kernel_rfl) (by kernel_rfl) (by kernel_rfl) (by kernel_rfl) (by kernel_rfl) (fun _ _ _ h => h) rfl (Or.inl ⟨by rfl, ?ha7⟩) (by assumption) ?ra7
  case ha7 => (intro w hSw; go_simp; with_reducible rfl)
  simp only [Act.put, List.setIfInBounds_toArray, List.set_cons_zero, List.set_cons_succ]
  refine wpAnyK_take 8 25 (v := ?va8) rfl (by kernel_rfl) (by kernel_rfl) (by kernel_rfl) (by kernel_rfl) (by kernel_rfl) (fun _ _ _ h => h) rfl (Or.inl ⟨by rfl, ?ha8⟩) (by assumption) ?ra8
  case ha8 => (intro w hSw; go_simp; with_reducible rfl)
  simp only [Act.put, List.setIfInBounds_toArray, List.set_cons_zero, List.set_cons_succ]
  refine wpAnyK_one 9 (by kernel_rfl) rfl (fun K hK => ?_)
  go_simp
  go_wp2_with (go_at_call 18; refine (halfSum9 HC.out V2.out V1.out V0.out HU.out.1.1 HU.out.1.2 HU.out.2.1 HU.out.2.2 _).mono ?_; rintro e' w2 ⟨q1, q2, q, rfl, hq, hquv, hz, b2'⟩; have b2 := bw_trans (Bw.refl _).drew b2'; have S1 : w2.cell? ⟨b, 2, none⟩ = some (.complex .f64 x2 y2) ∧ w2.cell? ⟨b, 1, none⟩ = some (.complex .f64 x1 y1) ∧ w2.cell? ⟨b, 0, none⟩ = some (.complex .f64 x0 y0) := ⟨(Below.cell b2 (p := ⟨b, 2, none⟩) HLW.out).trans c2, (Below.cell b2 (p := ⟨b, 1, none⟩) HLW.out).trans c1, (Below.cell b2 (p := ⟨b, 0, none⟩) HLW.out).trans c0⟩)
  refine hK.out _ _ (fun _ _ => S1) ?_
  clear hK K
  simp only [List.setIfInBounds_toArray, List.set_cons_zero, List.set_cons_succ]
  refine wpAnyK_one 10 (by kernel_rfl) rfl (fun K hK => ?_)
  go_simp
  refine hK.out _ _ (fun h => absurd rfl h) ?_
  clear hK K
  simp only [List.setIfInBounds_toArray, List.set_cons_zero, List.set_cons_succ]
  refine wpAnyK_done (by kernel_rfl) ?_ _
  clear S1 S0 b2'
  replace G := hide (bw_trans G.out b2)
  replace HL := hide (HL.out.bw b2)
  have c0' : w2.cell? ⟨b, 0, none⟩ = some (.complex .f64 x0 y0) := (Below.cell b2 (p := ⟨b, 0, none⟩) HLW.out).trans c0
  have c2' : w2.cell? ⟨b, 2, none⟩ = some (.complex .f64 x2 y2) := (Below.cell b2 (p := ⟨b, 2, none⟩) HLW.out).trans c2
  clear c0 c1 c2 b2
  have HQ := hide hq
  have NO := hide (znought9 hq)
  clear hq
  by_cases z : q = (0, 0)
  · obtain ⟨rfl, rfl⟩ := hz z
    have NT : Hid (∀ wz, Calls Tryz.prog 19 #[.complex .f64 q1 q2] wz fun e w' => e = .returned (.bool true) ∧ w' = wz) := fun wz => by
      have k := NO.out wz
      rw [decide_eq_true z] at k
      exact k
    clear NO z hz hquv c0' c2' HQ
    go_wp2_with fail
    refine (NT.out _).mono ?_
    rintro e' w9 ⟨rfl, hw9⟩
    subst hw9
    go_wp2
    go_ret3
    exact ⟨0, 0, 0, 0, rfl, G.out, Or.inl ⟨(wC.nought c).clo, (wC.nought c).clo⟩⟩
  · have NT : Hid (∀ wz, Calls Tryz.prog 19 #[.complex .f64 q1 q2] wz fun e w' => e = .returned (.bool false) ∧ w' = wz) := fun wz => by
      have k := NO.out wz
      rw [decide_eq_false z] at k
      exact k
    -- the other zero
    obtain ⟨o, ho, hor, ob1, ob2, qb1, qb2⟩ : ∃ o : Py.G, Py.gm o q = Py.gm u v ∧ (q = u ∧ o = v ∨ q = v ∧ o = u) ∧ o.1.natAbs ≤ 1000 ∧ o.2.natAbs ≤ 1000 ∧ q.1.natAbs ≤ 1000 ∧ q.2.natAbs ≤ 1000 := by
      obtain ⟨⟨k1, k2⟩, k3, k4⟩ := HU.out
      rcases hquv with e | e
      · exact ⟨v, by rw [e]; exact Py.gm_comm _ _, Or.inl ⟨e, rfl⟩, k3, k4, by rw [e]; exact k1, by rw [e]; exact k2⟩
      · exact ⟨u, by rw [e], Or.inr ⟨e, rfl⟩, k1, k2, by rw [e]; exact k3, by rw [e]; exact k4⟩
    obtain ⟨d1, d2, W1, D1'⟩ := pdiv8 HC.out HQ.out V2.out (le_thousand qb1 qb2) (by decide)
    have V0' := V0.out
    rw [← ho] at V0'
    obtain ⟨d3, d4, W2, D2'⟩ := pdiv9 HC.out V0' HQ.out ob1 ob2 qb1 qb2 z
    have D1 := hide D1'
    have D2 := hide D2'
    have F1 := hide (pfin9 W1.clo)
    have F2 := hide (pfin9 W2)
    have O := hide (pord9 d1 d2 d3 d4 W1.clo.1.1 W1.clo.2.1 W2.1.1 W2.2.1 W2.1.nan W2.2.nan)
    have E1 : Hid ((clC c d1 d2 u ∧ clC c d3 d4 v ∨ clC c d1 d2 v ∧ clC c d3 d4 u) ∧ (clC c d3 d4 u ∧ clC c d1 d2 v ∨ clC c d3 d4 v ∧ clC c d1 d2 u)) := by
      show _ ∧ _
      rcases hor with ⟨e1, e2⟩ | ⟨e1, e2⟩
      · rw [e1] at W1; rw [e2] at W2; exact ⟨Or.inl ⟨W1.clo, W2⟩, Or.inr ⟨W2, W1.clo⟩⟩
      · rw [e1] at W1; rw [e2] at W2; exact ⟨Or.inr ⟨W1.clo, W2⟩, Or.inl ⟨W2, W1.clo⟩⟩
    clear D1' D2' W1 W2 V0' ho hor ob1 ob2 qb1 qb2 z hz hquv NO HQ HU HC H0 H1 H2 HN V0 V1 V2
    go_wp2_with fail
    refine (NT.out _).mono ?_
    rintro e' w9 ⟨rfl, hw9⟩
    subst hw9
    go_wp2_with fail
    have S0 : w9.drew.cell? ⟨b, 2, none⟩ = some (.complex .f64 x2 y2) ∧ w9.drew.cell? ⟨b, 0, none⟩ = some (.complex .f64 x0 y0) := ⟨c2', c0'⟩
    refine wp_region_K (fun w' => w'.cell? ⟨b, 2, none⟩ = some (.complex .f64 x2 y2) ∧ w'.cell? ⟨b, 0, none⟩ = some (.complex .f64 x0 y0)) 11 12 #[false, false, false, false, false, false, false, false, false, false, false, false] (by kernel_rfl) (by kernel_rfl) (by kernel_rfl) ?_
    refine wpAnyK_take 0 29 (v := ?v0) rfl (by kernel_rfl) (by kernel_rfl) (by kernel_rfl) (by kernel_rfl) (by kernel_rfl) (fun _ _ _ h => h) rfl (Or.inl ⟨by rfl, ?h0⟩) (by assumption) ?r0
    case h0 => (intro w hSw; go_simp; with_reducible rfl)
    simp only [Act.put, List.setIfInBounds_toArray, List.set_cons_zero, List.set_cons_succ]
    refine wpAnyK_take 1 30 (v := ?v1) rfl (by kernel_rfl) (by kernel_rfl) (by kernel_rfl) (by kernel_rfl) (by kernel_rfl) (fun _ _ _ h => h) rfl (Or.inl ⟨by rfl, ?h1⟩) (by assumption) ?r1
    case h1 => (intro w hSw; go_simp; with_reducible rfl)
    simp only [Act.put, List.setIfInBounds_toArray, List.set_cons_zero, List.set_cons_succ]
    refine wpAnyK_take 2 31 (v := ?v2) rfl (by kernel_rfl) (by kernel_rfl) (by kernel_rfl) (by kernel_rfl) (by kernel_rfl) (fun _ _ _ h => h) rfl (Or.inl ⟨by rfl, ?h2⟩) (by assumption) ?r2
    case h2 => (intro w hSw; go_simp; with_reducible rfl)
    simp only [Act.put, List.setIfInBounds_toArray, List.set_cons_zero, List.set_cons_succ]
    refine wpAnyK_take 3 32 (v := ?v3) rfl (by kernel_rfl) (by kernel_rfl) (by kernel_rfl) (by kernel_rfl) (by kernel_rfl) (fun _ _ _ h => h) rfl (Or.inl ⟨by rfl, ?h3⟩) (by assumption) ?r3
    case h3 => (intro w hSw; go_simp; with_reducible rfl)
    simp only [Act.put, List.setIfInBounds_toArray, List.set_cons_zero, List.set_cons_succ]
    refine wpAnyK_take 5 34 (v := ?v5) rfl (by kernel_rfl) (by kernel_rfl) (by kernel_rfl) (by kernel_rfl) (by kernel_rfl) (fun _ _ _ h => h) rfl (Or.inl ⟨by rfl, ?h5⟩) (by assumption) ?r5
    case h5 => (intro w hSw; go_simp; with_reducible rfl)
    simp only [Act.put, List.setIfInBounds_toArray, List.set_cons_zero, List.set_cons_succ]
    refine wpAnyK_take 6 35 (v := ?v6) rfl (by kernel_rfl) (by kernel_rfl) (by kernel_rfl) (by kernel_rfl) (by kernel_rfl) (fun _ _ _ h => h) rfl (Or.inl ⟨by rfl, ?h6⟩) (by assumption) ?r6
    case h6 => (intro w hSw; go_simp; with_reducible rfl)
    simp only [Act.put, List.setIfInBounds_toArray, List.set_cons_zero, List.set_cons_succ]
    refine wpAnyK_take 7 36 (v := ?v7) rfl (by kernel_rfl) (by kernel_rfl) (by kernel_rfl) (by kernel_rfl) (by kernel_rfl) (fun _ _ _ h => h) rfl (Or.inl ⟨by rfl, ?h7⟩) (by assumption) ?r7
    case h7 => (intro w hSw; go_simp; with_reducible rfl)
    simp only [Act.put, List.setIfInBounds_toArray, List.set_cons_zero, List.set_cons_succ]
    refine wpAnyK_take 8 37 (v := ?v8) rfl (by kernel_rfl) (by kernel_rfl) (by kernel_rfl) (by kernel_rfl) (by kernel_rfl) (fun _ _ _ h => h) rfl (Or.inl ⟨by rfl, ?h8⟩) (by assumption) ?r8
    case h8 => (intro w hSw; go_simp; with_reducible rfl)
    simp only [Act.put, List.setIfInBounds_toArray, List.set_cons_zero, List.set_cons_succ]
    refine wpAnyK_one 4 (by kernel_rfl) rfl (fun K hK => ?_)
    go_simp
    go_wp2_with (go_at_call 20; refine (D1.out _).mono ?_; rintro e' w7 ⟨rfl, hw7⟩; subst hw7)
    refine hK.out _ _ (fun _ _ => S0) ?_
    clear hK K
    simp only [List.setIfInBounds_toArray, List.set_cons_zero, List.set_cons_succ]
    refine wpAnyK_one 9 (by kernel_rfl) rfl (fun K hK => ?_)
    go_simp
    go_wp2_with (go_at_call 20; refine (D2.out _).mono ?_; rintro e' w7 ⟨rfl, hw7⟩; subst hw7)
    refine hK.out _ _ (fun _ _ => S0) ?_
    clear hK K
    simp only [List.setIfInBounds_toArray, List.set_cons_zero, List.set_cons_succ]
    refine wpAnyK_one 10 (by kernel_rfl) rfl (fun K hK => ?_)
    go_simp
    refine hK.out _ _ (fun _ _ => S0) ?_
    clear hK K
    simp only [List.setIfInBounds_toArray, List.set_cons_zero, List.set_cons_succ]
    refine wpAnyK_one 11 (by kernel_rfl) rfl (fun K hK => ?_)
    go_simp
    refine hK.out _ _ (fun h => absurd rfl h) ?_
    clear hK K
    simp only [List.setIfInBounds_toArray, List.set_cons_zero, List.set_cons_succ]
    refine wpAnyK_done (by kernel_rfl) ?_ _
    clear S0 c0' c2' D1 D2 NT
    go_wp2_with fail
    refine (F1.out _).mono ?_
    rintro e' w8 ⟨rfl, hw8⟩
    subst hw8
    go_wp2_with fail
    refine (F2.out _).mono ?_
    rintro e' w8 ⟨rfl, hw8⟩
    subst hw8
    go_wp2_with fail
    refine (O.out _).mono ?_
    rintro e' w8 ⟨n, rfl, hn, hw8⟩
    subst hw8
    clear F1 F2 O
    rcases hn with rfl | rfl | rfl
    · go_wp2
      go_ret3
      exact ⟨d1, d2, d3, d4, rfl, G.out.drew, E1.out.1⟩
    · go_wp2
      go_ret3
      exact ⟨d1, d2, d3, d4, rfl, G.out.drew, E1.out.1⟩
    · go_wp2
      go_ret3
      exact ⟨d3, d4, d1, d2, rfl, G.out.drew, E1.out.2⟩
end Go.Proofs.YtggphakliiodeaaGreatDoor
/-
  OWN TEXT: ZerosSquare's own small functions.
-/
namespace Go.Proofs.YtggphakliiodeaaGreatDoor
open Go.ChangeShapes Go.WideShapes Go.ChangeAt Go.RowKit
set_option linter.unusedVariables false
set_option maxHeartbeats 1000000 in
theorem gof9 (x y : Int) (w : World) : Calls Tryz.prog 6 #[.agg #[.int .i16 x, .int .i16 y]] w fun e w' => e = .returned (.complex .f64 (floatOfInt .f64 x) (floatOfInt .f64 y)) ∧ Bw w w' := by
  have g : Bw w (w.alloc (.cells #[.int .i16 x, .int .i16 y] 24)) := Below.alloc (Bw.refl w) (Nat.le_refl _) _
  have c0 : (w.alloc (.cells #[.int .i16 x, .int .i16 y] 24)).cell? ⟨w.heap.size, 0, none⟩ = some (.int .i16 x) := by simp
  have c1 : (w.alloc (.cells #[.int .i16 x, .int .i16 y] 24)).cell? ⟨w.heap.size, 1, none⟩ = some (.int .i16 y) := by simp
  go_enter Tryz.func6, Tryz.ntmps6
  go_wp2
  go_ret
  exact ⟨rfl, g⟩
def Sm (p : Bool) (x y : Int) : Prop := p = true → (x.natAbs ≤ 1000 ∧ y.natAbs ≤ 1000)
set_option maxHeartbeats 1000000 in
theorem gsmall9 (x y : Int) (w : World) : Calls Tryz.prog 5 #[.agg #[.int .i16 x, .int .i16 y]] w fun e w' => ∃ p, e = .returned (.bool p) ∧ Sm p x y ∧ Bw w w' := by
  have g : Bw w (w.alloc (.cells #[.int .i16 x, .int .i16 y] 24)) := Below.alloc (Bw.refl w) (Nat.le_refl _) _
  have c0 : (w.alloc (.cells #[.int .i16 x, .int .i16 y] 24)).cell? ⟨w.heap.size, 0, none⟩ = some (.int .i16 x) := by simp
  have c1 : (w.alloc (.cells #[.int .i16 x, .int .i16 y] 24)).cell? ⟨w.heap.size, 1, none⟩ = some (.int .i16 y) := by simp
  go_enter Tryz.func5, Tryz.ntmps5
  go_wp2
  all_goals go_ret
  all_goals first
    | exact Or.inl ⟨rfl, (fun h => by cases h), g⟩
    | exact ⟨false, rfl, (fun h => by cases h), g⟩
    | refine ⟨decide (y ≤ 1000), rfl, (fun h => ?_), g⟩
  all_goals (have k := of_decide_eq_true h; omega)
theorem thou_all : ∀ k : Fin 2001, floatOfInt .f64 ((k.val : Int) - 1000) < 18446744073709551616 ∧ Fl.rg (floatOfInt .f64 ((k.val : Int) - 1000)) < 9218868437227405312 ∧ Fl.val (floatOfInt .f64 ((k.val : Int) - 1000)) = ((k.val : Int) - 1000) * ((2 ^ 1074 : Nat) : Int) := by decide +kernel
theorem w_thou {c : Nat} (hc : c = 1074) (m : Int) (h : m.natAbs ≤ 1000) : wI c (floatOfInt .f64 m) m := by
  have h := thou_all ⟨(m + 1000).toNat, by omega⟩
  simp only at h
  rw [show (((m + 1000).toNat : Nat) : Int) - 1000 = m by omega] at h
  subst hc
  exact h
end Go.Proofs.YtggphakliiodeaaGreatDoor
