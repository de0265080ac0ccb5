/-
  OWN TEXT: package ratio: Turned, word by word.
-/
import Derived.Test.YtmbjgakehghdjaaJbc
import Derived.Test.YtmbjgakehghdjaaJau
namespace Go.Proofs.Ytmbjgakehghdjaa
open Go.ChangeShapes Go.WideShapes Go.ChangeAt Go.RowKit
set_option linter.unusedVariables false
attribute [local go_sem] frombits_call tobits_call run_neg run_store_cx
set_option maxHeartbeats 8000000 in
theorem rturned10 {c : Nat} (hc : c = 1074) {w : World} {b1 o1 c1 n1 b2 o2 c2 n2 : Nat} {l1 l2 : List Py.G} (g1 : Gl c w b1 o1 l1) (g2 : Gl c w b2 o2 l2) (m1 : May n1 l1) (m2 : May n2 l2) (z2 : Nz n2 l2) (k1 : n1 ≤ 3) (k2 : n2 ≤ 3) (e1 : ∀ i, Py.Le (Py.co l1 i) 12) (e2 : ∀ i, Py.Le (Py.co l2 i) 12) {P Q : Nat → Nat × Nat} (x1 : Wf w b1 o1 (n1 + 1) P) (x2 : Wf w b2 o2 (n2 + 1) Q) (y1 : Wl c (n1 + 1) P l1) (y2 : Wl c (n2 + 1) Q l2) (z1 : Nz n1 l1) :
    Calls Try.prog 13 #[.agg #[.slice (some ⟨b1, o1, none⟩) (n1 + 1) c1, .slice (some ⟨b2, o2, none⟩) (n2 + 1) c2]] w fun e w' => ∃ B C, e = .returned (.tuple #[.agg #[.slice (some ⟨B, 0, none⟩) (n2 + 1) (n2 + 1), .slice (some ⟨C, 0, none⟩) (n1 + 1) (n1 + 1)], .int .i64 0]) ∧ Wf w' B 0 (n2 + 1) Q ∧ Wf w' C 0 (n1 + 1) P ∧ Bw w w' := by
  have hmf := makef10
  have HC := hide hc
  have HE := hide (And.intro e1 e2)
  have HM := hide (And.intro m1 m2)
  have HG := hide (And.intro g1 g2)
  have HZ := hide z2
  have HX := hide (And.intro x1 (And.intro x2 (And.intro y1 (And.intro y2 z1))))
  clear e1 e2 m1 m2 g1 g2 z2 hc x1 x2 y1 y2 z1
  obtain ⟨F, S, E, V, W5, eF, eS, eE, eV, eW, fF, fS, fV, bW, q1, q2, q3, q4⟩ := four10 w (.slice (some ⟨b1, o1, none⟩) (n1 + 1) c1) (.slice (some ⟨b2, o2, none⟩) (n2 + 1) c2)
  have WO : Hid (Calls Try.prog 32 #[.slice (some ⟨V, 0, none⟩) 1 1] W5 fun e w' => e = .returned (.agg #[.int .i64 0]) ∧ Bw W5 w') := by
    refine workon10 (K := 1) HC.out (by omega) fV.1 (fun k hk => ?_)
    rcases (show k = 0 by omega) with rfl
    exact ⟨_, _, fV.2.1, fV.2.2, _, _, _, _, _, _, _, _, _, _, rfl, rfl, HM.out.1, HG.out.1.bw bW, HM.out.2, HG.out.2.bw bW, HZ.out⟩
  have HT : Hid (Duo W5 F S E (.slice (some ⟨b1, o1, none⟩) (n1 + 1) c1) (.slice (some ⟨b2, o2, none⟩) (n2 + 1) c2) (.slice none 0 0) (.slice none 0 0) 0) := ⟨fF, fS⟩
  have HQ : Hid (F ≠ S ∧ E ≠ S ∧ S < E ∧ w.heap.size ≤ S) := by show _ ∧ _; omega
  have HB := hide bW
  clear fF fS fV bW q1 q2 q3 q4
  go_enter_defers Try.func13, Try.ntmps13
  go_wp2_with fail
  rw [← eW, ← eV, ← eE, ← eS, ← eF]
  refine WO.out.mono ?_
  clear WO eW eV eE eS eF
  rintro e' w6 ⟨rfl, b6⟩
  obtain ⟨Wb, eWb⟩ : ∃ Wb, Wb = w6.heap.size := ⟨_, rfl⟩
  obtain ⟨W7, eW7⟩ : ∃ W7, W7 = w6.alloc (.cells #[.int .i64 0] 64) := ⟨_, rfl⟩
  have b7 : Bw W5 W7 := by rw [eW7]; exact bw_trans b6 (bw_alloc _ _)
  have HK : Hid (Wk W7 Wb) := by show Wk _ _; rw [eW7, eWb]; exact Wk.made _ _
  have HWb : Hid (Wb ≠ S) := by
    have h1 := HT.out.2.1.1
    have h2 := Below.size b6
    show Wb ≠ S
    rw [eWb]; omega
  replace HT := hide (HT.out.bw b7)
  replace HB := hide (bw_trans HB.out b7)
  clear b6 b7
  go_wp2_with fail
  rw [← eW7, ← eWb]
  clear eW7 eWb
  have S0 := (HT.out.bw (Bw.drw W7)).cells
  refine wp_region_K (fun w' => w'.cell? ⟨F, 0, none⟩ = some (.slice (some ⟨b1, o1, none⟩) (n1 + 1) c1) ∧ w'.cell? ⟨F, 1, none⟩ = some (.slice (some ⟨b2, o2, none⟩) (n2 + 1) c2)) 9 10 #[false, false, false, false, false, false, false, false, false, false] (by kernel_rfl) (by kernel_rfl) (by kernel_rfl) ?_
  refine wpAnyK_take 0 9 (v := ?v0) rfl (by kernel_rfl) (by kernel_rfl) (by kernel_rfl) (by kernel_rfl) (by kernel_rfl) (fun _ _ _ h => put_d 9 rfl (by decide) (by decide) h) rfl (Or.inl ⟨by rfl, ?h0⟩) (by assumption) ?r0
  case h0 => (intro w hSw; go_simp; with_reducible rfl)
  simp only [Act.put, List.setIfInBounds_toArray, List.set_cons_zero, List.set_cons_succ]
  refine wpAnyK_take 1 10 (v := ?v1) rfl (by kernel_rfl) (by kernel_rfl) (by kernel_rfl) (by kernel_rfl) (by kernel_rfl) (fun _ _ _ h => put_d 10 rfl (by decide) (by decide) h) rfl (Or.inl ⟨by rfl, ?h1⟩) (by assumption) ?r1
  case h1 => (intro w hSw; go_simp; with_reducible rfl)
  simp only [Act.put, List.setIfInBounds_toArray, List.set_cons_zero, List.set_cons_succ]
  refine wpAnyK_take 3 12 (v := ?v3) rfl (by kernel_rfl) (by kernel_rfl) (by kernel_rfl) (by kernel_rfl) (by kernel_rfl) (fun _ _ _ h => put_d 12 rfl (by decide) (by decide) h) rfl (Or.inl ⟨by rfl, ?h3⟩) (by assumption) ?r3
  case h3 => (intro w hSw; go_simp; with_reducible rfl)
  simp only [Act.put, List.setIfInBounds_toArray, List.set_cons_zero, List.set_cons_succ]
  refine wpAnyK_take 4 13 (v := ?v4) rfl (by kernel_rfl) (by kernel_rfl) (by kernel_rfl) (by kernel_rfl) (by kernel_rfl) (fun _ _ _ h => put_d 13 rfl (by decide) (by decide) h) rfl (Or.inl ⟨by rfl, ?h4⟩) (by assumption) ?r4
  case h4 => (intro w hSw; go_simp; with_reducible rfl)
  simp only [Act.put, List.setIfInBounds_toArray, List.set_cons_zero, List.set_cons_succ]
  refine wpAnyK_one 2 (by kernel_rfl) rfl (fun K hK => ?_)
  go_simp
  go_wp2_with (go_at_call 41; refine (wcopied10 (HK.out.bw (Bw.drw _)) ((HX.out.2.1.bw HB.out).bw (Bw.drw _)) (by omega)).mono ?_; rintro e' w8 ⟨rfl, Xa, Ka⟩; replace Ka := bw_trans (Bw.drw W7) Ka; have T8 := hide (HT.out.bw Ka); have S8 := T8.out.cells; have K8 := hide (HK.out.bw Ka); have B8 := hide (bw_trans HB.out Ka); obtain ⟨Bc, eBc⟩ : ∃ B, B = W7.drew.heap.size := ⟨_, rfl⟩; rw [← eBc] at Xa ⊢; have hBc : Hid (Bc ≠ S) := (by have h1 := HT.out.2.1.1; show Bc ≠ S; rw [eBc]; exact fun e => Nat.lt_irrefl _ (e ▸ h1)); clear eBc)
  refine hK.out _ _ (fun _ _ => S8) ?_
  clear hK K
  simp only [List.setIfInBounds_toArray, List.set_cons_zero, List.set_cons_succ]
  refine wpAnyK_take 6 15 (v := ?v6) rfl (by kernel_rfl) (by kernel_rfl) (by kernel_rfl) (by kernel_rfl) (by kernel_rfl) (fun _ _ _ h => put_d 15 rfl (by decide) (by decide) h) rfl (Or.inl ⟨by rfl, ?h6⟩) (by assumption) ?r6
  case h6 => (intro w hSw; go_simp; with_reducible rfl)
  simp only [Act.put, List.setIfInBounds_toArray, List.set_cons_zero, List.set_cons_succ]
  refine wpAnyK_one 5 (by kernel_rfl) rfl (fun K hK => ?_)
  go_simp
  go_wp2_with (go_at_call 41; refine (wcopied10 K8.out (HX.out.1.bw B8.out) (by omega)).mono ?_; rintro e' w9 ⟨rfl, Xb, Kb⟩; have T9 := hide (T8.out.bw Kb); have S9 := T9.out.cells; have K9 := hide (K8.out.bw Kb); have B9 := hide (bw_trans B8.out Kb); replace Xa := Xa.bw Kb; obtain ⟨Bd, eBd⟩ : ∃ B, B = w8.heap.size := ⟨_, rfl⟩; rw [← eBd] at Xb ⊢; have hBd : Hid (Bd ≠ S) := (by have h1 := T8.out.2.1.1; show Bd ≠ S; rw [eBd]; exact fun e => Nat.lt_irrefl _ (e ▸ h1)); clear eBd)
  refine hK.out _ _ (fun _ _ => S9) ?_
  clear hK K
  simp only [List.setIfInBounds_toArray, List.set_cons_zero, List.set_cons_succ]
  obtain ⟨⟨_, d0, d1⟩, f0, f1, _, g0, g1⟩ := T9.out.2
  have T10 := hide (T9.out.top HQ.out.1 HQ.out.2.1 (.slice (some ⟨Bc, 0, none⟩) (n2 + 1) (n2 + 1)))
  have S10 := T10.out.cells
  refine wpAnyK_one 7 (by kernel_rfl) rfl (fun K hK => ?_)
  go_simp
  refine hK.out _ _ (fun _ _ => S10) ?_
  clear hK K
  simp only [List.setIfInBounds_toArray, List.set_cons_zero, List.set_cons_succ]
  have K10 := hide (K9.out.apart HWb.out 0 (.slice (some ⟨Bc, 0, none⟩) (n2 + 1) (n2 + 1)))
  have B10 := hide (bw_set B9.out HQ.out.2.2.2 0 (.slice (some ⟨Bc, 0, none⟩) (n2 + 1) (n2 + 1)))
  replace Xa := Xa.set hBc.out 0 (.slice (some ⟨Bc, 0, none⟩) (n2 + 1) (n2 + 1))
  replace Xb := Xb.set hBd.out 0 (.slice (some ⟨Bc, 0, none⟩) (n2 + 1) (n2 + 1))
  clear d0 d1 f0 f1 g0 g1 S0 S8 S9 T8 K8 B8 T9 K9 B9 Ka Kb
  generalize w9.setCell ⟨S, 0, none⟩ (.slice (some ⟨Bc, 0, none⟩) (n2 + 1) (n2 + 1)) = w10 at *
  obtain ⟨⟨_, d0, d1⟩, f0, f1, _, g0, g1⟩ := T10.out.2
  refine wpAnyK_take 8 16 (v := ?v8) rfl (by kernel_rfl) (by kernel_rfl) (by kernel_rfl) (by kernel_rfl) (by kernel_rfl) (fun _ _ _ h => put_d 16 rfl (by decide) (by decide) h) rfl (Or.inl ⟨by rfl, ?h8⟩) (by assumption) ?r8
  case h8 => (intro w hSw; go_simp; with_reducible rfl)
  simp only [Act.put, List.setIfInBounds_toArray, List.set_cons_zero, List.set_cons_succ]
  refine wpAnyK_one 9 (by kernel_rfl) rfl (fun K hK => ?_)
  go_simp
  refine hK.out _ _ (fun h => absurd rfl h) ?_
  clear hK K
  simp only [List.setIfInBounds_toArray, List.set_cons_zero, List.set_cons_succ]
  refine wpAnyK_done (by kernel_rfl) ?_ _
  have T13 := hide (T10.out.bottom HQ.out.1 HQ.out.2.1 (.slice (some ⟨Bd, 0, none⟩) (n1 + 1) (n1 + 1)))
  have K13 := hide (K10.out.apart HWb.out 1 (.slice (some ⟨Bd, 0, none⟩) (n1 + 1) (n1 + 1)))
  have B13 := hide (bw_set B10.out HQ.out.2.2.2 1 (.slice (some ⟨Bd, 0, none⟩) (n1 + 1) (n1 + 1)))
  have XX := hide (And.intro (Xa.set hBc.out 1 (.slice (some ⟨Bd, 0, none⟩) (n1 + 1) (n1 + 1))) (Xb.set hBd.out 1 (.slice (some ⟨Bd, 0, none⟩) (n1 + 1) (n1 + 1))))
  clear Xa Xb T10 K10 B10 S10 d0 d1 f0 f1 g0 g1
  generalize w10.setCell ⟨S, 1, none⟩ (.slice (some ⟨Bd, 0, none⟩) (n1 + 1) (n1 + 1)) = W13 at *
  go_wp2_with fail
  obtain ⟨⟨_, d0, d1⟩, f0, f1, _, g0, g1⟩ := T13.out.2
  obtain ⟨_, wk, _⟩ := K13.out
  have S13 : W13.drew.cell? ⟨S, 0, none⟩ = some (.slice (some ⟨Bc, 0, none⟩) (n2 + 1) (n2 + 1)) ∧ W13.drew.cell? ⟨S, 1, none⟩ = some (.slice (some ⟨Bd, 0, none⟩) (n1 + 1) (n1 + 1)) ∧ W13.drew.cell? ⟨Wb, 0, none⟩ = some (.int .i64 0) := ⟨d0, d1, wk⟩
  have y0 := set_self d0
  have y1 := set_self d1
  have y2 := set_self g0
  refine wp_region_K (fun w' => w'.cell? ⟨S, 0, none⟩ = some (.slice (some ⟨Bc, 0, none⟩) (n2 + 1) (n2 + 1)) ∧ w'.cell? ⟨S, 1, none⟩ = some (.slice (some ⟨Bd, 0, none⟩) (n1 + 1) (n1 + 1)) ∧ w'.cell? ⟨Wb, 0, none⟩ = some (.int .i64 0)) 4 5 #[false, false, false, false, false] (by kernel_rfl) (by kernel_rfl) (by kernel_rfl) ?_
  refine wpAnyK_take 0 17 (v := ?vz0) rfl (by kernel_rfl) (by kernel_rfl) (by kernel_rfl) (by kernel_rfl) (by kernel_rfl) (fun _ _ _ h => put_d 17 rfl (by decide) (by decide) h) rfl (Or.inl ⟨by rfl, ?hz0⟩) (by assumption) ?rz0
  case hz0 => (intro w hSw; go_simp; with_reducible rfl)
  simp only [Act.put, List.setIfInBounds_toArray, List.set_cons_zero, List.set_cons_succ]
  refine wpAnyK_take 1 18 (v := ?vz1) rfl (by kernel_rfl) (by kernel_rfl) (by kernel_rfl) (by kernel_rfl) (by kernel_rfl) (fun _ _ _ h => put_d 18 rfl (by decide) (by decide) h) rfl (Or.inl ⟨by rfl, ?hz1⟩) (by assumption) ?rz1
  case hz1 => (intro w hSw; go_simp; with_reducible rfl)
  simp only [Act.put, List.setIfInBounds_toArray, List.set_cons_zero, List.set_cons_succ]
  refine wpAnyK_take 2 19 (v := ?vz2) rfl (by kernel_rfl) (by kernel_rfl) (by kernel_rfl) (by kernel_rfl) (by kernel_rfl) (fun _ _ _ h => put_d 19 rfl (by decide) (by decide) h) rfl (Or.inl ⟨by rfl, ?hz2⟩) (by assumption) ?rz2
  case hz2 => (intro w hSw; go_simp; with_reducible rfl)
  simp only [Act.put, List.setIfInBounds_toArray, List.set_cons_zero, List.set_cons_succ]
  refine wpAnyK_one 3 (by kernel_rfl) rfl (fun K hK => ?_)
  go_simp
  refine hK.out _ _ (fun _ _ => S13) ?_
  clear hK K
  simp only [List.setIfInBounds_toArray, List.set_cons_zero, List.set_cons_succ]
  refine wpAnyK_one 4 (by kernel_rfl) rfl (fun K hK => ?_)
  go_simp
  refine hK.out _ _ (fun h => absurd rfl h) ?_
  clear hK K
  simp only [List.setIfInBounds_toArray, List.set_cons_zero, List.set_cons_succ]
  refine wpAnyK_done (by kernel_rfl) ?_ _
  clear S13 y0 y1 y2 d0 d1 f0 f1 g0 g1 wk
  go_wp2_with fail
  refine leaves_cons (f := 40) (args := #[.pointer (some ⟨Wb, 0, none⟩), .pointer (some ⟨S, 0, none⟩), .pointer (some ⟨E, 0, none⟩)]) (by simp) (by simp [go_sem]) ?_
  refine (dturned10 .returning (K13.out.bw (Bw.drw _)) (T13.out.2.bw (Bw.drw _)) HM.out.1 ((XX.out.2.bw (Bw.drw _)).gl HX.out.2.2.1) HX.out.2.2.2.2).mono ?_
  rintro e u' w14 ⟨rfl, rfl, b14⟩
  replace b14 := bw_trans (Bw.drw W13) b14
  have T14 := (T13.out.2.bw b14)
  refine ⟨_, res_cc rfl _ _ S E _ _ 0 rfl rfl T14.1 T14.2.2.2.2.1, Bc, Bd, rfl, XX.out.1.bw b14, XX.out.2.bw b14, bw_trans B13.out b14⟩
end Go.Proofs.Ytmbjgakehghdjaa
/-
  OWN TEXT: parts.Div of whole numbers: it is finite, and hangs on the words alone.
-/
namespace Go.Proofs.Ytmbjgakehghdjaa
open Go.ChangeShapes Go.WideShapes Go.ChangeAt Go.RowKit
set_option linter.unusedVariables false
theorem nr_le {x : Nat} {n : Int} (h : nr x n) : (Fl.val x).natAbs ≤ 2 * n.natAbs + 1 := by
  obtain ⟨_, _, h⟩ := h
  have t := Zq.nabs_add n (Fl.val x - n)
  rw [show n + (Fl.val x - n) = Fl.val x by omega] at t
  generalize (Fl.val x - n).natAbs = d at *
  omega
theorem mul_le10 {n G U K : Nat} (h : n ≤ K * (G * U)) (hG : G ≤ 100000) (hK : K ≤ 1000) : n ≤ 1125899906842624 * U := by
  refine Nat.le_trans h ?_
  rw [← Nat.mul_assoc]
  refine Nat.mul_le_mul_right U ?_
  have := Nat.mul_le_mul hK hG
  omega
theorem kt10 {c xg xl : Nat} {g l : Int} (hc : c = 1074) (hg : wI c xg g) (hl : wI c xl l) (g0 : g ≠ 0) (hlg : l.natAbs ≤ g.natAbs) (hg1 : g.natAbs ≤ 100000) :
    ∃ k m2, Fl.rg k < 9218868437227405312 ∧ Fl.rg m2 < 9218868437227405312 ∧ (∀ (t : TypeId) (w : World), (binOp .quo t (.float .f64 xl) (.float .f64 xg)).run Try.prog w = .ok (.float .f64 k) w) ∧
      (∀ (t : TypeId) (w : World), (binOp .mul t (.float .f64 xl) (.float .f64 k)).run Try.prog w = .ok (.float .f64 m2) w) ∧
      (g * ((2 ^ c : Nat) : Int) + Fl.val m2).natAbs ≤ 1125899906842624 * 2 ^ c ∧ (Fl.val k).natAbs ≤ 2 * 2 ^ c ∧ ∀ t, nr t (g * ((2 ^ c : Nat) : Int) + Fl.val m2) → 2 ^ c ≤ 2 * (Fl.val t).natAbs := by
  have hU := unit_le hc
  have hU0 := Nat.two_pow_pos c
  obtain ⟨U, eU⟩ : ∃ U, U = 2 ^ c := ⟨_, rfl⟩
  have G1 : 1 ≤ g.natAbs := Int.natAbs_pos.2 g0
  obtain ⟨k, ⟨k1, k2, k3⟩, k4⟩ := n_quo (a := xl) (b := xg) hc hl.2.1 hg.2.1 (by
    intro q
    have := val_natAbs xg
    rw [q, hg.vl] at this
    have h := Nat.mul_pos (show 0 < g.natAbs by omega) hU0
    rw [← this] at h
    exact absurd h (by decide)) (by
    rw [val_natAbs, val_natAbs, hl.vl, hg.vl, ← Nat.mul_assoc]
    exact Nat.mul_le_mul_right _ (by omega))
  have k3' : 2251799813685248 * (g * Fl.val k - l * ((2 ^ c : Nat) : Int)).natAbs ≤ l.natAbs * 2 ^ c + 4503599627370496 * g.natAbs := by
    rw [hg.2.2, hl.2.2, ← eU] at k3
    rw [← eU]
    rw [← eU] at hU0
    refine Nat.le_of_mul_le_mul_right (c := U) ?_ hU0
    have e1 : Fl.val k * (g * (U : Int)) - l * (U : Int) * (U : Int) = (g * Fl.val k - l * (U : Int)) * (U : Int) := by grind
    rw [e1, Int.natAbs_mul, Int.natAbs_natCast, Int.natAbs_mul, Int.natAbs_natCast, Int.natAbs_mul, Int.natAbs_natCast] at k3
    rw [Nat.mul_assoc, Nat.add_mul, Nat.mul_assoc 4503599627370496]
    exact k3
  rw [← eU] at k3' hU ⊢
  obtain ⟨b1, bk⟩ := Zq.bounds (X := g.natAbs * U) (m2 := 0) (t := 0) hU rfl G1 rfl hlg k3'
  have hX5 : 4503599627370496 ≤ g.natAbs * U := Nat.le_trans (by decide) (Nat.le_trans hU (Nat.le_mul_of_pos_left U G1))
  have hlk : (l * Fl.val k).natAbs ≤ 1125899906842624 * U := by
    rw [Int.natAbs_mul]
    refine Nat.le_trans (Nat.mul_le_mul (Nat.le_trans hlg hg1) bk) ?_
    rw [← Nat.mul_assoc]
    exact Nat.mul_le_mul_right U (by decide)
  rw [eU] at hlk
  obtain ⟨m2, ⟨m1, m3, m4⟩, m5⟩ := n_mul (k := k) hc hl k2 hlk
  obtain ⟨b2, c2⟩ := Zq.prod_step (n := 1) (G := g.natAbs) (U := U) rfl hX5 (by rw [Nat.one_mul]; exact hlg) bk (by decide) m4
  refine ⟨k, m2, k2, m3, k4, m5, ?_, bk, fun t ht => ?_⟩
  · have s1 : (g * (U : Int)).natAbs = g.natAbs * U := by rw [Int.natAbs_mul, Int.natAbs_natCast]
    refine mul_le10 (G := g.natAbs) (K := 4) (Nat.le_trans (Zq.nabs_add _ _) ?_) hg1 (by decide)
    rw [s1]
    have h : ∀ Y z : Nat, z ≤ (2 * 1 + 1) * Y → Y + z ≤ 4 * Y := by intro Y z h; omega
    exact h _ _ c2
  · obtain ⟨_, _, h3⟩ := ht
    obtain ⟨b3, c3⟩ := Zq.sum_step (n := 1) (k := 3) (G := g.natAbs) (U := U) rfl hX5 (by rw [Nat.one_mul]; exact Nat.le_refl _) c2 (by decide) h3
    have e1 : g * Fl.val k = l * (U : Int) + (g * Fl.val k - l * (U : Int)) := by rw [Int.add_comm, Int.sub_add_cancel]
    have e2 : Fl.val m2 = l * Fl.val k + (Fl.val m2 - l * Fl.val k) := by rw [Int.add_comm, Int.sub_add_cancel]
    have e3 : Fl.val t = g * (U : Int) + Fl.val m2 + (Fl.val t - (g * (U : Int) + Fl.val m2)) := by rw [Int.add_comm, Int.sub_add_cancel]
    have lt := Zq.t_low rfl G1 rfl hlg e1 e2 e3 b1 b2 b3
    exact Nat.le_trans (Nat.le_mul_of_pos_left U G1) lt
/-- a finite float of at most K units -/
def fb (c x K : Nat) : Prop := x < 18446744073709551616 ∧ Fl.rg x < 9218868437227405312 ∧ (Fl.val x).natAbs ≤ K * 2 ^ c
theorem wI.fb {c x : Nat} {n : Int} (h : wI c x n) (K : Nat) (hK : n.natAbs ≤ K) : fb c x K := by
  refine ⟨h.1, h.2.1, ?_⟩
  rw [h.2.2, Int.natAbs_mul, Int.natAbs_natCast]
  exact Nat.mul_le_mul_right _ hK
theorem f_mul {c a k : Nat} {m : Int} (hc : c = 1074) (ha : wI c a m) (hm : m.natAbs ≤ 100000) (hk : Fl.rg k < 9218868437227405312) (hb : (Fl.val k).natAbs ≤ 2 * 2 ^ c) :
    ∃ r, fb c r 500000 ∧ ∀ (t : TypeId) (w : World), (binOp .mul t (.float .f64 a) (.float .f64 k)).run Try.prog w = .ok (.float .f64 r) w := by
  have hU := unit_le hc
  have hp : (m * Fl.val k).natAbs ≤ 200000 * 2 ^ c := by
    rw [Int.natAbs_mul]
    refine Nat.le_trans (Nat.mul_le_mul hm hb) ?_
    rw [← Nat.mul_assoc]
    exact Nat.mul_le_mul_right _ (by decide)
  obtain ⟨r, h, e⟩ := n_mul (k := k) hc ha hk (Nat.le_trans hp (Nat.mul_le_mul_right _ (by decide)))
  refine ⟨r, ⟨h.1, h.2.1, ?_⟩, e⟩
  have := nr_le h
  generalize 2 ^ c = U at *
  omega
theorem f_add {c a b : Nat} (hc : c = 1074) (ha : fb c a 500000) (hb : fb c b 500000) : ∃ r, fb c r 3000000 ∧ ∀ (t : TypeId) (w : World), (binOp .add t (.float .f64 a) (.float .f64 b)).run Try.prog w = .ok (.float .f64 r) w := by
  have hU := unit_le hc
  have hp : (Fl.val a + Fl.val b).natAbs ≤ 1000000 * 2 ^ c := by
    have := Zq.nabs_add (Fl.val a) (Fl.val b)
    have h1 := ha.2.2
    have h2 := hb.2.2
    generalize 2 ^ c = U at *
    omega
  obtain ⟨r, h, e⟩ := n_add hc ha.2.1 hb.2.1 (Nat.le_trans hp (Nat.mul_le_mul_right _ (by decide)))
  refine ⟨r, ⟨h.1, h.2.1, ?_⟩, e⟩
  have := nr_le h
  generalize 2 ^ c = U at *
  omega
theorem f_sub {c a b : Nat} (hc : c = 1074) (ha : fb c a 500000) (hb : fb c b 500000) : ∃ r, fb c r 3000000 ∧ ∀ (t : TypeId) (w : World), (binOp .sub t (.float .f64 a) (.float .f64 b)).run Try.prog w = .ok (.float .f64 r) w := by
  have hU := unit_le hc
  have hp : (Fl.val a - Fl.val b).natAbs ≤ 1000000 * 2 ^ c := by
    have := Zq.nabs_sub (Fl.val a) (Fl.val b)
    have h1 := ha.2.2
    have h2 := hb.2.2
    generalize 2 ^ c = U at *
    omega
  obtain ⟨r, h, e⟩ := n_sub hc ha.2.1 hb.2.1 hb.1 (Nat.le_trans hp (Nat.mul_le_mul_right _ (by decide)))
  refine ⟨r, ⟨h.1, h.2.1, ?_⟩, e⟩
  have := nr_le h
  generalize 2 ^ c = U at *
  omega
theorem f_quo {c a b : Nat} (hc : c = 1074) (ha : fb c a 3000000) (hb : Fl.rg b < 9218868437227405312) (hl : 2 ^ c ≤ 2 * (Fl.val b).natAbs) : ∃ r, (r < 18446744073709551616 ∧ Fl.rg r < 9218868437227405312) ∧ ∀ (t : TypeId) (w : World), (binOp .quo t (.float .f64 a) (.float .f64 b)).run Try.prog w = .ok (.float .f64 r) w := by
  have hU := unit_le hc
  have h1 := ha.2.2
  obtain ⟨r, h, e⟩ := n_quo (a := a) (b := b) hc ha.2.1 hb (by intro q; rw [q] at hl; simp at hl) (by generalize 2 ^ c = U at *; omega)
  exact ⟨r, ⟨h.1, h.2.1⟩, e⟩
theorem pdiv10 {c p q r s : Nat} {P Q R S : Int} (hc : c = 1074) (hp : wI c p P) (hq : wI c q Q) (hr : wI c r R) (hs : wI c s S) (g0 : ¬ (R = 0 ∧ S = 0)) (bP : P.natAbs ≤ 100000) (bQ : Q.natAbs ≤ 100000) (bR : R.natAbs ≤ 100000) (bS : S.natAbs ≤ 100000) :
    ∃ x y, (x < 18446744073709551616 ∧ Fl.rg x < 9218868437227405312) ∧ (y < 18446744073709551616 ∧ Fl.rg y < 9218868437227405312) ∧ ∀ w, Calls Try.prog 26 #[.complex .f64 p q, .complex .f64 r s] w fun e w' => e = .returned (.complex .f64 x y) ∧ w' = w := by
  have AR : Hid (∀ wz, Calls Try.prog 27 #[.float .f64 r] wz fun e w' => e = .returned (.float .f64 (Fl.rg r)) ∧ w' = wz) := fun wz => abs_any r wz hr.1
  have AS : Hid (∀ wz, Calls Try.prog 27 #[.float .f64 s] wz fun e w' => e = .returned (.float .f64 (Fl.rg s)) ∧ w' = wz) := fun wz => abs_any s wz hs.1
  by_cases hRS : S.natAbs ≤ R.natAbs
  · have R0 : R ≠ 0 := by intro e; apply g0; refine ⟨e, ?_⟩; rw [e] at hRS; simp at hRS; exact hRS
    obtain ⟨k, m2, k2, m3, r1, r2, f3, f4, low⟩ := kt10 hc hr hs R0 hRS bR
    rw [← hr.2.2] at f3 low
    obtain ⟨t, ht, r3⟩ := n_add hc hr.2.1 m3 f3
    have lt := low t ht
    obtain ⟨mq, q1, r4⟩ := f_mul hc hq bQ k2 f4
    obtain ⟨mp, p1, r5⟩ := f_mul hc hp bP k2 f4
    obtain ⟨A, A1, r6⟩ := f_add hc (hp.fb 500000 (by omega)) q1
    obtain ⟨B, B1, r7⟩ := f_sub hc (hq.fb 500000 (by omega)) p1
    obtain ⟨x, x1, r8⟩ := f_quo hc A1 ht.2.1 lt
    obtain ⟨y, y1, r9⟩ := f_quo hc B1 ht.2.1 lt
    refine ⟨x, y, x1, y1, fun w => ?_⟩
    have hle : Fl.leF (Fl.rg s) (Fl.rg r) = true := by
      rw [hs.abs.wI.leF hr.abs.wI]
      exact decide_eq_true (by omega)
    clear A1 B1 x1 y1 q1 p1 f3 f4 lt low ht hp hq hr hs hRS g0 R0 k2 m3 bP bQ bR bS
    generalize Fl.rg r = ur at *
    generalize Fl.rg s = us at *
    have og := Fl.o_ge ur us
    rw [hle] at og
    clear hle
    go_enter Try.func26, Try.ntmps26
    go_wp2_with fail
    refine (AR.out _).mono ?_
    rintro e' w ⟨rfl, rfl⟩
    go_wp2_with fail
    refine (AS.out _).mono ?_
    rintro e' w ⟨rfl, rfl⟩
    go_wp2
    go_ret
    exact ⟨rfl, rfl⟩
  · have S0 : S ≠ 0 := by intro e; rw [e] at hRS; simp at hRS
    obtain ⟨k, m2, k2, m3, r1, r2, f3, f4, low⟩ := kt10 hc hs hr S0 (by omega) bS
    rw [← hs.2.2, Int.add_comm] at f3
    obtain ⟨t, ht, r3⟩ := n_add hc m3 hs.2.1 f3
    have lt := low t (by rw [← hs.2.2, Int.add_comm]; exact ht)
    obtain ⟨mp, p1, r4⟩ := f_mul hc hp bP k2 f4
    obtain ⟨mq, q1, r5⟩ := f_mul hc hq bQ k2 f4
    obtain ⟨A, A1, r6⟩ := f_add hc p1 (hq.fb 500000 (by omega))
    obtain ⟨B, B1, r7⟩ := f_sub hc q1 (hp.fb 500000 (by omega))
    obtain ⟨x, x1, r8⟩ := f_quo hc A1 ht.2.1 lt
    obtain ⟨y, y1, r9⟩ := f_quo hc B1 ht.2.1 lt
    refine ⟨x, y, x1, y1, fun w => ?_⟩
    have hle : Fl.leF (Fl.rg s) (Fl.rg r) = false := by
      rw [hs.abs.wI.leF hr.abs.wI]
      exact decide_eq_false (by omega)
    clear A1 B1 x1 y1 q1 p1 f3 f4 lt low ht hp hq hr hs hRS g0 S0 k2 m3 bP bQ bR bS
    generalize Fl.rg r = ur at *
    generalize Fl.rg s = us at *
    have og := Fl.o_ge ur us
    rw [hle] at og
    clear hle
    go_enter Try.func26, Try.ntmps26
    go_wp2_with fail
    refine (AR.out _).mono ?_
    rintro e' w ⟨rfl, rfl⟩
    go_wp2_with fail
    refine (AS.out _).mono ?_
    rintro e' w ⟨rfl, rfl⟩
    go_wp2
    go_ret
    exact ⟨rfl, rfl⟩
end Go.Proofs.Ytmbjgakehghdjaa
/-
  OWN TEXT: package poly: At, of a list of whole complex numbers: its answer hangs on the words alone.
-/
namespace Go.Proofs.Ytmbjgakehghdjaa
open Go.ChangeShapes Go.WideShapes Go.ChangeAt Go.RowKit
set_option linter.unusedVariables false
attribute [local go_sem] frombits_call tobits_call run_neg run_store_cx
/-- the words that Horner's steps come to -/
def Hv (c n x y : Nat) (F V : Nat → Nat × Nat) (l : List Py.G) (g : Py.G) : Prop := V n = F n ∧ (∀ k, k ≤ n → wC c (V k).1 (V k).2 (Py.ev (l.drop k) g)) ∧
  ∀ k, k < n → ∃ m1 m2, (∀ w, Calls Try.prog 23 #[.complex .f64 (V (k + 1)).1 (V (k + 1)).2, .complex .f64 x y] w fun e w' => e = .returned (.complex .f64 m1 m2) ∧ w' = w) ∧ ∀ (t : TypeId) (w : World), (binOp .add t (.complex .f64 m1 m2) (.complex .f64 (F k).1 (F k).2)).run Try.prog w = .ok (.complex .f64 (V k).1 (V k).2) w
theorem hv10 {c : Nat} (hc : c = 1074) {n x y Z : Nat} {F : Nat → Nat × Nat} {l : List Py.G} {g : Py.G} (U : Nat → Nat) (hF : Wl c (n + 1) F l) (hg : wC c x y g) (lg : Py.Le g Z) (hU : Steps l n Z U) : ∃ V, Hv c n x y F V l g := by
  have key : ∀ d, d ≤ n → ∃ V : Nat → Nat × Nat, V n = F n ∧ (∀ k, n ≤ k + d → k ≤ n → wC c (V k).1 (V k).2 (Py.ev (l.drop k) g) ∧ Py.Le (Py.ev (l.drop k) g) (U k)) ∧
      ∀ k, n ≤ k + d → k < n → ∃ m1 m2, (∀ w, Calls Try.prog 23 #[.complex .f64 (V (k + 1)).1 (V (k + 1)).2, .complex .f64 x y] w fun e w' => e = .returned (.complex .f64 m1 m2) ∧ w' = w) ∧ ∀ (t : TypeId) (w : World), (binOp .add t (.complex .f64 m1 m2) (.complex .f64 (F k).1 (F k).2)).run Try.prog w = .ok (.complex .f64 (V k).1 (V k).2) w := by
    intro d
    induction d with
    | zero =>
      intro _
      refine ⟨F, rfl, fun k h1 h2 => ?_, fun k h1 h2 => by omega⟩
      have hk : k = n := by omega
      subst hk
      have e : Py.ev (l.drop k) g = Py.co l k := by
        rw [Py.ev_drop _ _ (by rw [hF.1]; omega), List.drop_of_length_le (by rw [hF.1]; omega), Py.ev, Py.nought_gm, Py.nought_ga]
      rw [e]
      exact ⟨hF.2 k (by omega), hU.1⟩
    | succ d ih =>
      intro hd
      obtain ⟨V, v0, v1, v2⟩ := ih (by omega)
      obtain ⟨j, hj⟩ : ∃ j, n = j + 1 + d := ⟨n - 1 - d, by omega⟩
      obtain ⟨w1, w2⟩ := v1 (j + 1) (by omega) (by omega)
      have hj53 := hU.2.2 j (by omega)
      obtain ⟨D, hD, hD2⟩ := hU.2.1 j (by omega)
      obtain ⟨a1, a2, ha, MU⟩ := pmul8 hc w1 hg w2 lg (by omega)
      have hbound := w2.mul lg
      obtain ⟨d1, d2, hd', AD⟩ := c_add hc ha (hF.2 j (by omega)) hbound hD (by omega)
      have hR : wC c d1 d2 (Py.ev (l.drop j) g) ∧ Py.Le (Py.ev (l.drop j) g) (U j) := by
        rw [Py.ev_drop _ _ (by rw [hF.1]; omega)]
        exact ⟨hd', (hbound.add hD).mono hD2⟩
      refine ⟨fun k => if k = j then (d1, d2) else V k, ?_, fun k h1 h2 => ?_, fun k h1 h2 => ?_⟩
      · simp only; rw [if_neg (by omega)]; exact v0
      · simp only
        by_cases z : k = j
        · rw [if_pos z, z]; exact hR
        · rw [if_neg z]; exact v1 k (by omega) h2
      · simp only
        by_cases z : k = j
        · rw [if_pos z, if_neg (by omega), z]
          exact ⟨a1, a2, MU, AD⟩
        · rw [if_neg z, if_neg (by omega)]
          exact v2 k (by omega) h2
  obtain ⟨V, v0, v1, v2⟩ := key n (Nat.le_refl _)
  exact ⟨V, v0, fun k hk => (v1 k (by omega) hk).1, fun k hk => v2 k (by omega) hk⟩
set_option maxHeartbeats 4000000 in
theorem stepsw10 {c : Nat} {w : World} {b o cap n x y : Nat} {F V : Nat → Nat × Nat} {l : List Py.G} {g : Py.G} (hm : n < 1000) (h : Wf w b o (n + 1) F) (hV : Hv c n x y F V l g) : Calls Try.prog 69 #[.slice (some ⟨b, o, none⟩) (n + 1) cap, .complex .f64 x y] w fun e w' => ∃ p q, e = .returned (.tuple #[.complex .f64 (V 0).1 (V 0).2, .complex .f64 p q]) ∧ Bw w w' := by
  have L : Calls Try.prog 58 #[.slice (some ⟨b, o, none⟩) (n + 1) cap] w fun e w' => e = .returned (.complex .f64 (F n).1 (F n).2) ∧ w' = w := by
    have e := h.2 n (by omega)
    clear h hV
    go_enter Try.func58, Try.ntmps58
    go_wp2
    go_ret
    exact ⟨rfl, rfl⟩
  rw [← hV.1] at L
  have HL := hide L
  have HG := hide h
  have HV := hide hV
  clear L h hV
  go_enter Try.func69, Try.ntmps69
  go_wp2_with fail
  refine HL.out.mono ?_
  rintro e' w ⟨rfl, rfl⟩
  clear HL
  go_wp2
  go_loopw [4, 5, 6] (fun v t i wr => ∃ (k p q : Nat), k ≤ n ∧ i = .int .i64 ((k : Int) - 1) ∧ v = .complex .f64 (V k).1 (V k).2 ∧ t = .complex .f64 p q ∧ Bw w wr) (fun _ _ i _ => (intOf i + 1).toNat)
  case atStart => exact ⟨n, 0, 0, Nat.le_refl _, by simp; try omega, rfl, rfl, Bw.refl _⟩
  case round =>
    obtain ⟨k, p, q, hk, rfl, rfl, rfl, hbw⟩ := hrel
    cases k with
    | zero =>
      clear HV
      go_wp2
      go_ret2
      exact ⟨p, q, rfl, hbw⟩
    | succ j =>
      rw [show (((j + 1 : Nat) : Int) - 1) = (j : Int) by omega]
      obtain ⟨a1, a2, MU, AD⟩ := HV.out.2.2 j (by omega)
      have ec := (HG.out.bw hbw).2 j (by omega)
      have HM := hide MU
      clear MU
      have HR : Hid ((V j).1 = (V j).1 ∧ (V j).2 = (V j).2) := ⟨rfl, rfl⟩
      generalize e1 : (V (j + 1)).1 = r at HM ⊢
      generalize e2 : (V (j + 1)).2 = s at HM ⊢
      generalize e3 : (V j).1 = d1 at AD ⊢
      generalize e4 : (V j).2 = d2 at AD ⊢
      generalize e5 : (F j).1 = cx at AD ec
      generalize e6 : (F j).2 = cy at AD ec
      have H34 := hide (And.intro e3 e4)
      clear e1 e2 e3 e4 e5 e6 HR
      go_wp2_with fail
      refine (pmul_free p q x y _).mono ?_
      rintro e' w1 ⟨p1, q1, rfl, b1⟩
      obtain ⟨p2, q2, w2, EA, b2⟩ := cadd_free p1 q1 r s w1
      go_wp2_with fail
      refine (HM.out _).mono ?_
      rintro e' w3 ⟨rfl, rfl⟩
      have hb0 := hbw
      replace hbw := bw_trans (bw_trans hbw b1) b2
      have ec2 : w3.cell? ⟨b, o + j, none⟩ = some (.complex .f64 cx cy) := by
        have := (Below.cell (bw_trans b1 b2) (p := ⟨b, o + j, none⟩) (by have := HG.out.1; have := Below.size hb0; show b < _; omega)).trans ec
        exact this
      clear ec b1 b2 HM EA hb0
      have hj2 : (j : Int) < (n : Int) + 1 := by omega
      go_wp2
      go_roundw
      case rel => exact ⟨j, p2, q2, by omega, by simp, by rw [H34.out.1, H34.out.2], rfl, hbw⟩
      case measure => simp [intOf]; try omega
theorem atw10 {c : Nat} (hc : c = 1074) {w : World} {b o cap n x y : Nat} {F V : Nat → Nat × Nat} {l : List Py.G} {g : Py.G} (hm : May n l) (h : Wf w b o (n + 1) F) (hF : Wl c (n + 1) F l) (hg : wC c x y g) (lg : Py.Le g 1099511627776) (hV : Hv c n x y F V l g) : Calls Try.prog 50 #[.slice (some ⟨b, o, none⟩) (n + 1) cap, .complex .f64 x y] w fun e w' => e = .returned (.tuple #[.complex .f64 (V 0).1 (V 0).2, .int .i64 0]) ∧ Bw w w' := by
  have C := hide (checkwith8 (cap := cap) hc hm (h.gl hF) hg lg)
  have S : Hid (∀ wz, Bw w wz → Calls Try.prog 69 #[.slice (some ⟨b, o, none⟩) (n + 1) cap, .complex .f64 x y] wz fun e w' => ∃ p q, e = .returned (.tuple #[.complex .f64 (V 0).1 (V 0).2, .complex .f64 p q]) ∧ Bw wz w') := fun wz hz => stepsw10 (by have := hm.2.1; omega) (h.bw hz) hV
  have F1 : Hid (∀ wz, Calls Try.prog 61 #[.complex .f64 (V 0).1 (V 0).2] wz fun e w' => e = .returned (.bool true) ∧ w' = wz) := fun wz => pfinite8 (hV.2.1 0 (Nat.zero_le _)) wz
  clear hm h hg lg hF hV
  generalize (V 0).1 = r at *
  generalize (V 0).2 = s at *
  go_enter Try.func50, Try.ntmps50
  go_wp2_with fail
  refine C.out.mono ?_
  rintro e' w1 ⟨rfl, b1⟩
  clear C
  go_wp2_with fail
  refine (S.out _ b1).mono ?_
  rintro e' w2 ⟨p, q, rfl, b2⟩
  replace b1 := bw_trans b1 b2
  clear S b2
  go_wp2_with fail
  refine (F1.out _).mono ?_
  rintro e' w3 ⟨rfl, rfl⟩
  clear F1
  go_wp2
  go_ret2
  exact ⟨rfl, b1⟩
end Go.Proofs.Ytmbjgakehghdjaa
