/-
  OWN TEXT: package ratio: copied, word by word.
-/
import Derived.Test.YtmbjgakehghdjaaJao
import Derived.Test.YtmbjgakehghdjaaJab
import Derived.Test.YtmbjgakehghdjaaJac
namespace Go.Proofs.Ytmbjgakehghdjaa
open Go.ChangeShapes Go.WideShapes Go.ChangeAt Go.RowKit
set_option linter.unusedVariables false
attribute [local go_sem] frombits_call tobits_call run_neg run_store_cx
/-- the words F lie there -/
def Wf (w : World) (b o n : Nat) (F : Nat → Nat × Nat) : Prop := b < w.heap.size ∧ ∀ i, i < n → w.cell? ⟨b, o + i, none⟩ = some (.complex .f64 (F i).1 (F i).2)
theorem Wf.bw {w w' : World} {b o n : Nat} {F : Nat → Nat × Nat} (h : Wf w b o n F) (k : Bw w w') : Wf w' b o n F :=
  ⟨Nat.lt_of_lt_of_le h.1 (Below.size k), fun i hi => (Below.cell k (p := ⟨b, o + i, none⟩) h.1).trans (h.2 i hi)⟩
theorem Wf.set {w : World} {b o n S : Nat} {F : Nat → Nat × Nat} (h : Wf w b o n F) (hS : b ≠ S) (i : Nat) (v : Value) : Wf (w.setCell ⟨S, i, none⟩ v) b o n F := by
  refine ⟨by simpa [World.setCell] using h.1, fun j hj => ?_⟩
  rw [World.cell?_setCell_other]
  · exact h.2 j hj
  · intro e; cases e; exact hS rfl
/-- and they are the list l -/
def Wl (c n : Nat) (F : Nat → Nat × Nat) (l : List Py.G) : Prop := l.length = n ∧ ∀ i, i < n → wC c (F i).1 (F i).2 (Py.co l i)
theorem Wf.gl {c : Nat} {w : World} {b o n : Nat} {F : Nat → Nat × Nat} {l : List Py.G} (h : Wf w b o n F) (k : Wl c n F l) : Gl c w b o l :=
  ⟨h.1, fun i hi => ⟨_, _, h.2 i (by rw [← k.1]; exact hi), k.2 i (by rw [← k.1]; exact hi)⟩⟩
theorem Gl.wf {c : Nat} {w : World} {b o n : Nat} {l : List Py.G} (h : Gl c w b o l) (hn : l.length = n) : ∃ F, Wf w b o n F ∧ Wl c n F l := by
  subst hn
  obtain ⟨F, hF⟩ := h.words
  exact ⟨F, ⟨h.1, fun i hi => (hF i hi).1⟩, rfl, fun i hi => (hF i hi).2⟩
theorem copyw10 {w : World} {B b o n ca cb : Nat} {F : Nat → Nat × Nat} (hB : ∀ i, i < n → (w.cell? ⟨B, i, none⟩).isSome = true) (hfz : ∀ i, w.frozen? ⟨B, i, none⟩ = false) (hF : ∀ i, i < n → w.cell? ⟨b, o + i, none⟩ = some (.complex .f64 (F i).1 (F i).2)) :
    (Builtin.copy_ #[22, 22] 3 #[.slice (some ⟨B, 0, none⟩) n cb, .slice (some ⟨b, o, none⟩) n ca]).run Try.prog w = .ok (.int .i64 n) (w.setCells B 0 (vsC F n)) := by
  have hu : Try.prog.underlying 22 = some (.slice 27) := by kernel_rfl
  have hs : (Try.prog.info? 27).map (·.size) = some 1 := by kernel_rfl
  have := run_copy_cells (P := Try.prog) w 22 22 3 27 B 0 n cb ⟨b, o, none⟩ n ca (vsC F n) hu hs (by rw [vsC_len]; exact (Nat.min_self n).symm) ?_ ?_ ?_ ?_
  · rw [vsC_len] at this; exact this
  · intro j v hj
    have hjl : j < n := by
      have := (List.getElem?_eq_some_iff.1 hj).1; rw [vsC_len] at this; exact this
    rw [vsC_get F _ j hjl] at hj
    cases hj
    have hc := hF j hjl
    simp only [Addr.add]
    by_cases z : j = 0
    · subst z; simpa using hc
    · rw [if_neg z]; exact hc
  · intro j hj
    rw [vsC_len] at hj
    rw [Nat.zero_add]
    exact hB j hj
  · intro j hj; exact hfz _
  · intro v hv
    unfold vsC at hv
    obtain ⟨x, _, rfl⟩ := List.mem_map.1 hv
    rfl
theorem made_wf (w : World) (n : Nat) (F : Nat → Nat × Nat) : Wf ((w.alloc (.cells (zcC n) 27)).setCells w.heap.size 0 (vsC F n)) w.heap.size 0 n F := by
  have hm := Gw.made 0 w n 27
  refine ⟨by rw [size_setCells8]; exact hm.1.1, fun i hi => ?_⟩
  have m := World.cell?_setCells_in w.heap.size (vsC F n) 0 (w.alloc (.cells (zcC n) 27)) (fun j hj => by
    rw [vsC_len] at hj
    obtain ⟨x, y, e, q⟩ := hm.1.2 j (by rw [List.length_replicate]; exact hj)
    rw [e]; rfl) i (by rw [vsC_len]; exact hi)
  rw [m]
  have e' := vsC_get F n i hi
  rw [List.getElem?_eq_getElem (by rw [vsC_len]; exact hi)] at e'
  exact e'
theorem wcopied10 {w : World} {W b o cap n : Nat} {F : Nat → Nat × Nat} (hW : Wk w W) (h : Wf w b o n F) (hn : n ≤ 1000) :
    Calls Try.prog 41 #[.pointer (some ⟨W, 0, none⟩), .slice (some ⟨b, o, none⟩) n cap] w fun e w' => e = .returned (.slice (some ⟨w.heap.size, 0, none⟩) n n) ∧ Wf w' w.heap.size 0 n F ∧ Bw w w' := by
  have hmk := make_c (n : Int) n rfl (by omega)
  have hbw := bw_alloc w (.cells (zcC n) 27)
  have hm := Gw.made 0 w n 27
  have hcp := copyw10 (w := w.alloc (.cells (zcC n) 27)) (ca := cap) (cb := n) (B := w.heap.size) (fun i hi => by
    obtain ⟨x, y, e, q⟩ := hm.1.2 i (by rw [List.length_replicate]; exact hi)
    rw [Nat.zero_add] at e
    rw [e]; rfl) hm.2 (h.bw hbw).2
  have R := hide (made_wf w n F)
  have hb2 := bw_setCells w.heap.size (Nat.le_refl _) (vsC F n) 0 _ hbw
  have c0 := hW.2.1
  clear hW h hm hbw
  generalize (w.alloc (.cells (zcC n) 27)).setCells w.heap.size 0 (vsC F n) = w2 at *
  go_enter Try.func41, Try.ntmps41
  go_wp2
  go_ret
  exact ⟨rfl, R.out, hb2⟩
end Go.Proofs.Ytmbjgakehghdjaa
/-
  OWN TEXT: package ratio: Turned, word by word.
-/
namespace Go.Proofs.Ytmbjgakehghdjaa
open Go.ChangeShapes Go.WideShapes Go.ChangeAt Go.RowKit
set_option linter.unusedVariables false
attribute [local go_sem] frombits_call tobits_call run_neg run_store_cx
set_option maxHeartbeats 8000000 in
theorem rturned10 {c : Nat} (hc : c = 1074) {w : World} {b1 o1 c1 n1 b2 o2 c2 n2 : Nat} {l1 l2 : List Py.G} (g1 : Gl c w b1 o1 l1) (g2 : Gl c w b2 o2 l2) (m1 : May n1 l1) (m2 : May n2 l2) (z2 : Nz n2 l2) (k1 : n1 ≤ 3) (k2 : n2 ≤ 3) (e1 : ∀ i, Py.Le (Py.co l1 i) 12) (e2 : ∀ i, Py.Le (Py.co l2 i) 12) {P Q : Nat → Nat × Nat} (x1 : Wf w b1 o1 (n1 + 1) P) (x2 : Wf w b2 o2 (n2 + 1) Q) (y1 : Wl c (n1 + 1) P l1) (y2 : Wl c (n2 + 1) Q l2) (z1 : Nz n1 l1) :
    Calls Try.prog 13 #[.agg #[.slice (some ⟨b1, o1, none⟩) (n1 + 1) c1, .slice (some ⟨b2, o2, none⟩) (n2 + 1) c2]] w fun e w' => ∃ B C, e = .returned (.tuple #[.agg #[.slice (some ⟨B, 0, none⟩) (n2 + 1) (n2 + 1), .slice (some ⟨C, 0, none⟩) (n1 + 1) (n1 + 1)], .int .i64 0]) ∧ Wf w' B 0 (n2 + 1) Q ∧ Wf w' C 0 (n1 + 1) P ∧ Bw w w' := by
  have hmf := makef10
  have HC := hide hc
  have HE := hide (And.intro e1 e2)
  have HM := hide (And.intro m1 m2)
  have HG := hide (And.intro g1 g2)
  have HZ := hide z2
  have HX := hide (And.intro x1 (And.intro x2 (And.intro y1 (And.intro y2 z1))))
  clear e1 e2 m1 m2 g1 g2 z2 hc x1 x2 y1 y2 z1
  obtain ⟨F, S, E, V, W5, eF, eS, eE, eV, eW, fF, fS, fV, bW, q1, q2, q3, q4⟩ := four10 w (.slice (some ⟨b1, o1, none⟩) (n1 + 1) c1) (.slice (some ⟨b2, o2, none⟩) (n2 + 1) c2)
  have WO : Hid (Calls Try.prog 32 #[.slice (some ⟨V, 0, none⟩) 1 1] W5 fun e w' => e = .returned (.agg #[.int .i64 0]) ∧ Bw W5 w') := by
    refine workon10 (K := 1) HC.out (by omega) fV.1 (fun k hk => ?_)
    rcases (show k = 0 by omega) with rfl
    exact ⟨_, _, fV.2.1, fV.2.2, _, _, _, _, _, _, _, _, _, _, rfl, rfl, HM.out.1, HG.out.1.bw bW, HM.out.2, HG.out.2.bw bW, HZ.out⟩
  have HT : Hid (Duo W5 F S E (.slice (some ⟨b1, o1, none⟩) (n1 + 1) c1) (.slice (some ⟨b2, o2, none⟩) (n2 + 1) c2) (.slice none 0 0) (.slice none 0 0) 0) := ⟨fF, fS⟩
  have HQ : Hid (F ≠ S ∧ E ≠ S ∧ S < E ∧ w.heap.size ≤ S) := by show _ ∧ _; omega
  have HB := hide bW
  clear fF fS fV bW q1 q2 q3 q4
  go_enter_defers Try.func13, Try.ntmps13
  go_wp2_with fail
  rw [← eW, ← eV, ← eE, ← eS, ← eF]
  refine WO.out.mono ?_
  clear WO eW eV eE eS eF
  rintro e' w6 ⟨rfl, b6⟩
  obtain ⟨Wb, eWb⟩ : ∃ Wb, Wb = w6.heap.size := ⟨_, rfl⟩
  obtain ⟨W7, eW7⟩ : ∃ W7, W7 = w6.alloc (.cells #[.int .i64 0] 64) := ⟨_, rfl⟩
  have b7 : Bw W5 W7 := by rw [eW7]; exact bw_trans b6 (bw_alloc _ _)
  have HK : Hid (Wk W7 Wb) := by show Wk _ _; rw [eW7, eWb]; exact Wk.made _ _
  have HWb : Hid (Wb ≠ S) := by
    have h1 := HT.out.2.1.1
    have h2 := Below.size b6
    show Wb ≠ S
    rw [eWb]; omega
  replace HT := hide (HT.out.bw b7)
  replace HB := hide (bw_trans HB.out b7)
  clear b6 b7
  go_wp2_with fail
  rw [← eW7, ← eWb]
  clear eW7 eWb
  have S0 := (HT.out.bw (Bw.drw W7)).cells
  refine wp_region_K (fun w' => w'.cell? ⟨F, 0, none⟩ = some (.slice (some ⟨b1, o1, none⟩) (n1 + 1) c1) ∧ w'.cell? ⟨F, 1, none⟩ = some (.slice (some ⟨b2, o2, none⟩) (n2 + 1) c2)) 9 10 #[false, false, false, false, false, false, false, false, false, false] (by kernel_rfl) (by kernel_rfl) (by kernel_rfl) ?_
  refine wpAnyK_take 0 9 (v := ?v0) rfl (by kernel_rfl) (by kernel_rfl) (by kernel_rfl) (by kernel_rfl) (by kernel_rfl) (fun _ _ _ h => put_d 9 rfl (by decide) (by decide) h) rfl (Or.inl ⟨by rfl, ?h0⟩) (by assumption) ?r0
  case h0 => (intro w hSw; go_simp; with_reducible rfl)
  simp only [Act.put, List.setIfInBounds_toArray, List.set_cons_zero, List.set_cons_succ]
  refine wpAnyK_take 1 10 (v := ?v1) rfl (by kernel_rfl) (by kernel_rfl) (by kernel_rfl) (by kernel_rfl) (by kernel_rfl) (fun _ _ _ h => put_d 10 rfl (by decide) (by decide) h) rfl (Or.inl ⟨by rfl, ?h1⟩) (by assumption) ?r1
  case h1 => (intro w hSw; go_simp; with_reducible rfl)
  simp only [Act.put, List.setIfInBounds_toArray, List.set_cons_zero, List.set_cons_succ]
  refine wpAnyK_take 3 12 (v := ?v3) rfl (by kernel_rfl) (by kernel_rfl) (by kernel_rfl) (by kernel_rfl) (by kernel_rfl) (fun _ _ _ h => put_d 12 rfl (by decide) (by decide) h) rfl (Or.inl ⟨by rfl, ?h3⟩) (by assumption) ?r3
  case h3 => (intro w hSw; go_simp; with_reducible rfl)
  simp only [Act.put, List.setIfInBounds_toArray, List.set_cons_zero, List.set_cons_succ]
  refine wpAnyK_take 4 13 (v := ?v4) rfl (by kernel_rfl) (by kernel_rfl) (by kernel_rfl) (by kernel_rfl) (by kernel_rfl) (fun _ _ _ h => put_d 13 rfl (by decide) (by decide) h) rfl (Or.inl ⟨by rfl, ?h4⟩) (by assumption) ?r4
  case h4 => (intro w hSw; go_simp; with_reducible rfl)
  simp only [Act.put, List.setIfInBounds_toArray, List.set_cons_zero, List.set_cons_succ]
  refine wpAnyK_one 2 (by kernel_rfl) rfl (fun K hK => ?_)
  go_simp
  go_wp2_with (go_at_call 41; refine (wcopied10 (HK.out.bw (Bw.drw _)) ((HX.out.2.1.bw HB.out).bw (Bw.drw _)) (by omega)).mono ?_; rintro e' w8 ⟨rfl, Xa, Ka⟩; replace Ka := bw_trans (Bw.drw W7) Ka; have T8 := hide (HT.out.bw Ka); have S8 := T8.out.cells; have K8 := hide (HK.out.bw Ka); have B8 := hide (bw_trans HB.out Ka); obtain ⟨Bc, eBc⟩ : ∃ B, B = W7.drew.heap.size := ⟨_, rfl⟩; rw [← eBc] at Xa ⊢; have hBc : Hid (Bc ≠ S) := (by have h1 := HT.out.2.1.1; show Bc ≠ S; rw [eBc]; exact fun e => Nat.lt_irrefl _ (e ▸ h1)); clear eBc)
  refine hK.out _ _ (fun _ _ => S8) ?_
  clear hK K
  simp only [List.setIfInBounds_toArray, List.set_cons_zero, List.set_cons_succ]
  refine wpAnyK_take 6 15 (v := ?v6) rfl (by kernel_rfl) (by kernel_rfl) (by kernel_rfl) (by kernel_rfl) (by kernel_rfl) (fun _ _ _ h => put_d 15 rfl (by decide) (by decide) h) rfl (Or.inl ⟨by rfl, ?h6⟩) (by assumption) ?r6
  case h6 => (intro w hSw; go_simp; with_reducible rfl)
  simp only [Act.put, List.setIfInBounds_toArray, List.set_cons_zero, List.set_cons_succ]
  refine wpAnyK_one 5 (by kernel_rfl) rfl (fun K hK => ?_)
  go_simp
  go_wp2_with (go_at_call 41; refine (wcopied10 K8.out (HX.out.1.bw B8.out) (by omega)).mono ?_; rintro e' w9 ⟨rfl, Xb, Kb⟩; have T9 := hide (T8.out.bw Kb); have S9 := T9.out.cells; have K9 := hide (K8.out.bw Kb); have B9 := hide (bw_trans B8.out Kb); replace Xa := Xa.bw Kb; obtain ⟨Bd, eBd⟩ : ∃ B, B = w8.heap.size := ⟨_, rfl⟩; rw [← eBd] at Xb ⊢; have hBd : Hid (Bd ≠ S) := (by have h1 := T8.out.2.1.1; show Bd ≠ S; rw [eBd]; exact fun e => Nat.lt_irrefl _ (e ▸ h1)); clear eBd)
  refine hK.out _ _ (fun _ _ => S9) ?_
  clear hK K
  simp only [List.setIfInBounds_toArray, List.set_cons_zero, List.set_cons_succ]
  obtain ⟨⟨_, d0, d1⟩, f0, f1, _, g0, g1⟩ := T9.out.2
  have T10 := hide (T9.out.top HQ.out.1 HQ.out.2.1 (.slice (some ⟨Bc, 0, none⟩) (n2 + 1) (n2 + 1)))
  have S10 := T10.out.cells
  refine wpAnyK_one 7 (by kernel_rfl) rfl (fun K hK => ?_)
  go_simp
  refine hK.out _ _ (fun _ _ => S10) ?_
  clear hK K
  simp only [List.setIfInBounds_toArray, List.set_cons_zero, List.set_cons_succ]
  have K10 := hide (K9.out.apart HWb.out 0 (.slice (some ⟨Bc, 0, none⟩) (n2 + 1) (n2 + 1)))
  have B10 := hide (bw_set B9.out HQ.out.2.2.2 0 (.slice (some ⟨Bc, 0, none⟩) (n2 + 1) (n2 + 1)))
  replace Xa := Xa.set hBc.out 0 (.slice (some ⟨Bc, 0, none⟩) (n2 + 1) (n2 + 1))
  replace Xb := Xb.set hBd.out 0 (.slice (some ⟨Bc, 0, none⟩) (n2 + 1) (n2 + 1))
  clear d0 d1 f0 f1 g0 g1 S0 S8 S9 T8 K8 B8 T9 K9 B9 Ka Kb
  generalize w9.setCell ⟨S, 0, none⟩ (.slice (some ⟨Bc, 0, none⟩) (n2 + 1) (n2 + 1)) = w10 at *
  obtain ⟨⟨_, d0, d1⟩, f0, f1, _, g0, g1⟩ := T10.out.2
  refine wpAnyK_take 8 16 (v := ?v8) rfl (by kernel_rfl) (by kernel_rfl) (by kernel_rfl) (by kernel_rfl) (by kernel_rfl) (fun _ _ _ h => put_d 16 rfl (by decide) (by decide) h) rfl (Or.inl ⟨by rfl, ?h8⟩) (by assumption) ?r8
  case h8 => (intro w hSw; go_simp; with_reducible rfl)
  simp only [Act.put, List.setIfInBounds_toArray, List.set_cons_zero, List.set_cons_succ]
  refine wpAnyK_one 9 (by kernel_rfl) rfl (fun K hK => ?_)
  go_simp
  refine hK.out _ _ (fun h => absurd rfl h) ?_
  clear hK K
  simp only [List.setIfInBounds_toArray, List.set_cons_zero, List.set_cons_succ]
  refine wpAnyK_done (by kernel_rfl) ?_ _
  have T13 := hide (T10.out.bottom HQ.out.1 HQ.out.2.1 (.slice (some ⟨Bd, 0, none⟩) (n1 + 1) (n1 + 1)))
  have K13 := hide (K10.out.apart HWb.out 1 (.slice (some ⟨Bd, 0, none⟩) (n1 + 1) (n1 + 1)))
  have B13 := hide (bw_set B10.out HQ.out.2.2.2 1 (.slice (some ⟨Bd, 0, none⟩) (n1 + 1) (n1 + 1)))
  have XX := hide (And.intro (Xa.set hBc.out 1 (.slice (some ⟨Bd, 0, none⟩) (n1 + 1) (n1 + 1))) (Xb.set hBd.out 1 (.slice (some ⟨Bd, 0, none⟩) (n1 + 1) (n1 + 1))))
  clear Xa Xb T10 K10 B10 S10 d0 d1 f0 f1 g0 g1
  generalize w10.setCell ⟨S, 1, none⟩ (.slice (some ⟨Bd, 0, none⟩) (n1 + 1) (n1 + 1)) = W13 at *
  go_wp2_with fail
  obtain ⟨⟨_, d0, d1⟩, f0, f1, _, g0, g1⟩ := T13.out.2
  obtain ⟨_, wk, _⟩ := K13.out
  have S13 : W13.drew.cell? ⟨S, 0, none⟩ = some (.slice (some ⟨Bc, 0, none⟩) (n2 + 1) (n2 + 1)) ∧ W13.drew.cell? ⟨S, 1, none⟩ = some (.slice (some ⟨Bd, 0, none⟩) (n1 + 1) (n1 + 1)) ∧ W13.drew.cell? ⟨Wb, 0, none⟩ = some (.int .i64 0) := ⟨d0, d1, wk⟩
  have y0 := set_self d0
  have y1 := set_self d1
  have y2 := set_self g0
  refine wp_region_K (fun w' => w'.cell? ⟨S, 0, none⟩ = some (.slice (some ⟨Bc, 0, none⟩) (n2 + 1) (n2 + 1)) ∧ w'.cell? ⟨S, 1, none⟩ = some (.slice (some ⟨Bd, 0, none⟩) (n1 + 1) (n1 + 1)) ∧ w'.cell? ⟨Wb, 0, none⟩ = some (.int .i64 0)) 4 5 #[false, false, false, false, false] (by kernel_rfl) (by kernel_rfl) (by kernel_rfl) ?_
  refine wpAnyK_take 0 17 (v := ?vz0) rfl (by kernel_rfl) (by kernel_rfl) (by kernel_rfl) (by kernel_rfl) (by kernel_rfl) (fun _ _ _ h => put_d 17 rfl (by decide) (by decide) h) rfl (Or.inl ⟨by rfl, ?hz0⟩) (by assumption) ?rz0
  case hz0 => (intro w hSw; go_simp; with_reducible rfl)
  simp only [Act.put, List.setIfInBounds_toArray, List.set_cons_zero, List.set_cons_succ]
  refine wpAnyK_take 1 18 (v := ?vz1) rfl (by kernel_rfl) (by kernel_rfl) (by kernel_rfl) (by kernel_rfl) (by kernel_rfl) (fun _ _ _ h => put_d 18 rfl (by decide) (by decide) h) rfl (Or.inl ⟨by rfl, ?hz1⟩) (by assumption) ?rz1
  case hz1 => (intro w hSw; go_simp; with_reducible rfl)
  simp only [Act.put, List.setIfInBounds_toArray, List.set_cons_zero, List.set_cons_succ]
  refine wpAnyK_take 2 19 (v := ?vz2) rfl (by kernel_rfl) (by kernel_rfl) (by kernel_rfl) (by kernel_rfl) (by kernel_rfl) (fun _ _ _ h => put_d 19 rfl (by decide) (by decide) h) rfl (Or.inl ⟨by rfl, ?hz2⟩) (by assumption) ?rz2
  case hz2 => (intro w hSw; go_simp; with_reducible rfl)
  simp only [Act.put, List.setIfInBounds_toArray, List.set_cons_zero, List.set_cons_succ]
  refine wpAnyK_one 3 (by kernel_rfl) rfl (fun K hK => ?_)
  go_simp
  refine hK.out _ _ (fun _ _ => S13) ?_
  clear hK K
  simp only [List.setIfInBounds_toArray, List.set_cons_zero, List.set_cons_succ]
  refine wpAnyK_one 4 (by kernel_rfl) rfl (fun K hK => ?_)
  go_simp
  refine hK.out _ _ (fun h => absurd rfl h) ?_
  clear hK K
  simp only [List.setIfInBounds_toArray, List.set_cons_zero, List.set_cons_succ]
  refine wpAnyK_done (by kernel_rfl) ?_ _
  clear S13 y0 y1 y2 d0 d1 f0 f1 g0 g1 wk
  go_wp2_with fail
  refine leaves_cons (f := 40) (args := #[.pointer (some ⟨Wb, 0, none⟩), .pointer (some ⟨S, 0, none⟩), .pointer (some ⟨E, 0, none⟩)]) (by simp) (by simp [go_sem]) ?_
  refine (dturned10 .returning (K13.out.bw (Bw.drw _)) (T13.out.2.bw (Bw.drw _)) HM.out.1 ((XX.out.2.bw (Bw.drw _)).gl HX.out.2.2.1) HX.out.2.2.2.2).mono ?_
  rintro e u' w14 ⟨rfl, rfl, b14⟩
  replace b14 := bw_trans (Bw.drw W13) b14
  have T14 := (T13.out.2.bw b14)
  refine ⟨_, res_cc rfl _ _ S E _ _ 0 rfl rfl T14.1 T14.2.2.2.2.1, Bc, Bd, rfl, XX.out.1.bw b14, XX.out.2.bw b14, bw_trans B13.out b14⟩
end Go.Proofs.Ytmbjgakehghdjaa
/-
  OWN TEXT: what Whole of package float returns, for every float.
-/
namespace Go.Proofs.Ytmbjgakehghdjaa
open Go.ChangeShapes Go.WideShapes Go.ChangeAt Go.RowKit
theorem even_of (x : Nat) (d : Ieee.Datum) (h : FloatKind.f64.decode x = d) (hn : d.isNaN = false) : Extern.MathFloor.toIntegral "math.RoundToEven" .even #[.float .f64 x] = pure (.float .f64 (FloatKind.f64.encode (d.integral .even))) := by
  change (Extern.MathFloor.toIntegral.match_1 _ (FloatKind.f64.decode x) _ _) = _
  rw [h]
  cases d with
  | number s m i => rfl
  | infinity s => rfl
  | nan s t => cases hn
theorem even_none (x : Nat) (s : Bool) (t : Nat) (h : FloatKind.f64.decode x = .nan s t) : ∃ q, q.forced = false ∧ Extern.MathFloor.toIntegral "math.RoundToEven" .even #[.float .f64 x] = if FloatKind.f64.format.quiet t = t then pure (.float .f64 x) else (choose q).bind fun kept => pure (.float .f64 (if kept == 1 then x else FloatKind.f64.encode (.nan s (FloatKind.f64.format.quiet t)))) := by
  refine ⟨?q, ?_, ?_⟩
  rotate_left 2
  · change (Extern.MathFloor.toIntegral.match_1 _ (FloatKind.f64.decode x) _ _) = _
    rw [h]
    rfl
  · rfl
theorem quiet_nan (s : Bool) (t : Nat) (ht : t < 4503599627370496) : Fl.nan (FloatKind.f64.encode (.nan s (FloatKind.f64.format.quiet t))) = true ∧ FloatKind.f64.encode (.nan s (FloatKind.f64.format.quiet t)) < 18446744073709551616 := by
  have e : FloatKind.f64.encode (.nan s (FloatKind.f64.format.quiet t)) = Fl.wd s (9218868437227405312 + (t ||| 2 ^ 51) % 4503599627370496) := by cases s <;> rfl
  have h1 : (t ||| 2 ^ 51) < 2 ^ 52 := Nat.or_lt_two_pow (by omega) (by omega)
  have h2 : 2 ^ 51 ≤ t ||| 2 ^ 51 := Nat.right_le_or
  rw [e, Nat.mod_eq_of_lt (by omega)]
  generalize (t ||| 2 ^ 51) = a at *
  refine ⟨?_, Fl.wd_lt _ _ (by omega)⟩
  unfold Fl.nan
  rw [Fl.rg_wd _ _ (by omega)]
  exact decide_eq_true (by omega)
end Go.Proofs.Ytmbjgakehghdjaa
