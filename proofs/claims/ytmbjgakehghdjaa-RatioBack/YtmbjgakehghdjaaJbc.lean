/-
  OWN TEXT: package ratio: Mul, of fractions of whole complex numbers.
-/
import Derived.Test.YtmbjgakehghdjaaJbb
namespace Go.Proofs.Ytmbjgakehghdjaa
open Go.ChangeShapes Go.WideShapes Go.ChangeAt Go.RowKit
set_option linter.unusedVariables false
attribute [local go_sem] frombits_call tobits_call run_neg run_store_cx
set_option maxHeartbeats 8000000 in
theorem rmul10 {c : Nat} (hc : c = 1074) {w : World} {b1 o1 c1 n1 b2 o2 c2 n2 b3 o3 c3 n3 b4 o4 c4 n4 : Nat} {l1 l2 l3 l4 : List Py.G} (g1 : Gl c w b1 o1 l1) (g2 : Gl c w b2 o2 l2) (g3 : Gl c w b3 o3 l3) (g4 : Gl c w b4 o4 l4) (m1 : May n1 l1) (m2 : May n2 l2) (m3 : May n3 l3) (m4 : May n4 l4) (z2 : Nz n2 l2) (z4 : Nz n4 l4) (k1 : n1 ≤ 3) (k2 : n2 ≤ 3) (k3 : n3 ≤ 3) (k4 : n4 ≤ 3)
    (e1 : ∀ i, Py.Le (Py.co l1 i) 12) (e2 : ∀ i, Py.Le (Py.co l2 i) 12) (e3 : ∀ i, Py.Le (Py.co l3 i) 12) (e4 : ∀ i, Py.Le (Py.co l4 i) 12) :
    Calls Try.prog 12 #[.agg #[.slice (some ⟨b1, o1, none⟩) (n1 + 1) c1, .slice (some ⟨b2, o2, none⟩) (n2 + 1) c2], .agg #[.slice (some ⟨b3, o3, none⟩) (n3 + 1) c3, .slice (some ⟨b4, o4, none⟩) (n4 + 1) c4]] w fun e w' => ∃ S T m L m' L', e = .returned (.tuple #[.agg #[S, T], .int .i64 0]) ∧ Sl c w' S m L ∧ Sl c w' T m' L' ∧ May m L ∧ May m' L' ∧ m ≤ 6 ∧ m' ≤ 6 ∧ (∀ i, Py.co L i = Py.ts l1 l3 i (n1 + 1)) ∧ (∀ i, Py.co L' i = Py.ts l2 l4 i (n2 + 1)) ∧ Bw w w' := by
  have hmf := makef10
  have HC := hide hc
  have HE := hide (And.intro e1 (And.intro e2 (And.intro e3 e4)))
  have HM := hide (And.intro m1 (And.intro m2 (And.intro m3 m4)))
  have HG := hide (And.intro g1 (And.intro g2 (And.intro g3 g4)))
  have HZ := hide (And.intro z2 z4)
  clear e1 e2 e3 e4 m1 m2 m3 m4 g1 g2 g3 g4 z2 z4 hc
  obtain ⟨F, G, S, E, V, W5, eF, eG, eS, eE, eV, eW, fF, fG, fS, lV, v0, v1, v2, v3, bW, q1, q2, q3, q4, q5⟩ := five10 w (.slice (some ⟨b1, o1, none⟩) (n1 + 1) c1) (.slice (some ⟨b2, o2, none⟩) (n2 + 1) c2) (.slice (some ⟨b3, o3, none⟩) (n3 + 1) c3) (.slice (some ⟨b4, o4, none⟩) (n4 + 1) c4)
  have WO : Hid (Calls Try.prog 32 #[.slice (some ⟨V, 0, none⟩) 2 2] W5 fun e w' => e = .returned (.agg #[.int .i64 0]) ∧ Bw W5 w') := by
    refine workon10 (K := 2) HC.out (by omega) lV (fun k hk => ?_)
    obtain ⟨g1, g2, g3, g4⟩ := HG.out
    obtain ⟨m1, m2, m3, m4⟩ := HM.out
    rcases (show k = 0 ∨ k = 1 by omega) with rfl | rfl
    · exact ⟨_, _, v0, v1, _, _, _, _, _, _, _, _, _, _, rfl, rfl, m1, g1.bw bW, m2, g2.bw bW, HZ.out.1⟩
    · exact ⟨_, _, v2, v3, _, _, _, _, _, _, _, _, _, _, rfl, rfl, m3, g3.bw bW, m4, g4.bw bW, HZ.out.2⟩
  have HT : Hid (Tri W5 F G S E (.slice (some ⟨b1, o1, none⟩) (n1 + 1) c1) (.slice (some ⟨b2, o2, none⟩) (n2 + 1) c2) (.slice (some ⟨b3, o3, none⟩) (n3 + 1) c3) (.slice (some ⟨b4, o4, none⟩) (n4 + 1) c4) (.slice none 0 0) (.slice none 0 0) 0) := ⟨fF, fG, fS⟩
  have HQ : Hid (F ≠ S ∧ G ≠ S ∧ E ≠ S ∧ S < E ∧ w.heap.size ≤ S) := by show _ ∧ _; omega
  have HB := hide bW
  clear fF fG fS lV v0 v1 v2 v3 bW q1 q2 q3 q4 q5
  go_enter_defers Try.func12, Try.ntmps12
  go_wp2_with fail
  rw [← eW, ← eV, ← eE, ← eS, ← eG, ← eF]
  refine WO.out.mono ?_
  clear WO eW eV eE eS eG eF
  rintro e' w6 ⟨rfl, b6⟩
  obtain ⟨Wb, eWb⟩ : ∃ Wb, Wb = w6.heap.size := ⟨_, rfl⟩
  obtain ⟨W7, eW7⟩ : ∃ W7, W7 = w6.alloc (.cells #[.int .i64 0] 64) := ⟨_, rfl⟩
  have b7 : Bw W5 W7 := by rw [eW7]; exact bw_trans b6 (bw_alloc _ _)
  have HK : Hid (Wk W7 Wb) := by show Wk _ _; rw [eW7, eWb]; exact Wk.made _ _
  have HWb : Hid (Wb ≠ S) := by
    have h1 := HT.out.2.2.1.1
    have h2 := Below.size b6
    show Wb ≠ S
    rw [eWb]; omega
  replace HT := hide (HT.out.bw b7)
  replace HB := hide (bw_trans HB.out b7)
  clear b6 b7
  have S7 := HT.out.cells
  rw [eW7] at S7
  go_wp2_with fail
  clear S7
  rw [← eW7, ← eWb]
  clear eW7 eWb
  refine (wmul10 (A := 12) (A' := 12) HC.out HK.out HM.out.1 (HG.out.1.bw HB.out) HM.out.2.2.1 (HG.out.2.2.1.bw HB.out) HE.out.1 HE.out.2.2.1 (by omega) (by omega)).mono ?_
  intro e' w10 hc
  obtain ⟨Bc, pc, Lc, rfl, Mc, Nc, Qc, Hc, Kc, Cc⟩ := hc.use
  replace Qc := Qc.1
  have T10 := hide (HT.out.bw Kc)
  have K10 := hide (HK.out.bw Kc)
  have B10 := hide (bw_trans HB.out Kc)
  obtain ⟨⟨_, d0, d1⟩, f0, f1, _, g0, g1⟩ := T10.out.2.2
  clear hc
  have T11 := hide (T10.out.top HQ.out.1 HQ.out.2.1 HQ.out.2.2.1 (.slice (some ⟨Bc, 0, none⟩) (pc + 1) (pc + 1)))
  have K11 := hide (K10.out.apart HWb.out 0 (.slice (some ⟨Bc, 0, none⟩) (pc + 1) (pc + 1)))
  have B11 := hide (bw_set B10.out HQ.out.2.2.2.2 0 (.slice (some ⟨Bc, 0, none⟩) (pc + 1) (pc + 1)))
  have hBc : Hid (Bc ≠ S) := by have h1 := HT.out.2.2.1.1; show Bc ≠ S; omega
  have G11 := hide (gl_set Qc hBc.out 0 (.slice (some ⟨Bc, 0, none⟩) (pc + 1) (pc + 1)))
  have MC := hide (And.intro Mc (And.intro Nc Cc))
  have FIN : Hid (pc ≤ 6 ∧ ∀ i, Py.co Lc i = Py.ts l1 l3 i (n1 + 1)) := ⟨by omega, Cc⟩
  clear Qc Mc Nc Cc T10 K10 B10 Kc Hc
  have S11 := T11.out.cells
  go_wp2_with fail
  clear d0 d1 f0 f1 g0 g1
  generalize w10.setCell ⟨S, 0, none⟩ (.slice (some ⟨Bc, 0, none⟩) (pc + 1) (pc + 1)) = W11 at *
  refine (wmul10 (A := 12) (A' := 12) HC.out K11.out HM.out.2.1 (HG.out.2.1.bw B11.out) HM.out.2.2.2 (HG.out.2.2.2.bw B11.out) HE.out.2.1 HE.out.2.2.2 (by omega) (by omega)).mono ?_
  intro e' w12 hd
  obtain ⟨Bd, pd, Ld, rfl, Md, Nd, Qd, Hd, Kd, Cd⟩ := hd.use
  have hBd : Hid (Bd ≠ S) := by have h1 := T11.out.2.2.1.1; show Bd ≠ S; omega
  have T12 := hide (T11.out.bw Kd)
  have K12 := hide (K11.out.bw Kd)
  have B12 := hide (bw_trans B11.out Kd)
  have G12 := hide (G11.out.bw Kd)
  obtain ⟨⟨_, d0, d1⟩, f0, f1, _, g0, g1⟩ := T12.out.2.2
  clear hd S11 T11 K11 B11 G11
  have T13 := hide (T12.out.bottom HQ.out.1 HQ.out.2.1 HQ.out.2.2.1 (.slice (some ⟨Bd, 0, none⟩) (pd + 1) (pd + 1)))
  have K13 := hide (K12.out.apart HWb.out 1 (.slice (some ⟨Bd, 0, none⟩) (pd + 1) (pd + 1)))
  have B13 := hide (bw_set B12.out HQ.out.2.2.2.2 1 (.slice (some ⟨Bd, 0, none⟩) (pd + 1) (pd + 1)))
  have G13 := hide (And.intro (gl_set G12.out hBc.out 1 (.slice (some ⟨Bd, 0, none⟩) (pd + 1) (pd + 1))) (gl_set Qd.1 hBd.out 1 (.slice (some ⟨Bd, 0, none⟩) (pd + 1) (pd + 1))))
  have MD := hide (And.intro Md (And.intro Nd Cd))
  clear T12 K12 B12 G12 Md Nd Cd Qd Hd Kd
  go_wp2_with fail
  clear d0 d1 f0 f1 g0 g1
  generalize w12.setCell ⟨S, 1, none⟩ (.slice (some ⟨Bd, 0, none⟩) (pd + 1) (pd + 1)) = W13 at *
  obtain ⟨⟨_, d0, d1⟩, f0, f1, _, g0, g1⟩ := T13.out.2.2
  obtain ⟨_, wk, _⟩ := K13.out
  have S13 : W13.drew.cell? ⟨S, 0, none⟩ = some (.slice (some ⟨Bc, 0, none⟩) (pc + 1) (pc + 1)) ∧ W13.drew.cell? ⟨S, 1, none⟩ = some (.slice (some ⟨Bd, 0, none⟩) (pd + 1) (pd + 1)) ∧ W13.drew.cell? ⟨Wb, 0, none⟩ = some (.int .i64 0) := ⟨d0, d1, wk⟩
  have y0 := set_self d0
  have y1 := set_self d1
  have y2 := set_self g0
  refine wp_region_K (fun w' => w'.cell? ⟨S, 0, none⟩ = some (.slice (some ⟨Bc, 0, none⟩) (pc + 1) (pc + 1)) ∧ w'.cell? ⟨S, 1, none⟩ = some (.slice (some ⟨Bd, 0, none⟩) (pd + 1) (pd + 1)) ∧ w'.cell? ⟨Wb, 0, none⟩ = some (.int .i64 0)) 4 5 #[false, false, false, false, false] (by kernel_rfl) (by kernel_rfl) (by kernel_rfl) ?_
  refine wpAnyK_take 0 24 (v := ?vz0) rfl (by kernel_rfl) (by kernel_rfl) (by kernel_rfl) (by kernel_rfl) (by kernel_rfl) (fun _ _ _ h => put_d 24 rfl (by decide) (by decide) h) rfl (Or.inl ⟨by rfl, ?hz0⟩) (by assumption) ?rz0
  case hz0 => (intro w hSw; go_simp; with_reducible rfl)
  simp only [Act.put, List.setIfInBounds_toArray, List.set_cons_zero, List.set_cons_succ]
  refine wpAnyK_take 1 25 (v := ?vz1) rfl (by kernel_rfl) (by kernel_rfl) (by kernel_rfl) (by kernel_rfl) (by kernel_rfl) (fun _ _ _ h => put_d 25 rfl (by decide) (by decide) h) rfl (Or.inl ⟨by rfl, ?hz1⟩) (by assumption) ?rz1
  case hz1 => (intro w hSw; go_simp; with_reducible rfl)
  simp only [Act.put, List.setIfInBounds_toArray, List.set_cons_zero, List.set_cons_succ]
  refine wpAnyK_take 2 26 (v := ?vz2) rfl (by kernel_rfl) (by kernel_rfl) (by kernel_rfl) (by kernel_rfl) (by kernel_rfl) (fun _ _ _ h => put_d 26 rfl (by decide) (by decide) h) rfl (Or.inl ⟨by rfl, ?hz2⟩) (by assumption) ?rz2
  case hz2 => (intro w hSw; go_simp; with_reducible rfl)
  simp only [Act.put, List.setIfInBounds_toArray, List.set_cons_zero, List.set_cons_succ]
  refine wpAnyK_one 3 (by kernel_rfl) rfl (fun K hK => ?_)
  go_simp
  refine hK.out _ _ (fun _ _ => S13) ?_
  clear hK K
  simp only [List.setIfInBounds_toArray, List.set_cons_zero, List.set_cons_succ]
  refine wpAnyK_one 4 (by kernel_rfl) rfl (fun K hK => ?_)
  go_simp
  refine hK.out _ _ (fun h => absurd rfl h) ?_
  clear hK K
  simp only [List.setIfInBounds_toArray, List.set_cons_zero, List.set_cons_succ]
  refine wpAnyK_done (by kernel_rfl) ?_ _
  clear S13 y0 y1 y2 d0 d1 f0 f1 g0 g1 wk
  go_wp2_with fail
  refine leaves_cons (f := 39) (args := #[.pointer (some ⟨Wb, 0, none⟩), .pointer (some ⟨S, 0, none⟩), .pointer (some ⟨E, 0, none⟩)]) (by simp) (by simp [go_sem]) ?_
  refine (dmul10 .returning (K13.out.bw (Bw.drw _)) (T13.out.2.2.bw (Bw.drw _)) MD.out.1 (G13.out.2.bw (Bw.drw _)) (nz_ts HM.out.2.1 HM.out.2.2.2 HZ.out.1 HZ.out.2 MD.out.1 MD.out.2.2)).mono ?_
  rintro e u' w14 ⟨rfl, rfl, b14⟩
  replace b14 := bw_trans (Bw.drw W13) b14
  have T14 := (T13.out.2.2.bw b14)
  refine ⟨_, res_cc rfl _ _ S E _ _ 0 rfl rfl T14.1 T14.2.2.2.2.1, _, _, pc, Lc, pd, Ld, rfl, ⟨_, _, _, rfl, G13.out.1.bw b14⟩, ⟨_, _, _, rfl, G13.out.2.bw b14⟩, MC.out.1, MD.out.1, FIN.out.1, by have := MD.out.2.1; omega, FIN.out.2, MD.out.2.2, bw_trans B13.out b14⟩
end Go.Proofs.Ytmbjgakehghdjaa
/-
  OWN TEXT: package ratio: Slope, of a fraction of whole complex numbers.
-/
namespace Go.Proofs.Ytmbjgakehghdjaa
open Go.ChangeShapes Go.WideShapes Go.ChangeAt Go.RowKit
set_option linter.unusedVariables false
attribute [local go_sem] frombits_call tobits_call run_neg run_store_cx
/-- the blocks that a call with one fraction lays first -/
theorem four10 (w : World) (s1 s2 : Value) : ∃ (F S E V : Nat) (W : World), F = w.heap.size ∧ S = w.heap.size + 1 ∧ E = w.heap.size + 1 + 1 ∧ V = w.heap.size + 1 + 1 + 1 ∧
    W = (((w.alloc (.cells #[s1, s2] 24)).alloc (.cells #[.slice none 0 0, .slice none 0 0] 24)).alloc (.cells #[.int .i64 0] 28)).alloc (.cells #[s1, s2] 24) ∧
    (Fc W F s1 s2 ∧ Fw W S E (.slice none 0 0) (.slice none 0 0) 0 ∧ Fc W V s1 s2 ∧ Bw w W ∧ w.heap.size ≤ F ∧ F < S ∧ S < E ∧ w.heap.size < S) := by
  have z : ∀ (w : World) (o : Obj), (w.alloc o).heap.size = w.heap.size + 1 := fun w o => by simp
  have hF := Fc.made w s1 s2 24
  have hS := Fc.made (w.alloc (.cells #[s1, s2] 24)) (.slice none 0 0) (.slice none 0 0) 24
  have hE := Wk.made ((w.alloc (.cells #[s1, s2] 24)).alloc (.cells #[.slice none 0 0, .slice none 0 0] 24)) 28
  have hV := Fc.made (((w.alloc (.cells #[s1, s2] 24)).alloc (.cells #[.slice none 0 0, .slice none 0 0] 24)).alloc (.cells #[.int .i64 0] 28)) s1 s2 24
  have fS := fz_made (w.alloc (.cells #[s1, s2] 24)) #[.slice none 0 0, .slice none 0 0] 24
  have b1 := bw_alloc w (.cells #[s1, s2] 24)
  have b3 := bw_alloc (w.alloc (.cells #[s1, s2] 24)) (.cells #[.slice none 0 0, .slice none 0 0] 24)
  have b4 := bw_alloc ((w.alloc (.cells #[s1, s2] 24)).alloc (.cells #[.slice none 0 0, .slice none 0 0] 24)) (.cells #[.int .i64 0] 28)
  have b5 := bw_alloc (((w.alloc (.cells #[s1, s2] 24)).alloc (.cells #[.slice none 0 0, .slice none 0 0] 24)).alloc (.cells #[.int .i64 0] 28)) (.cells #[s1, s2] 24)
  simp only [z] at hF hS hE fS hV
  refine ⟨_, _, _, _, _, rfl, rfl, rfl, rfl, rfl, ((hF.bw b3).bw b4).bw b5, ?_, hV, bw_trans (bw_trans (bw_trans b1 b3) b4) b5, by omega, by omega, by omega, by omega⟩
  have hS' := (hS.bw b4).bw b5
  refine ⟨hS', ?_, ?_, ?_⟩
  · exact (Below.frozen (bw_trans b4 b5) (p := ⟨_, 0, none⟩) hS.1).trans (fS 0)
  · exact (Below.frozen (bw_trans b4 b5) (p := ⟨_, 1, none⟩) hS.1).trans (fS 1)
  · exact hE.bw b5
/-- what a call with one fraction keeps -/
def Duo (w : World) (F S E : Nat) (s1 s2 x y : Value) (e : Int) : Prop := Fc w F s1 s2 ∧ Fw w S E x y e
theorem Duo.bw {w w' : World} {F S E : Nat} {s1 s2 x y : Value} {e : Int} (h : Duo w F S E s1 s2 x y e) (k : Bw w w') : Duo w' F S E s1 s2 x y e := ⟨h.1.bw k, h.2.bw k⟩
theorem Duo.cells {w : World} {F S E : Nat} {s1 s2 x y : Value} {e : Int} (h : Duo w F S E s1 s2 x y e) : w.cell? ⟨F, 0, none⟩ = some s1 ∧ w.cell? ⟨F, 1, none⟩ = some s2 := ⟨h.1.2.1, h.1.2.2⟩
theorem Duo.top {w : World} {F S E : Nat} {s1 s2 x y : Value} {e : Int} (h : Duo w F S E s1 s2 x y e) (hF : F ≠ S) (hE : E ≠ S) (v : Value) : Duo (w.setCell ⟨S, 0, none⟩ v) F S E s1 s2 v y e := ⟨h.1.apart hF 0 v, h.2.top hE v⟩
theorem Duo.bottom {w : World} {F S E : Nat} {s1 s2 x y : Value} {e : Int} (h : Duo w F S E s1 s2 x y e) (hF : F ≠ S) (hE : E ≠ S) (v : Value) : Duo (w.setCell ⟨S, 1, none⟩ v) F S E s1 s2 x v e := ⟨h.1.apart hF 1 v, h.2.bottom hE v⟩
theorem Fc.ob {w w' : World} {F B : Nat} {s t : Value} (h : Fc w F s t) (k : Ob B w w') (hF : F ≠ B) : Fc w' F s t := ⟨by rw [k.1]; exact h.1, (k.2.1 ⟨F, 0, none⟩ hF).1.trans h.2.1, (k.2.1 ⟨F, 1, none⟩ hF).1.trans h.2.2⟩
theorem Wk.ob {w w' : World} {F B : Nat} (h : Wk w F) (k : Ob B w w') (hF : F ≠ B) : Wk w' F := ⟨by rw [k.1]; exact h.1, (k.2.1 ⟨F, 0, none⟩ hF).1.trans h.2.1, (k.2.1 ⟨F, 0, none⟩ hF).2.trans h.2.2⟩
theorem Fw.ob {w w' : World} {S E B : Nat} {s t : Value} {e : Int} (h : Fw w S E s t e) (k : Ob B w w') (hS : S ≠ B) (hE : E ≠ B) : Fw w' S E s t e :=
  ⟨h.1.ob k hS, (k.2.1 ⟨S, 0, none⟩ hS).2.trans h.2.1, (k.2.1 ⟨S, 1, none⟩ hS).2.trans h.2.2.1, by rw [k.1]; exact h.2.2.2.1, (k.2.1 ⟨E, 0, none⟩ hE).1.trans h.2.2.2.2.1, (k.2.1 ⟨E, 0, none⟩ hE).2.trans h.2.2.2.2.2⟩
theorem Duo.ob {w w' : World} {F S E B : Nat} {s1 s2 x y : Value} {e : Int} (h : Duo w F S E s1 s2 x y e) (k : Ob B w w') (hF : F ≠ B) (hS : S ≠ B) (hE : E ≠ B) : Duo w' F S E s1 s2 x y e := ⟨h.1.ob k hF, h.2.ob k hS hE⟩
theorem gk_le36 {l : List Py.G} {n : Nat} (h : ∀ i, Py.Le (Py.co l i) 12) (hm : May n l) (hn : n ≤ 3) (i : Nat) : Py.Le (gk (i + 1) (Py.co l (i + 1))) 36 := by
  by_cases z : i + 1 ≤ 3
  · refine (gk_le (h (i + 1))).mono ?_
    have := Nat.mul_le_mul_right 12 z
    omega
  · rw [Py.co_out (by have := hm.1; omega)]
    have : gk (i + 1) (0, 0) = (0, 0) := by unfold gk; simp
    rw [this]
    exact Py.Le.nought _
theorem may_neg {n : Nat} {l L : List Py.G} (h : May n l) (hL : L.length = n + 1) (hc : ∀ i, Py.co L i = Py.gn (Py.co l i)) : May n L := by
  refine ⟨hL, h.2.1, ?_, fun i hi => by rw [hc]; exact (h.2.2.2 i hi).neg⟩
  rcases h.2.2.1 with k | k
  · exact Or.inl k
  · right
    rw [hc]
    intro e
    apply k
    have e1 := congrArg Prod.fst e
    have e2 := congrArg Prod.snd e
    unfold Py.gn at e1 e2
    simp only at e1 e2
    exact Py.gext (by simp only; omega) (by simp only; omega)
set_option maxHeartbeats 8000000 in
theorem rslope10 {c : Nat} (hc : c = 1074) {w : World} {b1 o1 c1 n1 b2 o2 c2 n2 : Nat} {l1 l2 : List Py.G} (g1 : Gl c w b1 o1 l1) (g2 : Gl c w b2 o2 l2) (m1 : May n1 l1) (m2 : May n2 l2) (z2 : Nz n2 l2) (k1 : n1 ≤ 3) (k2 : n2 ≤ 3) (e1 : ∀ i, Py.Le (Py.co l1 i) 12) (e2 : ∀ i, Py.Le (Py.co l2 i) 12)  :
    Calls Try.prog 11 #[.agg #[.slice (some ⟨b1, o1, none⟩) (n1 + 1) c1, .slice (some ⟨b2, o2, none⟩) (n2 + 1) c2]] w fun e w' => ∃ S T m L m' L', e = .returned (.tuple #[.agg #[S, T], .int .i64 0]) ∧ Sl c w' S m L ∧ Sl c w' T m' L' ∧ May m L ∧ May m' L' ∧ m ≤ 6 ∧ m' ≤ 6 ∧ (∃ d1 d2 : List Py.G, ∃ t1 t2 : Nat, d1.length = t1 + 1 ∧ d2.length = t2 + 1 ∧ (∀ i, Py.co d1 i = gk (i + 1) (Py.co l1 (i + 1))) ∧ (∀ i, Py.co d2 i = gk (i + 1) (Py.co l2 (i + 1))) ∧ ∀ i, Py.co L i = Py.ga (Py.ts d1 l2 i (t1 + 1)) (Py.gn (Py.ts l1 d2 i (n1 + 1)))) ∧ (∀ i, Py.co L' i = Py.ts l2 l2 i (n2 + 1)) ∧ Bw w w' := by
  have hmf := makef10
  have HC := hide hc
  have HE := hide (And.intro e1 e2)
  have HM := hide (And.intro m1 m2)
  have HG := hide (And.intro g1 g2)
  have HZ := hide z2
  clear e1 e2 m1 m2 g1 g2 z2 hc
  obtain ⟨F, S, E, V, W5, eF, eS, eE, eV, eW, fF, fS, fV, bW, q1, q2, q3, q4⟩ := four10 w (.slice (some ⟨b1, o1, none⟩) (n1 + 1) c1) (.slice (some ⟨b2, o2, none⟩) (n2 + 1) c2)
  have WO : Hid (Calls Try.prog 32 #[.slice (some ⟨V, 0, none⟩) 1 1] W5 fun e w' => e = .returned (.agg #[.int .i64 0]) ∧ Bw W5 w') := by
    refine workon10 (K := 1) HC.out (by omega) fV.1 (fun k hk => ?_)
    rcases (show k = 0 by omega) with rfl
    exact ⟨_, _, fV.2.1, fV.2.2, _, _, _, _, _, _, _, _, _, _, rfl, rfl, HM.out.1, HG.out.1.bw bW, HM.out.2, HG.out.2.bw bW, HZ.out⟩
  have HT : Hid (Duo W5 F S E (.slice (some ⟨b1, o1, none⟩) (n1 + 1) c1) (.slice (some ⟨b2, o2, none⟩) (n2 + 1) c2) (.slice none 0 0) (.slice none 0 0) 0) := ⟨fF, fS⟩
  have HQ : Hid (F ≠ S ∧ E ≠ S ∧ S < E ∧ w.heap.size ≤ S) := by show _ ∧ _; omega
  have HB := hide bW
  clear fF fS fV bW q1 q2 q3 q4
  go_enter_defers Try.func11, Try.ntmps11
  go_wp2_with fail
  rw [← eW, ← eV, ← eE, ← eS, ← eF]
  refine WO.out.mono ?_
  clear WO eW eV eE eS eF
  rintro e' w6 ⟨rfl, b6⟩
  obtain ⟨Wb, eWb⟩ : ∃ Wb, Wb = w6.heap.size := ⟨_, rfl⟩
  obtain ⟨W7, eW7⟩ : ∃ W7, W7 = w6.alloc (.cells #[.int .i64 0] 64) := ⟨_, rfl⟩
  have b7 : Bw W5 W7 := by rw [eW7]; exact bw_trans b6 (bw_alloc _ _)
  have HK : Hid (Wk W7 Wb) := by show Wk _ _; rw [eW7, eWb]; exact Wk.made _ _
  have HWb : Hid (Wb ≠ S) := by
    have h1 := HT.out.2.1.1
    have h2 := Below.size b6
    show Wb ≠ S
    rw [eWb]; omega
  replace HT := hide (HT.out.bw b7)
  replace HB := hide (bw_trans HB.out b7)
  clear b6 b7
  go_wp2_with fail
  rw [← eW7, ← eWb]
  clear eW7 eWb
  have S0 := (HT.out.bw (Bw.drw W7)).cells
  refine wp_region_K (fun w' => w'.cell? ⟨F, 0, none⟩ = some (.slice (some ⟨b1, o1, none⟩) (n1 + 1) c1) ∧ w'.cell? ⟨F, 1, none⟩ = some (.slice (some ⟨b2, o2, none⟩) (n2 + 1) c2)) 7 8 #[false, false, false, false, false, false, false, false] (by kernel_rfl) (by kernel_rfl) (by kernel_rfl) ?_
  refine wpAnyK_take 0 11 (v := ?v0) rfl (by kernel_rfl) (by kernel_rfl) (by kernel_rfl) (by kernel_rfl) (by kernel_rfl) (fun _ _ _ h => put_d 11 rfl (by decide) (by decide) h) rfl (Or.inl ⟨by rfl, ?h0⟩) (by assumption) ?r0
  case h0 => (intro w hSw; go_simp; with_reducible rfl)
  simp only [Act.put, List.setIfInBounds_toArray, List.set_cons_zero, List.set_cons_succ]
  refine wpAnyK_take 1 12 (v := ?v1) rfl (by kernel_rfl) (by kernel_rfl) (by kernel_rfl) (by kernel_rfl) (by kernel_rfl) (fun _ _ _ h => put_d 12 rfl (by decide) (by decide) h) rfl (Or.inl ⟨by rfl, ?h1⟩) (by assumption) ?r1
  case h1 => (intro w hSw; go_simp; with_reducible rfl)
  simp only [Act.put, List.setIfInBounds_toArray, List.set_cons_zero, List.set_cons_succ]
  refine wpAnyK_take 3 14 (v := ?v3) rfl (by kernel_rfl) (by kernel_rfl) (by kernel_rfl) (by kernel_rfl) (by kernel_rfl) (fun _ _ _ h => put_d 14 rfl (by decide) (by decide) h) rfl (Or.inl ⟨by rfl, ?h3⟩) (by assumption) ?r3
  case h3 => (intro w hSw; go_simp; with_reducible rfl)
  simp only [Act.put, List.setIfInBounds_toArray, List.set_cons_zero, List.set_cons_succ]
  refine wpAnyK_take 4 15 (v := ?v4) rfl (by kernel_rfl) (by kernel_rfl) (by kernel_rfl) (by kernel_rfl) (by kernel_rfl) (fun _ _ _ h => put_d 15 rfl (by decide) (by decide) h) rfl (Or.inl ⟨by rfl, ?h4⟩) (by assumption) ?r4
  case h4 => (intro w hSw; go_simp; with_reducible rfl)
  simp only [Act.put, List.setIfInBounds_toArray, List.set_cons_zero, List.set_cons_succ]
  refine wpAnyK_one 2 (by kernel_rfl) rfl (fun K hK => ?_)
  go_simp
  go_wp2_with (go_at_call 35; refine (wslope10 (A := 12) HC.out (HK.out.bw (Bw.drw _)) HM.out.1 ((HG.out.1.bw HB.out).bw (Bw.drw _)) HE.out.1 (by omega)).mono ?_; intro e' w8 hp; obtain ⟨Bp, pp, Lp, rfl, Mp, Np, Qp, Hp, Kp, Cp⟩ := hp.use; clear hp; replace Kp := bw_trans (Bw.drw W7) Kp; have T8 := hide (HT.out.bw Kp); have S8 := T8.out.cells; have K8 := hide (HK.out.bw Kp); have B8 := hide (bw_trans HB.out Kp))
  refine hK.out _ _ (fun _ _ => S8) ?_
  clear hK K
  simp only [List.setIfInBounds_toArray, List.set_cons_zero, List.set_cons_succ]
  refine wpAnyK_one 5 (by kernel_rfl) rfl (fun K hK => ?_)
  go_simp
  go_wp2_with (go_at_call 35; refine (wslope10 (A := 12) HC.out K8.out HM.out.2 (HG.out.2.bw B8.out) HE.out.2 (by omega)).mono ?_; intro e' w9 hq; obtain ⟨Bq, pq, Lq, rfl, Mq, Nq, Qq, Hq, Kq, Cq⟩ := hq.use; clear hq; have T9 := hide (T8.out.bw Kq); have S9 := T9.out.cells; have K9 := hide (K8.out.bw Kq); have B9 := hide (bw_trans B8.out Kq); have Gp := hide (Qp.bw Kq))
  refine hK.out _ _ (fun _ _ => S9) ?_
  clear hK K
  simp only [List.setIfInBounds_toArray, List.set_cons_zero, List.set_cons_succ]
  refine wpAnyK_one 6 (by kernel_rfl) rfl (fun K hK => ?_)
  go_simp
  refine hK.out _ _ (fun _ _ => S9) ?_
  clear hK K
  simp only [List.setIfInBounds_toArray, List.set_cons_zero, List.set_cons_succ]
  refine wpAnyK_one 7 (by kernel_rfl) rfl (fun K hK => ?_)
  go_simp
  refine hK.out _ _ (fun h => absurd rfl h) ?_
  clear hK K
  simp only [List.setIfInBounds_toArray, List.set_cons_zero, List.set_cons_succ]
  refine wpAnyK_done (by kernel_rfl) ?_ _
  have FP : Hid (May pp Lp ∧ pp ≤ 2 ∧ (∀ i, Py.co Lp i = gk (i + 1) (Py.co l1 (i + 1))) ∧ ∀ i, Py.Le (Py.co Lp i) 36) := ⟨Mp, by omega, Cp, fun i => by rw [Cp]; exact gk_le36 HE.out.1 HM.out.1 k1 i⟩
  have FQ : Hid (May pq Lq ∧ pq ≤ 2 ∧ (∀ i, Py.co Lq i = gk (i + 1) (Py.co l2 (i + 1))) ∧ ∀ i, Py.Le (Py.co Lq i) 36) := ⟨Mq, by omega, Cq, fun i => by rw [Cq]; exact gk_le36 HE.out.2 HM.out.2 k2 i⟩
  have GQ := hide Qq
  have L9 : Hid (W7.heap.size ≤ Bp ∧ W7.heap.size ≤ Bq) := ⟨Hp, Nat.le_trans (Below.size Kp) Hq⟩
  clear S0 S8 S9 Mp Mq Np Nq Cp Cq Qp Qq Hp Hq Kp Kq T8 K8 B8 HT HK HB
  go_wp2_with fail
  have S0 := (T9.out.bw (Bw.drw w9)).cells
  refine wp_region_K (fun w' => w'.cell? ⟨F, 0, none⟩ = some (.slice (some ⟨b1, o1, none⟩) (n1 + 1) c1) ∧ w'.cell? ⟨F, 1, none⟩ = some (.slice (some ⟨b2, o2, none⟩) (n2 + 1) c2)) 11 12 #[false, false, false, false, false, false, false, false, false, false, false, false] (by kernel_rfl) (by kernel_rfl) (by kernel_rfl) ?_
  refine wpAnyK_take 0 17 (v := ?vb0) rfl (by kernel_rfl) (by kernel_rfl) (by kernel_rfl) (by kernel_rfl) (by kernel_rfl) (fun _ _ _ h => put_d 17 rfl (by decide) (by decide) h) rfl (Or.inl ⟨by rfl, ?hb0⟩) (by assumption) ?rb0
  case hb0 => (intro w hSw; go_simp; with_reducible rfl)
  simp only [Act.put, List.setIfInBounds_toArray, List.set_cons_zero, List.set_cons_succ]
  refine wpAnyK_take 1 18 (v := ?vb1) rfl (by kernel_rfl) (by kernel_rfl) (by kernel_rfl) (by kernel_rfl) (by kernel_rfl) (fun _ _ _ h => put_d 18 rfl (by decide) (by decide) h) rfl (Or.inl ⟨by rfl, ?hb1⟩) (by assumption) ?rb1
  case hb1 => (intro w hSw; go_simp; with_reducible rfl)
  simp only [Act.put, List.setIfInBounds_toArray, List.set_cons_zero, List.set_cons_succ]
  refine wpAnyK_take 2 19 (v := ?vb2) rfl (by kernel_rfl) (by kernel_rfl) (by kernel_rfl) (by kernel_rfl) (by kernel_rfl) (fun _ _ _ h => put_d 19 rfl (by decide) (by decide) h) rfl (Or.inl ⟨by rfl, ?hb2⟩) (by assumption) ?rb2
  case hb2 => (intro w hSw; go_simp; with_reducible rfl)
  simp only [Act.put, List.setIfInBounds_toArray, List.set_cons_zero, List.set_cons_succ]
  refine wpAnyK_take 4 21 (v := ?vb4) rfl (by kernel_rfl) (by kernel_rfl) (by kernel_rfl) (by kernel_rfl) (by kernel_rfl) (fun _ _ _ h => put_d 21 rfl (by decide) (by decide) h) rfl (Or.inl ⟨by rfl, ?hb4⟩) (by assumption) ?rb4
  case hb4 => (intro w hSw; go_simp; with_reducible rfl)
  simp only [Act.put, List.setIfInBounds_toArray, List.set_cons_zero, List.set_cons_succ]
  refine wpAnyK_take 5 22 (v := ?vb5) rfl (by kernel_rfl) (by kernel_rfl) (by kernel_rfl) (by kernel_rfl) (by kernel_rfl) (fun _ _ _ h => put_d 22 rfl (by decide) (by decide) h) rfl (Or.inl ⟨by rfl, ?hb5⟩) (by assumption) ?rb5
  case hb5 => (intro w hSw; go_simp; with_reducible rfl)
  simp only [Act.put, List.setIfInBounds_toArray, List.set_cons_zero, List.set_cons_succ]
  refine wpAnyK_take 6 23 (v := ?vb6) rfl (by kernel_rfl) (by kernel_rfl) (by kernel_rfl) (by kernel_rfl) (by kernel_rfl) (fun _ _ _ h => put_d 23 rfl (by decide) (by decide) h) rfl (Or.inl ⟨by rfl, ?hb6⟩) (by assumption) ?rb6
  case hb6 => (intro w hSw; go_simp; with_reducible rfl)
  simp only [Act.put, List.setIfInBounds_toArray, List.set_cons_zero, List.set_cons_succ]
  refine wpAnyK_one 3 (by kernel_rfl) rfl (fun K hK => ?_)
  go_simp
  go_wp2_with (go_at_call 37; refine (wmul10 (A := 36) (A' := 12) HC.out (K9.out.bw (Bw.drw _)) FP.out.1 (Gp.out.bw (Bw.drw _)) HM.out.2 ((HG.out.2.bw B9.out).bw (Bw.drw _)) FP.out.2.2.2 HE.out.2 (by have := FP.out.2.1; omega) (by have := FP.out.2.1; omega)).mono ?_; intro e' w20 ha; obtain ⟨Ba, pa, La, rfl, Ma, Na, Qa, Ha, Ka, Ca⟩ := ha.use; clear ha; replace Ka := bw_trans (Bw.drw w9) Ka; have T20 := hide (T9.out.bw Ka); have S20 := T20.out.cells; have K20 := hide (K9.out.bw Ka); have B20 := hide (bw_trans B9.out Ka))
  refine hK.out _ _ (fun _ _ => S20) ?_
  clear hK K
  simp only [List.setIfInBounds_toArray, List.set_cons_zero, List.set_cons_succ]
  refine wpAnyK_one 7 (by kernel_rfl) rfl (fun K hK => ?_)
  go_simp
  go_wp2_with (go_at_call 37; refine (wmul10 (A := 12) (A' := 36) HC.out K20.out HM.out.1 (HG.out.1.bw B20.out) FQ.out.1 (GQ.out.bw Ka) HE.out.1 FQ.out.2.2.2 (by omega) (by have := FQ.out.2.1; omega)).mono ?_; intro e' w21 hb; obtain ⟨Bb, pb, Lb, rfl, Mb, Nb, Qb, Hb, Kb, Cb⟩ := hb.use; clear hb; have T21 := hide (T20.out.bw Kb); have S21 := T21.out.cells; have K21 := hide (K20.out.bw Kb); have B21 := hide (bw_trans B20.out Kb); have Ga := hide (Qa.bw Kb); have NB : Hid (F ≠ Bb ∧ S ≠ Bb ∧ E ≠ Bb ∧ Wb ≠ Bb ∧ Ba ≠ Bb ∧ w.heap.size ≤ Bb) := (by have h1 := T20.out.1.1; have h2 := T20.out.2.1.1; have h3 := T20.out.2.2.2.2.1; have h4 := K20.out.1; have h5 := Qa.1.1; have h6 := Below.size B20.out; show _ ∧ _; omega))
  refine hK.out _ _ (fun _ _ => S21) ?_
  clear hK K
  simp only [List.setIfInBounds_toArray, List.set_cons_zero, List.set_cons_succ]
  refine wpAnyK_one 8 (by kernel_rfl) rfl (fun K hK => ?_)
  go_simp
  go_wp2_with (go_at_call 38; refine (turned10 Mb.1 Mb.2.1 Qb).mono ?_; rintro e' w22 ⟨rfl, ⟨Lt, Nt, Qt, Ct⟩, Ot⟩; have T22 := hide (T21.out.ob Ot NB.out.1 NB.out.2.1 NB.out.2.2.1); have S22 := T22.out.cells; have K22 := hide (K21.out.ob Ot NB.out.2.2.2.1); have B22 := hide (Ot.2.2 w B21.out NB.out.2.2.2.2.2); have Gb := hide (Ot.gl Ga.out.1 NB.out.2.2.2.2.1); have Mt := hide (may_neg Mb Nt Ct))
  refine hK.out _ _ (fun _ _ => S22) ?_
  clear hK K
  simp only [List.setIfInBounds_toArray, List.set_cons_zero, List.set_cons_succ]
  refine wpAnyK_one 9 (by kernel_rfl) rfl (fun K hK => ?_)
  go_simp
  go_wp2_with (go_at_call 36; refine (wadd10 (A := 1296) (A' := 1728) HC.out K22.out Ma Gb.out Mt.out Qt.1 (fun i => by rw [Ca]; exact (Py.ts_le FP.out.2.2.2 HE.out.2 i (pp + 1)).mono (by have := FP.out.2.1; omega)) (fun i => by rw [Ct, Cb]; exact ((Py.ts_le HE.out.1 FQ.out.2.2.2 i (n1 + 1)).mono (by omega)).neg) (by omega)).mono ?_; intro e' w10 hc; obtain ⟨Bc, pc, Lc, rfl, Mc, Nc, Qc, Hc, Kc, Cc⟩ := hc.use; clear hc; have T10 := hide (T22.out.bw Kc); have S10 := T10.out.cells; have K10 := hide (K22.out.bw Kc); have B10 := hide (bw_trans B22.out Kc))
  refine hK.out _ _ (fun _ _ => S10) ?_
  clear hK K
  simp only [List.setIfInBounds_toArray, List.set_cons_zero, List.set_cons_succ]
  refine wpAnyK_take 10 27 (v := ?vb10) rfl (by kernel_rfl) (by kernel_rfl) (by kernel_rfl) (by kernel_rfl) (by kernel_rfl) (fun _ _ _ h => put_d 27 rfl (by decide) (by decide) h) rfl (Or.inl ⟨by rfl, ?hb10⟩) (by assumption) ?rb10
  case hb10 => (intro w hSw; go_simp; with_reducible rfl)
  simp only [Act.put, List.setIfInBounds_toArray, List.set_cons_zero, List.set_cons_succ]
  obtain ⟨⟨_, d0, d1⟩, f0, f1, _, g0, g1⟩ := T10.out.2
  refine wpAnyK_one 11 (by kernel_rfl) rfl (fun K hK => ?_)
  go_simp
  refine hK.out _ _ (fun h => absurd rfl h) ?_
  clear hK K
  simp only [List.setIfInBounds_toArray, List.set_cons_zero, List.set_cons_succ]
  refine wpAnyK_done (by kernel_rfl) ?_ _
  have T11 := hide (T10.out.top HQ.out.1 HQ.out.2.1 (.slice (some ⟨Bc, 0, none⟩) (pc + 1) (pc + 1)))
  have K11 := hide (K10.out.apart HWb.out 0 (.slice (some ⟨Bc, 0, none⟩) (pc + 1) (pc + 1)))
  have B11 := hide (bw_set B10.out HQ.out.2.2.2 0 (.slice (some ⟨Bc, 0, none⟩) (pc + 1) (pc + 1)))
  have hBc : Hid (Bc ≠ S) := by have h1 := T22.out.2.1.1; show Bc ≠ S; omega
  have G11 := hide (gl_set Qc hBc.out 0 (.slice (some ⟨Bc, 0, none⟩) (pc + 1) (pc + 1)))
  have MC := hide (And.intro Mc (And.intro Nc Cc))
  have FIN : Hid (pc ≤ 6 ∧ ∃ d1 d2 : List Py.G, ∃ t1 t2 : Nat, d1.length = t1 + 1 ∧ d2.length = t2 + 1 ∧ (∀ i, Py.co d1 i = gk (i + 1) (Py.co l1 (i + 1))) ∧ (∀ i, Py.co d2 i = gk (i + 1) (Py.co l2 (i + 1))) ∧ ∀ i, Py.co Lc i = Py.ga (Py.ts d1 l2 i (t1 + 1)) (Py.gn (Py.ts l1 d2 i (n1 + 1)))) := ⟨by have := FP.out.2.1; have := FQ.out.2.1; omega, Lp, Lq, pp, pq, FP.out.1.1, FQ.out.1.1, FP.out.2.2.1, FQ.out.2.2.1, fun i => by rw [Cc, Ca, Ct, Cb]⟩
  clear d0 d1 f0 f1 g0 g1 S0 Qc Mc Nc Cc T10 K10 B10 Ma Mb Ca Cb Ka Kb Kc Na Nb Ha Hb Hc Qa Qb Ga Gb T20 T21 T22 K20 K21 K22 B20 B21 B22 S20 S21 S22 S10 T9 K9 B9 NB Mt Ct Ot Qt Nt Gp GQ L9
  generalize w10.setCell ⟨S, 0, none⟩ (.slice (some ⟨Bc, 0, none⟩) (pc + 1) (pc + 1)) = W11 at *
  have S11 := T11.out.cells
  go_wp2_with fail
  refine (wmul10 (A := 12) (A' := 12) HC.out K11.out HM.out.2 (HG.out.2.bw B11.out) HM.out.2 (HG.out.2.bw B11.out) HE.out.2 HE.out.2 (by omega) (by omega)).mono ?_
  intro e' w12 hd
  obtain ⟨Bd, pd, Ld, rfl, Md, Nd, Qd, Hd, Kd, Cd⟩ := hd.use
  have hBd : Hid (Bd ≠ S) := by have h1 := T11.out.2.1.1; show Bd ≠ S; omega
  have T12 := hide (T11.out.bw Kd)
  have K12 := hide (K11.out.bw Kd)
  have B12 := hide (bw_trans B11.out Kd)
  have G12 := hide (G11.out.bw Kd)
  obtain ⟨⟨_, d0, d1⟩, f0, f1, _, g0, g1⟩ := T12.out.2
  clear hd S11 T11 K11 B11 G11
  have T13 := hide (T12.out.bottom HQ.out.1 HQ.out.2.1 (.slice (some ⟨Bd, 0, none⟩) (pd + 1) (pd + 1)))
  have K13 := hide (K12.out.apart HWb.out 1 (.slice (some ⟨Bd, 0, none⟩) (pd + 1) (pd + 1)))
  have B13 := hide (bw_set B12.out HQ.out.2.2.2 1 (.slice (some ⟨Bd, 0, none⟩) (pd + 1) (pd + 1)))
  have G13 := hide (And.intro (gl_set G12.out hBc.out 1 (.slice (some ⟨Bd, 0, none⟩) (pd + 1) (pd + 1))) (gl_set Qd.1 hBd.out 1 (.slice (some ⟨Bd, 0, none⟩) (pd + 1) (pd + 1))))
  have MD := hide (And.intro Md (And.intro Nd Cd))
  clear T12 K12 B12 G12 Md Nd Cd Qd Hd Kd
  go_wp2_with fail
  clear d0 d1 f0 f1 g0 g1
  generalize w12.setCell ⟨S, 1, none⟩ (.slice (some ⟨Bd, 0, none⟩) (pd + 1) (pd + 1)) = W13 at *
  obtain ⟨⟨_, d0, d1⟩, f0, f1, _, g0, g1⟩ := T13.out.2
  obtain ⟨_, wk, _⟩ := K13.out
  have S13 : W13.drew.cell? ⟨S, 0, none⟩ = some (.slice (some ⟨Bc, 0, none⟩) (pc + 1) (pc + 1)) ∧ W13.drew.cell? ⟨S, 1, none⟩ = some (.slice (some ⟨Bd, 0, none⟩) (pd + 1) (pd + 1)) ∧ W13.drew.cell? ⟨Wb, 0, none⟩ = some (.int .i64 0) := ⟨d0, d1, wk⟩
  have y0 := set_self d0
  have y1 := set_self d1
  have y2 := set_self g0
  refine wp_region_K (fun w' => w'.cell? ⟨S, 0, none⟩ = some (.slice (some ⟨Bc, 0, none⟩) (pc + 1) (pc + 1)) ∧ w'.cell? ⟨S, 1, none⟩ = some (.slice (some ⟨Bd, 0, none⟩) (pd + 1) (pd + 1)) ∧ w'.cell? ⟨Wb, 0, none⟩ = some (.int .i64 0)) 4 5 #[false, false, false, false, false] (by kernel_rfl) (by kernel_rfl) (by kernel_rfl) ?_
  refine wpAnyK_take 0 34 (v := ?vz0) rfl (by kernel_rfl) (by kernel_rfl) (by kernel_rfl) (by kernel_rfl) (by kernel_rfl) (fun _ _ _ h => put_d 34 rfl (by decide) (by decide) h) rfl (Or.inl ⟨by rfl, ?hz0⟩) (by assumption) ?rz0
  case hz0 => (intro w hSw; go_simp; with_reducible rfl)
  simp only [Act.put, List.setIfInBounds_toArray, List.set_cons_zero, List.set_cons_succ]
  refine wpAnyK_take 1 35 (v := ?vz1) rfl (by kernel_rfl) (by kernel_rfl) (by kernel_rfl) (by kernel_rfl) (by kernel_rfl) (fun _ _ _ h => put_d 35 rfl (by decide) (by decide) h) rfl (Or.inl ⟨by rfl, ?hz1⟩) (by assumption) ?rz1
  case hz1 => (intro w hSw; go_simp; with_reducible rfl)
  simp only [Act.put, List.setIfInBounds_toArray, List.set_cons_zero, List.set_cons_succ]
  refine wpAnyK_take 2 36 (v := ?vz2) rfl (by kernel_rfl) (by kernel_rfl) (by kernel_rfl) (by kernel_rfl) (by kernel_rfl) (fun _ _ _ h => put_d 36 rfl (by decide) (by decide) h) rfl (Or.inl ⟨by rfl, ?hz2⟩) (by assumption) ?rz2
  case hz2 => (intro w hSw; go_simp; with_reducible rfl)
  simp only [Act.put, List.setIfInBounds_toArray, List.set_cons_zero, List.set_cons_succ]
  refine wpAnyK_one 3 (by kernel_rfl) rfl (fun K hK => ?_)
  go_simp
  refine hK.out _ _ (fun _ _ => S13) ?_
  clear hK K
  simp only [List.setIfInBounds_toArray, List.set_cons_zero, List.set_cons_succ]
  refine wpAnyK_one 4 (by kernel_rfl) rfl (fun K hK => ?_)
  go_simp
  refine hK.out _ _ (fun h => absurd rfl h) ?_
  clear hK K
  simp only [List.setIfInBounds_toArray, List.set_cons_zero, List.set_cons_succ]
  refine wpAnyK_done (by kernel_rfl) ?_ _
  clear S13 y0 y1 y2 d0 d1 f0 f1 g0 g1 wk
  go_wp2_with fail
  refine leaves_cons (f := 33) (args := #[.pointer (some ⟨Wb, 0, none⟩), .pointer (some ⟨S, 0, none⟩), .pointer (some ⟨E, 0, none⟩)]) (by simp) (by simp [go_sem]) ?_
  refine (dslope10 .returning (K13.out.bw (Bw.drw _)) (T13.out.2.bw (Bw.drw _)) MD.out.1 (G13.out.2.bw (Bw.drw _)) (nz_ts HM.out.2 HM.out.2 HZ.out HZ.out MD.out.1 MD.out.2.2)).mono ?_
  rintro e u' w14 ⟨rfl, rfl, b14⟩
  replace b14 := bw_trans (Bw.drw W13) b14
  have T14 := (T13.out.2.bw b14)
  refine ⟨_, res_cc rfl _ _ S E _ _ 0 rfl rfl T14.1 T14.2.2.2.2.1, _, _, pc, Lc, pd, Ld, rfl, ⟨_, _, _, rfl, G13.out.1.bw b14⟩, ⟨_, _, _, rfl, G13.out.2.bw b14⟩, MC.out.1, MD.out.1, FIN.out.1, by have := MD.out.2.1; omega, FIN.out.2, MD.out.2.2, bw_trans B13.out b14⟩
end Go.Proofs.Ytmbjgakehghdjaa
/-
  OWN TEXT: package ratio: copied, word by word.
-/
namespace Go.Proofs.Ytmbjgakehghdjaa
open Go.ChangeShapes Go.WideShapes Go.ChangeAt Go.RowKit
set_option linter.unusedVariables false
attribute [local go_sem] frombits_call tobits_call run_neg run_store_cx
/-- the words F lie there -/
def Wf (w : World) (b o n : Nat) (F : Nat → Nat × Nat) : Prop := b < w.heap.size ∧ ∀ i, i < n → w.cell? ⟨b, o + i, none⟩ = some (.complex .f64 (F i).1 (F i).2)
theorem Wf.bw {w w' : World} {b o n : Nat} {F : Nat → Nat × Nat} (h : Wf w b o n F) (k : Bw w w') : Wf w' b o n F :=
  ⟨Nat.lt_of_lt_of_le h.1 (Below.size k), fun i hi => (Below.cell k (p := ⟨b, o + i, none⟩) h.1).trans (h.2 i hi)⟩
theorem Wf.set {w : World} {b o n S : Nat} {F : Nat → Nat × Nat} (h : Wf w b o n F) (hS : b ≠ S) (i : Nat) (v : Value) : Wf (w.setCell ⟨S, i, none⟩ v) b o n F := by
  refine ⟨by simpa [World.setCell] using h.1, fun j hj => ?_⟩
  rw [World.cell?_setCell_other]
  · exact h.2 j hj
  · intro e; cases e; exact hS rfl
/-- and they are the list l -/
def Wl (c n : Nat) (F : Nat → Nat × Nat) (l : List Py.G) : Prop := l.length = n ∧ ∀ i, i < n → wC c (F i).1 (F i).2 (Py.co l i)
theorem Wf.gl {c : Nat} {w : World} {b o n : Nat} {F : Nat → Nat × Nat} {l : List Py.G} (h : Wf w b o n F) (k : Wl c n F l) : Gl c w b o l :=
  ⟨h.1, fun i hi => ⟨_, _, h.2 i (by rw [← k.1]; exact hi), k.2 i (by rw [← k.1]; exact hi)⟩⟩
theorem Gl.wf {c : Nat} {w : World} {b o n : Nat} {l : List Py.G} (h : Gl c w b o l) (hn : l.length = n) : ∃ F, Wf w b o n F ∧ Wl c n F l := by
  subst hn
  obtain ⟨F, hF⟩ := h.words
  exact ⟨F, ⟨h.1, fun i hi => (hF i hi).1⟩, rfl, fun i hi => (hF i hi).2⟩
theorem copyw10 {w : World} {B b o n ca cb : Nat} {F : Nat → Nat × Nat} (hB : ∀ i, i < n → (w.cell? ⟨B, i, none⟩).isSome = true) (hfz : ∀ i, w.frozen? ⟨B, i, none⟩ = false) (hF : ∀ i, i < n → w.cell? ⟨b, o + i, none⟩ = some (.complex .f64 (F i).1 (F i).2)) :
    (Builtin.copy_ #[22, 22] 3 #[.slice (some ⟨B, 0, none⟩) n cb, .slice (some ⟨b, o, none⟩) n ca]).run Try.prog w = .ok (.int .i64 n) (w.setCells B 0 (vsC F n)) := by
  have hu : Try.prog.underlying 22 = some (.slice 27) := by kernel_rfl
  have hs : (Try.prog.info? 27).map (·.size) = some 1 := by kernel_rfl
  have := run_copy_cells (P := Try.prog) w 22 22 3 27 B 0 n cb ⟨b, o, none⟩ n ca (vsC F n) hu hs (by rw [vsC_len]; exact (Nat.min_self n).symm) ?_ ?_ ?_ ?_
  · rw [vsC_len] at this; exact this
  · intro j v hj
    have hjl : j < n := by
      have := (List.getElem?_eq_some_iff.1 hj).1; rw [vsC_len] at this; exact this
    rw [vsC_get F _ j hjl] at hj
    cases hj
    have hc := hF j hjl
    simp only [Addr.add]
    by_cases z : j = 0
    · subst z; simpa using hc
    · rw [if_neg z]; exact hc
  · intro j hj
    rw [vsC_len] at hj
    rw [Nat.zero_add]
    exact hB j hj
  · intro j hj; exact hfz _
  · intro v hv
    unfold vsC at hv
    obtain ⟨x, _, rfl⟩ := List.mem_map.1 hv
    rfl
theorem made_wf (w : World) (n : Nat) (F : Nat → Nat × Nat) : Wf ((w.alloc (.cells (zcC n) 27)).setCells w.heap.size 0 (vsC F n)) w.heap.size 0 n F := by
  have hm := Gw.made 0 w n 27
  refine ⟨by rw [size_setCells8]; exact hm.1.1, fun i hi => ?_⟩
  have m := World.cell?_setCells_in w.heap.size (vsC F n) 0 (w.alloc (.cells (zcC n) 27)) (fun j hj => by
    rw [vsC_len] at hj
    obtain ⟨x, y, e, q⟩ := hm.1.2 j (by rw [List.length_replicate]; exact hj)
    rw [e]; rfl) i (by rw [vsC_len]; exact hi)
  rw [m]
  have e' := vsC_get F n i hi
  rw [List.getElem?_eq_getElem (by rw [vsC_len]; exact hi)] at e'
  exact e'
theorem wcopied10 {w : World} {W b o cap n : Nat} {F : Nat → Nat × Nat} (hW : Wk w W) (h : Wf w b o n F) (hn : n ≤ 1000) :
    Calls Try.prog 41 #[.pointer (some ⟨W, 0, none⟩), .slice (some ⟨b, o, none⟩) n cap] w fun e w' => e = .returned (.slice (some ⟨w.heap.size, 0, none⟩) n n) ∧ Wf w' w.heap.size 0 n F ∧ Bw w w' := by
  have hmk := make_c (n : Int) n rfl (by omega)
  have hbw := bw_alloc w (.cells (zcC n) 27)
  have hm := Gw.made 0 w n 27
  have hcp := copyw10 (w := w.alloc (.cells (zcC n) 27)) (ca := cap) (cb := n) (B := w.heap.size) (fun i hi => by
    obtain ⟨x, y, e, q⟩ := hm.1.2 i (by rw [List.length_replicate]; exact hi)
    rw [Nat.zero_add] at e
    rw [e]; rfl) hm.2 (h.bw hbw).2
  have R := hide (made_wf w n F)
  have hb2 := bw_setCells w.heap.size (Nat.le_refl _) (vsC F n) 0 _ hbw
  have c0 := hW.2.1
  clear hW h hm hbw
  generalize (w.alloc (.cells (zcC n) 27)).setCells w.heap.size 0 (vsC F n) = w2 at *
  go_enter Try.func41, Try.ntmps41
  go_wp2
  go_ret
  exact ⟨rfl, R.out, hb2⟩
end Go.Proofs.Ytmbjgakehghdjaa
