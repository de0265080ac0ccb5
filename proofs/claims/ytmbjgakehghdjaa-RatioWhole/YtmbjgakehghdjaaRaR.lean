/-
  OWN TEXT: the law RatioWhole, for whatever ints.
-/
import Derived.Test.YtmbjgakehghdjaaJbf
import Derived.Test.YtmbjgakehghdjaaXxC
import Derived.Test.YtmbjgakehghdjaaJal
namespace Go.Proofs.Ytmbjgakehghdjaa
open Go.ChangeShapes Go.WideShapes Go.ChangeAt Go.RowKit
set_option linter.unusedVariables false
attribute [local go_sem] frombits_call tobits_call run_neg run_store_cx
theorem Ix.bw {w w' : World} {a : Option Addr} {len : Nat} (h : Ix w a len) (k : Bw w w') : Ix w' a len := by
  rcases h with h | ⟨b, off, h1, h2, h3⟩
  · exact Or.inl h
  · refine Or.inr ⟨b, off, h1, Nat.lt_of_lt_of_le h2 (Below.size k), fun j hj => ?_⟩
    obtain ⟨z, e⟩ := h3 j hj
    exact ⟨z, (Below.cell k (p := ⟨b, off + j, none⟩) h2).trans e⟩
/-- two fractions as variables -/
theorem two10 (w : World) (s1 s2 s3 s4 : Value) : ∃ (F G : Nat) (W : World), F = w.heap.size ∧ G = w.heap.size + 1 ∧ W = (w.alloc (.cells #[s1, s2] 24)).alloc (.cells #[s3, s4] 24) ∧ Fc W F s1 s2 ∧ Fc W G s3 s4 ∧ Bw w W := by
  have f1 := (Fc.made w s1 s2 24).bw (bw_alloc _ (.cells #[s3, s4] 24))
  have f2 := Fc.made (w.alloc (.cells #[s1, s2] 24)) s3 s4 24
  have hsz : (w.alloc (.cells #[s1, s2] 24)).heap.size = w.heap.size + 1 := by simp
  rw [hsz] at f2
  exact ⟨_, _, _, rfl, rfl, rfl, f1, f2, bw_trans (bw_alloc _ _) (bw_alloc _ _)⟩
theorem ev_neg {l m : List Py.G} (z : Py.G) (h : ∀ i, Py.co l i = Py.gn (Py.co m i)) : Py.ev l z = Py.gn (Py.ev m z) := by
  have k : ∀ x : Py.G, Py.gm (-1, 0) x = Py.gn x := fun x => Py.gext (by unfold Py.gm Py.gn; simp) (by unfold Py.gm Py.gn; simp)
  rw [Py.ev_scale l m (-1, 0) z (fun i => by rw [k]; exact h i), k]
theorem co_neg (m : List Py.G) (i : Nat) : Py.co (m.map Py.gn) i = Py.gn (Py.co m i) := by
  unfold Py.co
  simp only [List.getD, List.getElem?_map]
  cases m[i]? <;> rfl
theorem ev_ts {L a b : List Py.G} {n : Nat} (z : Py.G) (ha : a.length = n + 1) (h : ∀ i, Py.co L i = Py.ts a b i (n + 1)) : Py.ev L z = Py.gm (Py.ev a z) (Py.ev b z) :=
  Py.ev_mul a b L z (fun j => by rw [h, ha])
theorem ev_ts2 {L a b d f : List Py.G} {n m : Nat} (z : Py.G) (ha : a.length = n + 1) (hd : d.length = m + 1) (h : ∀ i, Py.co L i = Py.ga (Py.ts a b i (n + 1)) (Py.ts d f i (m + 1))) : Py.ev L z = Py.ga (Py.gm (Py.ev a z) (Py.ev b z)) (Py.gm (Py.ev d z) (Py.ev f z)) := by
  rw [Py.ev_add L (Py.ml a b) (Py.ml d f) z (fun i => by rw [h, Py.co_ml, Py.co_ml, ha, hd]), Py.ev_ml, Py.ev_ml]
theorem ev_ts3 {L a b d f : List Py.G} {n m : Nat} (z : Py.G) (ha : a.length = n + 1) (hd : d.length = m + 1) (h : ∀ i, Py.co L i = Py.ga (Py.ts a b i (n + 1)) (Py.gn (Py.ts d f i (m + 1)))) : Py.ev L z = Py.gs (Py.gm (Py.ev a z) (Py.ev b z)) (Py.gm (Py.ev d z) (Py.ev f z)) := by
  rw [Py.ev_add L (Py.ml a b) ((Py.ml d f).map Py.gn) z (fun i => by rw [h, co_neg, Py.co_ml, Py.co_ml, ha, hd]), Py.ev_ml, ev_neg z (co_neg _), Py.ev_ml, Py.gs_eq]
theorem ts_far2 {a b : List Py.G} (j k : Nat) (h : a.length ≤ k) : Py.ts a b j k = Py.ts a b j a.length := by
  obtain ⟨n, rfl⟩ : ∃ n, k = a.length + n := ⟨k - a.length, by omega⟩
  exact Py.ts_far a b j a.length n (fun i h1 _ _ => by rw [Py.co_out h1, Py.nought_gm])
theorem ts_co {a b a' b' : List Py.G} (ha : ∀ i, Py.co a i = Py.co a' i) (hb : ∀ i, Py.co b i = Py.co b' i) (j k : Nat) : Py.ts a b j k = Py.ts a' b' j k := by
  induction k with
  | zero => rfl
  | succ k ih => rw [Py.ts, Py.ts, ih, ha, hb]
theorem ts_same {a b a' b' : List Py.G} (ha : ∀ i, Py.co a i = Py.co a' i) (hb : ∀ i, Py.co b i = Py.co b' i) (i : Nat) : Py.co (Py.ml a b) i = Py.co (Py.ml a' b') i := by
  rw [Py.co_ml, Py.co_ml, ← ts_far2 (a := a) (b := b) i (max a.length a'.length) (by omega), ← ts_far2 (a := a') (b := b') i (max a.length a'.length) (by omega)]
  exact ts_co ha hb _ _
theorem ev12 {l : List Py.G} {z : Py.G} {n : Nat} (hm : May n l) (hn : n ≤ 3) (hl : ∀ i, Py.Le (Py.co l i) 12) (hz : Py.Le z 12) : Py.Le (Py.ev l z) 22620 := (ev_le hl hz n hm.1).mono (Nat.le_trans (hrn_mono (by omega) hn) (by decide))
theorem ev36 {l : List Py.G} {z : Py.G} {n : Nat} (hm : May n l) (hn : n ≤ 2) (hl : ∀ i, Py.Le (Py.co l i) 36) (hz : Py.Le z 12) : Py.Le (Py.ev l z) 5652 := (ev_le hl hz n hm.1).mono (Nat.le_trans (hrn_mono (by omega) hn) (by decide))
set_option maxHeartbeats 16000000 in
set_option maxRecDepth 100000 in
theorem ratiowhole_any {c : Nat} (hc : c = 1074) (a1 a2 a3 a4 : Option Addr) (len1 cap1 len2 cap2 len3 cap3 len4 cap4 : Nat) (x y : Int) (w : World) (i1 : Ix w a1 len1) (i2 : Ix w a2 len2) (i3 : Ix w a3 len3) (i4 : Ix w a4 len4) (h1 : len1 ≤ 140737488355328) (h2 : len2 ≤ 140737488355328) (h3 : len3 ≤ 140737488355328) (h4 : len4 ≤ 140737488355328) (hw : RoOk w) :
    Calls Try.prog 4 #[.slice a1 len1 cap1, .slice a2 len2 cap2, .slice a3 len3 cap3, .slice a4 len4 cap4, .int .i64 x, .int .i64 y] w fun e w' => e = .returned (.bool true) ∧ Below w.heap.size w w' := by
  have HC := hide hc
  have HI := hide (And.intro i1 (And.intro i2 (And.intro i3 i4)))
  have AL := hide (alive10_ev w hw)
  clear hc i1 i2 i3 i4 hw
  go_enter Try.func4, Try.ntmps4
  go_wp2_with fail
  refine AL.out.mono ?_
  rintro e w1 ⟨rfl, b1⟩
  have G := hide (show Bw w w1 from b1)
  clear b1 AL
  go_wp2_with fail
  refine (whole10 HC.out a1 len1 cap1 _ (HI.out.1.bw G.out) h1).mono ?_
  rintro e w2 ⟨bA, nA, cA, lA, rfl, gA, LA, kA, qA, zA, eA, rA, bb⟩
  replace G := hide (bw_trans G.out bb)
  clear bb
  have JA := hide gA
  have MA : Hid (May nA lA ∧ Nz nA lA ∧ (∀ i, Py.Le (Py.co lA i) 12) ∧ nA ≤ 3) := ⟨⟨LA, by omega, Or.inr zA, fun i _ => (eA i).le.mono (by omega)⟩, Or.inr zA, fun i => (eA i).le, kA⟩
  clear gA LA kA qA zA eA rA
  go_wp2_with fail
  refine (whole10 HC.out a2 len2 cap2 _ (HI.out.2.1.bw G.out) h2).mono ?_
  rintro e w3 ⟨bB, nB, cB, lB, rfl, gB, LB, kB, qB, zB, eB, rB, bb⟩
  replace JA := hide (JA.out.bw bb)
  replace G := hide (bw_trans G.out bb)
  clear bb
  have JB := hide gB
  have MB : Hid (May nB lB ∧ Nz nB lB ∧ (∀ i, Py.Le (Py.co lB i) 12) ∧ nB ≤ 3) := ⟨⟨LB, by omega, Or.inr zB, fun i _ => (eB i).le.mono (by omega)⟩, Or.inr zB, fun i => (eB i).le, kB⟩
  clear gB LB kB qB zB eB rB
  go_wp2_with fail
  refine (of10 _ _ _ _ _ _ _).mono ?_
  rintro e w4 ⟨rfl, bb⟩
  replace JA := hide (JA.out.bw bb)
  replace JB := hide (JB.out.bw bb)
  replace G := hide (bw_trans G.out bb)
  clear bb
  go_wp2_with fail
  refine (whole10 HC.out a3 len3 cap3 _ (HI.out.2.2.1.bw G.out) h3).mono ?_
  rintro e w5 ⟨bC, nC, cC, lC, rfl, gC, LC, kC, qC, zC, eC, rC, bb⟩
  replace JA := hide (JA.out.bw bb)
  replace JB := hide (JB.out.bw bb)
  replace G := hide (bw_trans G.out bb)
  clear bb
  have JC := hide gC
  have MC : Hid (May nC lC ∧ Nz nC lC ∧ (∀ i, Py.Le (Py.co lC i) 12) ∧ nC ≤ 3) := ⟨⟨LC, by omega, Or.inr zC, fun i _ => (eC i).le.mono (by omega)⟩, Or.inr zC, fun i => (eC i).le, kC⟩
  clear gC LC kC qC zC eC rC
  go_wp2_with fail
  refine (whole10 HC.out a4 len4 cap4 _ (HI.out.2.2.2.bw G.out) h4).mono ?_
  rintro e w6 ⟨bD, nD, cD, lD, rfl, gD, LD, kD, qD, zD, eD, rD, bb⟩
  replace JA := hide (JA.out.bw bb)
  replace JB := hide (JB.out.bw bb)
  replace JC := hide (JC.out.bw bb)
  replace G := hide (bw_trans G.out bb)
  clear bb
  have JD := hide gD
  have MD : Hid (May nD lD ∧ Nz nD lD ∧ (∀ i, Py.Le (Py.co lD i) 12) ∧ nD ≤ 3) := ⟨⟨LD, by omega, Or.inr zD, fun i _ => (eD i).le.mono (by omega)⟩, Or.inr zD, fun i => (eD i).le, kD⟩
  clear gD LD kD qD zD eD rD
  go_wp2_with fail
  refine (of10 _ _ _ _ _ _ _).mono ?_
  rintro e w7 ⟨rfl, bb⟩
  replace JA := hide (JA.out.bw bb)
  replace JB := hide (JB.out.bw bb)
  replace JC := hide (JC.out.bw bb)
  replace JD := hide (JD.out.bw bb)
  replace G := hide (bw_trans G.out bb)
  clear bb
  obtain ⟨Ff, Fg, W8, eF, eG, eW, fF, fG, bb⟩ := two10 w7 (.slice (some ⟨bA, 0, none⟩) (nA + 1) cA) (.slice (some ⟨bB, 0, none⟩) (nB + 1) cB) (.slice (some ⟨bC, 0, none⟩) (nC + 1) cC) (.slice (some ⟨bD, 0, none⟩) (nD + 1) cD)
  replace JA := hide (JA.out.bw bb)
  replace JB := hide (JB.out.bw bb)
  replace JC := hide (JC.out.bw bb)
  replace JD := hide (JD.out.bw bb)
  replace G := hide (bw_trans G.out bb)
  clear bb
  have VF := hide fF
  have VG := hide fG
  clear fF fG
  obtain ⟨xz, mx, qx, lx, SX⟩ := small10 HC.out x
  obtain ⟨yz, my, qy, ly, SY⟩ := small10 HC.out y
  have HSX := hide SX
  have HSY := hide SY
  have HZ : Hid (wC c xz yz (mx, my) ∧ Py.Le (mx, my) 12) := ⟨⟨qx, qy⟩, le_small lx ly⟩
  clear SX SY qx qy lx ly
  obtain ⟨z, hz⟩ : ∃ g : Py.G, g = (mx, my) := ⟨_, rfl⟩
  rw [← hz] at HZ
  clear hz
  go_wp2_with fail
  rw [← eW, ← eG, ← eF]
  clear eW eG eF
  refine (HSX.out _).mono ?_
  rintro e w9 ⟨rfl, hw9⟩
  subst hw9
  go_wp2_with fail
  refine (HSY.out _).mono ?_
  rintro e w9 ⟨rfl, hw9⟩
  subst hw9
  clear HSX HSY
  obtain ⟨_, f0, f1⟩ := VF.out
  obtain ⟨_, g0, g1⟩ := VG.out
  go_wp2_with fail
  clear f0 f1 g0 g1
  refine (radd10 HC.out JA.out.1 JB.out.1 JC.out.1 JD.out.1 MA.out.1 MB.out.1 MC.out.1 MD.out.1 MB.out.2.1 MD.out.2.1 MA.out.2.2.2 MB.out.2.2.2 MC.out.2.2.2 MD.out.2.2.2 MA.out.2.2.1 MB.out.2.2.1 MC.out.2.2.1 MD.out.2.2.1).mono ?_
  rintro e w10 ⟨_, _, pas, las, pat, lat, rfl, ⟨bas, oas, cas, rfl, gas⟩, ⟨bat, oat, cat, rfl, gat⟩, mas, mat, kas, kat, uas, uat, bb⟩
  replace JA := hide (JA.out.bw bb)
  replace JB := hide (JB.out.bw bb)
  replace JC := hide (JC.out.bw bb)
  replace JD := hide (JD.out.bw bb)
  replace VF := hide (VF.out.bw bb)
  replace VG := hide (VG.out.bw bb)
  replace G := hide (bw_trans G.out bb)
  clear bb
  have Jas := hide gas
  have Jat := hide gat
  have Mas := hide (And.intro mas (And.intro kas uas))
  have Mat := hide (And.intro mat (And.intro kat uat))
  clear gas gat mas mat kas kat uas uat
  have bb := bw_alloc w10 (.cells #[.slice (some ⟨bas, oas, none⟩) (pas + 1) cas, .slice (some ⟨bat, oat, none⟩) (pat + 1) cat] 24)
  have Va := hide (Fc.made w10 (.slice (some ⟨bas, oas, none⟩) (pas + 1) cas) (.slice (some ⟨bat, oat, none⟩) (pat + 1) cat) 24)
  replace JA := hide (JA.out.bw bb)
  replace JB := hide (JB.out.bw bb)
  replace JC := hide (JC.out.bw bb)
  replace JD := hide (JD.out.bw bb)
  replace VF := hide (VF.out.bw bb)
  replace VG := hide (VG.out.bw bb)
  replace Jas := hide (Jas.out.bw bb)
  replace Jat := hide (Jat.out.bw bb)
  replace G := hide (bw_trans G.out bb)
  clear bb
  obtain ⟨_, f0, f1⟩ := VF.out
  obtain ⟨_, g0, g1⟩ := VG.out
  go_wp2_with fail
  clear f0 f1 g0 g1
  generalize w10.alloc (.cells #[.slice (some ⟨bas, oas, none⟩) (pas + 1) cas, .slice (some ⟨bat, oat, none⟩) (pat + 1) cat] 24) = Wa at *
  generalize w10.heap.size = Fa at *
  refine (rmul10 HC.out JA.out.1 JB.out.1 JC.out.1 JD.out.1 MA.out.1 MB.out.1 MC.out.1 MD.out.1 MB.out.2.1 MD.out.2.1 MA.out.2.2.2 MB.out.2.2.2 MC.out.2.2.2 MD.out.2.2.2 MA.out.2.2.1 MB.out.2.2.1 MC.out.2.2.1 MD.out.2.2.1).mono ?_
  rintro e w11 ⟨_, _, pms, lms, pmt, lmt, rfl, ⟨bms, oms, cms, rfl, gms⟩, ⟨bmt, omt, cmt, rfl, gmt⟩, mms, mmt, kms, kmt, ums, umt, bb⟩
  replace JA := hide (JA.out.bw bb)
  replace JB := hide (JB.out.bw bb)
  replace JC := hide (JC.out.bw bb)
  replace JD := hide (JD.out.bw bb)
  replace VF := hide (VF.out.bw bb)
  replace VG := hide (VG.out.bw bb)
  replace Jas := hide (Jas.out.bw bb)
  replace Jat := hide (Jat.out.bw bb)
  replace Va := hide (Va.out.bw bb)
  replace G := hide (bw_trans G.out bb)
  clear bb
  have Jms := hide gms
  have Jmt := hide gmt
  have Mms := hide (And.intro mms (And.intro kms ums))
  have Mmt := hide (And.intro mmt (And.intro kmt umt))
  clear gms gmt mms mmt kms kmt ums umt
  have bb := bw_alloc w11 (.cells #[.slice (some ⟨bms, oms, none⟩) (pms + 1) cms, .slice (some ⟨bmt, omt, none⟩) (pmt + 1) cmt] 24)
  have Vm := hide (Fc.made w11 (.slice (some ⟨bms, oms, none⟩) (pms + 1) cms) (.slice (some ⟨bmt, omt, none⟩) (pmt + 1) cmt) 24)
  replace JA := hide (JA.out.bw bb)
  replace JB := hide (JB.out.bw bb)
  replace JC := hide (JC.out.bw bb)
  replace JD := hide (JD.out.bw bb)
  replace VF := hide (VF.out.bw bb)
  replace VG := hide (VG.out.bw bb)
  replace Jas := hide (Jas.out.bw bb)
  replace Jat := hide (Jat.out.bw bb)
  replace Va := hide (Va.out.bw bb)
  replace Jms := hide (Jms.out.bw bb)
  replace Jmt := hide (Jmt.out.bw bb)
  replace G := hide (bw_trans G.out bb)
  clear bb
  obtain ⟨_, f0, f1⟩ := VF.out
  obtain ⟨_, g0, g1⟩ := VG.out
  go_wp2_with fail
  clear f0 f1 g0 g1
  generalize w11.alloc (.cells #[.slice (some ⟨bms, oms, none⟩) (pms + 1) cms, .slice (some ⟨bmt, omt, none⟩) (pmt + 1) cmt] 24) = Wm at *
  generalize w11.heap.size = Fm at *
  refine (rslope10 HC.out JA.out.1 JB.out.1 MA.out.1 MB.out.1 MB.out.2.1 MA.out.2.2.2 MB.out.2.2.2 MA.out.2.2.1 MB.out.2.2.1).mono ?_
  rintro e w12 ⟨_, _, pls, lls, plt, llt, rfl, ⟨bls, ols, cls, rfl, gls⟩, ⟨blt, olt, clt, rfl, glt⟩, mls, mlt, kls, klt, uls, ult, bb⟩
  replace JA := hide (JA.out.bw bb)
  replace JB := hide (JB.out.bw bb)
  replace JC := hide (JC.out.bw bb)
  replace JD := hide (JD.out.bw bb)
  replace VF := hide (VF.out.bw bb)
  replace VG := hide (VG.out.bw bb)
  replace Jas := hide (Jas.out.bw bb)
  replace Jat := hide (Jat.out.bw bb)
  replace Va := hide (Va.out.bw bb)
  replace Jms := hide (Jms.out.bw bb)
  replace Jmt := hide (Jmt.out.bw bb)
  replace Vm := hide (Vm.out.bw bb)
  replace G := hide (bw_trans G.out bb)
  clear bb
  have Jls := hide gls
  have Jlt := hide glt
  have Mls := hide (And.intro mls (And.intro kls uls))
  have Mlt := hide (And.intro mlt (And.intro klt ult))
  clear gls glt mls mlt kls klt uls ult
  have bb := bw_alloc w12 (.cells #[.slice (some ⟨bls, ols, none⟩) (pls + 1) cls, .slice (some ⟨blt, olt, none⟩) (plt + 1) clt] 24)
  have Vh := hide (Fc.made w12 (.slice (some ⟨bls, ols, none⟩) (pls + 1) cls) (.slice (some ⟨blt, olt, none⟩) (plt + 1) clt) 24)
  replace JA := hide (JA.out.bw bb)
  replace JB := hide (JB.out.bw bb)
  replace JC := hide (JC.out.bw bb)
  replace JD := hide (JD.out.bw bb)
  replace VF := hide (VF.out.bw bb)
  replace VG := hide (VG.out.bw bb)
  replace Jas := hide (Jas.out.bw bb)
  replace Jat := hide (Jat.out.bw bb)
  replace Va := hide (Va.out.bw bb)
  replace Jms := hide (Jms.out.bw bb)
  replace Jmt := hide (Jmt.out.bw bb)
  replace Vm := hide (Vm.out.bw bb)
  replace Jls := hide (Jls.out.bw bb)
  replace Jlt := hide (Jlt.out.bw bb)
  replace G := hide (bw_trans G.out bb)
  clear bb
  obtain ⟨_, f0, f1⟩ := VF.out
  obtain ⟨_, g0, g1⟩ := VG.out
  go_wp2_with fail
  clear f0 f1 g0 g1
  generalize w12.alloc (.cells #[.slice (some ⟨bls, ols, none⟩) (pls + 1) cls, .slice (some ⟨blt, olt, none⟩) (plt + 1) clt] 24) = Wh at *
  generalize w12.heap.size = Fh at *
  obtain ⟨PA, xA, yA⟩ := JA.out.1.wf MA.out.1.1
  obtain ⟨PB, xB, yB⟩ := JB.out.1.wf MB.out.1.1
  have XA := hide xA
  have XB := hide xB
  have YA := hide yA
  have YB := hide yB
  clear xA xB yA yB
  refine (rturned10 HC.out JA.out.1 JB.out.1 MA.out.1 MB.out.1 MB.out.2.1 MA.out.2.2.2 MB.out.2.2.2 MA.out.2.2.1 MB.out.2.2.1 XA.out XB.out YA.out YB.out MA.out.2.1).mono ?_
  rintro e w13 ⟨bU, bV, rfl, xU, xV, bb⟩
  replace JA := hide (JA.out.bw bb)
  replace JB := hide (JB.out.bw bb)
  replace JC := hide (JC.out.bw bb)
  replace JD := hide (JD.out.bw bb)
  replace VF := hide (VF.out.bw bb)
  replace VG := hide (VG.out.bw bb)
  replace Jas := hide (Jas.out.bw bb)
  replace Jat := hide (Jat.out.bw bb)
  replace Va := hide (Va.out.bw bb)
  replace Jms := hide (Jms.out.bw bb)
  replace Jmt := hide (Jmt.out.bw bb)
  replace Vm := hide (Vm.out.bw bb)
  replace Jls := hide (Jls.out.bw bb)
  replace Jlt := hide (Jlt.out.bw bb)
  replace Vh := hide (Vh.out.bw bb)
  replace XA := hide (XA.out.bw bb)
  replace XB := hide (XB.out.bw bb)
  replace G := hide (bw_trans G.out bb)
  clear bb
  have XU := hide xU
  have XV := hide xV
  clear xU xV
  have bb := bw_alloc w13 (.cells #[.slice (some ⟨bU, 0, none⟩) (nB + 1) (nB + 1), .slice (some ⟨bV, 0, none⟩) (nA + 1) (nA + 1)] 24)
  have Vk := hide (Fc.made w13 (.slice (some ⟨bU, 0, none⟩) (nB + 1) (nB + 1)) (.slice (some ⟨bV, 0, none⟩) (nA + 1) (nA + 1)) 24)
  replace JA := hide (JA.out.bw bb)
  replace JB := hide (JB.out.bw bb)
  replace JC := hide (JC.out.bw bb)
  replace JD := hide (JD.out.bw bb)
  replace VF := hide (VF.out.bw bb)
  replace VG := hide (VG.out.bw bb)
  replace Jas := hide (Jas.out.bw bb)
  replace Jat := hide (Jat.out.bw bb)
  replace Va := hide (Va.out.bw bb)
  replace Jms := hide (Jms.out.bw bb)
  replace Jmt := hide (Jmt.out.bw bb)
  replace Vm := hide (Vm.out.bw bb)
  replace Jls := hide (Jls.out.bw bb)
  replace Jlt := hide (Jlt.out.bw bb)
  replace Vh := hide (Vh.out.bw bb)
  replace XA := hide (XA.out.bw bb)
  replace XB := hide (XB.out.bw bb)
  replace XU := hide (XU.out.bw bb)
  replace XV := hide (XV.out.bw bb)
  replace G := hide (bw_trans G.out bb)
  clear bb
  obtain ⟨_, f0, f1⟩ := VF.out
  obtain ⟨_, g0, g1⟩ := VG.out
  obtain ⟨_, t0, t1⟩ := Vk.out
  go_wp2_with fail
  clear t0 t1
  clear f0 f1 g0 g1
  generalize w13.alloc (.cells #[.slice (some ⟨bU, 0, none⟩) (nB + 1) (nB + 1), .slice (some ⟨bV, 0, none⟩) (nA + 1) (nA + 1)] 24) = Wk at *
  generalize w13.heap.size = Fk at *
  refine (rturned10 HC.out (XU.out.gl YB.out) (XV.out.gl YA.out) MB.out.1 MA.out.1 MA.out.2.1 MB.out.2.2.2 MA.out.2.2.2 MB.out.2.2.1 MA.out.2.2.1 XU.out XV.out YB.out YA.out MB.out.2.1).mono ?_
  rintro e w14 ⟨bR, bS, rfl, xR, xS, bb⟩
  replace JA := hide (JA.out.bw bb)
  replace JB := hide (JB.out.bw bb)
  replace JC := hide (JC.out.bw bb)
  replace JD := hide (JD.out.bw bb)
  replace VF := hide (VF.out.bw bb)
  replace VG := hide (VG.out.bw bb)
  replace Jas := hide (Jas.out.bw bb)
  replace Jat := hide (Jat.out.bw bb)
  replace Va := hide (Va.out.bw bb)
  replace Jms := hide (Jms.out.bw bb)
  replace Jmt := hide (Jmt.out.bw bb)
  replace Vm := hide (Vm.out.bw bb)
  replace Jls := hide (Jls.out.bw bb)
  replace Jlt := hide (Jlt.out.bw bb)
  replace Vh := hide (Vh.out.bw bb)
  replace XA := hide (XA.out.bw bb)
  replace XB := hide (XB.out.bw bb)
  replace XU := hide (XU.out.bw bb)
  replace XV := hide (XV.out.bw bb)
  replace Vk := hide (Vk.out.bw bb)
  replace G := hide (bw_trans G.out bb)
  clear bb
  have XR := hide xR
  have XS := hide xS
  clear xR xS
  have bb := bw_alloc w14 (.cells #[.slice (some ⟨bR, 0, none⟩) (nA + 1) (nA + 1), .slice (some ⟨bS, 0, none⟩) (nB + 1) (nB + 1)] 24)
  have Vr := hide (Fc.made w14 (.slice (some ⟨bR, 0, none⟩) (nA + 1) (nA + 1)) (.slice (some ⟨bS, 0, none⟩) (nB + 1) (nB + 1)) 24)
  replace JA := hide (JA.out.bw bb)
  replace JB := hide (JB.out.bw bb)
  replace JC := hide (JC.out.bw bb)
  replace JD := hide (JD.out.bw bb)
  replace VF := hide (VF.out.bw bb)
  replace VG := hide (VG.out.bw bb)
  replace Jas := hide (Jas.out.bw bb)
  replace Jat := hide (Jat.out.bw bb)
  replace Va := hide (Va.out.bw bb)
  replace Jms := hide (Jms.out.bw bb)
  replace Jmt := hide (Jmt.out.bw bb)
  replace Vm := hide (Vm.out.bw bb)
  replace Jls := hide (Jls.out.bw bb)
  replace Jlt := hide (Jlt.out.bw bb)
  replace Vh := hide (Vh.out.bw bb)
  replace XA := hide (XA.out.bw bb)
  replace XB := hide (XB.out.bw bb)
  replace XU := hide (XU.out.bw bb)
  replace XV := hide (XV.out.bw bb)
  replace Vk := hide (Vk.out.bw bb)
  replace XR := hide (XR.out.bw bb)
  replace XS := hide (XS.out.bw bb)
  replace G := hide (bw_trans G.out bb)
  clear bb
  obtain ⟨_, f0, f1⟩ := VF.out
  obtain ⟨_, g0, g1⟩ := VG.out
  go_wp2_with fail
  clear f0 f1 g0 g1
  generalize w14.alloc (.cells #[.slice (some ⟨bR, 0, none⟩) (nA + 1) (nA + 1), .slice (some ⟨bS, 0, none⟩) (nB + 1) (nB + 1)] 24) = Wr at *
  generalize w14.heap.size = Fr at *
  obtain ⟨VA, vA⟩ := hv10 HC.out _ YA.out HZ.out.1 HZ.out.2 (steps_of (N := 3) MA.out.2.2.1 (by omega) MA.out.2.2.2 (by decide))
  obtain ⟨VB, vB⟩ := hv10 HC.out _ YB.out HZ.out.1 HZ.out.2 (steps_of (N := 3) MB.out.2.2.1 (by omega) MB.out.2.2.2 (by decide))
  have HVA := hide vA
  have HVB := hide vB
  clear vA vB
  obtain ⟨rp, erp⟩ : ∃ r, r = (VA 0).1 := ⟨_, rfl⟩
  obtain ⟨sp, esp⟩ : ∃ r, r = (VA 0).2 := ⟨_, rfl⟩
  obtain ⟨rq, erq⟩ : ∃ r, r = (VB 0).1 := ⟨_, rfl⟩
  obtain ⟨sq, esq⟩ : ∃ r, r = (VB 0).2 := ⟨_, rfl⟩
  have HP := hide (at10 (cap := cA) (atw10 (cap := cA) HC.out MA.out.1 XA.out YA.out HZ.out.1 (HZ.out.2.mono (by omega)) HVA.out))
  have WP : Hid (wC c rp sp (Py.ev lA z) ∧ Py.Le (Py.ev lA z) 22620) := by
    have k := HVA.out.2.1 0 (Nat.zero_le _)
    rw [List.drop_zero] at k
    show _ ∧ _
    rw [erp, esp]
    exact ⟨k, ev12 MA.out.1 MA.out.2.2.2 MA.out.2.2.1 HZ.out.2⟩
  have WQ : Hid (wC c rq sq (Py.ev lB z) ∧ Py.Le (Py.ev lB z) 22620) := by
    have k := HVB.out.2.1 0 (Nat.zero_le _)
    rw [List.drop_zero] at k
    show _ ∧ _
    rw [erq, esq]
    exact ⟨k, ev12 MB.out.1 MB.out.2.2.2 MB.out.2.2.1 HZ.out.2⟩
  rw [← erp, ← esp] at HP
  have EV := hide (And.intro erp (And.intro esp (And.intro erq esq)))
  clear erp esp erq esq
  refine HP.out.mono ?_
  rintro e w15 ⟨rfl, bb⟩
  clear HP
  replace JA := hide (JA.out.bw bb)
  replace JB := hide (JB.out.bw bb)
  replace JC := hide (JC.out.bw bb)
  replace JD := hide (JD.out.bw bb)
  replace VF := hide (VF.out.bw bb)
  replace VG := hide (VG.out.bw bb)
  replace Jas := hide (Jas.out.bw bb)
  replace Jat := hide (Jat.out.bw bb)
  replace Va := hide (Va.out.bw bb)
  replace Jms := hide (Jms.out.bw bb)
  replace Jmt := hide (Jmt.out.bw bb)
  replace Vm := hide (Vm.out.bw bb)
  replace Jls := hide (Jls.out.bw bb)
  replace Jlt := hide (Jlt.out.bw bb)
  replace Vh := hide (Vh.out.bw bb)
  replace XA := hide (XA.out.bw bb)
  replace XB := hide (XB.out.bw bb)
  replace XU := hide (XU.out.bw bb)
  replace XV := hide (XV.out.bw bb)
  replace Vk := hide (Vk.out.bw bb)
  replace XR := hide (XR.out.bw bb)
  replace XS := hide (XS.out.bw bb)
  replace Vr := hide (Vr.out.bw bb)
  replace G := hide (bw_trans G.out bb)
  clear bb
  obtain ⟨_, f0, f1⟩ := VF.out
  obtain ⟨_, g0, g1⟩ := VG.out
  go_wp2_with fail
  clear f0 f1 g0 g1
  have HP := hide (at10 (cap := cB) (atw10 (cap := cB) HC.out MB.out.1 XB.out YB.out HZ.out.1 (HZ.out.2.mono (by omega)) HVB.out))
  rw [← EV.out.2.2.1, ← EV.out.2.2.2] at HP
  refine HP.out.mono ?_
  rintro e w16 ⟨rfl, bb⟩
  clear HP
  replace JA := hide (JA.out.bw bb)
  replace JB := hide (JB.out.bw bb)
  replace JC := hide (JC.out.bw bb)
  replace JD := hide (JD.out.bw bb)
  replace VF := hide (VF.out.bw bb)
  replace VG := hide (VG.out.bw bb)
  replace Jas := hide (Jas.out.bw bb)
  replace Jat := hide (Jat.out.bw bb)
  replace Va := hide (Va.out.bw bb)
  replace Jms := hide (Jms.out.bw bb)
  replace Jmt := hide (Jmt.out.bw bb)
  replace Vm := hide (Vm.out.bw bb)
  replace Jls := hide (Jls.out.bw bb)
  replace Jlt := hide (Jlt.out.bw bb)
  replace Vh := hide (Vh.out.bw bb)
  replace XA := hide (XA.out.bw bb)
  replace XB := hide (XB.out.bw bb)
  replace XU := hide (XU.out.bw bb)
  replace XV := hide (XV.out.bw bb)
  replace Vk := hide (Vk.out.bw bb)
  replace XR := hide (XR.out.bw bb)
  replace XS := hide (XS.out.bw bb)
  replace Vr := hide (Vr.out.bw bb)
  replace G := hide (bw_trans G.out bb)
  clear bb
  obtain ⟨_, f0, f1⟩ := VF.out
  obtain ⟨_, g0, g1⟩ := VG.out
  go_wp2_with fail
  clear f0 f1 g0 g1
  refine (at10e HC.out _ MC.out.1 JC.out.1 HZ.out.1 HZ.out.2 (by omega) (steps_of (A := 12) (N := 3) MC.out.2.2.1 (by omega) MC.out.2.2.2 (by decide))).mono ?_
  rintro e w17 ⟨rr, sr, rfl, vr, bb⟩
  have Wr := hide vr
  clear vr
  replace JA := hide (JA.out.bw bb)
  replace JB := hide (JB.out.bw bb)
  replace JC := hide (JC.out.bw bb)
  replace JD := hide (JD.out.bw bb)
  replace VF := hide (VF.out.bw bb)
  replace VG := hide (VG.out.bw bb)
  replace Jas := hide (Jas.out.bw bb)
  replace Jat := hide (Jat.out.bw bb)
  replace Va := hide (Va.out.bw bb)
  replace Jms := hide (Jms.out.bw bb)
  replace Jmt := hide (Jmt.out.bw bb)
  replace Vm := hide (Vm.out.bw bb)
  replace Jls := hide (Jls.out.bw bb)
  replace Jlt := hide (Jlt.out.bw bb)
  replace Vh := hide (Vh.out.bw bb)
  replace XA := hide (XA.out.bw bb)
  replace XB := hide (XB.out.bw bb)
  replace XU := hide (XU.out.bw bb)
  replace XV := hide (XV.out.bw bb)
  replace Vk := hide (Vk.out.bw bb)
  replace XR := hide (XR.out.bw bb)
  replace XS := hide (XS.out.bw bb)
  replace Vr := hide (Vr.out.bw bb)
  replace G := hide (bw_trans G.out bb)
  clear bb
  obtain ⟨_, f0, f1⟩ := VF.out
  obtain ⟨_, g0, g1⟩ := VG.out
  go_wp2_with fail
  clear f0 f1 g0 g1
  refine (at10e HC.out _ MD.out.1 JD.out.1 HZ.out.1 HZ.out.2 (by omega) (steps_of (A := 12) (N := 3) MD.out.2.2.1 (by omega) MD.out.2.2.2 (by decide))).mono ?_
  rintro e w18 ⟨rt, st, rfl, vt, bb⟩
  have Wt := hide vt
  clear vt
  replace JA := hide (JA.out.bw bb)
  replace JB := hide (JB.out.bw bb)
  replace JC := hide (JC.out.bw bb)
  replace JD := hide (JD.out.bw bb)
  replace VF := hide (VF.out.bw bb)
  replace VG := hide (VG.out.bw bb)
  replace Jas := hide (Jas.out.bw bb)
  replace Jat := hide (Jat.out.bw bb)
  replace Va := hide (Va.out.bw bb)
  replace Jms := hide (Jms.out.bw bb)
  replace Jmt := hide (Jmt.out.bw bb)
  replace Vm := hide (Vm.out.bw bb)
  replace Jls := hide (Jls.out.bw bb)
  replace Jlt := hide (Jlt.out.bw bb)
  replace Vh := hide (Vh.out.bw bb)
  replace XA := hide (XA.out.bw bb)
  replace XB := hide (XB.out.bw bb)
  replace XU := hide (XU.out.bw bb)
  replace XV := hide (XV.out.bw bb)
  replace Vk := hide (Vk.out.bw bb)
  replace XR := hide (XR.out.bw bb)
  replace XS := hide (XS.out.bw bb)
  replace Vr := hide (Vr.out.bw bb)
  replace G := hide (bw_trans G.out bb)
  clear bb
  obtain ⟨_, f0, f1⟩ := VF.out
  obtain ⟨_, g0, g1⟩ := VG.out
  go_wp2_with fail
  clear f0 f1 g0 g1
  refine (slope10 HC.out MA.out.1 JA.out.1 MA.out.2.2.1 (by omega)).mono ?_
  intro e w19 hh
  obtain ⟨bd, pd, ld, rfl, md, nd, gd, _, bb, ud⟩ := hh.use
  clear hh
  replace JA := hide (JA.out.bw bb)
  replace JB := hide (JB.out.bw bb)
  replace JC := hide (JC.out.bw bb)
  replace JD := hide (JD.out.bw bb)
  replace VF := hide (VF.out.bw bb)
  replace VG := hide (VG.out.bw bb)
  replace Jas := hide (Jas.out.bw bb)
  replace Jat := hide (Jat.out.bw bb)
  replace Va := hide (Va.out.bw bb)
  replace Jms := hide (Jms.out.bw bb)
  replace Jmt := hide (Jmt.out.bw bb)
  replace Vm := hide (Vm.out.bw bb)
  replace Jls := hide (Jls.out.bw bb)
  replace Jlt := hide (Jlt.out.bw bb)
  replace Vh := hide (Vh.out.bw bb)
  replace XA := hide (XA.out.bw bb)
  replace XB := hide (XB.out.bw bb)
  replace XU := hide (XU.out.bw bb)
  replace XV := hide (XV.out.bw bb)
  replace Vk := hide (Vk.out.bw bb)
  replace XR := hide (XR.out.bw bb)
  replace XS := hide (XS.out.bw bb)
  replace Vr := hide (Vr.out.bw bb)
  replace G := hide (bw_trans G.out bb)
  clear bb
  have Jd := hide gd
  have Md : Hid (May pd ld ∧ pd ≤ 2 ∧ (∀ i, Py.co ld i = gk (i + 1) (Py.co lA (i + 1))) ∧ ∀ i, Py.Le (Py.co ld i) 36) := ⟨md, by have := MA.out.2.2.2; omega, ud, fun i => by rw [ud]; exact gk_le36 MA.out.2.2.1 MA.out.1 MA.out.2.2.2 i⟩
  clear gd md nd ud
  obtain ⟨_, f0, f1⟩ := VF.out
  obtain ⟨_, g0, g1⟩ := VG.out
  go_wp2_with fail
  clear f0 f1 g0 g1
  refine (slope10 HC.out MB.out.1 JB.out.1 MB.out.2.2.1 (by omega)).mono ?_
  intro e w20 hh
  obtain ⟨bf, pf, lf, rfl, mf, nf, gf, _, bb, uf⟩ := hh.use
  clear hh
  replace JA := hide (JA.out.bw bb)
  replace JB := hide (JB.out.bw bb)
  replace JC := hide (JC.out.bw bb)
  replace JD := hide (JD.out.bw bb)
  replace VF := hide (VF.out.bw bb)
  replace VG := hide (VG.out.bw bb)
  replace Jas := hide (Jas.out.bw bb)
  replace Jat := hide (Jat.out.bw bb)
  replace Va := hide (Va.out.bw bb)
  replace Jms := hide (Jms.out.bw bb)
  replace Jmt := hide (Jmt.out.bw bb)
  replace Vm := hide (Vm.out.bw bb)
  replace Jls := hide (Jls.out.bw bb)
  replace Jlt := hide (Jlt.out.bw bb)
  replace Vh := hide (Vh.out.bw bb)
  replace XA := hide (XA.out.bw bb)
  replace XB := hide (XB.out.bw bb)
  replace XU := hide (XU.out.bw bb)
  replace XV := hide (XV.out.bw bb)
  replace Vk := hide (Vk.out.bw bb)
  replace XR := hide (XR.out.bw bb)
  replace XS := hide (XS.out.bw bb)
  replace Vr := hide (Vr.out.bw bb)
  replace Jd := hide (Jd.out.bw bb)
  replace G := hide (bw_trans G.out bb)
  clear bb
  have Jf := hide gf
  have Mf : Hid (May pf lf ∧ pf ≤ 2 ∧ (∀ i, Py.co lf i = gk (i + 1) (Py.co lB (i + 1))) ∧ ∀ i, Py.Le (Py.co lf i) 36) := ⟨mf, by have := MB.out.2.2.2; omega, uf, fun i => by rw [uf]; exact gk_le36 MB.out.2.2.1 MB.out.1 MB.out.2.2.2 i⟩
  clear gf mf nf uf
  obtain ⟨_, f0, f1⟩ := VF.out
  obtain ⟨_, g0, g1⟩ := VG.out
  go_wp2_with fail
  clear f0 f1 g0 g1
  refine (at10e HC.out _ Md.out.1 Jd.out HZ.out.1 HZ.out.2 (by omega) (steps_of (A := 36) (N := 2) Md.out.2.2.2 (by omega) Md.out.2.1 (by decide))).mono ?_
  rintro e w21 ⟨ru, su, rfl, vu, bb⟩
  have Wu := hide vu
  clear vu
  replace JA := hide (JA.out.bw bb)
  replace JB := hide (JB.out.bw bb)
  replace JC := hide (JC.out.bw bb)
  replace JD := hide (JD.out.bw bb)
  replace VF := hide (VF.out.bw bb)
  replace VG := hide (VG.out.bw bb)
  replace Jas := hide (Jas.out.bw bb)
  replace Jat := hide (Jat.out.bw bb)
  replace Va := hide (Va.out.bw bb)
  replace Jms := hide (Jms.out.bw bb)
  replace Jmt := hide (Jmt.out.bw bb)
  replace Vm := hide (Vm.out.bw bb)
  replace Jls := hide (Jls.out.bw bb)
  replace Jlt := hide (Jlt.out.bw bb)
  replace Vh := hide (Vh.out.bw bb)
  replace XA := hide (XA.out.bw bb)
  replace XB := hide (XB.out.bw bb)
  replace XU := hide (XU.out.bw bb)
  replace XV := hide (XV.out.bw bb)
  replace Vk := hide (Vk.out.bw bb)
  replace XR := hide (XR.out.bw bb)
  replace XS := hide (XS.out.bw bb)
  replace Vr := hide (Vr.out.bw bb)
  replace Jd := hide (Jd.out.bw bb)
  replace Jf := hide (Jf.out.bw bb)
  replace G := hide (bw_trans G.out bb)
  clear bb
  go_wp2_with fail
  refine (at10e HC.out _ Mf.out.1 Jf.out HZ.out.1 HZ.out.2 (by omega) (steps_of (A := 36) (N := 2) Mf.out.2.2.2 (by omega) Mf.out.2.1 (by decide))).mono ?_
  rintro e w22 ⟨rv, sv, rfl, vv, bb⟩
  have Wv := hide vv
  clear vv
  replace JA := hide (JA.out.bw bb)
  replace JB := hide (JB.out.bw bb)
  replace JC := hide (JC.out.bw bb)
  replace JD := hide (JD.out.bw bb)
  replace VF := hide (VF.out.bw bb)
  replace VG := hide (VG.out.bw bb)
  replace Jas := hide (Jas.out.bw bb)
  replace Jat := hide (Jat.out.bw bb)
  replace Va := hide (Va.out.bw bb)
  replace Jms := hide (Jms.out.bw bb)
  replace Jmt := hide (Jmt.out.bw bb)
  replace Vm := hide (Vm.out.bw bb)
  replace Jls := hide (Jls.out.bw bb)
  replace Jlt := hide (Jlt.out.bw bb)
  replace Vh := hide (Vh.out.bw bb)
  replace XA := hide (XA.out.bw bb)
  replace XB := hide (XB.out.bw bb)
  replace XU := hide (XU.out.bw bb)
  replace XV := hide (XV.out.bw bb)
  replace Vk := hide (Vk.out.bw bb)
  replace XR := hide (XR.out.bw bb)
  replace XS := hide (XS.out.bw bb)
  replace Vr := hide (Vr.out.bw bb)
  replace Jd := hide (Jd.out.bw bb)
  replace Jf := hide (Jf.out.bw bb)
  replace G := hide (bw_trans G.out bb)
  clear bb
  obtain ⟨_, f0, f1⟩ := Va.out
  go_wp2_with fail
  clear f0 f1
  refine (at10e HC.out _ Mas.out.1 Jas.out HZ.out.1 HZ.out.2 (by omega) (steps_of (A := 1152) (N := 6) (fun i => by rw [Mas.out.2.2]; exact ((ts_le12 MA.out.2.2.1 MD.out.2.2.1 MA.out.2.2.2 i).add (ts_le12 MC.out.2.2.1 MB.out.2.2.1 MC.out.2.2.2 i)).mono (by omega)) (by omega) Mas.out.2.1 (by decide))).mono ?_
  rintro e w23 ⟨ras, sas, rfl, vas, bb⟩
  have Was := hide vas
  clear vas
  replace JA := hide (JA.out.bw bb)
  replace JB := hide (JB.out.bw bb)
  replace JC := hide (JC.out.bw bb)
  replace JD := hide (JD.out.bw bb)
  replace VF := hide (VF.out.bw bb)
  replace VG := hide (VG.out.bw bb)
  replace Jas := hide (Jas.out.bw bb)
  replace Jat := hide (Jat.out.bw bb)
  replace Va := hide (Va.out.bw bb)
  replace Jms := hide (Jms.out.bw bb)
  replace Jmt := hide (Jmt.out.bw bb)
  replace Vm := hide (Vm.out.bw bb)
  replace Jls := hide (Jls.out.bw bb)
  replace Jlt := hide (Jlt.out.bw bb)
  replace Vh := hide (Vh.out.bw bb)
  replace XA := hide (XA.out.bw bb)
  replace XB := hide (XB.out.bw bb)
  replace XU := hide (XU.out.bw bb)
  replace XV := hide (XV.out.bw bb)
  replace Vk := hide (Vk.out.bw bb)
  replace XR := hide (XR.out.bw bb)
  replace XS := hide (XS.out.bw bb)
  replace Vr := hide (Vr.out.bw bb)
  replace Jd := hide (Jd.out.bw bb)
  replace Jf := hide (Jf.out.bw bb)
  replace G := hide (bw_trans G.out bb)
  clear bb
  obtain ⟨_, f0, f1⟩ := Va.out
  go_wp2_with fail
  clear f0 f1
  refine (at10e HC.out _ Mat.out.1 Jat.out HZ.out.1 HZ.out.2 (by omega) (steps_of (A := 576) (N := 6) (fun i => by rw [Mat.out.2.2]; exact ts_le12 MB.out.2.2.1 MD.out.2.2.1 MB.out.2.2.2 i) (by omega) Mat.out.2.1 (by decide))).mono ?_
  rintro e w24 ⟨rat, sat, rfl, vat, bb⟩
  have Wat := hide vat
  clear vat
  replace JA := hide (JA.out.bw bb)
  replace JB := hide (JB.out.bw bb)
  replace JC := hide (JC.out.bw bb)
  replace JD := hide (JD.out.bw bb)
  replace VF := hide (VF.out.bw bb)
  replace VG := hide (VG.out.bw bb)
  replace Jas := hide (Jas.out.bw bb)
  replace Jat := hide (Jat.out.bw bb)
  replace Va := hide (Va.out.bw bb)
  replace Jms := hide (Jms.out.bw bb)
  replace Jmt := hide (Jmt.out.bw bb)
  replace Vm := hide (Vm.out.bw bb)
  replace Jls := hide (Jls.out.bw bb)
  replace Jlt := hide (Jlt.out.bw bb)
  replace Vh := hide (Vh.out.bw bb)
  replace XA := hide (XA.out.bw bb)
  replace XB := hide (XB.out.bw bb)
  replace XU := hide (XU.out.bw bb)
  replace XV := hide (XV.out.bw bb)
  replace Vk := hide (Vk.out.bw bb)
  replace XR := hide (XR.out.bw bb)
  replace XS := hide (XS.out.bw bb)
  replace Vr := hide (Vr.out.bw bb)
  replace Jd := hide (Jd.out.bw bb)
  replace Jf := hide (Jf.out.bw bb)
  replace G := hide (bw_trans G.out bb)
  clear bb
  obtain ⟨_, f0, f1⟩ := Vm.out
  go_wp2_with fail
  clear f0 f1
  refine (at10e HC.out _ Mms.out.1 Jms.out HZ.out.1 HZ.out.2 (by omega) (steps_of (A := 576) (N := 6) (fun i => by rw [Mms.out.2.2]; exact ts_le12 MA.out.2.2.1 MC.out.2.2.1 MA.out.2.2.2 i) (by omega) Mms.out.2.1 (by decide))).mono ?_
  rintro e w25 ⟨rms, sms, rfl, vms, bb⟩
  have Wms := hide vms
  clear vms
  replace JA := hide (JA.out.bw bb)
  replace JB := hide (JB.out.bw bb)
  replace JC := hide (JC.out.bw bb)
  replace JD := hide (JD.out.bw bb)
  replace VF := hide (VF.out.bw bb)
  replace VG := hide (VG.out.bw bb)
  replace Jas := hide (Jas.out.bw bb)
  replace Jat := hide (Jat.out.bw bb)
  replace Va := hide (Va.out.bw bb)
  replace Jms := hide (Jms.out.bw bb)
  replace Jmt := hide (Jmt.out.bw bb)
  replace Vm := hide (Vm.out.bw bb)
  replace Jls := hide (Jls.out.bw bb)
  replace Jlt := hide (Jlt.out.bw bb)
  replace Vh := hide (Vh.out.bw bb)
  replace XA := hide (XA.out.bw bb)
  replace XB := hide (XB.out.bw bb)
  replace XU := hide (XU.out.bw bb)
  replace XV := hide (XV.out.bw bb)
  replace Vk := hide (Vk.out.bw bb)
  replace XR := hide (XR.out.bw bb)
  replace XS := hide (XS.out.bw bb)
  replace Vr := hide (Vr.out.bw bb)
  replace Jd := hide (Jd.out.bw bb)
  replace Jf := hide (Jf.out.bw bb)
  replace G := hide (bw_trans G.out bb)
  clear bb
  obtain ⟨_, f0, f1⟩ := Vm.out
  go_wp2_with fail
  clear f0 f1
  refine (at10e HC.out _ Mmt.out.1 Jmt.out HZ.out.1 HZ.out.2 (by omega) (steps_of (A := 576) (N := 6) (fun i => by rw [Mmt.out.2.2]; exact ts_le12 MB.out.2.2.1 MD.out.2.2.1 MB.out.2.2.2 i) (by omega) Mmt.out.2.1 (by decide))).mono ?_
  rintro e w26 ⟨rmt, smt, rfl, vmt, bb⟩
  have Wmt := hide vmt
  clear vmt
  replace JA := hide (JA.out.bw bb)
  replace JB := hide (JB.out.bw bb)
  replace JC := hide (JC.out.bw bb)
  replace JD := hide (JD.out.bw bb)
  replace VF := hide (VF.out.bw bb)
  replace VG := hide (VG.out.bw bb)
  replace Jas := hide (Jas.out.bw bb)
  replace Jat := hide (Jat.out.bw bb)
  replace Va := hide (Va.out.bw bb)
  replace Jms := hide (Jms.out.bw bb)
  replace Jmt := hide (Jmt.out.bw bb)
  replace Vm := hide (Vm.out.bw bb)
  replace Jls := hide (Jls.out.bw bb)
  replace Jlt := hide (Jlt.out.bw bb)
  replace Vh := hide (Vh.out.bw bb)
  replace XA := hide (XA.out.bw bb)
  replace XB := hide (XB.out.bw bb)
  replace XU := hide (XU.out.bw bb)
  replace XV := hide (XV.out.bw bb)
  replace Vk := hide (Vk.out.bw bb)
  replace XR := hide (XR.out.bw bb)
  replace XS := hide (XS.out.bw bb)
  replace Vr := hide (Vr.out.bw bb)
  replace Jd := hide (Jd.out.bw bb)
  replace Jf := hide (Jf.out.bw bb)
  replace G := hide (bw_trans G.out bb)
  clear bb
  obtain ⟨_, f0, f1⟩ := Vh.out
  go_wp2_with fail
  clear f0 f1
  obtain ⟨d1, d2, t1, t2, hd1, hd2, hd3, hd4, hd5⟩ := Mls.out.2.2
  have HD := hide (And.intro hd1 (And.intro hd2 (And.intro hd3 (And.intro hd4 hd5))))
  have LLS : Hid (∀ i, Py.Le (Py.co lls i) 4000) := fun i => by
    rw [hd5]
    have a1 : ∀ j, Py.co d1 j = Py.co ld j := fun j => by rw [hd3, Md.out.2.2.1]
    have a2 : ∀ j, Py.co d2 j = Py.co lf j := fun j => by rw [hd4, Mf.out.2.2.1]
    have b1 : Py.ts d1 lB i (t1 + 1) = Py.ts ld lB i (pd + 1) := by
      have e1 := Py.co_ml d1 lB i
      have e2 := Py.co_ml ld lB i
      rw [hd1] at e1
      rw [Md.out.1.1] at e2
      rw [← e1, ← e2]
      exact ts_same a1 (fun _ => rfl) i
    rw [b1]
    have c1 := (Py.ts_le Md.out.2.2.2 MB.out.2.2.1 i (pd + 1)).mono (show _ ≤ 1296 by have := Md.out.2.1; omega)
    have c2 := (Py.ts_le MA.out.2.2.1 (fun j => by rw [a2]; exact Mf.out.2.2.2 j) i (nA + 1)).mono (show _ ≤ 1728 by have := MA.out.2.2.2; omega)
    exact (c1.add c2.neg).mono (by omega)
  clear hd1 hd2 hd3 hd4 hd5
  refine (at10e HC.out _ Mls.out.1 Jls.out HZ.out.1 HZ.out.2 (by omega) (steps_of (A := 4000) (N := 6) LLS.out (by omega) Mls.out.2.1 (by decide))).mono ?_
  rintro e w27 ⟨rls, sls, rfl, vls, bb⟩
  have Wls := hide vls
  clear vls
  replace JA := hide (JA.out.bw bb)
  replace JB := hide (JB.out.bw bb)
  replace JC := hide (JC.out.bw bb)
  replace JD := hide (JD.out.bw bb)
  replace VF := hide (VF.out.bw bb)
  replace VG := hide (VG.out.bw bb)
  replace Jas := hide (Jas.out.bw bb)
  replace Jat := hide (Jat.out.bw bb)
  replace Va := hide (Va.out.bw bb)
  replace Jms := hide (Jms.out.bw bb)
  replace Jmt := hide (Jmt.out.bw bb)
  replace Vm := hide (Vm.out.bw bb)
  replace Jls := hide (Jls.out.bw bb)
  replace Jlt := hide (Jlt.out.bw bb)
  replace Vh := hide (Vh.out.bw bb)
  replace XA := hide (XA.out.bw bb)
  replace XB := hide (XB.out.bw bb)
  replace XU := hide (XU.out.bw bb)
  replace XV := hide (XV.out.bw bb)
  replace Vk := hide (Vk.out.bw bb)
  replace XR := hide (XR.out.bw bb)
  replace XS := hide (XS.out.bw bb)
  replace Vr := hide (Vr.out.bw bb)
  replace Jd := hide (Jd.out.bw bb)
  replace Jf := hide (Jf.out.bw bb)
  replace G := hide (bw_trans G.out bb)
  clear bb
  obtain ⟨_, f0, f1⟩ := Vh.out
  go_wp2_with fail
  clear f0 f1
  refine (at10e HC.out _ Mlt.out.1 Jlt.out HZ.out.1 HZ.out.2 (by omega) (steps_of (A := 576) (N := 6) (fun i => by rw [Mlt.out.2.2]; exact ts_le12 MB.out.2.2.1 MB.out.2.2.1 MB.out.2.2.2 i) (by omega) Mlt.out.2.1 (by decide))).mono ?_
  rintro e w28 ⟨rlt, slt, rfl, vlt, bb⟩
  have Wlt := hide vlt
  clear vlt
  replace JA := hide (JA.out.bw bb)
  replace JB := hide (JB.out.bw bb)
  replace JC := hide (JC.out.bw bb)
  replace JD := hide (JD.out.bw bb)
  replace VF := hide (VF.out.bw bb)
  replace VG := hide (VG.out.bw bb)
  replace Jas := hide (Jas.out.bw bb)
  replace Jat := hide (Jat.out.bw bb)
  replace Va := hide (Va.out.bw bb)
  replace Jms := hide (Jms.out.bw bb)
  replace Jmt := hide (Jmt.out.bw bb)
  replace Vm := hide (Vm.out.bw bb)
  replace Jls := hide (Jls.out.bw bb)
  replace Jlt := hide (Jlt.out.bw bb)
  replace Vh := hide (Vh.out.bw bb)
  replace XA := hide (XA.out.bw bb)
  replace XB := hide (XB.out.bw bb)
  replace XU := hide (XU.out.bw bb)
  replace XV := hide (XV.out.bw bb)
  replace Vk := hide (Vk.out.bw bb)
  replace XR := hide (XR.out.bw bb)
  replace XS := hide (XS.out.bw bb)
  replace Vr := hide (Vr.out.bw bb)
  replace Jd := hide (Jd.out.bw bb)
  replace Jf := hide (Jf.out.bw bb)
  replace G := hide (bw_trans G.out bb)
  clear bb
  have BR : Hid (Py.Le (Py.ev lC z) 22620 ∧ Py.Le (Py.ev lD z) 22620 ∧ Py.Le (Py.ev ld z) 5652 ∧ Py.Le (Py.ev lf z) 5652) := ⟨ev12 MC.out.1 MC.out.2.2.2 MC.out.2.2.1 HZ.out.2, ev12 MD.out.1 MD.out.2.2.2 MD.out.2.2.1 HZ.out.2, ev36 Md.out.1 Md.out.2.1 Md.out.2.2.2 HZ.out.2, ev36 Mf.out.1 Mf.out.2.1 Mf.out.2.2.2 HZ.out.2⟩
  obtain ⟨xpt, ypt, wpt, Ppt⟩ := pmul8 HC.out WP.out.1 Wt.out WP.out.2 BR.out.2.1 (by decide)
  have Qpt := hide Ppt
  clear Ppt
  obtain ⟨xrq, yrq, wrq, Prq⟩ := pmul8 HC.out Wr.out WQ.out.1 BR.out.1 WQ.out.2 (by decide)
  have Qrq := hide Prq
  clear Prq
  obtain ⟨xqt, yqt, wqt, Pqt⟩ := pmul8 HC.out WQ.out.1 Wt.out WQ.out.2 BR.out.2.1 (by decide)
  have Qqt := hide Pqt
  clear Pqt
  obtain ⟨xpr, ypr, wpr, Ppr⟩ := pmul8 HC.out WP.out.1 Wr.out WP.out.2 BR.out.1 (by decide)
  have Qpr := hide Ppr
  clear Ppr
  obtain ⟨xuq, yuq, wuq, Puq⟩ := pmul8 HC.out Wu.out WQ.out.1 BR.out.2.2.1 WQ.out.2 (by decide)
  have Quq := hide Puq
  clear Puq
  obtain ⟨xpv, ypv, wpv, Ppv⟩ := pmul8 HC.out WP.out.1 Wv.out WP.out.2 BR.out.2.2.2 (by decide)
  have Qpv := hide Ppv
  clear Ppv
  obtain ⟨xqq, yqq, wqq, Pqq⟩ := pmul8 HC.out WQ.out.1 WQ.out.1 WQ.out.2 WQ.out.2 (by decide)
  have Qqq := hide Pqq
  clear Pqq
  obtain ⟨x1, y1, w1', E1⟩ := c_add HC.out wpt wrq (WP.out.2.mul BR.out.2.1) (BR.out.1.mul WQ.out.2) (by decide)
  obtain ⟨x2, y2, w2', E2⟩ := c_sub HC.out wuq wpv (BR.out.2.2.1.mul WQ.out.2) (WP.out.2.mul BR.out.2.2.2) (by decide)
  have C1 : ∀ t w, (binOp .eql t (.complex .f64 ras sas) (.complex .f64 x1 y1)).run Try.prog w = .ok (.bool true) w := fun t w => by
    rw [ceq10 Was.out w1', decide_eq_true (ev_ts2 z MA.out.1.1 MC.out.1.1 Mas.out.2.2)]
  have C2 : ∀ t w, (binOp .eql t (.complex .f64 rat sat) (.complex .f64 xqt yqt)).run Try.prog w = .ok (.bool true) w := fun t w => by
    rw [ceq10 Wat.out wqt, decide_eq_true (ev_ts z MB.out.1.1 Mat.out.2.2)]
  have C3 : ∀ t w, (binOp .eql t (.complex .f64 rms sms) (.complex .f64 xpr ypr)).run Try.prog w = .ok (.bool true) w := fun t w => by
    rw [ceq10 Wms.out wpr, decide_eq_true (ev_ts z MA.out.1.1 Mms.out.2.2)]
  have C4 : ∀ t w, (binOp .eql t (.complex .f64 rmt smt) (.complex .f64 xqt yqt)).run Try.prog w = .ok (.bool true) w := fun t w => by
    rw [ceq10 Wmt.out wqt, decide_eq_true (ev_ts z MB.out.1.1 Mmt.out.2.2)]
  have C5 : ∀ t w, (binOp .eql t (.complex .f64 rls sls) (.complex .f64 x2 y2)).run Try.prog w = .ok (.bool true) w := fun t w => by
    rw [ceq10 Wls.out w2', decide_eq_true]
    have k := ev_ts3 z HD.out.1 MA.out.1.1 HD.out.2.2.2.2
    rw [k, Py.ev_same d1 ld z (fun j => by rw [HD.out.2.2.1, Md.out.2.2.1]), Py.ev_same d2 lf z (fun j => by rw [HD.out.2.2.2.1, Mf.out.2.2.1])]
  have C6 : ∀ t w, (binOp .eql t (.complex .f64 rlt slt) (.complex .f64 xqq yqq)).run Try.prog w = .ok (.bool true) w := fun t w => by
    rw [ceq10 Wlt.out wqq, decide_eq_true (ev_ts z MB.out.1.1 Mlt.out.2.2)]
  clear wpt wrq wqt wpr wuq wpv wqq w1' w2'
  go_wp2_with fail
  refine (Qpt.out _).mono ?_
  rintro e ww ⟨rfl, hww⟩
  subst hww
  go_wp2_with fail
  refine (Qrq.out _).mono ?_
  rintro e ww ⟨rfl, hww⟩
  subst hww
  go_wp2_with fail
  refine (Qqt.out _).mono ?_
  rintro e ww ⟨rfl, hww⟩
  subst hww
  go_wp2_with fail
  refine (Qpr.out _).mono ?_
  rintro e ww ⟨rfl, hww⟩
  subst hww
  go_wp2_with fail
  refine (Qqt.out _).mono ?_
  rintro e ww ⟨rfl, hww⟩
  subst hww
  go_wp2_with fail
  refine (Quq.out _).mono ?_
  rintro e ww ⟨rfl, hww⟩
  subst hww
  go_wp2_with fail
  refine (Qpv.out _).mono ?_
  rintro e ww ⟨rfl, hww⟩
  subst hww
  go_wp2_with fail
  refine (Qqq.out _).mono ?_
  rintro e ww ⟨rfl, hww⟩
  subst hww
  obtain ⟨_, f0, f1⟩ := VF.out
  obtain ⟨_, g0, g1⟩ := Vr.out
  go_wp2_with fail
  clear f0 f1 g0 g1
  refine (fsame10 (by have := MA.out.2.2.2; omega) (by have := MB.out.2.2.2; omega) XR.out XS.out XA.out XB.out).mono ?_
  rintro e w30 ⟨rfl, bb⟩
  replace JA := hide (JA.out.bw bb)
  replace JB := hide (JB.out.bw bb)
  replace JC := hide (JC.out.bw bb)
  replace JD := hide (JD.out.bw bb)
  replace VF := hide (VF.out.bw bb)
  replace VG := hide (VG.out.bw bb)
  replace Jas := hide (Jas.out.bw bb)
  replace Jat := hide (Jat.out.bw bb)
  replace Va := hide (Va.out.bw bb)
  replace Jms := hide (Jms.out.bw bb)
  replace Jmt := hide (Jmt.out.bw bb)
  replace Vm := hide (Vm.out.bw bb)
  replace Jls := hide (Jls.out.bw bb)
  replace Jlt := hide (Jlt.out.bw bb)
  replace Vh := hide (Vh.out.bw bb)
  replace XA := hide (XA.out.bw bb)
  replace XB := hide (XB.out.bw bb)
  replace XU := hide (XU.out.bw bb)
  replace XV := hide (XV.out.bw bb)
  replace Vk := hide (Vk.out.bw bb)
  replace XR := hide (XR.out.bw bb)
  replace XS := hide (XS.out.bw bb)
  replace Vr := hide (Vr.out.bw bb)
  replace Jd := hide (Jd.out.bw bb)
  replace Jf := hide (Jf.out.bw bb)
  replace G := hide (bw_trans G.out bb)
  clear bb
  obtain ⟨_, f0, f1⟩ := VF.out
  have QU : Hid (∀ wz, Bw w30 wz → (Py.ev lB z = (0, 0) → Calls Try.prog 30 #[.slice (some ⟨bA, 0, none⟩) (nA + 1) cA, .slice (some ⟨bB, 0, none⟩) (nB + 1) cB, .complex .f64 xz yz] wz fun e w' => e = .returned (.tuple #[.complex .f64 0 0, .int .i64 6]) ∧ Bw wz w') ∧
    (Py.ev lB z ≠ (0, 0) → ∀ u v, (u < 18446744073709551616 ∧ Fl.rg u < 9218868437227405312) → (v < 18446744073709551616 ∧ Fl.rg v < 9218868437227405312) → (∀ w, Calls Try.prog 26 #[.complex .f64 rp sp, .complex .f64 rq sq] w fun e w' => e = .returned (.complex .f64 u v) ∧ w' = w) →
      Calls Try.prog 30 #[.slice (some ⟨bA, 0, none⟩) (nA + 1) cA, .slice (some ⟨bB, 0, none⟩) (nB + 1) cB, .complex .f64 xz yz] wz fun e w' => e = .returned (.tuple #[.complex .f64 u v, .int .i64 0]) ∧ Bw wz w')) := fun wz hz => by
    have k := quot10 (c1 := cA) (c2 := cB) HC.out MA.out.1 MB.out.1 (XA.out.bw hz) (XB.out.bw hz) YA.out YB.out HZ.out.1 (HZ.out.2.mono (by omega)) HVA.out HVB.out
    rw [← EV.out.1, ← EV.out.2.1, ← EV.out.2.2.1, ← EV.out.2.2.2] at k
    exact k
  have CQ := fun t w => ceq10 WQ.out.1 (wC.nought c) t w
  by_cases z0 : Py.ev lB z = (0, 0)
  · have RA := hide (rat10 (c1 := cA) (c2 := cB) HC.out ⟨0, 0, rfl⟩ MA.out.1 MB.out.1 JA.out.1 JB.out.1 MB.out.2.1 (fun wz hz => (QU.out wz hz).1 z0))
    have CT : ∀ t w, (binOp .eql t (.complex .f64 rq sq) (.complex .f64 0 0)).run Try.prog w = .ok (.bool true) w := fun t w => by rw [CQ, decide_eq_true z0]
    clear CQ QU z0
    go_wp2_with fail
    refine RA.out.mono ?_
    rintro e w31 ⟨rfl, bb⟩
    have F := bw_trans G.out bb
    clear RA f0 f1
    go_wp2
    go_ret
    exact ⟨rfl, F⟩
  · have bP := WP.out.2.one
    have bQ := WQ.out.2.one
    obtain ⟨ux, vx, hux, hvx, DV⟩ := pdiv10 HC.out WP.out.1.1 WP.out.1.2 WQ.out.1.1 WQ.out.1.2 (fun e => z0 (Py.gext e.1 e.2)) (by omega) (by omega) (by omega) (by omega)
    have RA := hide (rat10 (c1 := cA) (c2 := cB) HC.out ⟨ux, vx, rfl⟩ MA.out.1 MB.out.1 JA.out.1 JB.out.1 MB.out.2.1 (fun wz hz => (QU.out wz hz).2 z0 ux vx hux hvx DV))
    have HDV := hide DV
    have CT : ∀ t w, (binOp .eql t (.complex .f64 rq sq) (.complex .f64 0 0)).run Try.prog w = .ok (.bool false) w := fun t w => by rw [CQ, decide_eq_false z0]
    clear CQ QU z0 DV hux hvx bP bQ
    go_wp2_with fail
    refine RA.out.mono ?_
    rintro e w31 ⟨rfl, bb⟩
    have F := bw_trans G.out bb
    clear RA f0 f1
    go_wp2_with fail
    refine (HDV.out _).mono ?_
    rintro e ww2 ⟨rfl, hww⟩
    subst hww
    go_wp2_with fail
    refine (psame10 _ _ _).mono ?_
    rintro e ww2 ⟨rfl, hww⟩
    subst hww
    go_wp2
    go_ret
    exact ⟨rfl, F⟩
end Go.Proofs.Ytmbjgakehghdjaa
