/-
  OWN TEXT: the law PolyWhole, for whatever ints.
-/
import Derived.Test.YtpfgboinjjobpaaPyR
import Derived.Test.YtpfgboinjjobpaaXvU
namespace Go.Proofs.Ytpfgboinjjobpaa
open Go.ChangeShapes Go.WideShapes Go.ChangeAt Go.RowKit
set_option linter.unusedVariables false
attribute [local go_sem] frombits_call tobits_call run_neg run_store_cx
theorem may8 {m : Nat} {l : List Py.G} (h1 : l.length = m + 1) (h2 : m ≤ 6) (h3 : Py.co l m ≠ (0, 0)) (h4 : ∀ i, E8 (Py.co l i)) : May m l :=
  ⟨h1, by omega, Or.inr h3, fun i _ => (h4 i).le.mono (by omega)⟩
theorem Ans.use {c : Nat} {w w' : World} {e : Ending} {N : Nat} {F : Nat → Py.G} (h : Ans c w w' e N F) : ∃ B m l, e = .returned (.tuple #[.slice (some ⟨B, 0, none⟩) (m + 1) (m + 1), .int .i64 0]) ∧ May m l ∧ m + 1 ≤ N ∧ Gl c w' B 0 l ∧ w.heap.size ≤ B ∧ Bw w w' ∧ ∀ i, Py.co l i = F i := h
set_option maxHeartbeats 8000000 in
set_option maxRecDepth 100000 in
theorem polywhole_any {c : Nat} (hc : c = 1074) (a1 a2 : Option Addr) (len1 cap1 len2 cap2 : Nat) (x y u v : Int) (w : World) (i1 : Ix w a1 len1) (i2 : Ix w a2 len2) (hl1 : len1 ≤ 140737488355328) (hl2 : len2 ≤ 140737488355328) :
    Calls Try.prog 3 #[.slice a1 len1 cap1, .slice a2 len2 cap2, .int .i64 x, .int .i64 y, .int .i64 u, .int .i64 v] w fun e w' => e = .returned (.bool true) ∧ Below w.heap.size w w' := by
  have I2 : Hid (∀ wz, Bw w wz → Ix wz a2 len2) := fun wz hz => by
    rcases i2 with h | ⟨b, off, h1, h2, h3⟩
    · exact Or.inl h
    · refine Or.inr ⟨b, off, h1, Nat.lt_of_lt_of_le h2 (Below.size hz), fun j hj => ?_⟩
      obtain ⟨z, e⟩ := h3 j hj
      exact ⟨z, (Below.cell hz (p := ⟨b, off + j, none⟩) h2).trans e⟩
  have I1 : Hid (∀ wz, Bw w wz → Ix wz a1 len1) := fun wz hz => by
    rcases i1 with h | ⟨b, off, h1, h2, h3⟩
    · exact Or.inl h
    · refine Or.inr ⟨b, off, h1, Nat.lt_of_lt_of_le h2 (Below.size hz), fun j hj => ?_⟩
      obtain ⟨z, e⟩ := h3 j hj
      exact ⟨z, (Below.cell hz (p := ⟨b, off + j, none⟩) h2).trans e⟩
  have HC := hide hc
  clear i1 i2 hc
  obtain ⟨fx, mx, qx, lx, WX⟩ := whole8 HC.out x w
  obtain ⟨fy, my, qy, ly, WY⟩ := whole8 HC.out y w
  obtain ⟨fu, mu, qu, lu, WU⟩ := whole8 HC.out u w
  obtain ⟨fv, mv, qv, lv, WV⟩ := whole8 HC.out v w
  have HWX := hide WX
  have HWY := hide WY
  have HWU := hide WU
  have HWV := hide WV
  have QZ : Hid (wC c fx fy (mx, my) ∧ Py.Le (mx, my) 12) := ⟨⟨qx, qy⟩, le_small lx ly⟩
  have QB : Hid (wC c fu fv (mu, mv) ∧ Py.Le (mu, mv) 12) := ⟨⟨qu, qv⟩, le_small lu lv⟩
  clear WX WY WU WV qx qy qu qv lx ly lu lv
  obtain ⟨gz, hgz⟩ : ∃ g : Py.G, g = (mx, my) := ⟨_, rfl⟩
  obtain ⟨gb, hgb⟩ : ∃ g : Py.G, g = (mu, mv) := ⟨_, rfl⟩
  rw [← hgz] at QZ
  rw [← hgb] at QB
  clear hgz hgb
  go_enter Try.func3, Try.ntmps3
  go_wp2_with fail
  refine (alive8_ev _).mono ?_
  rintro e w1 ⟨rfl, b1⟩
  have G : Bw w w1 := b1
  clear b1
  go_wp2_with fail
  refine (small8 HC.out a1 len1 cap1 _ (I1.out _ G) hl1).mono ?_
  rintro e w2 ⟨Ba, na, ca, la, rfl, hGa, hna, h6a, hca, hza, h8a, hBa, b2⟩
  have HWa : Hid (w.heap.size ≤ Ba) := Nat.le_trans (Below.size G) hBa
  replace G := bw_trans G b2
  have HGa := hide hGa
  have HNa := hide hna
  have HZa := hide hza
  have H8a := hide h8a
  clear b2 hGa hna hza h8a
  go_wp2_with fail
  refine (small8 HC.out a2 len2 cap2 _ (I2.out _ G) hl2).mono ?_
  rintro e w3 ⟨Bb, nb, cb, lb, rfl, hGb, hnb, h6b, hcb, hzb, h8b, hBb, b3⟩
  have HWb : Hid (w.heap.size ≤ Bb) := Nat.le_trans (Below.size G) hBb
  have HNE : Hid (Ba ≠ Bb) := by have := HGa.out.1.1; show Ba ≠ Bb; omega
  replace HGa := hide (HGa.out.bw b3)
  replace G := bw_trans G b3
  have HGb := hide hGb
  have HNb := hide hnb
  have HZb := hide hzb
  have H8b := hide h8b
  clear b3 hGb hnb hzb h8b I1 I2 hBa hBb
  go_wp2_with (first
    | (go_at_call 7; refine (HWX.out _).mono ?_; rintro e' w7 ⟨rfl, hw7⟩; subst hw7)
    | (go_at_call 7; refine (HWY.out _).mono ?_; rintro e' w7 ⟨rfl, hw7⟩; subst hw7)
    | (go_at_call 7; refine (HWU.out _).mono ?_; rintro e' w7 ⟨rfl, hw7⟩; subst hw7)
    | (go_at_call 7; refine (HWV.out _).mono ?_; rintro e' w7 ⟨rfl, hw7⟩; subst hw7)
    | (go_at_call 6; refine (lof8 _ _ _).mono ?_; rintro e' w7 ⟨rfl, hw7⟩; subst hw7))
  have MA := hide (may8 HNa.out h6a HZa.out H8a.out)
  have MB := hide (may8 HNb.out h6b HZb.out H8b.out)
  have LA : Hid (∀ i, Py.Le (Py.co la i) 12) := fun i => (H8a.out i).le
  have LB : Hid (∀ i, Py.Le (Py.co lb i) 12) := fun i => (H8b.out i).le
  clear HWX HWY HWU HWV
  refine (add8 HC.out MA.out HGa.out.1 MB.out HGb.out.1 LA.out LB.out (by omega)).mono ?_
  intro e w4 hAns
  obtain ⟨Bs, ns, ls, rfl, mS, nS, gS, _, b4, cS⟩ := hAns.use
  replace HGa := hide (HGa.out.bw b4)
  replace HGb := hide (HGb.out.bw b4)
  replace G := bw_trans G b4
  have HGs := hide gS
  have HMs := hide mS
  have HCs := hide cS
  clear hAns mS gS cS b4
  go_wp2_with fail
  refine (mul8 HC.out MA.out HGa.out.1 MB.out HGb.out.1 LA.out LB.out (by omega) (by omega) HZa.out HZb.out).mono ?_
  intro e w5 hAns
  obtain ⟨Bp, np, lp, rfl, mP, nP, gP, _, b5, cP⟩ := hAns.use
  replace HGa := hide (HGa.out.bw b5)
  replace HGb := hide (HGb.out.bw b5)
  replace HGs := hide (HGs.out.bw b5)
  replace G := bw_trans G b5
  have HGp := hide gP
  have HMp := hide mP
  have HCp := hide cP
  clear hAns mP gP cP b5
  go_wp2_with fail
  refine (shift8 HC.out MA.out HGa.out.1 QB.out.1 QB.out.2 (by omega) (shift_le HNa.out h6a LA.out QB.out.2) (by omega) (by omega)).mono ?_
  intro e w6 hAns
  obtain ⟨Bh, nh, lh, rfl, mH, nH, gH, _, b6, cH⟩ := hAns.use
  replace HGa := hide (HGa.out.bw b6)
  replace HGb := hide (HGb.out.bw b6)
  replace HGs := hide (HGs.out.bw b6)
  replace HGp := hide (HGp.out.bw b6)
  replace G := bw_trans G b6
  have HGh := hide gH
  have HMh := hide mH
  have HCh := hide cH
  clear hAns mH gH cH b6
  -- the values at z of both
  go_wp2_with fail
  refine (lat8 HC.out _ MA.out HGa.out.1 QZ.out.1 QZ.out.2 (by omega) (steps_of (N := 6) LA.out (by omega) h6a (by decide))).mono ?_
  rintro e w8 ⟨p1, p2, rfl, hone, b8⟩
  replace HGa := hide (HGa.out.bw b8)
  replace HGb := hide (HGb.out.bw b8)
  replace HGs := hide (HGs.out.bw b8)
  replace HGp := hide (HGp.out.bw b8)
  replace HGh := hide (HGh.out.bw b8)
  replace G := bw_trans G b8
  have HONE := hide hone
  clear hone b8
  go_wp2_with fail
  refine (lat8 HC.out _ MB.out HGb.out.1 QZ.out.1 QZ.out.2 (by omega) (steps_of (N := 6) LB.out (by omega) h6b (by decide))).mono ?_
  rintro e w9 ⟨p3, p4, rfl, htwo, b9⟩
  replace HGa := hide (HGa.out.bw b9)
  replace HGb := hide (HGb.out.bw b9)
  replace HGs := hide (HGs.out.bw b9)
  replace HGp := hide (HGp.out.bw b9)
  replace HGh := hide (HGh.out.bw b9)
  replace G := bw_trans G b9
  have HTWO := hide htwo
  clear htwo b9
  go_wp2_with fail
  -- a sum's value
  have LS : Hid (∀ i, Py.Le (Py.co ls i) 24) := fun i => by rw [HCs.out i]; exact (LA.out i).add (LB.out i)
  have E1 := hide ((ev_le LA.out QZ.out.2 na HNa.out).mono (hrn_mono (A := 12) (Z := 12) (by omega) h6a))
  have E2 := hide ((ev_le LB.out QZ.out.2 nb HNb.out).mono (hrn_mono (A := 12) (Z := 12) (by omega) h6b))
  refine (lat8 HC.out _ HMs.out HGs.out QZ.out.1 QZ.out.2 (by omega) (steps_of (N := 6) LS.out (by omega) (by omega) (by decide))).mono ?_
  rintro e w10 ⟨p5, p6, rfl, hv, b10⟩
  rw [Py.ev_add ls la lb gz HCs.out] at hv
  replace HGa := hide (HGa.out.bw b10)
  replace HGb := hide (HGb.out.bw b10)
  replace HGp := hide (HGp.out.bw b10)
  replace HGh := hide (HGh.out.bw b10)
  replace G := bw_trans G b10
  obtain ⟨s1, s2, qs, PA⟩ := padd8 HC.out HONE.out HTWO.out E1.out E2.out (by decide)
  have HPA := hide PA
  have LK : Hid (∀ wz, Calls Try.prog 12 #[.complex .f64 p5 p6, .complex .f64 s1 s2] wz fun e w' => e = .returned (.bool true) ∧ w' = wz) := fun wz => by have k := rLike8 hv qs wz; rw [decide_eq_true rfl] at k; exact k
  clear hv qs PA b10 HGs HMs HCs LS
  go_wp2_with fail
  refine (HPA.out _).mono ?_
  rintro e w11 ⟨rfl, hw⟩
  subst hw
  go_wp2_with fail
  refine (LK.out _).mono ?_
  rintro e w12 ⟨rfl, hw⟩
  subst hw
  clear HPA LK
  -- a product's
  have LP : Hid (∀ i, Py.Le (Py.co lp i) 896) := fun i => by rw [HCp.out i]; exact (ts_le8 H8a.out H8b.out i (na + 1)).mono (by omega)
  go_wp2_with fail
  refine (lat8 HC.out _ HMp.out HGp.out QZ.out.1 QZ.out.2 (by omega) (steps_of (N := 12) LP.out (by omega) (by omega) (by decide))).mono ?_
  rintro e w13 ⟨p7, p8, rfl, hv, b13⟩
  rw [Py.ev_mul la lb lp gz (fun j => by rw [HNa.out]; exact HCp.out j)] at hv
  replace HGa := hide (HGa.out.bw b13)
  replace HGb := hide (HGb.out.bw b13)
  replace HGh := hide (HGh.out.bw b13)
  replace G := bw_trans G b13
  obtain ⟨s3, s4, qs, PM⟩ := pmul8 HC.out HONE.out HTWO.out E1.out E2.out (by decide)
  have HPM := hide PM
  have LK : Hid (∀ wz, Calls Try.prog 12 #[.complex .f64 p7 p8, .complex .f64 s3 s4] wz fun e w' => e = .returned (.bool true) ∧ w' = wz) := fun wz => by have k := rLike8 hv qs wz; rw [decide_eq_true rfl] at k; exact k
  clear hv qs PM b13 HGp HMp HCp LP HONE HTWO E1 E2
  go_wp2_with fail
  refine (HPM.out _).mono ?_
  rintro e w14 ⟨rfl, hw⟩
  subst hw
  go_wp2_with fail
  refine (LK.out _).mono ?_
  rintro e w15 ⟨rfl, hw⟩
  subst hw
  clear HPM LK
  -- a shift's
  go_wp2_with fail
  refine (lat8 HC.out _ HMh.out HGh.out QZ.out.1 QZ.out.2 (by omega) (steps_shift HNa.out h6a (by omega) LA.out QB.out.2 HCh.out)).mono ?_
  rintro e w16 ⟨p9, p10, rfl, hv, b16⟩
  rw [Py.ev_same lh (Py.shs gb la na) gz HCh.out, Py.ev_shs gz gb la na HNa.out] at hv
  replace HGa := hide (HGa.out.bw b16)
  replace HGb := hide (HGb.out.bw b16)
  replace G := bw_trans G b16
  have HV := hide hv
  obtain ⟨s5, s6, qs, PA⟩ := padd8 HC.out QZ.out.1 QB.out.1 QZ.out.2 QB.out.2 (by decide)
  have HPA := hide PA
  have HQS := hide qs
  have LZB := hide (QZ.out.2.add QB.out.2)
  clear hv qs PA b16 HGh HMh HCh
  go_wp2_with fail
  refine (HPA.out _).mono ?_
  rintro e w17 ⟨rfl, hw⟩
  subst hw
  go_wp2_with fail
  refine (lat8 HC.out _ MA.out HGa.out.1 HQS.out LZB.out (by omega) (steps_of (N := 6) LA.out (by omega) h6a (by decide))).mono ?_
  rintro e w18 ⟨p11, p12, rfl, hv, b18⟩
  replace HGa := hide (HGa.out.bw b18)
  replace HGb := hide (HGb.out.bw b18)
  replace G := bw_trans G b18
  have LK : Hid (∀ wz, Calls Try.prog 12 #[.complex .f64 p9 p10, .complex .f64 p11 p12] wz fun e w' => e = .returned (.bool true) ∧ w' = wz) := fun wz => by have k := rLike8 HV.out hv wz; rw [decide_eq_true rfl] at k; exact k
  clear hv b18 HV HPA HQS LZB
  go_wp2_with fail
  refine (LK.out _).mono ?_
  rintro e w19 ⟨rfl, hw⟩
  subst hw
  clear LK QZ QB
  -- b's last coefficient: 1
  obtain ⟨ux, uy, eu, qu⟩ := HGb.out.1.2 nb (by have := HNb.out; omega)
  rw [Nat.zero_add] at eu
  have ef := HGb.out.2 nb
  have GB2 := hide (HGb.out.set nb 4607182418800017408 0 (1, 0) (by have := HNb.out; omega) (wC.one HC.out))
  have GA2 := hide (HGa.out.other Bb nb (.complex .f64 4607182418800017408 0) HNE.out)
  have G2 : Bw w (w19.setCell ⟨Bb, nb, none⟩ (.complex .f64 4607182418800017408 0)) := Below.setCell G HWb.out _
  clear qu G
  go_wp2_with fail
  generalize w19.setCell ⟨Bb, nb, none⟩ (.complex .f64 4607182418800017408 0) = W at *
  have L2 : Hid ((lb.set nb (1, 0)).length = nb + 1) := by show _ = _; rw [List.length_set]; exact HNb.out
  have C2 : Hid (Py.co (lb.set nb (1, 0)) nb = (1, 0)) := by show _ = _; rw [Py.co_set _ _ _ _ (by have := HNb.out; omega), if_pos rfl]
  have E2 : Hid (∀ i, E8 (Py.co (lb.set nb (1, 0)) i)) := fun i => by
    rw [Py.co_set _ _ _ _ (by have := HNb.out; omega)]
    split
    · exact ⟨by decide, by decide⟩
    · exact H8b.out i
  clear eu ef HGb HGa HNb HZb H8b MB LB HNE HWb
  generalize lb.set nb (1, 0) = l2 at *
  have M2 := hide (may8 L2.out h6b (by rw [C2.out]; decide) E2.out)
  have LB : Hid (∀ i, Py.Le (Py.co l2 i) 12) := fun i => (E2.out i).le
  refine (mul8 HC.out MA.out GA2.out.1 M2.out GB2.out.1 LA.out LB.out (by omega) (by omega) HZa.out (by rw [C2.out]; decide)).mono ?_
  intro e w20 hAns
  obtain ⟨Bq, nq, lq, rfl, mP, nP, gP, _, b20, cP⟩ := hAns.use
  have hnq : nq = na + nb := by
    have hne : Py.co lq (na + nb) ≠ (0, 0) := by
      have := Py.ts_top la l2 na (by have := L2.out; omega) (by rw [L2.out, Nat.add_sub_cancel]; exact C2.out)
      rw [L2.out, Nat.add_sub_cancel] at this
      rw [cP, this]
      exact HZa.out
    have : na + nb < nq + 1 := by
      rcases Nat.lt_or_ge (na + nb) (nq + 1) with k | k
      · exact k
      · exact absurd (Py.co_out (by have := mP.1; omega)) hne
    omega
  subst hnq
  replace GA2 := hide (GA2.out.bw b20)
  replace GB2 := hide (GB2.out.bw b20)
  replace G2 := bw_trans G2 b20
  have HGp := hide gP
  have HMp := hide mP
  have HCp := hide cP
  clear hAns mP gP cP b20
  go_wp2_with fail
  refine (div8 HC.out HMp.out M2.out HNa.out HGp.out GB2.out.1 HCp.out C2.out LA.out LB.out (by omega) hcb (Or.inr HZa.out)).mono ?_
  rintro e w21 ⟨Q, R, rfl, gQ, gR, b21⟩
  replace GA2 := hide (GA2.out.bw b21)
  replace G2 := bw_trans G2 b21
  have HGQ := hide gQ
  have HGR := hide gR
  clear gQ gR b21 HGp HMp HCp GB2 M2 L2 C2 E2 LB
  go_wp2_with fail
  refine (llike8 HNa.out (by omega) HGQ.out GA2.out.1).mono ?_
  rintro e w22 ⟨rfl, b22⟩
  replace GA2 := hide (GA2.out.bw b22)
  replace G2 := bw_trans G2 b22
  replace HGR := hide (HGR.out.bw b22)
  clear b22 HGQ
  go_wp2_with fail
  have bA := bw_alloc w22 (.cells #[.complex .f64 0 0] 26)
  have GN : Hid (Gl c (w22.alloc (.cells #[.complex .f64 0 0] 26)) w22.heap.size 0 [(0, 0)]) := by
    refine ⟨by simp, fun i hi => ?_⟩
    match i, hi with
    | 0, _ => exact ⟨0, 0, by simp, wC.nought c⟩
  refine (llike8 (l := [(0, 0)]) (n := 1) rfl (by omega) (HGR.out.bw bA) GN.out).mono ?_
  rintro e w23 ⟨rfl, b23⟩
  replace GA2 := hide ((GA2.out.bw bA).bw b23)
  replace G2 := bw_trans (bw_trans G2 bA) b23
  clear b23 bA GN HGR
  obtain ⟨t, ht⟩ : ∃ t, t = min (na + 1) 6 := ⟨_, rfl⟩
  have HTT : Hid (t ≤ 6 ∧ t ≤ na + 1 ∧ 1 ≤ t) := by show _ ∧ _; omega
  have m1 : (if 6 < (na : Int) + 1 then (6 : Int) else (na : Int) + 1) = (t : Int) := by split <;> omega
  have m2 : (if 6 < na + 1 then (6 : Int) else (na : Int) + 1) = (t : Int) := by split <;> omega
  have m3 : (if 6 ≤ (na : Int) then (6 : Int) else (na : Int) + 1) = (t : Int) := by split <;> omega
  have m4 : (t : Int) ≤ ca := by omega
  clear ht
  go_wp2_with fail
  have HZL : Hid ((la.take t).length = t) := by show _ = _; rw [List.length_take, HNa.out]; have := HTT.out; omega
  have HZC : Hid (∀ i, i < t → Py.co (la.take t) i = Py.co la i) := fun i hi => by rw [Py.co_take, if_pos hi]
  have HZE : Hid (∀ i, Py.Le (Py.co (la.take t) i) 12) := fun i => by
    rw [Py.co_take]
    split
    · exact LA.out i
    · exact Py.Le.nought _
  have h13 : 13 ^ t ≤ 4826809 := by
    have : 13 ^ t ≤ 13 ^ 6 := Nat.pow_le_pow_right (by omega) HTT.out.1
    exact Nat.le_trans this (by decide)
  refine (of8 HC.out HZL.out (by have := HTT.out; omega) (GA2.out.1.take t) HZE.out (by omega) (by show 13 ^ t ≤ _; omega)).mono ?_
  intro e w24 hAns
  obtain ⟨Bo, no, lo, rfl, mO, nO, gO, _, b24, cO⟩ := hAns.use
  have hno : no = t := by
    have hne : Py.co lo t ≠ (0, 0) := by
      have := Py.ofl_last [(1, 0)] (la.take t) rfl (by simp)
      rw [HZL.out, show [((1 : Int), (0 : Int))].length + t - 1 = t by simp] at this
      rw [cO, this]
      decide
    have : t < no + 1 := by
      rcases Nat.lt_or_ge t (no + 1) with k | k
      · exact k
      · exact absurd (Py.co_out (by have := mO.1; omega)) hne
    omega
  subst hno
  have HLO : Hid (∀ i, Py.Le (Py.co lo i) 4826809) := fun i => by
    rw [cO]
    have := Py.ofl_le (p := [(1, 0)]) (zs := la.take no) (A := 1) (Z := 12) (fun i => one_le i 1 (Nat.le_refl _)) (fun z hz => by
      obtain ⟨j, hj, rfl⟩ := List.getElem_of_mem hz
      have h1 := HZE.out j
      have h2 : Py.co (la.take no) j = (la.take no)[j] := by
        unfold Py.co
        rw [List.getD_eq_getElem?_getD, List.getElem?_eq_getElem hj]
        rfl
      rw [h2] at h1
      exact h1) i
    rw [Nat.one_mul, HZL.out] at this
    exact this.mono h13
  have HVO : Hid (∀ i, i < no → Py.ev lo (Py.co la i) = (0, 0)) := fun i hi => by
    rw [Py.ev_same lo _ _ cO, ← HZC.out i hi]
    exact Py.ofl_zero _ _ i (by rw [HZL.out]; exact hi)
  replace GA2 := hide (GA2.out.bw b24)
  replace G2 := bw_trans G2 b24
  have HGo := hide gO
  have HMo := hide mO
  clear hAns gO mO cO b24 h13 HZE HZC HZL nO
  go_wp2_with fail
  go_loopw [31] (fun q wr => ∃ i : Nat, i ≤ no ∧ q = .int .i64 i ∧ Bw w24 wr) (fun q _ => no - (intOf q).toNat)
  case atStart => exact ⟨0, Nat.zero_le _, rfl, Bw.refl _⟩
  case round =>
    obtain ⟨i, hi, rfl, hbw⟩ := hrel
    by_cases hin : i < no
    · have hin2 : (i : Int) < no := by omega
      have hina : (i : Int) < (na : Int) + 1 := by have := HTT.out; omega
      obtain ⟨xa, ya, ea, qa⟩ := (GA2.out.1.bw hbw).2 i (by have := HNa.out; have := HTT.out; omega)
      rw [Nat.zero_add] at ea
      have AT := hide (lat8 (cap := no + 1) HC.out _ HMo.out (HGo.out.bw hbw) qa (LA.out i) (by omega) (steps_of (N := 6) HLO.out (by omega) HTT.out.1 (by decide)))
      clear qa
      go_wp2_with fail
      refine AT.out.mono ?_
      rintro e w25 ⟨r1, r2, rfl, hv, b25⟩
      rw [HVO.out i hin] at hv
      have LK : Hid (∀ wz, Calls Try.prog 12 #[.complex .f64 r1 r2, .complex .f64 0 0] wz fun e w' => e = .returned (.bool true) ∧ w' = wz) := fun wz => by have k := rLike8 hv (wC.nought c) wz; rw [decide_eq_true rfl] at k; exact k
      replace hbw := bw_trans hbw b25
      clear hv AT b25
      go_wp2_with fail
      refine (LK.out _).mono ?_
      rintro e w26 ⟨rfl, hw⟩
      subst hw
      clear LK ea
      go_wp2
      go_roundw
      case rel => exact ⟨i + 1, by omega, by simp, hbw⟩
      case measure => simp [intOf]; omega
    · have hin2 : i = no := by omega
      subst hin2
      have F := bw_trans G2 hbw
      go_wp2
      go_ret
      exact ⟨rfl, F⟩
end Go.Proofs.Ytpfgboinjjobpaa
