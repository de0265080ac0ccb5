/-
  OWN TEXT: the law ZerosSquare, for every two numbers.
-/
import Derived.Test.YtggphakliiodeaaGreatDoorJnBb
import Derived.Test.YtggphakliiodeaaGreatDoorXxB
namespace Go.Proofs.YtggphakliiodeaaGreatDoor
open Go.ChangeShapes Go.WideShapes Go.ChangeAt Go.RowKit
set_option linter.unusedVariables false
attribute [local go_sem] run_store_cx
theorem RoOk.bw {w w' : World} (h : RoOk w) (k : Bw w w') : RoOk w' := by
  intro g l hl
  obtain ⟨h1, h2⟩ := h g l hl
  refine ⟨Nat.lt_of_lt_of_le h1 (Below.size k), fun j v hv => ?_⟩
  obtain ⟨h3, h4⟩ := h2 j v hv
  exact ⟨h3, (Below.cell k (p := ⟨g, j, none⟩) h1).trans h4⟩
theorem ofl_two (u v : Py.G) : Py.co (Py.ofl [(1, 0)] [u, v]) 0 = Py.gm u v ∧ Py.co (Py.ofl [(1, 0)] [u, v]) 1 = Py.gn (Py.ga u v) ∧ Py.co (Py.ofl [(1, 0)] [u, v]) 2 = (1, 0) ∧ ∀ i, 3 ≤ i → Py.co (Py.ofl [(1, 0)] [u, v]) i = (0, 0) := by
  have e : Py.ofl [(1, 0)] [u, v] = Py.wz (Py.wz [(1, 0)] u) v := rfl
  rw [e]
  refine ⟨?_, ?_, ?_, ?_⟩
  · rw [Py.co_wz, Py.co_zero, Py.co_wz, Py.co_zero, Py.co_zero]
    refine Py.gext ?_ ?_ <;> simp only [Py.gs, Py.gm] <;> grind
  · rw [Py.co_wz, Py.co_succ, Py.co_wz, Py.co_wz, Py.co_zero, Py.co_zero, Py.co_succ, Py.co_zero, Py.co_succ, Py.co_nil]
    refine Py.gext ?_ ?_ <;> simp only [Py.gs, Py.gm, Py.gn, Py.ga] <;> grind
  · have k : Py.co [((1, 0) : Py.G)] 2 = (0, 0) := rfl
    have k1 : Py.co [((1, 0) : Py.G)] 1 = (0, 0) := rfl
    have k2 : Py.co [((0, 0) : Py.G), (1, 0)] 2 = (0, 0) := rfl
    rw [Py.co_wz, Py.co_succ, Py.co_wz, Py.co_wz, Py.co_succ, Py.co_zero, Py.co_succ, k, k2, Py.co_nil]
    refine Py.gext ?_ ?_ <;> simp only [Py.gs, Py.gm] <;> grind
  · intro i hi
    refine Py.co_out ?_
    rw [Py.wz_len, Py.wz_len]
    exact hi
set_option maxHeartbeats 8000000 in
set_option maxRecDepth 100000 in
theorem zerossquare_any (x1 y1 x2 y2 : Int) (w : World) (hw : RoOk w) :
    Calls Tryz.prog 3 #[.agg #[.int .i16 x1, .int .i16 y1], .agg #[.int .i16 x2, .int .i16 y2]] w fun e w' => e = .returned (.bool true) ∧ Below w.heap.size w w' := by
  have RO := hide hw
  clear hw
  go_enter Tryz.func3, Tryz.ntmps3
  go_wp2_with fail
  have g0 : Bw w ((w.alloc (.cells #[.int .i16 x1, .int .i16 y1] 24)).alloc (.cells #[.int .i16 x2, .int .i16 y2] 24)) := Below.alloc (Below.alloc (Bw.refl w) (Nat.le_refl _) _) (by simp) _
  have c0 : ((w.alloc (.cells #[.int .i16 x1, .int .i16 y1] 24)).alloc (.cells #[.int .i16 x2, .int .i16 y2] 24)).cell? ⟨w.heap.size, 0, none⟩ = some (.int .i16 x1) := by simp
  have c1 : ((w.alloc (.cells #[.int .i16 x1, .int .i16 y1] 24)).alloc (.cells #[.int .i16 x2, .int .i16 y2] 24)).cell? ⟨w.heap.size, 1, none⟩ = some (.int .i16 y1) := by simp
  have c2 : ((w.alloc (.cells #[.int .i16 x1, .int .i16 y1] 24)).alloc (.cells #[.int .i16 x2, .int .i16 y2] 24)).cell? ⟨w.heap.size + 1, 0, none⟩ = some (.int .i16 x2) := by simp
  have c3 : ((w.alloc (.cells #[.int .i16 x1, .int .i16 y1] 24)).alloc (.cells #[.int .i16 x2, .int .i16 y2] 24)).cell? ⟨w.heap.size + 1, 1, none⟩ = some (.int .i16 y2) := by simp
  have hs : w.heap.size + 1 < ((w.alloc (.cells #[.int .i16 x1, .int .i16 y1] 24)).alloc (.cells #[.int .i16 x2, .int .i16 y2] 24)).heap.size := by simp
  generalize (w.alloc (.cells #[.int .i16 x1, .int .i16 y1] 24)).alloc (.cells #[.int .i16 x2, .int .i16 y2] 24) = W at *
  obtain ⟨B, hB⟩ : ∃ B, B = w.heap.size := ⟨_, rfl⟩
  obtain ⟨C, hC⟩ : ∃ C, C = w.heap.size + 1 := ⟨_, rfl⟩
  rw [← hC] at c2 c3 hs
  rw [← hB] at c0 c1
  have hs2 : B < W.heap.size := by omega
  refine (awake9_ev _ (RO.out.bw g0)).mono ?_
  rintro e w1 ⟨rfl, b0⟩
  have G := hide (bw_trans g0 b0)
  have d0 := (Below.cell b0 (p := ⟨B, 0, none⟩) hs2).trans c0
  have d1 := (Below.cell b0 (p := ⟨B, 1, none⟩) hs2).trans c1
  have d2 := (Below.cell b0 (p := ⟨C, 0, none⟩) hs).trans c2
  have d3 := (Below.cell b0 (p := ⟨C, 1, none⟩) hs).trans c3
  have s0 := Below.size b0
  have z1 : B < w1.heap.size := by omega
  have z2 : C < w1.heap.size := by omega
  have KE : Hid (∀ w' : World, Bw w1 w' → w'.cell? ⟨B, 0, none⟩ = some (.int .i16 x1) ∧ w'.cell? ⟨B, 1, none⟩ = some (.int .i16 y1) ∧ w'.cell? ⟨C, 0, none⟩ = some (.int .i16 x2) ∧ w'.cell? ⟨C, 1, none⟩ = some (.int .i16 y2)) := by
    intro w' h
    exact ⟨(Below.cell h (p := ⟨B, 0, none⟩) z1).trans d0, (Below.cell h (p := ⟨B, 1, none⟩) z1).trans d1, (Below.cell h (p := ⟨C, 0, none⟩) z2).trans d2, (Below.cell h (p := ⟨C, 1, none⟩) z2).trans d3⟩
  have HBB : Hid (B = w.heap.size) := hB
  have HCC : Hid (C = w.heap.size + 1) := hC
  rw [← hC, ← hB]
  clear b0 g0 c0 c1 c2 c3 hs hs2 s0 z1 z2 RO hB hC
  go_wp2_with fail
  refine (gsmall9 x1 y1 _).mono ?_
  rintro e w2 ⟨p, rfl, hp, b2⟩
  replace G := hide (bw_trans G.out b2)
  obtain ⟨d0, d1, d2, d3⟩ := KE.out w2 b2
  cases p
  · clear hp b2 KE
    go_wp2
    go_ret
    exact ⟨rfl, G.out⟩
  have HP := hide (hp rfl)
  clear hp
  have B2 := hide b2
  clear b2
  go_wp2_with fail
  refine (gsmall9 x2 y2 _).mono ?_
  rintro e w3 ⟨p, rfl, hq, b3⟩
  replace G := hide (bw_trans G.out b3)
  replace B2 := hide (bw_trans B2.out b3)
  clear d0 d1 d2 d3
  obtain ⟨d0, d1, d2, d3⟩ := KE.out w3 B2.out
  cases p
  · clear hq b3 KE
    go_wp2
    go_ret
    exact ⟨rfl, G.out⟩
  have HQ := hide (hq rfl)
  clear hq b3
  go_wp2_with fail
  refine (gof9 x1 y1 _).mono ?_
  rintro e w4 ⟨rfl, b4⟩
  replace G := hide (bw_trans G.out b4)
  replace B2 := hide (bw_trans B2.out b4)
  clear d0 d1 d2 d3 b4
  obtain ⟨d0, d1, d2, d3⟩ := KE.out w4 B2.out
  go_wp2_with fail
  refine (gof9 x2 y2 _).mono ?_
  rintro e w5 ⟨rfl, b5⟩
  replace G := hide (bw_trans G.out b5)
  clear d0 d1 d2 d3 b5 B2 KE
  obtain ⟨c, hc⟩ : ∃ c : Nat, c = 1074 := ⟨_, rfl⟩
  have U : wC c (floatOfInt .f64 x1) (floatOfInt .f64 y1) (x1, y1) := ⟨w_thou hc x1 HP.out.1, w_thou hc y1 HP.out.2⟩
  have V : wC c (floatOfInt .f64 x2) (floatOfInt .f64 y2) (x2, y2) := ⟨w_thou hc x2 HQ.out.1, w_thou hc y2 HQ.out.2⟩
  generalize floatOfInt .f64 x1 = u1 at *
  generalize floatOfInt .f64 y1 = u2 at *
  generalize floatOfInt .f64 x2 = v1 at *
  generalize floatOfInt .f64 y2 = v2 at *
  have lu : Py.Le (x1, y1) 1500 := le_thousand HP.out.1 HP.out.2
  have lv : Py.Le (x2, y2) 1500 := le_thousand HQ.out.1 HQ.out.2
  have OF : Hid (∀ wz : World, Bw w5 wz → ∀ b, b < wz.heap.size → wz.cell? ⟨b, 0, none⟩ = some (.complex .f64 u1 u2) → wz.cell? ⟨b, 1, none⟩ = some (.complex .f64 v1 v2) →
      Calls Tryz.prog 7 #[.slice (some ⟨b, 0, none⟩) 2 2] wz fun e w' => ∃ B' l, e = .returned (.tuple #[.slice (some ⟨B', 0, none⟩) 3 3, .int .i64 0]) ∧ May 2 l ∧ Gl c w' B' 0 l ∧ Bw w5 w' ∧ Py.co l 0 = Py.gm (x1, y1) (x2, y2) ∧ Py.co l 1 = Py.gn (Py.ga (x1, y1) (x2, y2)) ∧ Py.co l 2 = (1, 0)) := by
    intro wz hz b hb e0 e1
    have gl : Gl c wz b 0 [(x1, y1), (x2, y2)] := by
      refine ⟨hb, fun i hi => ?_⟩
      match i, hi with
      | 0, _ => exact ⟨u1, u2, e0, U⟩
      | 1, _ => exact ⟨v1, v2, e1, V⟩
    refine (of8 (m := 2) (cap := 2) (Z := 1500) hc rfl (by decide) gl (fun i => ?_) (by decide) (by decide)).mono ?_
    · match i with
      | 0 => exact lu
      | 1 => exact lv
      | i + 2 => exact Py.Le.nought _
    · rintro e w' ⟨B', m, l, rfl, hm, hm3, hgl, _, hbw, hco⟩
      obtain ⟨q0, q1, q2, q3⟩ := ofl_two (x1, y1) (x2, y2)
      have hm2 : m = 2 := by
        have h1 := hco 2
        rw [q2] at h1
        have h2 := hm.1
        rcases Nat.lt_or_ge 2 l.length with k | k
        · omega
        · rw [Py.co_out k] at h1
          exact absurd h1 (by decide)
      subst hm2
      exact ⟨B', l, rfl, hm, hgl, bw_trans hz hbw, by rw [hco, q0], by rw [hco, q1], by rw [hco, q2]⟩
  have HC := hide hc
  have HU := hide U
  have HV := hide V
  have L1 := U.1.lt
  have L2 := U.2.lt
  have L3 := V.1.lt
  have L4 := V.2.lt
  clear U V lu lv hc
  have NE : Hid (∀ a1 a2 x y (g : Py.G) wz, clC c a1 a2 g → wC c x y g → Calls Tryz.prog 9 #[.complex .f64 a1 a2, .complex .f64 x y, .float .f64 4472074429978902528] wz fun e w' => e = .returned (.bool true) ∧ Bw wz w') := by
    intro a1 a2 x y g wz ha hx
    refine (near_any6 a1 a2 x y 4472074429978902528 wz ha.1.1 ha.2.1 hx.1.lt hx.2.lt).mono ?_
    rintro e w' ⟨r, rfl, hr, hb⟩
    rw [near9 HC.out ha hx hr]
    exact ⟨rfl, hb⟩
  have NA : Hid (∀ a1 a2 x y wz, a1 < 18446744073709551616 → a2 < 18446744073709551616 → x < 18446744073709551616 → y < 18446744073709551616 → Calls Tryz.prog 9 #[.complex .f64 a1 a2, .complex .f64 x y, .float .f64 4472074429978902528] wz fun e w' => ∃ r, e = .returned (.bool r) ∧ Bw wz w') := by
    intro a1 a2 x y wz h1 h2 h3 h4
    refine (near_any6 a1 a2 x y 4472074429978902528 wz h1 h2 h3 h4).mono ?_
    rintro e w' ⟨r, rfl, hr, hb⟩
    exact ⟨r, rfl, hb⟩
  go_wp2_with fail
  refine (OF.out _ (Below.alloc (Bw.refl w5) (Nat.le_refl _) _) _ (by simp) (by simp) (by simp)).mono ?_
  rintro e w6 ⟨Bl, l, rfl, hm, hgl, b6, q0, q1, q2⟩
  have SQ := hide (square9 (cap := 3) HC.out hm hgl q0 q1 q2 HP.out.1 HP.out.2 HQ.out.1 HQ.out.2)
  replace G := hide (bw_trans G.out b6)
  clear OF hm hgl q0 q1 q2 b6 HP HQ
  go_wp2_with fail
  refine SQ.out.mono ?_
  rintro e w7 ⟨a1, a2, b1, b2, rfl, b7, hab⟩
  replace G := hide (bw_trans G.out b7)
  clear SQ b7
  have A1 : a1 < 18446744073709551616 := by rcases hab with h | h; exact h.1.1.1; exact h.1.1.1
  have A2 : a2 < 18446744073709551616 := by rcases hab with h | h; exact h.1.2.1; exact h.1.2.1
  have A3 : b1 < 18446744073709551616 := by rcases hab with h | h; exact h.2.1.1; exact h.2.1.1
  have A4 : b2 < 18446744073709551616 := by rcases hab with h | h; exact h.2.2.1; exact h.2.2.1
  rcases hab with ⟨ha, hb⟩ | ⟨ha, hb⟩
  · have HA := hide ha
    have HB := hide hb
    clear ha hb
    go_wp2_with fail
    refine (NE.out a1 a2 u1 u2 _ _ HA.out HU.out).mono ?_
    rintro e w8 ⟨rfl, b8⟩
    replace G := hide (bw_trans G.out b8)
    clear b8
    go_wp2_with fail
    refine (NE.out b1 b2 v1 v2 _ _ HB.out HV.out).mono ?_
    rintro e w9 ⟨rfl, b9⟩
    replace G := hide (bw_trans G.out b9)
    clear b9
    go_wp2_with fail
    refine (NA.out a1 a2 v1 v2 _ A1 A2 L3 L4).mono ?_
    rintro e w10 ⟨r, rfl, b10⟩
    replace G := hide (bw_trans G.out b10)
    clear b10
    cases r
    · go_wp2
      go_ret
      exact ⟨rfl, G.out⟩
    · go_wp2_with fail
      refine (NA.out b1 b2 u1 u2 _ A3 A4 L1 L2).mono ?_
      rintro e w11 ⟨r, rfl, b11⟩
      replace G := hide (bw_trans G.out b11)
      clear b11
      go_wp2
      go_ret
      exact ⟨rfl, G.out⟩
  · have HA := hide ha
    have HB := hide hb
    clear ha hb
    have last : Hid (∀ wz, Bw w wz → Calls Tryz.prog 9 #[.complex .f64 a1 a2, .complex .f64 v1 v2, .float .f64 4472074429978902528] wz fun e w' => e = .returned (.bool true) ∧ Bw w w') := fun wz hz =>
      (NE.out a1 a2 v1 v2 _ wz HA.out HV.out).mono fun e w' ⟨h1, h2⟩ => ⟨h1, bw_trans hz h2⟩
    have last2 : Hid (∀ wz, Bw w wz → Calls Tryz.prog 9 #[.complex .f64 b1 b2, .complex .f64 u1 u2, .float .f64 4472074429978902528] wz fun e w' => e = .returned (.bool true) ∧ Bw w w') := fun wz hz =>
      (NE.out b1 b2 u1 u2 _ wz HB.out HU.out).mono fun e w' ⟨h1, h2⟩ => ⟨h1, bw_trans hz h2⟩
    clear NE HA HB HU HV
    go_wp2_with fail
    refine (NA.out a1 a2 u1 u2 _ A1 A2 L1 L2).mono ?_
    rintro e w8 ⟨r, rfl, b8⟩
    replace G := hide (bw_trans G.out b8)
    clear b8
    cases r
    · go_wp2_with fail
      refine (last.out _ G.out).mono ?_
      rintro e w9 ⟨rfl, b9⟩
      replace G := hide b9
      clear b9
      go_wp2_with fail
      refine (last2.out _ G.out).mono ?_
      rintro e w10 ⟨rfl, b10⟩
      replace G := hide b10
      clear b10
      go_wp2
      go_ret
      exact ⟨rfl, G.out⟩
    · go_wp2_with fail
      refine (NA.out b1 b2 v1 v2 _ A3 A4 L3 L4).mono ?_
      rintro e w9 ⟨r, rfl, b9⟩
      replace G := hide (bw_trans G.out b9)
      clear b9
      go_wp2_with fail
      refine (last.out _ G.out).mono ?_
      rintro e w10 ⟨rfl, b10⟩
      replace G := hide b10
      clear b10
      go_wp2_with fail
      refine (last2.out _ G.out).mono ?_
      rintro e w11 ⟨rfl, b11⟩
      replace G := hide b11
      clear b11
      cases r
      · go_wp2
        go_ret
        exact ⟨rfl, G.out⟩
      · go_wp2
        go_ret
        exact ⟨rfl, G.out⟩
end Go.Proofs.YtggphakliiodeaaGreatDoor
