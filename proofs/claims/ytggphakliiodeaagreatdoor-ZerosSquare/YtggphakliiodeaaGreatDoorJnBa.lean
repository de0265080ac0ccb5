/-
  OWN TEXT: zeros.halfSum of whole zeros: the call.
-/
import Derived.Test.YtggphakliiodeaaGreatDoorZqH
import Derived.Test.YtggphakliiodeaaGreatDoorJnAz
namespace Go.Proofs.YtggphakliiodeaaGreatDoor
open Go.ChangeShapes Go.WideShapes Go.ChangeAt Go.RowKit
set_option linter.unusedVariables false
theorem disc_alg (u v : Py.G) : Py.gs (Py.gm (Py.gn (Py.ga u v)) (Py.gn (Py.ga u v))) (Py.gm (g4 (1, 0)) (Py.gm u v)) =
    ((u.1 - v.1) * (u.1 - v.1) - (u.2 - v.2) * (u.2 - v.2), 2 * ((u.1 - v.1) * (u.2 - v.2))) := by
  refine Py.gext ?_ ?_
  · simp only [Py.gs, Py.gm, Py.gn, Py.ga, g4]; grind
  · simp only [Py.gs, Py.gm, Py.gn, Py.ga, g4]; grind
theorem gn_gn (q : Py.G) : Py.gn (Py.gn q) = q := Py.gext (Int.neg_neg _) (Int.neg_neg _)
theorem gn_gs (u v : Py.G) : Py.gn (Py.gs u v) = Py.gs v u := Py.gext (by unfold Py.gn Py.gs; simp only; omega) (by unfold Py.gn Py.gs; simp only; omega)
set_option maxHeartbeats 1000000 in
theorem halfSum9 {c a1 a2 b1 b2 c1 c2 : Nat} {u v : Py.G} (hc : c = 1074) (ha : wC c a1 a2 (1, 0)) (hb : wC c b1 b2 (Py.gn (Py.ga u v))) (hcc : wC c c1 c2 (Py.gm u v)) (hu1 : u.1.natAbs ≤ 1000) (hu2 : u.2.natAbs ≤ 1000) (hv1 : v.1.natAbs ≤ 1000) (hv2 : v.2.natAbs ≤ 1000) (w : World) :
    Calls Tryz.prog 18 #[.complex .f64 a1 a2, .complex .f64 b1 b2, .complex .f64 c1 c2] w fun e w' => ∃ r s q, e = .returned (.complex .f64 r s) ∧ wC c r s q ∧ (q = u ∨ q = v) ∧ (q = (0, 0) → u = (0, 0) ∧ v = (0, 0)) ∧ Bw w w' := by
  have lu := le_thousand hu1 hu2
  have lv := le_thousand hv1 hv2
  have lb : Py.Le (Py.gn (Py.ga u v)) 3000 := (lu.add lv).neg
  have lc : Py.Le (Py.gm u v) 2250000 := lu.mul lv
  have l4 : Py.Le (g4 (1, 0)) 4 := by unfold Py.Le g4; decide
  obtain ⟨x1, x2, X, CX⟩ := pmul8 hc hb hb lb lb (by decide)
  obtain ⟨y1, y2, Y, CY⟩ := pscale4 hc ha (by decide) (by decide)
  obtain ⟨z1, z2, Z, CZ⟩ := pmul8 hc Y hcc l4 lc (by decide)
  obtain ⟨d1, d2, D, CD⟩ := psub9 hc X Z (lb.mul lb) (l4.mul lc) (by decide)
  rw [disc_alg] at D
  have R : ∀ re im, rooR d1 d2 re im → ∃ s, (s = Py.gs u v ∨ s = Py.gs v u) ∧ wC c re im s := by
    intro re im h
    rcases roo_whole hc D.1 D.2 (by omega) (by omega) h with ⟨k1, k2⟩ | ⟨k1, k2⟩
    · exact ⟨Py.gs u v, Or.inl rfl, k1, k2⟩
    · refine ⟨Py.gs v u, Or.inr rfl, ?_⟩
      rw [← gn_gs]
      exact ⟨k1, k2⟩
  have HX := hide CX
  have HY := hide CY
  have HZ := hide CZ
  have HD := hide CD
  have HR := hide R
  have L1 := D.1.1
  have L2 := D.2.1
  have HB := hide hb
  have HC := hide hc
  have LB := hide lb
  have HU := hide (And.intro (And.intro hu1 hu2) (And.intro hv1 hv2))
  clear CX CY CZ CD R X Y Z D ha hcc lu lv lc l4 hb hc lb hu1 hu2 hv1 hv2
  go_enter Tryz.func18, Tryz.ntmps18
  go_wp2_with fail
  refine (HX.out _).mono ?_
  rintro e' w9 ⟨rfl, hw9⟩
  subst hw9
  go_wp2_with fail
  refine (HY.out _).mono ?_
  rintro e' w9 ⟨rfl, hw9⟩
  subst hw9
  go_wp2_with fail
  refine (HZ.out _).mono ?_
  rintro e' w9 ⟨rfl, hw9⟩
  subst hw9
  go_wp2_with fail
  refine (HD.out _).mono ?_
  rintro e' w9 ⟨rfl, hw9⟩
  subst hw9
  go_wp2_with fail
  refine (root_any6 d1 d2 _ L1 L2).mono ?_
  rintro e' w1 ⟨s1, s2, rfl, hr, bw1⟩
  obtain ⟨s, hs, S⟩ := HR.out s1 s2 hr
  clear HX HY HZ HD HR hr L1 L2
  have ls : s.1.natAbs ≤ 2000 ∧ s.2.natAbs ≤ 2000 := by
    obtain ⟨⟨k1, k2⟩, k3, k4⟩ := HU.out
    rcases hs with rfl | rfl
    · unfold Py.gs; simp only; omega
    · unfold Py.gs; simp only; omega
  obtain ⟨bb1, bb2⟩ := LB.out.one
  obtain ⟨p1, P1, e1⟩ := w_mul HC.out HB.out.1 S.1 (by rw [Int.natAbs_mul]; exact Nat.le_trans (Nat.mul_le_mul bb1 ls.1) (by decide))
  obtain ⟨p2, P2, e2⟩ := w_mul HC.out HB.out.2 S.2 (by rw [Int.natAbs_mul]; exact Nat.le_trans (Nat.mul_le_mul bb2 ls.2) (by decide))
  obtain ⟨p3, P3, e3⟩ := w_add HC.out P1 P2 (by
    refine Nat.le_trans (Zq.nabs_add _ _) ?_
    rw [Int.natAbs_mul, Int.natAbs_mul]
    exact Nat.le_trans (Nat.add_le_add (Nat.mul_le_mul bb1 ls.1) (Nat.mul_le_mul bb2 ls.2)) (by decide))
  have og := Fl.o_lt p3 0
  rw [P3.ltF (w_nought c)] at og
  have LS : Py.Le s 3000 := by
    obtain ⟨⟨k1, k2⟩, k3, k4⟩ := HU.out
    rcases hs with rfl | rfl
    · exact (le_thousand k1 k2).sub (le_thousand k3 k4)
    · exact (le_thousand k3 k4).sub (le_thousand k1 k2)
  -- the end of the walk, for a root whose sign is right
  have fin : ∀ s', (s' = Py.gs u v ∨ s' = Py.gs v u) → 0 ≤ (Py.gn (Py.ga u v)).1 * s'.1 + (Py.gn (Py.ga u v)).2 * s'.2 → ∀ r1 r2, wC c r1 r2 s' → Py.Le s' 3000 →
      ∃ t1 t2 q1 q2 q, wC c q1 q2 q ∧ (q = u ∨ q = v) ∧ (q = (0, 0) → u = (0, 0) ∧ v = (0, 0)) ∧ (∀ w, Calls Tryz.prog 51 #[.complex .f64 b1 b2, .complex .f64 r1 r2] w fun e w' => e = .returned (.complex .f64 t1 t2) ∧ w' = w) ∧
        ∀ w, Calls Tryz.prog 50 #[.complex .f64 t1 t2, .float .f64 13826050856027422720] w fun e w' => e = .returned (.complex .f64 q1 q2) ∧ w' = w := by
    intro s' hs' hd r1 r2 W LW
    obtain ⟨q, hq, eq, z⟩ := half_alg u v s' hs'
    obtain ⟨t1, t2, T, CT⟩ := padd8 HC.out HB.out W LB.out LW (by decide)
    rw [eq] at T
    have lq : q.1.natAbs ≤ 1000 ∧ q.2.natAbs ≤ 1000 := by
      obtain ⟨⟨k1, k2⟩, k3, k4⟩ := HU.out
      rcases hq with rfl | rfl
      · exact ⟨k1, k2⟩
      · exact ⟨k3, k4⟩
    obtain ⟨q1, q2, Q, CQ⟩ := pscaleh HC.out T (by unfold Py.gn; simp only; omega) (by unfold Py.gn; simp only; omega)
    rw [gn_gn] at Q
    exact ⟨t1, t2, q1, q2, q, Q, hq, z hd, CT, CQ⟩
  have b1H := hide bw1
  by_cases k : (Py.gn (Py.ga u v)).1 * s.1 + (Py.gn (Py.ga u v)).2 * s.2 < 0
  · obtain ⟨n1, n2, N, CN⟩ := pneg8 S
    obtain ⟨t1, t2, q1, q2, q, Q, hq, z, CT, CQ⟩ := fin (Py.gn s) (by rcases hs with rfl | rfl; exact Or.inr (gn_gs u v); exact Or.inl (gn_gs v u)) (by
      unfold Py.gn at k ⊢
      simp only [Int.mul_neg] at k ⊢
      omega) n1 n2 N LS.neg
    have HN := hide CN
    have HT := hide CT
    have HQ := hide CQ
    have FQ := hide (And.intro Q (And.intro hq z))
    rw [decide_eq_true k] at og
    clear fin k CN CT CQ Q hq z N S hs ls bb1 bb2 P1 P2 P3 LS HU LB HB HC bw1
    go_wp2_with fail
    refine (HN.out _).mono ?_
    rintro e' w9 ⟨rfl, hw9⟩
    subst hw9
    go_wp2_with fail
    refine (HT.out _).mono ?_
    rintro e' w9 ⟨rfl, hw9⟩
    subst hw9
    go_wp2_with fail
    refine (HQ.out _).mono ?_
    rintro e' w9 ⟨rfl, hw9⟩
    subst hw9
    go_wp2
    go_ret
    exact ⟨q1, q2, q, rfl, FQ.out.1, FQ.out.2.1, FQ.out.2.2, b1H.out⟩
  · obtain ⟨t1, t2, q1, q2, q, Q, hq, z, CT, CQ⟩ := fin s hs (by omega) s1 s2 S LS
    have HT := hide CT
    have HQ := hide CQ
    have FQ := hide (And.intro Q (And.intro hq z))
    rw [decide_eq_false k] at og
    clear fin k CT CQ Q hq z S hs ls bb1 bb2 P1 P2 P3 LS HU LB HB HC bw1
    go_wp2_with fail
    refine (HT.out _).mono ?_
    rintro e' w9 ⟨rfl, hw9⟩
    subst hw9
    go_wp2_with fail
    refine (HQ.out _).mono ?_
    rintro e' w9 ⟨rfl, hw9⟩
    subst hw9
    go_wp2
    go_ret
    exact ⟨q1, q2, q, rfl, FQ.out.1, FQ.out.2.1, FQ.out.2.2, b1H.out⟩
end Go.Proofs.YtggphakliiodeaaGreatDoor
/-
  OWN TEXT: parts.Order tells something; zeros.isNought.
-/
namespace Go.Proofs.YtggphakliiodeaaGreatDoor
open Go.ChangeShapes Go.WideShapes Go.ChangeAt Go.RowKit
set_option linter.unusedVariables false
attribute [local go_sem] frombits_call tobits_call run_neg
theorem znought9 {c x y : Nat} {g : Py.G} (hg : wC c x y g) (w : World) : Calls Tryz.prog 19 #[.complex .f64 x y] w fun e w' => e = .returned (.bool (decide (g = (0, 0)))) ∧ w' = w := by
  have P : Hid (∀ wz, Calls Tryz.prog 52 #[.complex .f64 x y, .complex .f64 0 0] wz fun e w' => e = .returned (.bool (decide (g = (0, 0)))) ∧ w' = wz) := fun wz => plike8 hg (wC.nought c) wz
  clear hg
  generalize decide (g = (0, 0)) = p at *
  go_enter Tryz.func19, Tryz.ntmps19
  go_wp2_with fail
  refine (P.out _).mono ?_
  rintro e' w ⟨rfl, rfl⟩
  go_wp2
  go_ret
  exact ⟨rfl, rfl⟩
theorem alike9 (a b : Nat) (ha : a < 18446744073709551616) (hb : b < 18446744073709551616) (w : World) : Calls Tryz.prog 90 #[.float .f64 a, .float .f64 b] w fun e w' => ∃ p, e = .returned (.bool p) ∧ w' = w := by
  have SA : Hid (∀ wz, Calls Tryz.prog 119 #[.float .f64 a, .float .f64 b] wz fun e w' => e = .returned (.bool (Fl.sameB a b)) ∧ w' = wz) := fun wz => same_any a b wz
  have o := Fl.o_eq a b
  cases q : Fl.eqF a b
  · rw [q] at o
    clear q
    generalize Fl.sameB a b = p at *
    go_enter Tryz.func90, Tryz.ntmps90
    go_wp2_with fail
    refine (SA.out _).mono ?_
    rintro e' w ⟨rfl, rfl⟩
    go_wp2
    go_ret
    exact ⟨p, rfl, rfl⟩
  · rw [q] at o
    clear q SA
    go_enter Tryz.func90, Tryz.ntmps90
    go_wp2
    go_ret
    exact ⟨true, rfl, rfl⟩
/-- order tells 0, -1 or 1 -/
theorem ord9 (a b : Nat) (ha : a < 18446744073709551616) (hb : b < 18446744073709551616) (nb : Fl.nan b = false) (w : World) : Calls Tryz.prog 55 #[.float .f64 a, .float .f64 b] w fun e w' => ∃ n : Int, e = .returned (.int .i64 n) ∧ (n = 0 ∨ n = -1 ∨ n = 1) ∧ w' = w := by
  have SA := hide (alike9 a b ha hb w)
  have o := Fl.o_lt a b
  have o2 := Fl.o_eq b b
  have o3 : Fl.eqF b b = true := by rw [Fl.eqF_of nb nb]; exact decide_eq_true rfl
  rw [o3] at o2
  have o4 : (FloatKind.f64.format.order b b != some Ordering.eq) = false := by unfold bne; rw [o2]; rfl
  clear o3 nb ha hb
  go_enter Tryz.func55, Tryz.ntmps55
  go_wp2_with fail
  refine SA.out.mono ?_
  rintro e' w ⟨p, rfl, rfl⟩
  clear SA
  cases p
  · cases q : Fl.ltF a b
    · rw [q] at o
      clear q
      go_wp2
      go_ret
      exact ⟨1, rfl, by simp, rfl⟩
    · rw [q] at o
      clear q
      go_wp2
      go_ret
      exact ⟨-1, rfl, by simp, rfl⟩
  · go_wp2
    go_ret
    exact ⟨0, rfl, by simp, rfl⟩
theorem pord9 (a b x y : Nat) (ha : a < 18446744073709551616) (hb : b < 18446744073709551616) (hx : x < 18446744073709551616) (hy : y < 18446744073709551616) (nx : Fl.nan x = false) (ny : Fl.nan y = false) (w : World) : Calls Tryz.prog 22 #[.complex .f64 a b, .complex .f64 x y] w fun e w' => ∃ n : Int, e = .returned (.int .i64 n) ∧ (n = 0 ∨ n = -1 ∨ n = 1) ∧ w' = w := by
  have S1 := hide (ord9 a x ha hx nx w)
  have S2 := hide (ord9 b y hb hy ny w)
  clear ha hb hx hy nx ny
  go_enter Tryz.func22, Tryz.ntmps22
  go_wp2_with fail
  refine S1.out.mono ?_
  rintro e' w ⟨n, rfl, hn, rfl⟩
  clear S1
  rcases hn with rfl | rfl | rfl
  · go_wp2_with fail
    refine S2.out.mono ?_
    rintro e' w ⟨n, rfl, hn, rfl⟩
    have HN := hide hn
    clear hn
    go_wp2
    go_ret
    exact ⟨n, rfl, HN.out, rfl⟩
  · go_wp2
    go_ret
    exact ⟨-1, rfl, by simp, rfl⟩
  · go_wp2
    go_ret
    exact ⟨1, rfl, by simp, rfl⟩
end Go.Proofs.YtggphakliiodeaaGreatDoor
/-
  OWN TEXT: what is near a whole number but for 2^-33 is near it but for 2^-30 by roots.Near.
-/
namespace Go.Proofs.YtggphakliiodeaaGreatDoor
set_option linter.unusedVariables false
def clC (c x y : Nat) (g : Py.G) : Prop := clo c x g.1 ∧ clo c y g.2
theorem wI.clo {c x : Nat} {n : Int} (h : wI c x n) : clo c x n := by
  refine ⟨h.1, h.2.1, ?_⟩
  rw [h.2.2, Int.sub_self]
  exact Nat.zero_le _
theorem wC.clo {c x y : Nat} {g : Py.G} (h : wC c x y g) : clC c x y g := ⟨h.1.clo, h.2.clo⟩
theorem clo.nan {c x : Nat} {n : Int} (h : clo c x n) : Fl.nan x = false := by unfold Fl.nan; exact decide_eq_false (by have := h.2.1; omega)
theorem tiny_vl : ∀ c, c = 1074 → 1073741824 * Fl.vl 4472074429978902528 = 2 ^ c := by rintro _ rfl; decide +kernel
theorem near_lin {d e U : Nat} (hU : 1267650600228229401496703205376 ≤ U) (h1 : 8589934592 * d ≤ U) (h2 : 4503599627370496 * e ≤ d + 4503599627370496) : 4294967296 * (d + e) ≤ U := by omega
/-- a difference of such a part -/
theorem sub9 {c a x r : Nat} {n : Int} (hc : c = 1074) (ha : clo c a n) (hx : wI c x n) (h : opR .sub a x r) : r < 18446744073709551616 ∧ Fl.rg r < 9218868437227405312 ∧ 4294967296 * Fl.vl (Fl.rg r) ≤ 2 ^ c := by
  have hU := unit_le hc
  obtain ⟨a1, a2, a3⟩ := ha
  rw [← hx.2.2] at a3
  have e := Fl.sub_fin hx.1 a2 hx.2.1
  have hr := op_some h e
  have hb : (Fl.val a - Fl.val x).natAbs ≤ 1125899906842624 * 2 ^ c := by
    generalize (Fl.val a - Fl.val x).natAbs = d at *
    omega
  have k := sum_nr (c := c) (n := Fl.val a - Fl.val x) (s := if Fl.val a - Fl.val x = 0 then Fl.sg a && !Fl.sg x else decide (Fl.val a - Fl.val x < 0)) hc (fun z => by rw [if_neg z]) hb
  rw [← hr] at k
  obtain ⟨k1, k2, k3⟩ := k
  refine ⟨k1, k2, ?_⟩
  have t := Zq.nabs_add (Fl.val a - Fl.val x) (Fl.val r - (Fl.val a - Fl.val x))
  rw [show Fl.val a - Fl.val x + (Fl.val r - (Fl.val a - Fl.val x)) = Fl.val r by rw [Int.add_comm, Int.sub_add_cancel], val_natAbs] at t
  exact Nat.le_trans (Nat.mul_le_mul_left _ t) (near_lin hU a3 k3)
theorem tot_lin {a b t e U : Nat} (hU : 1267650600228229401496703205376 ≤ U) (h1 : 4294967296 * a ≤ U) (h2 : 4294967296 * b ≤ U) (h3 : t ≤ a + b + e) (h4 : 4503599627370496 * e ≤ a + b + 4503599627370496) : 1073741824 * t < U := by omega
theorem near9 {c a1 a2 x1 x2 : Nat} {g : Py.G} {r : Bool} (hc : c = 1074) (ha : clC c a1 a2 g) (hx : wC c x1 x2 g) (h : neaR a1 a2 x1 x2 4472074429978902528 r) : r = true := by
  obtain ⟨dx, dy, l, h1, h2, h3, rfl⟩ := h
  obtain ⟨p1, p2, p3⟩ := sub9 hc ha.1 hx.1 h1
  obtain ⟨q1, q2, q3⟩ := sub9 hc ha.2 hx.2 h2
  have hU := unit_le hc
  have n1 : Fl.nan dx = false := by unfold Fl.nan; exact decide_eq_false (by omega)
  have n2 : Fl.nan dy = false := by unfold Fl.nan; exact decide_eq_false (by omega)
  obtain ⟨s1, s2, s3, s4⟩ := len_bounds h3 n1 n2
  obtain ⟨o, _⟩ := run_some (op := .add) (Fl.add_fin (x := Fl.rg dx) (y := Fl.rg dy) (by rw [rg_rg6]; exact p2) (by rw [rg_rg6]; exact q2))
  obtain ⟨t1, t2, t3⟩ := s4 _ o
  have vx : Fl.val (Fl.rg dx) = (Fl.vl (Fl.rg dx) : Nat) := by unfold Fl.val; rw [sg_rg6, if_neg (by decide), rg_rg6]
  have vy : Fl.val (Fl.rg dy) = (Fl.vl (Fl.rg dy) : Nat) := by unfold Fl.val; rw [sg_rg6, if_neg (by decide), rg_rg6]
  rw [vx, vy] at t3
  have hb : ((Fl.vl (Fl.rg dx) : Int) + (Fl.vl (Fl.rg dy) : Int)).natAbs ≤ 1125899906842624 * 2 ^ c := by
    rw [← Int.natCast_add, Int.natAbs_natCast]
    generalize Fl.vl (Fl.rg dx) = a at *
    generalize Fl.vl (Fl.rg dy) = b at *
    clear vx vy t3 o s4
    omega
  have k := sum_nr (c := c) (s := if (Fl.vl (Fl.rg dx) : Int) + (Fl.vl (Fl.rg dy) : Int) = 0 then Fl.sg (Fl.rg dx) && Fl.sg (Fl.rg dy) else decide ((Fl.vl (Fl.rg dx) : Int) + (Fl.vl (Fl.rg dy) : Int) < 0)) hc (fun z => by rw [if_neg z]) hb
  generalize Fl.wd _ _ = t at k t3
  obtain ⟨k1, k2, k3⟩ := k
  rw [← Int.natCast_add, Int.natAbs_natCast] at k3
  have hv := Zq.nabs_add ((Fl.vl (Fl.rg dx) + Fl.vl (Fl.rg dy) : Nat) : Int) (Fl.val t - ((Fl.vl (Fl.rg dx) + Fl.vl (Fl.rg dy) : Nat) : Int))
  rw [show ((Fl.vl (Fl.rg dx) + Fl.vl (Fl.rg dy) : Nat) : Int) + (Fl.val t - ((Fl.vl (Fl.rg dx) + Fl.vl (Fl.rg dy) : Nat) : Int)) = Fl.val t by rw [Int.add_comm, Int.sub_add_cancel], val_natAbs, Int.natAbs_natCast] at hv
  have hlt := tot_lin hU p3 q3 hv k3
  rw [← tiny_vl c hc] at hlt
  have ht : Fl.rg t < 4472074429978902528 := by
    rcases Nat.lt_or_ge (Fl.rg t) 4472074429978902528 with z | z
    · exact z
    · have := vl_le9 z
      have h5 := Nat.lt_of_mul_lt_mul_left hlt
      exact absurd h5 (Nat.not_lt.2 this)
  have nl : Fl.nan l = false := by unfold Fl.nan; exact decide_eq_false (by omega)
  rw [Fl.leF_of nl (by decide)]
  unfold Fl.key
  rw [s1, if_neg (by decide), show Fl.sg 4472074429978902528 = false by decide, if_neg (by decide), show Fl.rg 4472074429978902528 = 4472074429978902528 by decide]
  exact decide_eq_true (by omega)
end Go.Proofs.YtggphakliiodeaaGreatDoor
