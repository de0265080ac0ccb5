/-
 OWN TEXT: the law ChartGroup, over contracts of what it calls.
-/
import Derived.Test.YtfgfofedacehiaaGreatJChJToChK
import Derived.Test.YtfgfofedacehiaaGreatJChLToChG
import Derived.Test.YtfgfofedacehiaaGreatJElHToElI
import Derived.Test.YtfgfofedacehiaaGreatJChAToChD
import Derived.Test.YtfgfofedacehiaaGreatJChN
namespace Go.Proofs.YtfgfofedacehiaaGreat
open Go.ChangeShapes Go.WideShapes Go.ChangeAt Go.RowKit
set_option linter.unusedVariables false
set_option linter.unusedSimpArgs false
attribute [local go_sem] frombits_call tobits_call run_neg El.run_store_cx El.run_store_fl
end Go.Proofs.YtfgfofedacehiaaGreat

/-
 OWN TEXT: ChartGroup, for every input.
-/
namespace Go.Proofs.YtfgfofedacehiaaGreat
open Go.ChangeShapes Go.WideShapes Go.ChangeAt Go.RowKit
set_option linter.unusedVariables false
theorem Ch.le12 {x y : Int} (h : x.natAbs ≤ 8 ∧ y.natAbs ≤ 8) : Py.Le (x, y) 12 := by
 have e : ∀ x : Int, x.natAbs ≤ 8 → x * x ≤ 64 := by
  intro x h
  have k := Nat.mul_le_mul h h
  have e : x * x = ((x.natAbs * x.natAbs : Nat) : Int) := Int.natAbs_mul_self.symm
  omega
 have h1 := e x h.1
 have h2 := e y h.2
 unfold Py.Le
 show x * x + y * y ≤ _
 omega
theorem Ch.wC8 {x y : Int} (h : x.natAbs ≤ 8 ∧ y.natAbs ≤ 8) : wC 1074 (floatOfInt .f64 x) (floatOfInt .f64 y) (x, y) := ⟨(El.wP_thou x (by omega)).1, (El.wP_thou y (by omega)).1⟩
end Go.Proofs.YtfgfofedacehiaaGreat

/-
 OWN TEXT: ChartThree, for every input.
-/
namespace Go.Proofs.YtfgfofedacehiaaGreat
open Go.ChangeShapes Go.WideShapes Go.ChangeAt Go.RowKit
set_option linter.unusedVariables false
theorem near18 {x y a b : Nat} {g : Py.G} (h : clC 1074 x y g) (hx : wC 1074 a b g) (w : World) : Calls Tryz.prog 13 #[.complex .f64 x y, .complex .f64 a b, .float .f64 4472074429978902528] w fun e w' => e = .returned (.bool true) ∧ Bw w w' :=
 (near_any6 x y a b _ w h.1.1 h.2.1 hx.1.1 hx.2.1).mono (by
  rintro e' w' ⟨r, rfl, hn, bb⟩
  have q := near9 rfl h hx hn
  subst q
  exact ⟨rfl, bb⟩)
theorem Ch.Lq.ofp {a b c : Py.G} (la : Py.Le a 12) (lb : Py.Le b 12) (lc : Py.Le c 12) : Ch.Lq (Ch.ofp a b c) 288 :=
 ⟨(lb.sub lc).mono (by decide), (la.mul (lb.sub lc)).neg, (lb.sub la).mono (by decide), (lc.mul (lb.sub la)).neg⟩
theorem at3 {o1 o1' o2 o2' o3 o3' o4 o4' z z' : Nat} {m : Ch.Mq} {g v : Py.G} (ho : Ch.W8 o1 o1' o2 o2' o3 o3' o4 o4' m) (lm : Ch.Lq m 165888) (hz : wC 1074 z z' g) (lz : Py.Le g 12) (hd : Ch.dt m ≠ (0, 0)) (h0 : Ch.lo m g ≠ (0, 0)) (hv1 : v.1.natAbs ≤ 8) (hv2 : v.2.natAbs ≤ 8) (lv : Py.Le v 12) (e : Ch.up m g = Py.gm v (Ch.lo m g)) (w : World) :
  Calls Tryz.prog 11 #[.agg #[.int .u8 1, .complex .f64 o1 o1', .complex .f64 o2 o2', .complex .f64 o3 o3', .complex .f64 o4 o4', .float .f64 0], .complex .f64 z z'] w fun e w' => ∃ x y, e = .returned (.tuple #[.complex .f64 x y, .int .i64 0]) ∧ clC 1074 x y v ∧ Bw w w' := by
 have ll : Py.Le (Ch.lo m g) 2156544 := (lm.2.2.1.mul lz).add lm.2.2.2
 have lu : Py.Le (Py.gm v (Ch.lo m g)) 25878528 := lv.mul ll
 refine at18_all ho lm hz lz (by decide) (by decide) (by decide) (by decide) hd h0 (Q := fun x y => clC 1074 x y v) ?_ ?_ w
 ·
  intro u u' t t' x y hu ht q hx hy
  rw [e] at hu
  exact Sv.quo18 (K := 25878528) hu ht h0 lu (ll.mono (by decide)) (by decide) hv1 hv2 q
 ·
  intro x y h
  exact ⟨⟨h.1.1, h.1.2.1⟩, h.2.1, h.2.2.1⟩
theorem three_alike {a a' b b' c c' ta ta' tb tb' tc tc' : Nat} {g h k p q r : Py.G} (hg : wC 1074 a a' g) (hh : wC 1074 b b' h) (hk : wC 1074 c c' k) (hp : wC 1074 ta ta' p) (hq : wC 1074 tb tb' q) (hr : wC 1074 tc tc' r) (lg : Py.Le g 12) (lh : Py.Le h 12) (lk : Py.Le k 12) (lp : Py.Le p 12) (lq : Py.Le q 12) (lr : Py.Le r 12) (al : (decide (g = h) || decide (h = k) || decide (g = k) || (decide (p = q) || decide (q = r) || decide (p = r))) = true) :
  (∀ wz, Calls Tryz.prog 21 #[.agg #[.complex .f64 a a', .complex .f64 b b', .complex .f64 c c'], .agg #[.complex .f64 ta ta', .complex .f64 tb tb', .complex .f64 tc tc']] wz fun e w' => e = .returned (.tuple #[.agg #[.int .u8 0, .complex .f64 0 0, .complex .f64 0 0, .complex .f64 0 0, .complex .f64 0 0, .float .f64 0], .int .i64 180]) ∧ Bw wz w') := fun wz =>
 three18a (p := decide (g = h) || decide (h = k) || decide (g = k)) (q := decide (p = q) || decide (q = r) || decide (p = r)) al wz
  (hide (fun w => are18 hg hh hk (lg.mono (by decide)) (lh.mono (by decide)) (lk.mono (by decide)) w)) (hide (fun w => are18 hp hq hr (lp.mono (by decide)) (lq.mono (by decide)) (lr.mono (by decide)) w))
  (hide (fun w => two18 hg hh hk w)) (hide (fun w => two18 hp hq hr w))
theorem three_good {a a' b b' c c' ta ta' tb tb' tc tc' : Nat} {g h k p q r : Py.G} (hg : wC 1074 a a' g) (hh : wC 1074 b b' h) (hk : wC 1074 c c' k) (hp : wC 1074 ta ta' p) (hq : wC 1074 tb tb' q) (hr : wC 1074 tc tc' r) (lg : Py.Le g 12) (lh : Py.Le h 12) (lk : Py.Le k 12) (lp : Py.Le p 12) (lq : Py.Le q 12) (lr : Py.Le r 12) (sp : p.1.natAbs ≤ 8 ∧ p.2.natAbs ≤ 8) (sq : q.1.natAbs ≤ 8 ∧ q.2.natAbs ≤ 8) (sr : r.1.natAbs ≤ 8 ∧ r.2.natAbs ≤ 8) (d1 : g ≠ h) (d2 : h ≠ k) (d3 : g ≠ k) (d4 : p ≠ q) (d5 : q ≠ r) (d6 : p ≠ r) :
  ∃ o1 o1' o2 o2' o3 o3' o4 o4' : Nat, (∀ wz, Calls Tryz.prog 21 #[.agg #[.complex .f64 a a', .complex .f64 b b', .complex .f64 c c'], .agg #[.complex .f64 ta ta', .complex .f64 tb tb', .complex .f64 tc tc']] wz fun e w' => e = .returned (.tuple #[.agg #[.int .u8 1, .complex .f64 o1 o1', .complex .f64 o2 o2', .complex .f64 o3 o3', .complex .f64 o4 o4', .float .f64 0], .int .i64 0]) ∧ Bw wz w') ∧ (∀ wz, Calls Tryz.prog 11 #[.agg #[.int .u8 1, .complex .f64 o1 o1', .complex .f64 o2 o2', .complex .f64 o3 o3', .complex .f64 o4 o4', .float .f64 0], .complex .f64 a a'] wz fun e w' => ∃ x y, e = .returned (.tuple #[.complex .f64 x y, .int .i64 0]) ∧ clC 1074 x y p ∧ Bw wz w') ∧ (∀ wz, Calls Tryz.prog 11 #[.agg #[.int .u8 1, .complex .f64 o1 o1', .complex .f64 o2 o2', .complex .f64 o3 o3', .complex .f64 o4 o4', .float .f64 0], .complex .f64 b b'] wz fun e w' => ∃ x y, e = .returned (.tuple #[.complex .f64 x y, .int .i64 0]) ∧ clC 1074 x y q ∧ Bw wz w') ∧ (∀ wz, Calls Tryz.prog 11 #[.agg #[.int .u8 1, .complex .f64 o1 o1', .complex .f64 o2 o2', .complex .f64 o3 o3', .complex .f64 o4 o4', .float .f64 0], .complex .f64 c c'] wz fun e w' => ∃ x y, e = .returned (.tuple #[.complex .f64 x y, .int .i64 0]) ∧ clC 1074 x y r ∧ Bw wz w') := by
 obtain ⟨l1, l1', l2, l2', l3, l3', l4, l4', hl, OF1⟩ := ofp18 (M := 12) hg hh hk lg lh lk (by decide) (by decide)
 obtain ⟨m1, m1', m2, m2', m3, m3', m4, m4', hm, OF2⟩ := ofp18 (M := 12) hp hq hr lp lq lr (by decide) (by decide)
 have ll := Ch.Lq.ofp lg lh lk
 have lm := Ch.Lq.ofp lp lq lr
 have dl := Ch.ofp_ne d1 d2 d3
 have dm := Ch.ofp_ne d4 d5 d6
 have K1 : ∀ w, _ := fun w => checked18 hl ll (by decide) (by decide) dl w
 have K2 : ∀ w, _ := fun w => checked18 hm lm (by decide) (by decide) dm w
 obtain ⟨n2, n2', n3, n3', hn2, hn3, TU⟩ := turned18 hm lm (by decide) (by decide) dm
 have hn : Ch.W8 m4 m4' n2 n2' n3 n3' m1 m1' (Ch.trn (Ch.ofp p q r)) := ⟨hm.2.2.2, hn2, hn3, hm.1⟩
 have dn : Ch.dt (Ch.trn (Ch.ofp p q r)) ≠ (0, 0) := by rw [Ch.dt_trn]; exact dm
 obtain ⟨o1, o1', o2, o2', o3, o3', o4, o4', ho, TH⟩ := then18 (J := 165888) hl ll hn lm.trn (by decide) (by decide) (by decide) (by decide) (by decide) (by decide) (by decide) dl dn
 have lo : Ch.Lq (Ch.thn (Ch.ofp g h k) (Ch.trn (Ch.ofp p q r))) 165888 := ll.thn lm.trn
 have do_ := Ch.dt_thn_ne dl dn
 have ea := Ch.three_a g h k p q r
 have eb := Ch.three_b g h k p q r
 have ec := Ch.three_c g h k p q r
 have na : Ch.lo (Ch.thn (Ch.ofp g h k) (Ch.trn (Ch.ofp p q r))) g ≠ (0, 0) := by rw [ea.2]; exact Ch.gm_ne (Ch.gs_ne d5) (Ch.gm_ne (Ch.gs_ne (Ne.symm d1)) (Ch.gs_ne d3))
 have nb : Ch.lo (Ch.thn (Ch.ofp g h k) (Ch.trn (Ch.ofp p q r))) h ≠ (0, 0) := by rw [eb.2]; exact Ch.gm_ne (Ch.gs_ne d6) (Ch.gm_ne (Ch.gs_ne d2) (Ch.gs_ne (Ne.symm d1)))
 have nc : Ch.lo (Ch.thn (Ch.ofp g h k) (Ch.trn (Ch.ofp p q r))) k ≠ (0, 0) := by rw [ec.2]; exact Ch.gm_ne (Ch.gs_ne (Ne.symm d4)) (Ch.gm_ne (Ch.gs_ne d2) (Ch.gs_ne d3))
 refine ⟨o1, o1', o2, o2', o3, o3', o4, o4', fun wz => ?_, fun w => at3 ho lo hg lg do_ na sp.1 sp.2 lp ea.1 w, fun w => at3 ho lo hh lh do_ nb sq.1 sq.2 lq eb.1 w, fun w => at3 ho lo hk lk do_ nc sr.1 sr.2 lr ec.1 w⟩
 have f1 : (decide (g = h) || decide (h = k) || decide (g = k)) = false := by simp [d1, d2, d3]
 have f2 : (decide (p = q) || decide (q = r) || decide (p = r)) = false := by simp [d4, d5, d6]
 exact three18b wz
  (hide (fun w => are18 hg hh hk (lg.mono (by decide)) (lh.mono (by decide)) (lk.mono (by decide)) w)) (hide (fun w => are18 hp hq hr (lp.mono (by decide)) (lq.mono (by decide)) (lr.mono (by decide)) w))
  (hide (fun w => by have t := two18 hg hh hk w; rw [f1] at t; exact t)) (hide (fun w => by have t := two18 hp hq hr w; rw [f2] at t; exact t))
  (hide OF1) (hide K1) (hide OF2) (hide K2) (hide TU) (hide TH)
theorem chartthree_any (X0 Y0 X1 Y1 X2 Y2 P0 Q0 P1 Q1 P2 Q2 : Int) (w : World) : Calls Tryz.prog 5 #[.agg #[.int .i16 X0, .int .i16 Y0, .int .i16 X1, .int .i16 Y1, .int .i16 X2, .int .i16 Y2], .agg #[.int .i16 P0, .int .i16 Q0, .int .i16 P1, .int .i16 Q1, .int .i16 P2, .int .i16 Q2]] w fun e w' => e = .returned (.bool true) ∧ Bw w w' := by
 have sy : ∀ a b : Py.G, decide (a = b) = decide (b = a) := fun a b => decide_eq_decide.2 ⟨Eq.symm, Eq.symm⟩
 refine law18t w
  (hide (gof18 X0 Y0)) (hide (gof18 P0 Q0)) (hide (gof18 X1 Y1)) (hide (gof18 P1 Q1)) (hide (gof18 X2 Y2)) (hide (gof18 P2 Q2))
  (hide (geq18 X0 Y0 X1 Y1)) (hide (geq18 X1 Y1 X2 Y2)) (hide (geq18 X2 Y2 X0 Y0)) (hide (geq18 P0 Q0 P1 Q1)) (hide (geq18 P1 Q1 P2 Q2)) (hide (geq18 P2 Q2 P0 Q0))
  (hide (fun hp hs => ?_)) (hide (fun hp hs => ?_)) (hide (fun x y wz hq => ?_)) (hide (fun x y wz hq => ?_)) (hide (fun x y wz hq => ?_))
  (R0 := fun x y => clC 1074 x y (P0, Q0) ∧ P0.natAbs ≤ 8 ∧ Q0.natAbs ≤ 8) (R1 := fun x y => clC 1074 x y (P1, Q1) ∧ P1.natAbs ≤ 8 ∧ Q1.natAbs ≤ 8) (R2 := fun x y => clC 1074 x y (P2, Q2) ∧ P2.natAbs ≤ 8 ∧ Q2.natAbs ≤ 8)
 ·
  refine three_alike (Ch.wC8 ((hs.1 (by decide)).1 rfl)) (Ch.wC8 ((hs.2.1 (by decide)).1 rfl)) (Ch.wC8 ((hs.2.2 (by decide)).1 rfl)) (Ch.wC8 ((hs.1 (by decide)).2 rfl)) (Ch.wC8 ((hs.2.1 (by decide)).2 rfl)) (Ch.wC8 ((hs.2.2 (by decide)).2 rfl)) (Ch.le12 ((hs.1 (by decide)).1 rfl)) (Ch.le12 ((hs.2.1 (by decide)).1 rfl)) (Ch.le12 ((hs.2.2 (by decide)).1 rfl)) (Ch.le12 ((hs.1 (by decide)).2 rfl)) (Ch.le12 ((hs.2.1 (by decide)).2 rfl)) (Ch.le12 ((hs.2.2 (by decide)).2 rfl)) ?_
  rw [sy (X2, Y2) (X0, Y0), sy (P2, Q2) (P0, Q0)] at hp
  rw [← hp]
  simp only [Bool.or_assoc]
 ·
  simp only [Bool.or_eq_false_iff, decide_eq_false_iff_not] at hp
  obtain ⟨⟨⟨⟨⟨d1, d2⟩, d3⟩, d4⟩, d5⟩, d6⟩ := hp
  obtain ⟨o1, o1', o2, o2', o3, o3', o4, o4', t, t0, t1, t2⟩ := three_good (Ch.wC8 ((hs.1 (by decide)).1 rfl)) (Ch.wC8 ((hs.2.1 (by decide)).1 rfl)) (Ch.wC8 ((hs.2.2 (by decide)).1 rfl)) (Ch.wC8 ((hs.1 (by decide)).2 rfl)) (Ch.wC8 ((hs.2.1 (by decide)).2 rfl)) (Ch.wC8 ((hs.2.2 (by decide)).2 rfl)) (Ch.le12 ((hs.1 (by decide)).1 rfl)) (Ch.le12 ((hs.2.1 (by decide)).1 rfl)) (Ch.le12 ((hs.2.2 (by decide)).1 rfl)) (Ch.le12 ((hs.1 (by decide)).2 rfl)) (Ch.le12 ((hs.2.1 (by decide)).2 rfl)) (Ch.le12 ((hs.2.2 (by decide)).2 rfl)) ((hs.1 (by decide)).2 rfl) ((hs.2.1 (by decide)).2 rfl) ((hs.2.2 (by decide)).2 rfl) d1 d2 (Ne.symm d3) d4 d5 (Ne.symm d6)
  exact ⟨o1, o1', o2, o2', o3, o3', o4, o4', t, fun wz => (t0 wz).mono (by rintro e' w' ⟨x, y, rfl, hq, bb⟩; exact ⟨x, y, rfl, ⟨hq, ((hs.1 (by decide)).2 rfl)⟩, bb⟩), fun wz => (t1 wz).mono (by rintro e' w' ⟨x, y, rfl, hq, bb⟩; exact ⟨x, y, rfl, ⟨hq, ((hs.2.1 (by decide)).2 rfl)⟩, bb⟩), fun wz => (t2 wz).mono (by rintro e' w' ⟨x, y, rfl, hq, bb⟩; exact ⟨x, y, rfl, ⟨hq, ((hs.2.2 (by decide)).2 rfl)⟩, bb⟩)⟩
 · exact near18 hq.1 (Ch.wC8 hq.2) wz
 · exact near18 hq.1 (Ch.wC8 hq.2) wz
 · exact near18 hq.1 (Ch.wC8 hq.2) wz
end Go.Proofs.YtfgfofedacehiaaGreat

