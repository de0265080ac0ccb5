/-
  OWN TEXT: layer 14's law SolveAll.
-/
import Derived.Test.YtjfkdmddfeeheaaJSrHToSrJ
import Derived.Test.YtjfkdmddfeeheaaJXxAToXxD
namespace Go.Proofs.Ytjfkdmddfeeheaa
open Go.ChangeShapes Go.WideShapes Go.ChangeAt Go.RowKit
set_option linter.unusedVariables false
attribute [local go_sem] frombits_call tobits_call run_neg

attribute [local go_sem] stof14
namespace Sv
/-- how many are answered -/
def ns (n : Nat) (E : Int) : Nat := if E = 0 then n else 0
theorem ns_le (n : Nat) (E : Int) : ns n E ≤ n := by unfold ns; split <;> omega
theorem Rv.bw {w w' : World} {base n : Nat} {v : Value} {F : Nat → Nat} (h : Rv w base v n F) (k : Bw w w') : Rv w' base v n F := h.gb (gb_bw k none) (by cases v.ownBlock <;> simp)
theorem Rv.lt {w : World} {base n : Nat} {v : Value} {F : Nat → Nat} (h : Rv w base v n F) : ∀ x, v.ownBlock = some x → base ≤ x ∧ x < w.heap.size := by
  obtain ⟨X, ho, _⟩ := h
  exact ho.lt
theorem Rv.ls {w : World} {base n : Nat} {v : Value} {F : Nat → Nat} (h : Rv w base v n F) : Ls w v n F := by
  have hh := h
  obtain ⟨X, ho, _⟩ := h
  rcases ho.2 with ⟨e, e2⟩ | ⟨g, cap, cur, e, hb, hc, hl, _⟩
  · exact Or.inl ⟨by rw [e]; exact emp.nil, e2⟩
  · subst e
    exact Or.inr ⟨g, 0, cap, rfl, hh.rw.mle, hh.rw.rd⟩
/-- the slice v owns n numbers -/
def Ri (w : World) (base : Nat) (v : Value) (n : Nat) (X : Nat → Nat) : Prop := w.ownsRow base 3 1 v n (iv X n)
theorem Ri.gb {w w' : World} {base n : Nat} {v : Value} {X : Nat → Nat} {r : Option Nat} (h : Ri w base v n X) (k : w.grownBy w' r) (hr : v.ownBlock = none ∨ v.ownBlock ≠ r) : Ri w' base v n X := World.ownsRow.kept h k hr
theorem Ri.bw {w w' : World} {base n : Nat} {v : Value} {X : Nat → Nat} (h : Ri w base v n X) (k : Bw w w') : Ri w' base v n X := h.gb (gb_bw k none) (by cases v.ownBlock <;> simp)
theorem Ri.lt {w : World} {base n : Nat} {v : Value} {X : Nat → Nat} (h : Ri w base v n X) : ∀ x, v.ownBlock = some x → base ≤ x ∧ x < w.heap.size := World.ownsRow.lt h
theorem Ri.li {w : World} {base n : Nat} {v : Value} {X : Nat → Nat} (h : Ri w base v n X) : Li w v n X := by
  have hh : w.ownsRow base 3 1 v n (iv X n) := h
  rcases hh.2 with ⟨e, e2⟩ | ⟨g, cap, cur, e, hb, hc, hl, _⟩
  · exact Or.inl ⟨by rw [e]; exact emp.nil, e2⟩
  · subst e
    exact Or.inr ⟨g, 0, cap, rfl, own_cap2 hh, (hh.lt g rfl).2, fun j hj => by rw [Nat.zero_add, hh.cellAt j (by omega), iv_get _ _ _ hj]⟩
theorem Ri.set {w : World} {base B n c : Nat} {X : Nat → Nat} (h : Ri w base (.slice (some ⟨B, 0, none⟩) n c) n X) (i x : Nat) : Ri (w.setCell ⟨B, i, none⟩ (.int .i64 x)) base (.slice (some ⟨B, 0, none⟩) n c) n (fun j => if j = i then x else X j) ∧ w.grownBy (w.setCell ⟨B, i, none⟩ (.int .i64 x)) (some B) := by
  obtain ⟨h1, h2⟩ := World.ownsRow.stored h i (.int .i64 x)
  rw [iv_set] at h1
  exact ⟨h1, h2⟩
theorem own_slice {w : World} {base : Nat} {e : TypeId} {n : Nat} {v : Value} {xs : List Value} (h : w.ownsRow base e 1 v n xs) : ∃ p c, v = .slice p n c := by
  rcases h.2 with ⟨e, e2⟩ | ⟨g, cap, cur, e, _⟩
  · exact ⟨none, 0, by rw [e, e2]⟩
  · exact ⟨_, _, e⟩
end Sv
theorem solveU {w : World} {va vb : Value} {n nb : Nat} {l : Nat → Nat} {A : Sv.M} {b : Nat → Nat} (ha : Sv.Lm w va n l A) (hb : Sv.Ls w vb nb b) (hn : n < 1000000) (hnb : nb < 1000000) :
    Calls Try.prog 8 #[va, vb] w fun e w' => ∃ p c, e = .returned (.tuple #[.slice p (Sv.ns n (Sv.solE n l A nb b)) c, .int .i64 (Sv.solE n l A nb b)]) ∧ Sv.Rv w' w.heap.size (.slice p (Sv.ns n (Sv.solE n l A nb b)) c) (Sv.ns n (Sv.solE n l A nb b)) (Sv.solX n A b) ∧ Bw w w' := by
  refine (solve14 ha hb hn hnb).mono ?_
  rintro e w' ⟨v, he, hbw, ⟨h, rfl⟩ | ⟨h, B, rfl, hr⟩⟩
  · exact ⟨none, 0, by rw [Sv.ns, if_neg h]; exact he, by rw [Sv.ns, if_neg h]; exact Sv.Rv.nil _ _ _, hbw⟩
  · exact ⟨_, _, by rw [Sv.ns, if_pos h]; exact he, by rw [Sv.ns, if_pos h]; exact hr, hbw⟩
theorem rsolveU {w : World} {va vb : Value} {n nb : Nat} {l : Nat → Nat} {A : Sv.M} {b : Nat → Nat} (ha : Sv.Lm w va n l A) (hb : Sv.Ls w vb nb b) (hn : n < 1000000) (hnb : nb < 1000000) :
    Calls Try.prog 17 #[va, vb] w fun e w' => ∃ p c, e = .returned (.tuple #[.slice p (Sv.ns n (Sv.solE n l A nb b)) c, .int .i64 (Sv.solE n l A nb b)]) ∧ Sv.Rv w' w.heap.size (.slice p (Sv.ns n (Sv.solE n l A nb b)) c) (Sv.ns n (Sv.solE n l A nb b)) (Sv.solX n A b) ∧ Bw w w' := by
  refine (rsolve14 ha hb hn hnb).mono ?_
  rintro e w' ⟨v, he, hbw, ⟨h, rfl⟩ | ⟨h, B, rfl, hr⟩⟩
  · exact ⟨none, 0, by rw [Sv.ns, if_neg h]; exact he, by rw [Sv.ns, if_neg h]; exact Sv.Rv.nil _ _ _, hbw⟩
  · exact ⟨_, _, by rw [Sv.ns, if_pos h]; exact he, by rw [Sv.ns, if_pos h]; exact hr, hbw⟩
theorem pivotsU {w : World} {va : Value} {n : Nat} {l : Nat → Nat} {A : Sv.M} (ha : Sv.Lm w va n l A) (hn : n < 1000000) :
    Calls Try.prog 9 #[va] w fun e w' => ∃ p c, e = .returned (.tuple #[.slice p (Sv.ns n (Sv.pivE n l A)) c, .int .i64 (Sv.pivE n l A)]) ∧ Sv.Ri w' w.heap.size (.slice p (Sv.ns n (Sv.pivE n l A)) c) (Sv.ns n (Sv.pivE n l A)) (Sv.pm n A n) ∧ Bw w w' := by
  refine (pivots14 ha hn).mono ?_
  rintro e w' ⟨v, he, hbw, ⟨h, rfl⟩ | ⟨h, B, rfl, hr⟩⟩
  · exact ⟨none, 0, by rw [Sv.ns, if_neg h]; exact he, by rw [Sv.ns, if_neg h]; exact World.ownsRow_nil _ _ _ _, hbw⟩
  · exact ⟨_, _, by rw [Sv.ns, if_pos h]; exact he, by rw [Sv.ns, if_pos h]; exact hr, hbw⟩
theorem rpivotsU {w : World} {va : Value} {n : Nat} {l : Nat → Nat} {A : Sv.M} (ha : Sv.Lm w va n l A) (hn : n < 1000000) :
    Calls Try.prog 18 #[va] w fun e w' => ∃ p c, e = .returned (.tuple #[.slice p (Sv.ns n (Sv.pivE n l A)) c, .int .i64 (Sv.pivE n l A)]) ∧ Sv.Ri w' w.heap.size (.slice p (Sv.ns n (Sv.pivE n l A)) c) (Sv.ns n (Sv.pivE n l A)) (Sv.pm n A n) ∧ Bw w w' := by
  refine (rpivots14 ha hn).mono ?_
  rintro e w' ⟨v, he, hbw, ⟨h, rfl⟩ | ⟨h, B, c, rfl, hr⟩⟩
  · exact ⟨none, 0, by rw [Sv.ns, if_neg h]; exact he, by rw [Sv.ns, if_neg h]; exact World.ownsRow_nil _ _ _ _, hbw⟩
  · exact ⟨_, _, by rw [Sv.ns, if_pos h]; exact he, by rw [Sv.ns, if_pos h]; exact hr, hbw⟩
theorem sameU {x y : Nat} (h : Fl.bitsF x = Fl.bitsF y) (w : World) : Calls Try.prog 23 #[.float .f64 x, .float .f64 y] w fun e w' => e = .returned (.bool true) ∧ w' = w := by
  have k := rsame_any x y w
  rw [Sv.same_c h] at k
  exact k
set_option maxHeartbeats 16000000 in
set_option maxRecDepth 10000 in
theorem solveall_any {w : World} {va vx vb : Value} {n nx nb : Nat} {l : Nat → Nat} {A : Sv.M} {X b : Nat → Nat} (ha : Sv.Lm w va n l A) (hx : Sv.Ls w vx nx X) (hb : Sv.Ls w vb nb b) (hn : Sv.sm l n ≤ 4000000) :
    Calls Try.prog 4 #[va, vx, vb] w fun e w' => e = .returned (.bool true) ∧ Below w.heap.size w w' := by
  obtain ⟨i0, hi0, ha0, ha1, ha2⟩ := info14 _ _ _ _ Sv.info_f
  obtain ⟨j0, hj0, hb0, hb1, hb2⟩ := info14 _ _ _ _ Sv.info_i
  obtain ⟨vp, vn, vc, rfl⟩ : ∃ p k c, vb = .slice p k c := by rcases hb with ⟨⟨_, _, rfl, _⟩, _⟩ | ⟨_, _, _, rfl, _⟩ <;> exact ⟨_, _, _, rfl⟩
  obtain ⟨up, un, uc, rfl⟩ : ∃ p k c, vx = .slice p k c := by rcases hx with ⟨⟨_, _, rfl, _⟩, _⟩ | ⟨_, _, _, rfl, _⟩ <;> exact ⟨_, _, _, rfl⟩
  have e1 : vn = nb := by rcases hb with ⟨⟨_, _, q, _⟩, z⟩ | ⟨_, _, _, q, _⟩ <;> (simp only [Value.slice.injEq] at q; omega)
  have e2 : un = nx := by rcases hx with ⟨⟨_, _, q, _⟩, z⟩ | ⟨_, _, _, q, _⟩ <;> (simp only [Value.slice.injEq] at q; omega)
  subst e1
  subst e2
  have hnn := Sv.sm_ge l n
  have hn1 : n < 5000000 := by omega
  clear hnn
  have F := Sv.hid (And.intro ha (And.intro hx (And.intro hb (Bw.refl w))))
  clear ha hx hb
  go_enter Try.func4, Try.ntmps4
  go_wp2_with fail
  refine (alive14_ev _ (fun g l h => by cases h) (fun g l h => by cases h)).mono ?_
  rintro e' w1 ⟨rfl, bb⟩
  replace bb : Bw w w1 := bb
  obtain ⟨fa, fx, fb, fw⟩ := F.out
  replace F := Sv.hid (And.intro (fa.bw bb) (And.intro (fx.bw bb) (And.intro (fb.bw bb) (bw_trans fw bb))))
  clear fa fx fb fw
  clear bb
  go_wp2_with fail
  refine (few14 F.out.1 hn).mono ?_
  rintro e' w2 ⟨rfl, hw2⟩
  subst hw2
  by_cases hfew : Sv.sm l n ≤ 20000
  case neg =>
    rw [decide_eq_false hfew]
    clear hfew hn
    go_wp2
    go_ret
    exact ⟨rfl, F.out.2.2.2⟩
  rw [decide_eq_true hfew]
  by_cases hux : 20000 < un
  case pos =>
    have hux2 : (20000 : Int) < un := by omega
    have hux3 : ¬ (un : Int) ≤ 20000 := by omega
    clear hfew hn
    go_wp2
    go_ret
    exact ⟨rfl, F.out.2.2.2⟩
  by_cases hvx : 20000 < vn
  case pos =>
    have hux2 : ¬ (20000 : Int) < un := by omega
    have hux3 : (un : Int) ≤ 20000 := by omega
    have hvx2 : (20000 : Int) < vn := by omega
    have hvx3 : ¬ (vn : Int) ≤ 20000 := by omega
    clear hfew hn
    go_wp2
    go_ret
    exact ⟨rfl, F.out.2.2.2⟩
  have hux2 : ¬ (20000 : Int) < un := by omega
  have hux3 : (un : Int) ≤ 20000 := by omega
  have hvx2 : ¬ (20000 : Int) < vn := by omega
  have hvx3 : (vn : Int) ≤ 20000 := by omega
  have hn2 : Hid (n < 1000000 ∧ n ≤ 20000 ∧ un < 1000000 ∧ vn < 1000000 ∧ (∀ i, i < n → l i < 1000000)) := by
    have := Sv.sm_ge l n
    refine ⟨by omega, by omega, by omega, by omega, fun i hi => ?_⟩
    have := Sv.sm_one l hi
    omega
  have HF := Sv.hid hfew
  clear hfew hn hux hvx hn1
  go_wp2_with fail
  refine (lent14 F.out.1 HF.out).mono ?_
  rintro e' w3 ⟨vr, vq, rfl, hr, bb⟩
  have hw3 : Hid (w.heap.size ≤ w3.heap.size) := by have := bb.size; have := F.out.2.2.2.size; show _ ≤ _; omega
  obtain ⟨fa, fx, fb, fw⟩ := F.out
  replace F := Sv.hid (And.intro (fa.bw bb) (And.intro (fx.bw bb) (And.intro (fb.bw bb) (And.intro (bw_trans fw bb) hr))))
  clear fa fx fb fw
  clear bb hr
  clear hux2 hux3 hvx2 hvx3 hw3
  go_wp2_with fail
  refine (own14 F.out.2.1 (by have := hn2.out.2.2.1; omega)).mono ?_
  rintro e' w4 ⟨vu, rfl, hu, bb⟩
  obtain ⟨fa, fx, fb, fw, fr⟩ := F.out
  replace F := Sv.hid (And.intro (fa.bw bb) (And.intro (fx.bw bb) (And.intro (fb.bw bb) (And.intro (bw_trans fw bb) (And.intro (fr.bw bb) hu)))))
  clear fa fx fb fw fr
  clear bb hu
  go_wp2_with fail
  refine (own14 F.out.2.2.1 (by have := hn2.out.2.2.2.1; omega)).mono ?_
  rintro e' w5 ⟨vv, rfl, hv, bb⟩
  obtain ⟨fa, fx, fb, fw, fr, fu⟩ := F.out
  replace F := Sv.hid (And.intro (fa.bw bb) (And.intro (fx.bw bb) (And.intro (fb.bw bb) (And.intro (bw_trans fw bb) (And.intro (fr.bw bb) (And.intro (fu.bw bb) hv))))))
  clear fa fx fb fw fr fu
  clear bb hv
  have OLD := Sv.hid (And.intro F.out.1 (And.intro F.out.2.1 (And.intro F.out.2.2.1 (And.intro F.out.2.2.2.2.1 (And.intro F.out.2.2.2.2.2.1 (And.intro F.out.2.2.2.2.2.2 F.out.2.2.2.1))))))
  have HB5 := Sv.hid (Bw.refl w5)
  go_wp2_with fail
  refine (solveU F.out.2.2.2.2.1 F.out.2.2.2.2.2.2 hn2.out.1 hn2.out.2.2.2.1).mono ?_
  rintro e' w6 ⟨ps, cs, rfl, hs, bb⟩
  have HS := Sv.hid (And.intro hs.lt bb.size)
  replace HB5 := Sv.hid (bw_trans HB5.out bb)
  obtain ⟨fa, fx, fb, fw, fr, fu, fv⟩ := F.out
  replace F := Sv.hid (And.intro (fa.bw bb) (And.intro (fx.bw bb) (And.intro (fb.bw bb) (And.intro (bw_trans fw bb) (And.intro (fr.bw bb) (And.intro (fu.bw bb) (And.intro (fv.bw bb) hs)))))))
  clear fa fx fb fw fr fu fv
  clear bb hs
  go_wp2_with fail
  refine (pivotsU F.out.2.2.2.2.1 hn2.out.1).mono ?_
  rintro e' w7 ⟨pp, cp, rfl, hp, bb⟩
  have HP := Sv.hid (And.intro hp.lt bb.size)
  replace HB5 := Sv.hid (bw_trans HB5.out bb)
  obtain ⟨fa, fx, fb, fw, fr, fu, fv, fs⟩ := F.out
  replace F := Sv.hid (And.intro (fa.bw bb) (And.intro (fx.bw bb) (And.intro (fb.bw bb) (And.intro (bw_trans fw bb) (And.intro (fr.bw bb) (And.intro (fu.bw bb) (And.intro (fv.bw bb) (And.intro (fs.bw bb) hp))))))))
  clear fa fx fb fw fr fu fv fs
  clear bb hp
  go_wp2_with fail
  refine (det14 F.out.2.2.2.2.1 hn2.out.1).mono ?_
  rintro e' w8 ⟨d1, rfl, hd0, hd1, bb⟩
  have HD := Sv.hid hd1
  have SZ8 := Sv.hid bb.size
  clear hd0 hd1
  replace HB5 := Sv.hid (bw_trans HB5.out bb)
  obtain ⟨fa, fx, fb, fw, fr, fu, fv, fs, fp⟩ := F.out
  replace F := Sv.hid (And.intro (fa.bw bb) (And.intro (fx.bw bb) (And.intro (fb.bw bb) (And.intro (bw_trans fw bb) (And.intro (fr.bw bb) (And.intro (fu.bw bb) (And.intro (fv.bw bb) (And.intro (fs.bw bb) (fp.bw bb)))))))))
  clear fa fx fb fw fr fu fv fs fp
  clear bb
  go_wp2_with fail
  refine (off14 F.out.2.2.2.2.1 F.out.2.2.2.2.2.1 F.out.2.2.2.2.2.2.1 hn2.out.1).mono ?_
  rintro e' w9 ⟨o1, rfl, ho0, ho1, bb⟩
  have HO := Sv.hid ho1
  have SZ9 := Sv.hid bb.size
  clear ho0 ho1
  replace HB5 := Sv.hid (bw_trans HB5.out bb)
  obtain ⟨fa, fx, fb, fw, fr, fu, fv, fs, fp⟩ := F.out
  replace F := Sv.hid (And.intro (fa.bw bb) (And.intro (fx.bw bb) (And.intro (fb.bw bb) (And.intro (bw_trans fw bb) (And.intro (fr.bw bb) (And.intro (fu.bw bb) (And.intro (fv.bw bb) (And.intro (fs.bw bb) (fp.bw bb)))))))))
  clear fa fx fb fw fr fu fv fs fp
  clear bb
  go_wp2_with fail
  refine (rsolveU F.out.1 F.out.2.2.1 hn2.out.1 hn2.out.2.2.2.1).mono ?_
  rintro e' w10 ⟨pt, ct, rfl, ht, bb⟩
  have HT := Sv.hid (And.intro ht.lt bb.size)
  replace HB5 := Sv.hid (bw_trans HB5.out bb)
  obtain ⟨fa, fx, fb, fw, fr, fu, fv, fs, fp⟩ := F.out
  replace F := Sv.hid (And.intro (fa.bw bb) (And.intro (fx.bw bb) (And.intro (fb.bw bb) (And.intro (bw_trans fw bb) (And.intro (fr.bw bb) (And.intro (fu.bw bb) (And.intro (fv.bw bb) (And.intro (fs.bw bb) (And.intro (fp.bw bb) ht)))))))))
  clear fa fx fb fw fr fu fv fs fp
  clear bb ht
  go_wp2_with fail
  refine (rpivotsU F.out.1 hn2.out.1).mono ?_
  rintro e' w11 ⟨pq, cq, rfl, hq, bb⟩
  have HQ := Sv.hid (And.intro hq.lt bb.size)
  replace HB5 := Sv.hid (bw_trans HB5.out bb)
  obtain ⟨fa, fx, fb, fw, fr, fu, fv, fs, fp, ft⟩ := F.out
  replace F := Sv.hid (And.intro (fa.bw bb) (And.intro (fx.bw bb) (And.intro (fb.bw bb) (And.intro (bw_trans fw bb) (And.intro (fr.bw bb) (And.intro (fu.bw bb) (And.intro (fv.bw bb) (And.intro (fs.bw bb) (And.intro (fp.bw bb) (And.intro (ft.bw bb) hq))))))))))
  clear fa fx fb fw fr fu fv fs fp ft
  clear bb hq
  go_wp2_with fail
  refine (rdet14 F.out.1 hn2.out.1).mono ?_
  rintro e' w12 ⟨d2, rfl, hd0, hd1, bb⟩
  have HD2 := Sv.hid (HD.out.trans hd1.symm)
  have SZ12 := Sv.hid bb.size
  clear hd0 hd1 HD
  replace HB5 := Sv.hid (bw_trans HB5.out bb)
  obtain ⟨fa, fx, fb, fw, fr, fu, fv, fs, fp, ft, fq⟩ := F.out
  replace F := Sv.hid (And.intro (fa.bw bb) (And.intro (fx.bw bb) (And.intro (fb.bw bb) (And.intro (bw_trans fw bb) (And.intro (fr.bw bb) (And.intro (fu.bw bb) (And.intro (fv.bw bb) (And.intro (fs.bw bb) (And.intro (fp.bw bb) (And.intro (ft.bw bb) (fq.bw bb)))))))))))
  clear fa fx fb fw fr fu fv fs fp ft fq
  clear bb
  go_wp2_with fail
  refine (roff14 F.out.1 F.out.2.1 F.out.2.2.1 hn2.out.1 hn2.out.2.2.1 hn2.out.2.2.2.1).mono ?_
  rintro e' w13 ⟨o2, rfl, ho0, ho1, bb⟩
  have HO2 := Sv.hid (HO.out.trans ho1.symm)
  have SZ13 := Sv.hid bb.size
  clear ho0 ho1 HO
  replace HB5 := Sv.hid (bw_trans HB5.out bb)
  obtain ⟨fa, fx, fb, fw, fr, fu, fv, fs, fp, ft, fq⟩ := F.out
  replace F := Sv.hid (And.intro (fa.bw bb) (And.intro (fx.bw bb) (And.intro (fb.bw bb) (And.intro (bw_trans fw bb) (And.intro (fr.bw bb) (And.intro (fu.bw bb) (And.intro (fv.bw bb) (And.intro (fs.bw bb) (And.intro (fp.bw bb) (And.intro (ft.bw bb) (fq.bw bb)))))))))))
  clear fa fx fb fw fr fu fv fs fp ft fq
  clear bb
  have hnS : Hid (Sv.ns n (Sv.solE n l A vn b) < 1000000 ∧ Sv.ns n (Sv.pivE n l A) < 1000000) := by
    have := Sv.ns_le n (Sv.solE n l A vn b); have := Sv.ns_le n (Sv.pivE n l A); have := hn2.out.1
    show _ ∧ _
    omega
  go_wp2_with fail
  refine (rsamef14 F.out.2.2.2.2.2.2.2.1.ls F.out.2.2.2.2.2.2.2.2.2.1.ls hnS.out.1).mono ?_
  rintro e' w14 ⟨rfl, bb⟩
  have SZ14 := Sv.hid bb.size
  replace HB5 := Sv.hid (bw_trans HB5.out bb)
  obtain ⟨fa, fx, fb, fw, fr, fu, fv, fs, fp, ft, fq⟩ := F.out
  replace F := Sv.hid (And.intro (fa.bw bb) (And.intro (fx.bw bb) (And.intro (fb.bw bb) (And.intro (bw_trans fw bb) (And.intro (fr.bw bb) (And.intro (fu.bw bb) (And.intro (fv.bw bb) (And.intro (fs.bw bb) (And.intro (fp.bw bb) (And.intro (ft.bw bb) (fq.bw bb)))))))))))
  clear fa fx fb fw fr fu fv fs fp ft fq
  clear bb
  go_wp2_with fail
  refine (rints14 F.out.2.2.2.2.2.2.2.2.1.li F.out.2.2.2.2.2.2.2.2.2.2.li hnS.out.2).mono ?_
  rintro e' w15 ⟨rfl, bb⟩
  have SZ15 := Sv.hid bb.size
  replace HB5 := Sv.hid (bw_trans HB5.out bb)
  obtain ⟨fa, fx, fb, fw, fr, fu, fv, fs, fp, ft, fq⟩ := F.out
  replace F := Sv.hid (And.intro (fa.bw bb) (And.intro (fx.bw bb) (And.intro (fb.bw bb) (And.intro (bw_trans fw bb) (And.intro (fr.bw bb) (And.intro (fu.bw bb) (And.intro (fv.bw bb) (And.intro (fs.bw bb) (And.intro (fp.bw bb) (And.intro (ft.bw bb) (fq.bw bb)))))))))))
  clear fa fx fb fw fr fu fv fs fp ft fq
  clear bb
  go_wp2_with fail
  refine (sameU HD2.out _).mono ?_
  rintro e' w16 ⟨rfl, hw16⟩
  subst hw16
  go_wp2_with fail
  refine (sameU HO2.out _).mono ?_
  rintro e' w17 ⟨rfl, hw17⟩
  subst hw17
  go_wp2_with fail
  refine (solveU F.out.2.2.2.2.1 F.out.2.2.2.2.2.2.1 hn2.out.1 hn2.out.2.2.2.1).mono ?_
  rintro e' w18 ⟨pw, cw, rfl, hw, bb⟩
  have HW := Sv.hid (And.intro hw.lt bb.size)
  replace HB5 := Sv.hid (bw_trans HB5.out bb)
  obtain ⟨fa, fx, fb, fw, fr, fu, fv, fs, fp, ft, fq⟩ := F.out
  replace F := Sv.hid (And.intro (fa.bw bb) (And.intro (fx.bw bb) (And.intro (fb.bw bb) (And.intro (bw_trans fw bb) (And.intro (fr.bw bb) (And.intro (fu.bw bb) (And.intro (fv.bw bb) (And.intro (fs.bw bb) (And.intro (fp.bw bb) (And.intro (ft.bw bb) (And.intro (fq.bw bb) hw)))))))))))
  clear fa fx fb fw fr fu fv fs fp ft fq
  clear bb hw
  go_wp2_with fail
  refine (pivotsU F.out.2.2.2.2.1 hn2.out.1).mono ?_
  rintro e' w19 ⟨pz, cz, rfl, hz, bb⟩
  have HZ := Sv.hid (And.intro hz.lt bb.size)
  replace HB5 := Sv.hid (bw_trans HB5.out bb)
  obtain ⟨fa, fx, fb, fw, fr, fu, fv, fs, fp, ft, fq, fw2⟩ := F.out
  replace F := Sv.hid (And.intro (fa.bw bb) (And.intro (fx.bw bb) (And.intro (fb.bw bb) (And.intro (bw_trans fw bb) (And.intro (fr.bw bb) (And.intro (fu.bw bb) (And.intro (fv.bw bb) (And.intro (fs.bw bb) (And.intro (fp.bw bb) (And.intro (ft.bw bb) (And.intro (fq.bw bb) (And.intro (fw2.bw bb) hz))))))))))))
  clear fa fx fb fw fr fu fv fs fp ft fq fw2
  clear bb hz
  generalize hES : Sv.solE n l A vn b = ES at *
  generalize hEP : Sv.pivE n l A = EP at *
  generalize Sv.detE n l A = ED at *
  generalize Sv.offE n l A un X vn b = EO at *
  clear hES hEP
  obtain ⟨T, hT⟩ : ∃ T : Nat → Prop, T = fun x => (Value.slice ps (Sv.ns n ES) cs).ownBlock = some x ∨ (Value.slice pp (Sv.ns n EP) cp).ownBlock = some x := ⟨_, rfl⟩
  have KT : Hid ((∀ x, T x → w5.heap.size ≤ x ∧ x < w7.heap.size) ∧ (∀ x, (Value.slice ps (Sv.ns n ES) cs).ownBlock = some x → T x) ∧ (∀ x, (Value.slice pp (Sv.ns n EP) cp).ownBlock = some x → T x) ∧ (∀ x, (Value.slice ps (Sv.ns n ES) cs).ownBlock = some x → (Value.slice pp (Sv.ns n EP) cp).ownBlock ≠ some x) ∧ w7.heap.size ≤ w9.heap.size ∧ w9.heap.size ≤ w10.heap.size ∧ w10.heap.size ≤ w17.heap.size ∧ w17.heap.size ≤ w18.heap.size) := by
    have a1 := HS.out; have a2 := HP.out; have a3 := SZ8.out; have a4 := SZ9.out; have a5 := HT.out; have a6 := HQ.out; have a7 := SZ12.out; have a8 := SZ13.out; have a9 := SZ14.out; have a10 := SZ15.out; have a11 := HW.out
    have c1 := a1.2; have c2 := a2.2; have c5 := a5.2; have c6 := a6.2; have c11 := a11.2
    refine ⟨fun x hx => ?_, fun x hx => by rw [hT]; exact Or.inl hx, fun x hx => by rw [hT]; exact Or.inr hx, fun x h1 h2 => ?_, by omega, by omega, by omega, by omega⟩
    · rw [hT] at hx
      rcases hx with q | q
      · have := a1.1 x q; omega
      · have := a2.1 x q; omega
    · have := a1.1 x h1; have := a2.1 x h2; omega
  have HB19 : Hid (w5.heap.size ≤ w19.heap.size ∧ w6.heap.size ≤ w19.heap.size) := by
    have := HB5.out.size; have := HP.out.2; have := KT.out.2.2.2.2; have := HZ.out.2
    show _ ∧ _
    omega
  clear HS HP SZ8 SZ9 SZ12 SZ13 SZ14 SZ15 hT
  have FX := F
  clear F
  go_wp2
  go_loopw [34] (fun i wr => ∃ k : Nat, k ≤ Sv.ns n ES ∧ i = .int .i64 k ∧ (∃ G, Sv.Rv wr w5.heap.size (.slice ps (Sv.ns n ES) cs) (Sv.ns n ES) G) ∧ (∃ G, Sv.Ri wr w6.heap.size (.slice pp (Sv.ns n EP) cp) (Sv.ns n EP) G) ∧ Sv.Ex w19 wr T) (fun i _ => Sv.ns n ES - (intOf i).toNat)
  case atStart => exact ⟨0, Nat.zero_le _, rfl, ⟨_, FX.out.2.2.2.2.2.2.2.1⟩, ⟨_, FX.out.2.2.2.2.2.2.2.2.1⟩, Sv.Ex.refl _ _⟩
  case round =>
    obtain ⟨k, hk, rfl, ⟨G, hR⟩, ⟨G2, hI⟩, hE⟩ := hrel
    generalize hLS : Sv.ns n ES = NS at *
    by_cases hk1 : k < NS
    case pos =>
      have hk2 : (k : Int) < NS := by omega
      have hkb : k < 1000000 := by have := hnS.out.1; omega
      obtain ⟨B, c2, hv, hB1, hB2⟩ := hR.form (by omega)
      simp only [Value.slice.injEq] at hv
      obtain ⟨rfl, _, rfl⟩ := hv
      obtain ⟨y, eB, _, _⟩ := hR.rw.cell hk1
      have eF := hR.rw.frozen k
      obtain ⟨r1, g1⟩ := hR.rw.set k 4666173966409269248 (by decide)
      have KN := Sv.hid (And.intro (show Sv.Rv _ w5.heap.size (.slice (some ⟨B, 0, none⟩) NS cs) NS _ from r1) (And.intro (hI.gb g1 (by
        cases hz : (Value.slice pp (Sv.ns n EP) cp).ownBlock with
        | none => exact Or.inl rfl
        | some y => exact Or.inr (fun e => by cases e; exact KT.out.2.2.2.1 B rfl hz))) (hE.gb g1 (fun x e => Or.inl (by cases e; exact KT.out.2.1 B rfl)))))
      clear hR hI hE r1 g1 hB1 hB2
      go_wp2
      go_roundw
      case rel => exact ⟨k + 1, by omega, by simp, ⟨_, KN.out.1⟩, ⟨_, KN.out.2.1⟩, KN.out.2.2⟩
      case measure => simp [intOf]; omega
    have hk3 : k = NS := by omega
    have hk4 : ¬ (k : Int) < NS := by omega
    have K1 := Sv.hid (And.intro hR (And.intro hI hE))
    clear hR hI hE
    go_wp2
    go_loopw [35] (fun i wz => ∃ k : Nat, k ≤ Sv.ns n EP ∧ i = .int .i64 k ∧ (∃ G, Sv.Rv wz w5.heap.size (.slice ps NS cs) NS G) ∧ (∃ G, Sv.Ri wz w6.heap.size (.slice pp (Sv.ns n EP) cp) (Sv.ns n EP) G) ∧ Sv.Ex w19 wz T) (fun i _ => Sv.ns n EP - (intOf i).toNat)
    case atStart => exact ⟨0, Nat.zero_le _, rfl, ⟨_, K1.out.1⟩, ⟨_, K1.out.2.1⟩, K1.out.2.2⟩
    case round =>
      clear K1 hk hk1 hk3 hk4
      obtain ⟨k, hk, rfl, ⟨G, hR⟩, ⟨G2, hI⟩, hE⟩ := hrel
      generalize hLP : Sv.ns n EP = NP at *
      by_cases hk1 : k < NP
      case pos =>
        have hk2 : (k : Int) < NP := by omega
        have hkb : k < 1000000 := by have := hnS.out.2; omega
        obtain ⟨B, c2, hv, hB1, hB2⟩ := World.ownsRow.form hI (by omega)
        simp only [Value.slice.injEq] at hv
        obtain ⟨rfl, _, rfl⟩ := hv
        have eB : wr.cell? ⟨B, k, none⟩ = some (.int .i64 (G2 k)) := by rw [World.ownsRow.cellAt hI k (by omega), Sv.iv_get _ _ _ hk1]
        have eF := World.ownsRow.frozenAt hI k
        obtain ⟨r1, g1⟩ := Sv.Ri.set hI k 9002
        have KN := Sv.hid (And.intro r1 (And.intro (hR.gb g1 (by
          cases hz : (Value.slice ps NS cs).ownBlock with
          | none => exact Or.inl rfl
          | some y => exact Or.inr (fun e => by cases e; exact KT.out.2.2.2.1 B hz rfl))) (hE.gb g1 (fun x e => Or.inl (by cases e; exact KT.out.2.2.1 B rfl)))))
        clear hR hI hE r1 g1 hB1 hB2
        go_wp2
        go_roundw
        case rel => exact ⟨k + 1, by omega, by simp, ⟨_, KN.out.2.1⟩, ⟨_, KN.out.1⟩, KN.out.2.2⟩
        case measure => simp [intOf]; omega
      have hk3 : k = NP := by omega
      have hk4 : ¬ (k : Int) < NP := by omega
      have K1 := Sv.hid (And.intro hR (And.intro hI hE))
      have hNB : Hid (NS < 1000000 ∧ NP < 1000000) := by
        have := hnS.out
        exact this
      clear hR hI hE
      go_wp2
      go_loopw [13, 15, 36] (fun v v2 i wz => ∃ k : Nat, k ≤ 9 ∧ i = .int .i64 k ∧ (∃ xs, wz.ownsRow w5.heap.size 25 1 v (NS + k) xs) ∧ (∃ xs, wz.ownsRow w6.heap.size 3 1 v2 (NP + k) xs) ∧ (∀ x, v.ownBlock = some x → T x ∨ w19.heap.size ≤ x) ∧ (∀ x, v2.ownBlock = some x → T x ∨ w19.heap.size ≤ x) ∧ (∀ x, v.ownBlock = some x → v2.ownBlock ≠ some x) ∧ Sv.Ex w19 wz T) (fun _ _ i _ => 9 - (intOf i).toNat)
      case atStart => exact ⟨0, Nat.zero_le _, rfl, (by obtain ⟨Y, ho, _⟩ := K1.out.1; exact ⟨_, ho⟩), ⟨_, K1.out.2.1⟩, fun x e => Or.inl (KT.out.2.1 x e), fun x e => Or.inl (KT.out.2.2.1 x e), KT.out.2.2.2.1, K1.out.2.2⟩
      case round =>
        clear K1 hk hk1 hk3 hk4
        obtain ⟨k, hk, rfl, ⟨xs, hR⟩, ⟨ys, hI⟩, hT1, hT2, hT3, hE⟩ := hrel
        by_cases hk1 : k < 9
        case pos =>
          have hk2 : (k : Int) < 9 := by omega
          have b5 := Sv.bw_new wr (.cells #[.float .f64 4666175065920897024] 25)
          have z0 : (wr.alloc (.cells #[.float .f64 4666175065920897024] 25)).heap.size = wr.heap.size + 1 := by simp
          have hsz := hE.size
          have h519 : Hid (w5.heap.size ≤ w19.heap.size ∧ w6.heap.size ≤ w19.heap.size) := HB19
          have KA := Sv.hid (And.intro (hR.kept (Sv.gb_bw b5 none) (by cases u13.ownBlock <;> simp)) (And.intro (hI.kept (Sv.gb_bw b5 none) (by cases u15.ownBlock <;> simp)) (And.intro hT1 (And.intro hT2 (And.intro hT3 (And.intro (hE.bw b5) (And.intro z0 (And.intro hsz (And.intro hR.lt hI.lt)))))))))
          clear hR hI hT1 hT2 hT3 hE b5 z0 hsz
          go_wp2_with (first
            | (at_builtin; refine wpList_append_lies _ (by rfl) _ _ 24 (by rfl) w5.heap.size 25 i0 (.float .f64 0) 1 8 Sv.und_f hi0 ha0 ha1 ha2 rfl (by decide) _ (NS + k) _ (by rfl) KA.out.1 ⟨wr.heap.size, 0, none⟩ 1 1 [.float .f64 4666175065920897024] (by rfl) rfl (cell_one_new _ _ _) (fun u hu => by simp only [List.mem_singleton] at hu; subst hu; rfl) (by decide) (by have := hNB.out; unfold maxLen; omega) (by have := hNB.out; omega) (by have := KA.out.2.2.2.2.2.2.1; have := KA.out.2.2.2.2.2.2.2.1; have := h519.out; omega) (wr.heap.size + 1) KA.out.2.2.2.2.2.2.1 ?_)
            | go_in)
          intro R cR w3' hown hgrow hat hlt2
          obtain ⟨hR, hI, hT1, hT2, hT3, hE, z0, hsz, hl1, hl2⟩ := KA.out
          have hI' := hI.kept hgrow (by
            cases hz : u15.ownBlock with
            | none => exact Or.inl rfl
            | some y => exact Or.inr (fun e => hT3 y e.symm hz))
          have hE' := hE.gb hgrow hT1
          have hT1' : ∀ x, (Value.slice (some ⟨R, 0, none⟩) (NS + k + 1) cR).ownBlock = some x → T x ∨ w19.heap.size ≤ x := fun x hx => by
            rcases hat with z | z
            · exact hT1 x (z.trans hx)
            · have h1 : R = x := by simpa [Value.ownBlock] using hx
              exact Or.inr (by omega)
          have hT3' : ∀ x, (Value.slice (some ⟨R, 0, none⟩) (NS + k + 1) cR).ownBlock = some x → u15.ownBlock ≠ some x := fun x hx => by
            rcases hat with z | z
            · exact hT3 x (z.trans hx)
            · intro hz
              have h1 : R = x := by simpa [Value.ownBlock] using hx
              have := (hl2 x hz).2
              omega
          have hs1 := hgrow.size
          rw [z0] at hs1
          have b6 := Sv.bw_new w3' (.cells #[.int .i64 9004] 3)
          have z1 : (w3'.alloc (.cells #[.int .i64 9004] 3)).heap.size = w3'.heap.size + 1 := by simp
          have KB := Sv.hid (And.intro (hI'.kept (Sv.gb_bw b6 none) (by cases u15.ownBlock <;> simp)) (And.intro (hown.kept (Sv.gb_bw b6 none) (by simp [Value.ownBlock])) (And.intro hT1' (And.intro hT2 (And.intro hT3' (And.intro (hE'.bw b6) (And.intro z1 (And.intro (show w19.heap.size ≤ w3'.heap.size by omega) hown.lt))))))))
          clear hR hI hT1 hT2 hT3 hE z0 hsz hl1 hl2 hI' hE' hT1' hT3' hs1 b6 z1 hown hgrow hat hlt2 KA
          go_wp2_with (first
            | (at_builtin; refine wpList_append_lies _ (by rfl) _ _ 29 (by rfl) w6.heap.size 3 j0 (.int .i64 0) 1 8 Sv.und_i hj0 hb0 hb1 hb2 rfl (by decide) _ (NP + k) _ (by rfl) KB.out.1 ⟨w3'.heap.size, 0, none⟩ 1 1 [.int .i64 9004] (by rfl) rfl (cell_one_new _ _ _) (fun u hu => by simp only [List.mem_singleton] at hu; subst hu; rfl) (by decide) (by have := hNB.out; unfold maxLen; omega) (by have := hNB.out; omega) (by have := KB.out.2.2.2.2.2.2.1; have := KB.out.2.2.2.2.2.2.2.1; have := h519.out; omega) (w3'.heap.size + 1) KB.out.2.2.2.2.2.2.1 ?_)
            | go_in)
          intro R2 cR2 w4' hown hgrow hat hlt2
          obtain ⟨hI, hR, hT1, hT2, hT3, hE, z1, hsz, hl1⟩ := KB.out
          have KN : Hid ((∃ xs, w4'.ownsRow w5.heap.size 25 1 (.slice (some ⟨R, 0, none⟩) (NS + k + 1) cR) (NS + (k + 1)) xs) ∧ (∃ xs, w4'.ownsRow w6.heap.size 3 1 (.slice (some ⟨R2, 0, none⟩) (NP + k + 1) cR2) (NP + (k + 1)) xs) ∧ (∀ x, (Value.slice (some ⟨R, 0, none⟩) (NS + k + 1) cR).ownBlock = some x → T x ∨ w19.heap.size ≤ x) ∧ (∀ x, (Value.slice (some ⟨R2, 0, none⟩) (NP + k + 1) cR2).ownBlock = some x → T x ∨ w19.heap.size ≤ x) ∧ (∀ x, (Value.slice (some ⟨R, 0, none⟩) (NS + k + 1) cR).ownBlock = some x → (Value.slice (some ⟨R2, 0, none⟩) (NP + k + 1) cR2).ownBlock ≠ some x) ∧ Sv.Ex w19 w4' T) := by
            refine ⟨⟨_, hR.kept hgrow (Or.inr (fun e => hT3 R rfl e.symm))⟩, ⟨_, hown⟩, hT1, fun x hx => ?_, fun x hx hz => ?_, hE.gb hgrow hT2⟩
            · rcases hat with z | z
              · exact hT2 x (z.trans hx)
              · have h1 : R2 = x := by simpa [Value.ownBlock] using hx
                exact Or.inr (by omega)
            · rcases hat with z | z
              · exact hT3 x hx (z.trans hz)
              · have h1 : R2 = x := by simpa [Value.ownBlock] using hz
                have := (hl1 x hx).2
                omega
          clear hR hI hT1 hT2 hT3 hE z1 hsz hl1 hown hgrow hat hlt2 KB
          go_wp2
          go_roundw
          case rel => exact ⟨k + 1, by omega, by simp, KN.out.1, KN.out.2.1, KN.out.2.2.1, KN.out.2.2.2.1, KN.out.2.2.2.2.1, KN.out.2.2.2.2.2⟩
          case measure => simp [intOf]; omega
        have hk3 : k = 9 := by omega
        have hk4 : ¬ (k : Int) < 9 := by omega
        subst hk3
        clear hk4 hk1 hk
        have HE := Sv.hid hE
        clear hR hI hT1 hT2 hT3 hE
        obtain ⟨fa, fx, fb, fw, fr, fu, fv, fs, fp, ft, fq, fw2, fz⟩ := FX.out
        have B5 : Bw w5 wr := Sv.Ex.below HB5.out HE.out HB19.out.1 (fun x hx => (KT.out.1 x hx).1)
        have hNSP := hnS.out
        have KF := Sv.hid (And.intro (OLD.out.1.bw B5) (And.intro (OLD.out.2.1.bw B5) (And.intro (OLD.out.2.2.1.bw B5) (And.intro (OLD.out.2.2.2.1.bw B5) (And.intro (OLD.out.2.2.2.2.1.bw B5) (And.intro (OLD.out.2.2.2.2.2.1.bw B5) (And.intro (bw_trans OLD.out.2.2.2.2.2.2 B5) (And.intro (Sv.Ls.ex fw2.ls HE.out (fun x hx q => by have := KT.out.1 x q; have := HW.out.1 x hx; have := KT.out.2.2.2.2; omega)) (And.intro (Sv.Ls.ex ft.ls HE.out (fun x hx q => by have := KT.out.1 x q; have := HT.out.1 x hx; have := KT.out.2.2.2.2; omega)) (And.intro (Sv.Li.ex fz.li HE.out (fun x hx q => by have := KT.out.1 x q; have := HZ.out.1 x hx; have := KT.out.2.2.2.2; omega)) (Sv.Li.ex fq.li HE.out (fun x hx q => by have := KT.out.1 x q; have := HQ.out.1 x hx; have := KT.out.2.2.2.2; omega))))))))))))
        clear fa fx fb fw fr fu fv fs fp ft fq fw2 fz B5 hNSP KT FX
        go_wp2_with fail
        refine (rsamef14 KF.out.2.2.2.2.2.2.2.1 KF.out.2.2.2.2.2.2.2.2.1 hnS.out.1).mono ?_
        rintro e' w20 ⟨rfl, bb⟩
        replace KF := Sv.hid (And.intro (KF.out.1.bw bb) (And.intro (KF.out.2.1.bw bb) (And.intro (KF.out.2.2.1.bw bb) (And.intro (KF.out.2.2.2.1.bw bb) (And.intro (KF.out.2.2.2.2.1.bw bb) (And.intro (KF.out.2.2.2.2.2.1.bw bb) (And.intro (bw_trans KF.out.2.2.2.2.2.2.1 bb) (And.intro (KF.out.2.2.2.2.2.2.2.2.2.1.bw bb) (KF.out.2.2.2.2.2.2.2.2.2.2.bw bb)))))))))
        clear bb
        go_wp2_with fail
        refine (rints14 KF.out.2.2.2.2.2.2.2.1 KF.out.2.2.2.2.2.2.2.2 hnS.out.2).mono ?_
        rintro e' w21 ⟨rfl, bb⟩
        replace KF := Sv.hid (And.intro (KF.out.1.bw bb) (And.intro (KF.out.2.1.bw bb) (And.intro (KF.out.2.2.1.bw bb) (And.intro (KF.out.2.2.2.1.bw bb) (And.intro (KF.out.2.2.2.2.1.bw bb) (And.intro (KF.out.2.2.2.2.2.1.bw bb) (bw_trans KF.out.2.2.2.2.2.2.1 bb)))))))
        clear bb
        go_wp2_with fail
        refine (rkept14 KF.out.2.2.2.1 KF.out.1 hn2.out.1 hn2.out.2.2.2.2).mono ?_
        rintro e' w22 ⟨rfl, bb⟩
        replace KF := Sv.hid (And.intro (KF.out.2.1.bw bb) (And.intro (KF.out.2.2.1.bw bb) (And.intro (KF.out.2.2.2.2.1.bw bb) (And.intro (KF.out.2.2.2.2.2.1.bw bb) (bw_trans KF.out.2.2.2.2.2.2 bb)))))
        clear bb
        go_wp2_with fail
        refine (rsamef14 KF.out.2.2.1 KF.out.1 hn2.out.2.2.1).mono ?_
        rintro e' w23 ⟨rfl, bb⟩
        replace KF := Sv.hid (And.intro (KF.out.2.1.bw bb) (And.intro (KF.out.2.2.2.1.bw bb) (bw_trans KF.out.2.2.2.2 bb)))
        clear bb
        go_wp2_with fail
        refine (rsamef14 KF.out.2.1 KF.out.1 hn2.out.2.2.2.1).mono ?_
        rintro e' w24 ⟨rfl, bb⟩
        replace KF := Sv.hid (bw_trans KF.out.2.2 bb)
        clear bb
        go_wp2
        go_ret
        exact ⟨rfl, KF.out⟩
end Go.Proofs.Ytjfkdmddfeeheaa
