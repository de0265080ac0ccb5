/-
  OWN TEXT: package eddybig: a number set to itself, a fraction without its sign; eddylaw14's rat; the built-in max of two floats.
-/
import Derived.Test.YtjfkdmddfeeheaaJSwH
import Derived.Test.YtjfkdmddfeeheaaJSvB
import Derived.Test.YtjfkdmddfeeheaaJBhAToBhB
import Derived.Test.YtjfkdmddfeeheaaJSwAToSwB
namespace Go.Proofs.Ytjfkdmddfeeheaa
open Go.ChangeShapes Go.WideShapes Go.ChangeAt Go.RowKit
set_option linter.unusedVariables false
attribute [local go_sem] frombits_call tobits_call run_neg
open Bg
set_option maxHeartbeats 4000000 in
theorem intself_any (B N : Nat) (s : Bool) (w : World) (hnw : Nw w B) (v : Value) (z0 : w.cell? ⟨B, 0, none⟩ = some (.bool s)) (z1 : w.cell? ⟨B, 1, none⟩ = some v) (h2 : Nm w v N) (hN : N.log2 < 32000000) :
    Calls Try.prog 91 #[.pointer (some ⟨B, 0, none⟩), .pointer (some ⟨B, 0, none⟩)] w fun e w' => Sw w B s N e w' := by
  obtain ⟨va, vn, vc, rfl, _⟩ := nm_slice h2
  have CE : ∀ w', Fr w w' → w'.cell? ⟨B, 0, none⟩ = some (.bool s) ∧ w'.cell? ⟨B, 1, none⟩ = some (.slice va vn vc) := fun w' f =>
    ⟨(f.1.cell (p := ⟨B, 0, none⟩) hnw.1).trans z0, (f.1.cell (p := ⟨B, 1, none⟩) hnw.1).trans z1⟩
  have UP : Hid (∀ wz, Fr w wz → Calls Try.prog 84 #[.slice va vn vc] wz fun e w' => ∃ x, e = .returned x ∧ Nm w' x N ∧ Fr w w' ∧ w'.cell? ⟨B, 0, none⟩ = some (.bool s) ∧ w'.cell? ⟨B, 1, none⟩ = some (.slice va vn vc)) := by
    intro wz hz'
    refine (copied_any _ N wz (h2.mono hz') hN).mono ?_
    rintro e w' ⟨x, rfl, hx', hf⟩
    exact ⟨x, rfl, hx', hz'.trans hf, CE _ (hz'.trans hf)⟩
  have ST : Hid (∀ wz xv, Fr w wz → Nm wz xv N → Calls Try.prog 86 #[.pointer (some ⟨B, 0, none⟩), .bool s, xv] wz fun e w' => e = .returned (.pointer (some ⟨B, 0, none⟩)) ∧ Sw w B s N e w') := by
    intro wz xv hz' hxv
    refine (iset_any B s xv _ wz (hnw.mono hz') hxv _ _ ((hz'.1.cell (p := ⟨B, 0, none⟩) hnw.1).trans z0) ((hz'.1.cell (p := ⟨B, 1, none⟩) hnw.1).trans z1)).mono ?_
    rintro e w' ⟨rfl, rfl⟩
    exact ⟨rfl, wz, xv, rfl, hz', hxv, rfl⟩
  have S0 := CE w.drew (Fr.refl _).drew
  clear CE h2 z0 z1 hnw
  go_enter Try.func91, Try.ntmps91
  go_wp2_with fail
  refine wp_region_K (fun w' => w'.cell? ⟨B, 0, none⟩ = some (.bool s) ∧ w'.cell? ⟨B, 1, none⟩ = some (.slice va vn vc)) 10 12 #[false, false, false, false, false, false, false, false, false, false, false, false] (by kernel_rfl) (by kernel_rfl) (by kernel_rfl) ?_
  refine wpAnyK_take 0 5 (v := ?v0) rfl (by kernel_rfl) (by kernel_rfl) (by kernel_rfl) (by kernel_rfl) (by kernel_rfl) (fun _ _ _ h => h) rfl (Or.inl ⟨by rfl, ?h0⟩) (by assumption) ?r0
  case h0 => (intro w hSw; go_simp; with_reducible rfl)
  simp only [Act.put, List.setIfInBounds_toArray, List.set_cons_zero, List.set_cons_succ]
  refine wpAnyK_take 1 6 (v := ?v1) rfl (by kernel_rfl) (by kernel_rfl) (by kernel_rfl) (by kernel_rfl) (by kernel_rfl) (fun _ _ _ h => h) rfl (Or.inl ⟨by rfl, ?h1⟩) (by assumption) ?r1
  case h1 => (intro w hSw; go_simp; with_reducible rfl)
  simp only [Act.put, List.setIfInBounds_toArray, List.set_cons_zero, List.set_cons_succ]
  refine wpAnyK_take 2 7 (v := ?v2) rfl (by kernel_rfl) (by kernel_rfl) (by kernel_rfl) (by kernel_rfl) (by kernel_rfl) (fun _ _ _ h => h) rfl (Or.inl ⟨by rfl, ?h2⟩) (by assumption) ?r2
  case h2 => (intro w hSw; go_simp; with_reducible rfl)
  simp only [Act.put, List.setIfInBounds_toArray, List.set_cons_zero, List.set_cons_succ]
  refine wpAnyK_take 3 8 (v := ?v3) rfl (by kernel_rfl) (by kernel_rfl) (by kernel_rfl) (by kernel_rfl) (by kernel_rfl) (fun _ _ _ h => h) rfl (Or.inl ⟨by rfl, ?h3⟩) (by assumption) ?r3
  case h3 => (intro w hSw; go_simp; with_reducible rfl)
  simp only [Act.put, List.setIfInBounds_toArray, List.set_cons_zero, List.set_cons_succ]
  refine wpAnyK_take 4 9 (v := ?v4) rfl (by kernel_rfl) (by kernel_rfl) (by kernel_rfl) (by kernel_rfl) (by kernel_rfl) (fun _ _ _ h => h) rfl (Or.inl ⟨by rfl, ?h4⟩) (by assumption) ?r4
  case h4 => (intro w hSw; go_simp; with_reducible rfl)
  simp only [Act.put, List.setIfInBounds_toArray, List.set_cons_zero, List.set_cons_succ]
  refine wpAnyK_take 5 10 (v := ?v5) rfl (by kernel_rfl) (by kernel_rfl) (by kernel_rfl) (by kernel_rfl) (by kernel_rfl) (fun _ _ _ h => h) rfl (Or.inl ⟨by rfl, ?h5⟩) (by assumption) ?r5
  case h5 => (intro w hSw; go_simp; with_reducible rfl)
  simp only [Act.put, List.setIfInBounds_toArray, List.set_cons_zero, List.set_cons_succ]
  refine wpAnyK_take 6 11 (v := ?v6) rfl (by kernel_rfl) (by kernel_rfl) (by kernel_rfl) (by kernel_rfl) (by kernel_rfl) (fun _ _ _ h => h) rfl (Or.inl ⟨by rfl, ?h6⟩) (by assumption) ?r6
  case h6 => (intro w hSw; go_simp; with_reducible rfl)
  simp only [Act.put, List.setIfInBounds_toArray, List.set_cons_zero, List.set_cons_succ]
  refine wpAnyK_take 7 12 (v := ?v7) rfl (by kernel_rfl) (by kernel_rfl) (by kernel_rfl) (by kernel_rfl) (by kernel_rfl) (fun _ _ _ h => h) rfl (Or.inl ⟨by rfl, ?h7⟩) (by assumption) ?r7
  case h7 => (intro w hSw; go_simp; with_reducible rfl)
  simp only [Act.put, List.setIfInBounds_toArray, List.set_cons_zero, List.set_cons_succ]
  refine wpAnyK_take 8 13 (v := ?v8) rfl (by kernel_rfl) (by kernel_rfl) (by kernel_rfl) (by kernel_rfl) (by kernel_rfl) (fun _ _ _ h => h) rfl (Or.inl ⟨by rfl, ?h8⟩) (by assumption) ?r8
  case h8 => (intro w hSw; go_simp; with_reducible rfl)
  simp only [Act.put, List.setIfInBounds_toArray, List.set_cons_zero, List.set_cons_succ]
  refine wpAnyK_one 9 (by kernel_rfl) rfl (fun K hK => ?_)
  go_simp
  go_wp2_with (go_at_call 84; refine (UP.out _ (Fr.refl _).drew).mono ?_; rintro e w1 ⟨xv, rfl, hxv, f1, g1, g2⟩)
  refine hK.out _ _ (fun _ _ => ⟨g1, g2⟩) ?_
  clear hK K
  simp only [List.setIfInBounds_toArray, List.set_cons_zero, List.set_cons_succ]
  refine wpAnyK_one 10 (by kernel_rfl) rfl (fun K hK => ?_)
  go_simp
  go_wp2_with (go_at_call 86; refine (ST.out _ _ f1 hxv).mono ?_; rintro e w2 ⟨rfl, hsw⟩)
  refine hK.out _ _ (fun h => absurd rfl h) ?_
  clear hK K
  simp only [List.setIfInBounds_toArray, List.set_cons_zero, List.set_cons_succ]
  refine wpAnyK_one 11 (by kernel_rfl) rfl (fun K hK => ?_)
  go_simp
  refine hK.out _ _ (fun _ h => absurd h (by decide)) ?_
  clear hK K
  simp only [List.setIfInBounds_toArray, List.set_cons_zero, List.set_cons_succ]
  refine wpAnyK_done (by kernel_rfl) ?_ _
  go_wp2
  go_ret
  exact hsw
theorem Rt.abs {w : World} {B : Nat} {s : Bool} {A D : Nat} (h : Rt w B s A D) : Rt (w.setCell ⟨B, 0, none⟩ (.bool false)) B false A D := by
  obtain ⟨v, h1, h2⟩ := h.c1
  obtain ⟨u, h3, h4⟩ := h.c2
  exact ⟨h.nw.set 0 (.bool false) _ h.c0 (by intro x k; cases k), World.cell?_setCell_same _ _ _ h.c0, ⟨v, (World.cell?_setCell_other _ _ _ _ (by intro k; cases k)).trans h1, h2.off h.nw _ _⟩, ⟨u, (World.cell?_setCell_other _ _ _ _ (by intro k; cases k)).trans h3, h4.off h.nw _ _⟩⟩
set_option maxHeartbeats 4000000 in
theorem ratself_any (B A D : Nat) (s : Bool) (w : World) (hz : Rt w B s A D) (hA : A.log2 < 32000000) (hD : D.log2 < 32000000) :
    Calls Try.prog 62 #[.pointer (some ⟨B, 0, none⟩), .pointer (some ⟨B, 0, none⟩)] w fun e w' => e = .returned (.pointer (some ⟨B, 0, none⟩)) ∧ Rt w' B (s && decide (A ≠ 0)) A D ∧ ∃ w1 x d, Fr w w1 ∧ w' = st w1 B (s && decide (A ≠ 0)) x d := by
  obtain ⟨v, h1, h2⟩ := hz.c1
  obtain ⟨u, h3, h4⟩ := hz.c2
  obtain ⟨ua, un, uc, rfl, _⟩ := nm_slice h4
  have CP : Hid (∀ wz, Fr w wz → Calls Try.prog 84 #[.slice ua un uc] wz fun e w' => ∃ x, e = .returned x ∧ Nm w' x D ∧ Fr w w') := by
    intro wz hz'
    refine (copied_any _ D wz (h4.mono hz') hD).mono ?_
    rintro e w' ⟨x, rfl, hx', hf⟩
    exact ⟨x, rfl, hx', hz'.trans hf⟩
  obtain ⟨t, ht⟩ : ∃ t, (s && decide (A ≠ 0)) = t := ⟨_, rfl⟩
  rw [ht]
  have IS : Hid (∀ wz, Fr w wz → Calls Try.prog 91 #[.pointer (some ⟨B, 0, none⟩), .pointer (some ⟨B, 0, none⟩)] wz fun e w' => ∃ w1 xv, e = .returned (.pointer (some ⟨B, 0, none⟩)) ∧ Fr wz w1 ∧ Nm w1 xv A ∧ w' = siW w1 B t xv) := fun wz hz' => by
    rw [← ht]
    exact intself_any B A s wz (hz.nw.mono hz') v ((hz'.1.cell (p := ⟨B, 0, none⟩) hz.nw.1).trans hz.c0) ((hz'.1.cell (p := ⟨B, 1, none⟩) hz.nw.1).trans h1) (h2.mono hz') hA
  have HZ := Sv.hid hz
  clear h1 h2 h4 hz
  go_enter Try.func62, Try.ntmps62
  go_wp2_with fail
  refine (CP.out _ (Fr.refl _)).mono ?_
  rintro e w1 ⟨dv, rfl, hdv, f1⟩
  obtain ⟨da, dn, dc, rfl, _⟩ := nm_slice hdv
  have HD := Sv.hid (And.intro hdv f1)
  clear hdv f1 h3
  go_wp2_with fail
  have S0 : True := trivial
  refine wp_region_K (fun _ => True) 6 7 #[false, false, false, false, false, false, false] (by kernel_rfl) (by kernel_rfl) (by kernel_rfl) ?_
  refine wpAnyK_take 0 11 (v := ?v0) rfl (by kernel_rfl) (by kernel_rfl) (by kernel_rfl) (by kernel_rfl) (by kernel_rfl) (fun _ _ _ h => h) rfl (Or.inl ⟨by rfl, ?h0⟩) (by assumption) ?r0
  case h0 => (intro w hSw; go_simp; with_reducible rfl)
  simp only [Act.put, List.setIfInBounds_toArray, List.set_cons_zero, List.set_cons_succ]
  refine wpAnyK_take 1 12 (v := ?v1) rfl (by kernel_rfl) (by kernel_rfl) (by kernel_rfl) (by kernel_rfl) (by kernel_rfl) (fun _ _ _ h => h) rfl (Or.inl ⟨by rfl, ?h1⟩) (by assumption) ?r1
  case h1 => (intro w hSw; go_simp; with_reducible rfl)
  simp only [Act.put, List.setIfInBounds_toArray, List.set_cons_zero, List.set_cons_succ]
  refine wpAnyK_take 2 13 (v := ?v2) rfl (by kernel_rfl) (by kernel_rfl) (by kernel_rfl) (by kernel_rfl) (by kernel_rfl) (fun _ _ _ h => h) rfl (Or.inl ⟨by rfl, ?h2⟩) (by assumption) ?r2
  case h2 => (intro w hSw; go_simp; with_reducible rfl)
  simp only [Act.put, List.setIfInBounds_toArray, List.set_cons_zero, List.set_cons_succ]
  refine wpAnyK_take 3 14 (v := ?v3) rfl (by kernel_rfl) (by kernel_rfl) (by kernel_rfl) (by kernel_rfl) (by kernel_rfl) (fun _ _ _ h => h) rfl (Or.inl ⟨by rfl, ?h3⟩) (by assumption) ?r3
  case h3 => (intro w hSw; go_simp; with_reducible rfl)
  simp only [Act.put, List.setIfInBounds_toArray, List.set_cons_zero, List.set_cons_succ]
  refine wpAnyK_take 4 15 (v := ?v4) rfl (by kernel_rfl) (by kernel_rfl) (by kernel_rfl) (by kernel_rfl) (by kernel_rfl) (fun _ _ _ h => h) rfl (Or.inl ⟨by rfl, ?h4⟩) (by assumption) ?r4
  case h4 => (intro w hSw; go_simp; with_reducible rfl)
  simp only [Act.put, List.setIfInBounds_toArray, List.set_cons_zero, List.set_cons_succ]
  refine wpAnyK_take 5 16 (v := ?v5) rfl (by kernel_rfl) (by kernel_rfl) (by kernel_rfl) (by kernel_rfl) (by kernel_rfl) (fun _ _ _ h => h) rfl (Or.inl ⟨by rfl, ?h5⟩) (by assumption) ?r5
  case h5 => (intro w hSw; go_simp; with_reducible rfl)
  simp only [Act.put, List.setIfInBounds_toArray, List.set_cons_zero, List.set_cons_succ]
  refine wpAnyK_one 6 (by kernel_rfl) rfl (fun K hK => ?_)
  go_simp
  go_wp2_with (go_at_call 91; refine (IS.out _ HD.out.2.drew).mono ?_; rintro e w2 ⟨w3, xv, rfl, f2, hxv, HW2⟩)
  have HW2 := Sv.hid HW2
  refine hK.out _ _ (fun h => absurd rfl h) ?_
  clear hK K
  simp only [List.setIfInBounds_toArray, List.set_cons_zero, List.set_cons_succ]
  refine wpAnyK_done (by kernel_rfl) ?_ _
  obtain rfl := HW2.out
  obtain ⟨hdv, f1⟩ := HD.out
  have f3 : Fr w w3 := (f1.drew).trans f2
  have hR := (HZ.out.mono f3).st hxv (hdv.mono (((Fr.refl _).drew).trans f2)) t
  have hr3 := HZ.out.mono f3
  obtain ⟨z2, hz3, _⟩ := hr3.c2
  have c2 : (siW w3 B t xv).cell? ⟨B, 2, none⟩ = some z2 := by
    unfold siW
    rw [World.cell?_setCell_other _ _ _ _ (by intro k; cases k), World.cell?_setCell_other _ _ _ _ (by intro k; cases k)]
    exact hz3
  have f2z : (siW w3 B t xv).frozen? ⟨B, 2, none⟩ = false := by
    unfold siW
    rw [World.frozen?_setCell, World.frozen?_setCell]; exact hr3.nw.2.2 2
  have hst : (siW w3 B t xv).setCell ⟨B, 2, none⟩ (.slice da dn dc) = st w3 B t xv (.slice da dn dc) := rfl
  have HST : Hid _ := hst
  have HR : Hid _ := And.intro hR f3
  clear ht hst hR hr3 f3 hz3 hxv f1 f2 hdv HD HZ IS CP
  generalize siW w3 B t xv = w4 at *
  go_wp2
  go_ret
  rw [HST.out]
  exact ⟨rfl, HR.out.1, w3, HR.out.2, _, _, rfl⟩
set_option maxHeartbeats 4000000 in
theorem qabs_any (B k : Nat) (r : Rat) (w : World) (hx : Rf w B r k) (hk : k ≤ 32000000) :
    Calls Try.prog 34 #[.pointer (some ⟨B, 0, none⟩), .pointer (some ⟨B, 0, none⟩)] w fun e w' => e = .returned (.pointer (some ⟨B, 0, none⟩)) ∧ Rf w' B (Sv.ab r) k ∧ ∀ w0, Fr w0 w → w0.heap.size ≤ B → Fr w0 w' := by
  obtain ⟨p, q, h1, h2, s, A, D, h3, h4, h5, h6⟩ := hx
  have hD : D.log2 < 32000000 := by
    unfold den at h6
    split at h6
    · subst_vars; decide
    · omega
  have RS := Sv.hid (ratself_any B A D s w h3 (by omega) hD)
  have HW : Hid (∀ w', Rt w' B false A D → Rf w' B (Sv.ab r) k) := by
    intro w' hR
    have e1 : A * q = p.natAbs * den D := by
      have := congrArg Int.natAbs h4
      rw [Int.natAbs_mul, Int.natAbs_mul, sv_abs, Int.natAbs_natCast, Int.natAbs_natCast] at this
      exact this
    refine ⟨(p.natAbs : Int), q, h1, ?_, false, A, D, hR, ?_, h5, h6⟩
    · have hq : 0 < (q : Rat) := by
        have h : ((0 : Nat) : Rat) < (q : Rat) := Rat.natCast_lt_natCast.2 h1
        exact h
      rw [Rat.intCast_natCast]
      unfold Sv.ab
      by_cases z : 0 ≤ r
      · rw [if_pos z, h2]
        have k1 : 0 ≤ r * (q : Rat) := Rat.mul_nonneg z (Rat.le_of_lt hq)
        rw [h2] at k1
        have k2 : 0 ≤ p := Rat.intCast_le_intCast.1 (by exact k1)
        rw [← Rat.intCast_natCast]
        congr 1
        omega
      · rw [if_neg z, show -r * (q : Rat) = -(r * (q : Rat)) by grind, h2]
        have k1 : 0 ≤ -r * (q : Rat) := Rat.mul_nonneg (by grind) (Rat.le_of_lt hq)
        rw [show -r * (q : Rat) = -(r * (q : Rat)) by grind, h2, ← Rat.intCast_neg] at k1
        have k2 : 0 ≤ -p := Rat.intCast_le_intCast.1 (by exact k1)
        rw [← Rat.intCast_natCast, ← Rat.intCast_neg]
        congr 1
        omega
    · show (A : Int) * (q : Int) = (p.natAbs : Int) * (den D : Int)
      rw [← Int.natCast_mul, ← Int.natCast_mul, e1]
  clear h1 h2 h3 h4 h5 h6 hD
  go_enter Try.func34, Try.ntmps34
  go_wp2_with fail
  refine RS.out.mono ?_
  rintro e w1 ⟨rfl, hR, w2, xv, dv, hf, hw⟩
  have HA := Sv.hid (And.intro hR.abs (And.intro hf hw))
  have c0 := hR.c0
  have z0 := hR.nw.2.2 0
  clear hR hf hw RS
  go_wp2
  go_ret
  refine ⟨rfl, HW.out _ HA.out.1, fun w0 f hB => ?_⟩
  have f2 := (f.trans HA.out.2.1).st hB (s && decide (A ≠ 0)) xv dv
  rw [← HA.out.2.2] at f2
  exact f2.setCell (p := ⟨B, 0, none⟩) hB _
theorem rat14 (x : Nat) (w : World) (hx : Sv.Fi x) :
    Calls Try.prog 30 #[.float .f64 x] w fun e w' => ∃ B, e = .returned (.pointer (some ⟨B, 0, none⟩)) ∧ Rf w' B (Sv.rv x) 2200 ∧ w.heap.size ≤ B ∧ Fr w w' := by
  have hm := rt_made w
  have hF : Fr w (w.alloc (.cells #[.bool false, .slice none 0 0, .slice none 0 0] 56)) := (Fr.refl w).alloc _ _
  obtain ⟨B, hB⟩ : ∃ B, B = w.heap.size := ⟨_, rfl⟩
  have HB : Hid (B = w.heap.size) := hB
  rw [← hB] at hm
  have HX := Sv.hid hx
  clear hB hx
  go_enter Try.func30, Try.ntmps30
  go_wp2_with fail
  rw [← HB.out]
  generalize w.alloc (.cells #[.bool false, .slice none 0 0, .slice none 0 0] 56) = w1 at *
  refine (qset_any B x _ _ _ _ hm HX.out).mono ?_
  rintro e w2 ⟨rfl, hrv, hsv⟩
  have hfr : Fr w w2 := by
    obtain ⟨w3, s, x, d, h1, rfl⟩ := hsv
    exact (hF.trans h1).st (by have := HB.out; omega) _ _ _
  clear hsv
  go_wp2
  go_ret
  exact ⟨B, rfl, hrv, by have := HB.out; omega, hfr⟩
theorem bmax14 {a b : Nat} (na : a < 9218868437227405312) (nb : b < 9218868437227405312) (ts : Array TypeId) (t : TypeId) (w : World) : (Builtin.max_ ts t #[.float .f64 a, .float .f64 b]).run Try.prog w = .ok (.float .f64 (if a < b then b else a)) w := by
  have ra : Fl.rg a = a := Nat.mod_eq_of_lt (by omega)
  have rb : Fl.rg b = b := Nat.mod_eq_of_lt (by omega)
  have e : FloatKind.f64.format.order a b = some (compare (a : Int) (b : Int)) := by
    have k := Fl.order_all a b
    have k1 : Fl.nan a = false := decide_eq_false (by omega)
    have k2 : Fl.nan b = false := decide_eq_false (by omega)
    have k3 : Fl.key a = (a : Int) := Fl.key_wd false a (by omega)
    have k4 : Fl.key b = (b : Int) := Fl.key_wd false b (by omega)
    rw [k1, k2, k3, k4] at k
    exact k
  simp only [Builtin.max_, Builtin.max2, List.foldlM]
  rw [e]
  by_cases c : a < b
  · rw [show compare (a : Int) (b : Int) = .lt from Int.compare_eq_lt.mpr (by omega), if_pos c]; rfl
  · rw [if_neg c]
    rcases Nat.lt_or_ge b a with d | d
    · rw [show compare (a : Int) (b : Int) = .gt from Int.compare_eq_gt.mpr (by omega)]; rfl
    · have : a = b := by omega
      subst this
      rw [show compare (a : Int) (a : Int) = .eq from Int.compare_eq_eq.mpr rfl]
      dsimp only
      rw [ite_self]
      rfl
end Go.Proofs.Ytjfkdmddfeeheaa
/-
  OWN TEXT: a difference, a product, a quotient that is finite has finite operands.
-/
set_option linter.unusedVariables false
namespace Go.Proofs.Ytjfkdmddfeeheaa.Sv
theorem read_cas (x : Nat) (h : Fl.finB x = false) : Fl.nan x = true ∨ Ieee.double.read x = .infinity (Fl.sg x) := by
  by_cases n : Fl.nan x = true
  · exact Or.inl n
  · right
    have h1 := of_decide_eq_false h
    have h2 := Fl.nan_le (Bool.eq_false_iff.2 n)
    exact Fl.read_inf (by omega)
theorem sub_far_l {a b : Nat} (h : Fl.finB a = false) : Fl.finB (op .sub a b) = false := by
  unfold op
  rcases read_cas a h with n | hr
  · rw [nan_left .sub iSub n]; decide
  · show Fl.finB (match Ieee.double.sub a b with | some z => Fl.bitsF z | none => 9221120237041090560) = false
    unfold Ieee.Format.sub
    rw [hr]
    cases e : Ieee.double.read b with
    | nan s f => show Fl.finB 9221120237041090560 = false; decide
    | infinity s => cases s <;> cases Fl.sg a <;> decide
    | number s m p =>
      show Fl.finB (Fl.bitsF (Ieee.double.write (Ieee.Datum.infinity (Fl.sg a)))) = false
      cases Fl.sg a <;> decide
theorem sub_far_r {a b : Nat} (h : Fl.finB b = false) : Fl.finB (op .sub a b) = false := by
  unfold op
  rcases read_cas b h with n | hr
  · rw [nan_right .sub iSub n]; decide
  · show Fl.finB (match Ieee.double.sub a b with | some z => Fl.bitsF z | none => 9221120237041090560) = false
    unfold Ieee.Format.sub
    rw [hr]
    cases e : Ieee.double.read a with
    | nan s f => show Fl.finB 9221120237041090560 = false; decide
    | infinity s => cases s <;> cases Fl.sg b <;> decide
    | number s m p =>
      show Fl.finB (Fl.bitsF (Ieee.double.write (Ieee.Datum.infinity (!Fl.sg b)))) = false
      cases Fl.sg b <;> decide
theorem mul_far_r {a b : Nat} (h : Fl.finB b = false) : Fl.finB (op .mul a b) = false := by
  unfold op
  rcases read_cas b h with n | hr
  · rw [nan_right .mul iMul n]; decide
  · show Fl.finB (match Ieee.double.mul a b with | some z => Fl.bitsF z | none => 9221120237041090560) = false
    unfold Ieee.Format.mul
    rw [hr]
    cases e : Ieee.double.read a with
    | nan s f => show Fl.finB 9221120237041090560 = false; decide
    | infinity s => cases s <;> cases Fl.sg b <;> decide
    | number s m p =>
      cases m with
      | zero => show Fl.finB 9221120237041090560 = false; decide
      | succ m =>
        have hp : (Ieee.Datum.number s (m + 1) p).product (Ieee.Datum.infinity (Fl.sg b)) = some (Ieee.Datum.infinity (Fl.sg b ^^ s)) := by simp [Ieee.Datum.product]
        rw [hp]
        cases s <;> cases Fl.sg b <;> decide
theorem quo_far_l {a b : Nat} (h : Fl.finB a = false) (hb : Fi b) : Fl.finB (op .quo a b) = false := by
  unfold op
  rcases read_cas a h with n | hr
  · rw [nan_left .quo iQuo n]; decide
  · show Fl.finB (match Ieee.double.div a b with | some z => Fl.bitsF z | none => 9221120237041090560) = false
    unfold Ieee.Format.div
    obtain ⟨m, k, hm, _⟩ := Fl.read_fin hb.2
    rw [hr, hm]
    have hp : ∀ t, (Ieee.Datum.infinity (Fl.sg a)).quotient t (Ieee.Datum.number (Fl.sg b) m (-1074 + (k : Int))) = some (Ieee.Datum.infinity (Fl.sg a ^^ Fl.sg b)) := by intro t; simp [Ieee.Datum.quotient]
    rw [hp]
    cases Fl.sg a <;> cases Fl.sg b <;> decide
theorem sub_near {a b : Nat} (h : Fl.finB (op .sub a b) = true) : Fl.finB a = true ∧ Fl.finB b = true := by
  refine ⟨?_, ?_⟩
  · cases z : Fl.finB a
    · rw [sub_far_l z] at h; cases h
    · rfl
  · cases z : Fl.finB b
    · rw [sub_far_r z] at h; cases h
    · rfl
theorem mul_near {a b : Nat} (h : Fl.finB (op .mul a b) = true) : Fl.finB b = true := by
  cases z : Fl.finB b
  · rw [mul_far_r z] at h; cases h
  · rfl
theorem quo_near {a b : Nat} (hb : Fi b) (h : Fl.finB (op .quo a b) = true) : Fl.finB a = true := by
  cases z : Fl.finB a
  · rw [quo_far_l z hb] at h; cases h
  · rfl
end Go.Proofs.Ytjfkdmddfeeheaa.Sv
