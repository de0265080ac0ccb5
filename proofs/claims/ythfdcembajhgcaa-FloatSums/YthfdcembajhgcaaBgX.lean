/-
  OWN TEXT: what the methods added, Add, Sub, Mul, Quo of package eddybig's fractions do, in the worth of fractions.
-/
import Derived.Test.YthfdcembajhgcaaBgW
namespace Go.Proofs.Ythfdcembajhgcaa
open Go.ChangeShapes Go.WideShapes Go.ChangeAt Go.RowKit
open Bg
set_option linter.unusedVariables false
/-- the fraction at B is worth p by q; k bounds its bits -/
def Rv (w : World) (B : Nat) (p : Int) (q k : Nat) : Prop := ∃ s A D, Rt w B s A D ∧ sv s A * q = p * den D ∧ A.log2 < k ∧ (den D).log2 < k
theorem Rv.mono {w w' : World} {B : Nat} {p : Int} {q k : Nat} (h : Rv w B p q k) (f : Fr w w') : Rv w' B p q k := by
  obtain ⟨s, A, D, h1, h2⟩ := h
  exact ⟨s, A, D, h1.mono f, h2⟩
/-- what a call leaves that has set the fraction at B: its worth; all else as it was -/
def Sv (w : World) (B : Nat) (p : Int) (q k : Nat) (e : Ending) (w' : World) : Prop :=
  e = .returned (.pointer (some ⟨B, 0, none⟩)) ∧ Rv w' B p q k ∧ ∃ w1 s x d, Fr w w1 ∧ w' = st w1 B s x d
theorem Sv.fr {w w0 : World} {B : Nat} {p : Int} {q k : Nat} {e : Ending} {w' : World} (h : Sv w B p q k e w') (f : Fr w0 w) (hB : w0.heap.size ≤ B) : Fr w0 w' := by
  obtain ⟨_, _, w1, s, x, d, h1, rfl⟩ := h
  exact (f.trans h1).st hB _ _ _
theorem sv_abs (s : Bool) (A : Nat) : (sv s A).natAbs = A := by cases s <;> simp [sv]
theorem sd_sv {w : World} {B : Nat} {m : Bool} {N M : Nat} {e : Ending} {w' : World} {s0 : Bool} {A0 D0 : Nat} (hz : Rt w B s0 A0 D0) (h : Sd w B m N M e w') (p : Int) (q k : Nat) (hM : 0 < M) (hp : sv m N * q = p * M) (hN : N.log2 < k) (hMk : M.log2 < k) : Sv w B p q k e w' := by
  obtain ⟨w1, xv, yv, A, D, rfl, hf, hx, hy, rfl, e1, e2, e3⟩ := h
  refine ⟨rfl, ⟨_, A, D, (hz.mono hf).st hx hy _, ?_, Nat.lt_of_le_of_lt (log2_up e2) hN, Nat.lt_of_le_of_lt (log2_up e3) hMk⟩, w1, _, _, _, hf, rfl⟩
  rw [sv_and]
  -- sv m A * q = p * den D, from A * M = N * den D and sv m N * q = p * M
  have e4 : sv m A * M = sv m N * den D := by
    have : ((A * M : Nat) : Int) = ((N * den D : Nat) : Int) := by rw [e1]
    rw [Int.natCast_mul, Int.natCast_mul] at this
    cases m
    · simpa [sv] using this
    · simp only [sv, if_true, Int.neg_mul]
      rw [this]
  have e5 : (sv m A * q) * M = (p * den D) * M := by
    calc (sv m A * q) * M = (sv m A * M) * q := by grind
      _ = (sv m N * den D) * q := by rw [e4]
      _ = (sv m N * q) * den D := by grind
      _ = (p * M) * den D := by rw [hp]
      _ = (p * den D) * M := by grind
  exact Int.eq_of_mul_eq_mul_right (by omega) e5
theorem Sv.pre {w w0 : World} {B : Nat} {p : Int} {q k : Nat} {e : Ending} {w' : World} (h : Sv w B p q k e w') (f : Fr w0 w) : Sv w0 B p q k e w' := by
  obtain ⟨h1, h2, w1, s, x, d, h3, h4⟩ := h
  exact ⟨h1, h2, w1, s, x, d, f.trans h3, h4⟩
theorem st_other (w : World) (B C i : Nat) (h : C ≠ B) (s : Bool) (x d : Value) : (st w B s x d).cell? ⟨C, i, none⟩ = w.cell? ⟨C, i, none⟩ :=
  ((World.cell?_of_block (a := ⟨C, i, none⟩) (Below.heap_setCell _ _ _ _ h)).trans (World.cell?_of_block (a := ⟨C, i, none⟩) (Below.heap_setCell _ _ _ _ h))).trans (World.cell?_of_block (a := ⟨C, i, none⟩) (Below.heap_setCell _ _ _ _ h))
theorem sv_mul (s : Bool) (A d : Nat) : sv s (A * d) = sv s A * d := by cases s <;> simp [sv, Int.neg_mul]
theorem iv_made (w : World) (B : Nat) (hB : B = w.heap.size) (w' : World) (hw : w' = w.alloc (.cells #[.bool false, .slice none 0 0] 44)) : Iv w' B false 0 := by
  subst hB hw
  refine ⟨⟨by simp, fun i x => ?_, fun i => World.frozen?_alloc_at _ _ _ _ rfl⟩, by simp, ⟨.slice none 0 0, by simp, nm_nil _⟩⟩
  rw [World.cell?_alloc_at _ _ _ _ rfl]
  rcases i with _ | _ | i <;> simp
set_option maxHeartbeats 8000000 in
theorem radded_any (B C E : Nat) (s t s0 r : Bool) (A D X F A0 D0 : Nat) (k k' : Nat) (w : World) (hz : Rt w B s0 A0 D0) (hx : Rt w C s A D) (hy : Rt w E t X F) (hA : A.log2 < k) (hD : (den D).log2 < k) (hX : X.log2 < k') (hF : (den F).log2 < k') (hk : k + k' + 2 < 32000000) :
    Calls Try.prog 47 #[.pointer (some ⟨B, 0, none⟩), .pointer (some ⟨C, 0, none⟩), .pointer (some ⟨E, 0, none⟩), .bool r] w fun e w' => Sv w B (sv s A * den F + sv (t != r) X * den D) (den D * den F) (k + k' + 2) e w' := by
  obtain ⟨v, h1, h2⟩ := hx.c1
  obtain ⟨u, k1, k2⟩ := hy.c1
  have h0 := hx.c0
  have k0 := hy.c0
  obtain ⟨va, vn, vc, rfl, _⟩ := nm_slice h2
  obtain ⟨ua, un, uc, rfl, _⟩ := nm_slice k2
  have CE : ∀ w', Fr w w' → w'.cell? ⟨C, 0, none⟩ = some (.bool s) ∧ w'.cell? ⟨C, 1, none⟩ = some (.slice va vn vc) ∧ w'.cell? ⟨E, 0, none⟩ = some (.bool t) ∧ w'.cell? ⟨E, 1, none⟩ = some (.slice ua un uc) := fun w' f =>
    ⟨(f.1.cell (p := ⟨C, 0, none⟩) hx.nw.1).trans h0, (f.1.cell (p := ⟨C, 1, none⟩) hx.nw.1).trans h1, (f.1.cell (p := ⟨E, 0, none⟩) hy.nw.1).trans k0, (f.1.cell (p := ⟨E, 1, none⟩) hy.nw.1).trans k1⟩
  have BLy : Hid (∀ wz, Fr w wz → Calls Try.prog 44 #[.pointer (some ⟨E, 0, none⟩)] wz fun e w' => ∃ x, e = .returned x ∧ Nm w' x (den F) ∧ Fr wz w' ∧ Fr w w' ∧ w'.cell? ⟨C, 0, none⟩ = some (.bool s) ∧ w'.cell? ⟨C, 1, none⟩ = some (.slice va vn vc) ∧ w'.cell? ⟨E, 0, none⟩ = some (.bool t) ∧ w'.cell? ⟨E, 1, none⟩ = some (.slice ua un uc)) := by
    intro wz hz'
    refine (below_any E t X F wz (hy.mono hz')).mono ?_
    rintro e w' ⟨x, rfl, hx', hf⟩
    exact ⟨x, rfl, hx', hf, hz'.trans hf, CE _ (hz'.trans hf)⟩
  have BLx : Hid (∀ wz, Fr w wz → Calls Try.prog 44 #[.pointer (some ⟨C, 0, none⟩)] wz fun e w' => ∃ x, e = .returned x ∧ Nm w' x (den D) ∧ Fr wz w' ∧ Fr w w' ∧ w'.cell? ⟨C, 0, none⟩ = some (.bool s) ∧ w'.cell? ⟨C, 1, none⟩ = some (.slice va vn vc) ∧ w'.cell? ⟨E, 0, none⟩ = some (.bool t) ∧ w'.cell? ⟨E, 1, none⟩ = some (.slice ua un uc)) := by
    intro wz hz'
    refine (below_any C s A D wz (hx.mono hz')).mono ?_
    rintro e w' ⟨x, rfl, hx', hf⟩
    exact ⟨x, rfl, hx', hf, hz'.trans hf, CE _ (hz'.trans hf)⟩
  have M1 : Hid (∀ wz v1, Fr w wz → Nm wz v1 (den F) → Calls Try.prog 43 #[.slice va vn vc, v1] wz fun e w' => ∃ x, e = .returned x ∧ Nm w' x (A * den F) ∧ Fr wz w' ∧ Fr w w' ∧ w'.cell? ⟨C, 0, none⟩ = some (.bool s) ∧ w'.cell? ⟨C, 1, none⟩ = some (.slice va vn vc) ∧ w'.cell? ⟨E, 0, none⟩ = some (.bool t) ∧ w'.cell? ⟨E, 1, none⟩ = some (.slice ua un uc)) := by
    intro wz v1 hz' hm
    refine (mulWords_any _ v1 A (den F) wz (h2.mono hz') hm (by omega) (by omega)).mono ?_
    rintro e w' ⟨x, rfl, hx', hf⟩
    exact ⟨x, rfl, hx', hf, hz'.trans hf, CE _ (hz'.trans hf)⟩
  have M2 : Hid (∀ wz v1, Fr w wz → Nm wz v1 (den D) → Calls Try.prog 43 #[.slice ua un uc, v1] wz fun e w' => ∃ x, e = .returned x ∧ Nm w' x (X * den D) ∧ Fr wz w' ∧ Fr w w' ∧ w'.cell? ⟨C, 0, none⟩ = some (.bool s) ∧ w'.cell? ⟨C, 1, none⟩ = some (.slice va vn vc) ∧ w'.cell? ⟨E, 0, none⟩ = some (.bool t) ∧ w'.cell? ⟨E, 1, none⟩ = some (.slice ua un uc)) := by
    intro wz v1 hz' hm
    refine (mulWords_any _ v1 X (den D) wz (k2.mono hz') hm (by omega) (by omega)).mono ?_
    rintro e w' ⟨x, rfl, hx', hf⟩
    exact ⟨x, rfl, hx', hf, hz'.trans hf, CE _ (hz'.trans hf)⟩
  obtain ⟨Ba, hBa⟩ : ∃ Ba, Ba = w.heap.size := ⟨_, rfl⟩
  obtain ⟨Bb, hBb⟩ : ∃ Bb, Bb = w.heap.size + 1 := ⟨_, rfl⟩
  have SA : Hid (∀ wz xv N m sP AP sQ AQ, Fr w wz → Iv wz Ba sP AP → Iv wz Bb sQ AQ → Nm wz xv N → Calls Try.prog 39 #[.pointer (some ⟨Ba, 0, none⟩), .bool m, xv] wz fun e w' => e = .returned (.pointer (some ⟨Ba, 0, none⟩)) ∧ Iv w' Ba (m && decide (N ≠ 0)) N ∧ Iv w' Bb sQ AQ ∧ Fr w w' ∧ w'.cell? ⟨C, 0, none⟩ = some (.bool s) ∧ w'.cell? ⟨C, 1, none⟩ = some (.slice va vn vc) ∧ w'.cell? ⟨E, 0, none⟩ = some (.bool t) ∧ w'.cell? ⟨E, 1, none⟩ = some (.slice ua un uc)) := by
    intro wz xv N m sP AP sQ AQ hz' iP iQ hxv
    obtain ⟨y1, hy1, hy2⟩ := iP.c1
    refine (iset_any Ba m xv N wz iP.nw hxv _ _ iP.c0 hy1).mono ?_
    rintro e w' ⟨rfl, rfl⟩
    exact ⟨rfl, iP.si hxv _, iQ.other iP (by omega) _ hxv, hz'.si (by omega) _ _, CE _ (hz'.si (by omega) _ _)⟩
  have SB : Hid (∀ wz xv N m sP AP sQ AQ, Fr w wz → Iv wz Bb sP AP → Iv wz Ba sQ AQ → Nm wz xv N → Calls Try.prog 39 #[.pointer (some ⟨Bb, 0, none⟩), .bool m, xv] wz fun e w' => e = .returned (.pointer (some ⟨Bb, 0, none⟩)) ∧ Iv w' Bb (m && decide (N ≠ 0)) N ∧ Iv w' Ba sQ AQ ∧ Fr w w' ∧ w'.cell? ⟨C, 0, none⟩ = some (.bool s) ∧ w'.cell? ⟨C, 1, none⟩ = some (.slice va vn vc) ∧ w'.cell? ⟨E, 0, none⟩ = some (.bool t) ∧ w'.cell? ⟨E, 1, none⟩ = some (.slice ua un uc)) := by
    intro wz xv N m sP AP sQ AQ hz' iP iQ hxv
    obtain ⟨y1, hy1, hy2⟩ := iP.c1
    refine (iset_any Bb m xv N wz iP.nw hxv _ _ iP.c0 hy1).mono ?_
    rintro e w' ⟨rfl, rfl⟩
    exact ⟨rfl, iP.si hxv _, iQ.other iP (by omega) _ hxv, hz'.si (by omega) _ _, CE _ (hz'.si (by omega) _ _)⟩
  have hw1 : Iv (w.alloc (.cells #[.bool false, .slice none 0 0] 44)) Ba false 0 := iv_made w Ba hBa _ rfl
  have hw2 : Iv ((w.alloc (.cells #[.bool false, .slice none 0 0] 44)).alloc (.cells #[.bool false, .slice none 0 0] 44)) Ba false 0 := hw1.mono ((Fr.refl _).alloc _ _)
  have hw3 : Iv ((w.alloc (.cells #[.bool false, .slice none 0 0] 44)).alloc (.cells #[.bool false, .slice none 0 0] 44)) Bb false 0 := iv_made _ Bb (by rw [hBb]; simp) _ rfl
  have hF2 : Fr w ((w.alloc (.cells #[.bool false, .slice none 0 0] 44)).alloc (.cells #[.bool false, .slice none 0 0] 44)) := ((Fr.refl _).alloc _ _).alloc _ _
  obtain ⟨i1, i2, i3, i4⟩ := CE _ hF2
  have HBa : Hid (Ba = w.heap.size) := hBa
  have HBb : Hid (Bb = w.heap.size + 1) := hBb
  have hge1 : w.heap.size ≤ Ba := by omega
  have hge2 : w.heap.size ≤ Bb := by omega
  have hne : Ba ≠ Bb := by omega
  have hBlt : B < w.heap.size := hz.nw.1
  clear hw1 hBa hBb
  go_enter Try.func47, Try.ntmps47
  go_wp2_with fail
  rw [← HBb.out, ← HBa.out]
  generalize (w.alloc (.cells #[.bool false, .slice none 0 0] 44)).alloc (.cells #[.bool false, .slice none 0 0] 44) = w2 at *
  go_region_held (fun w' => w'.cell? ⟨C, 0, none⟩ = some (.bool s) ∧ w'.cell? ⟨C, 1, none⟩ = some (.slice va vn vc) ∧ w'.cell? ⟨E, 0, none⟩ = some (.bool t) ∧ w'.cell? ⟨E, 1, none⟩ = some (.slice ua un uc)) (go_keep) (first
    | (go_at_call_of 44 E; refine (BLy.out _ ?_).mono ?_; exact hF2.drew; rintro e w3 ⟨b1, rfl, hb1, f3, f3', g31, g32, g33, g34⟩)
    | (go_at_call_of 43 b1; refine (M1.out _ _ f3' hb1).mono ?_; rintro e w4 ⟨m1, rfl, hm1, f4, f4', g41, g42, g43, g44⟩)
    | (go_at_call_of 39 Ba; refine (SA.out _ _ _ _ _ _ _ _ f4' (hw2.mono (((Fr.refl w2).drew.trans f3).trans f4)) (hw3.mono (((Fr.refl w2).drew.trans f3).trans f4)) hm1).mono ?_; rintro e w5 ⟨rfl, ia5, ib5, f5', g51, g52, g53, g54⟩))
  go_wp2_with fail
  go_region_held (fun w' => w'.cell? ⟨C, 0, none⟩ = some (.bool s) ∧ w'.cell? ⟨C, 1, none⟩ = some (.slice va vn vc) ∧ w'.cell? ⟨E, 0, none⟩ = some (.bool t) ∧ w'.cell? ⟨E, 1, none⟩ = some (.slice ua un uc)) (go_keep) (first
    | (go_at_call_of 44 C; refine (BLx.out _ ?_).mono ?_; exact f5'.drew; rintro e w6 ⟨b2, rfl, hb2, f6, f6', g61, g62, g63, g64⟩)
    | (go_at_call_of 43 b2; refine (M2.out _ _ f6' hb2).mono ?_; rintro e w7 ⟨m2, rfl, hm2, f7, f7', g71, g72, g73, g74⟩)
    | (go_at_call_of 39 Bb; refine (SB.out _ _ _ _ _ _ _ _ f7' (ib5.mono (((Fr.refl w5).drew.trans f6).trans f7)) (ia5.mono (((Fr.refl w5).drew.trans f6).trans f7)) hm2).mono ?_; rintro e w8 ⟨rfl, ib8, ia8, f8', g81, g82, g83, g84⟩))
  clear M1 M2 SA SB hb1 hb2 hm1 hm2 ia5 ib5 f3 f4 f6 f7
  go_wp2_with (first
    | (go_at_call_of 44 C; refine (BLx.out _ f8').mono ?_; rintro e w9 ⟨b3, rfl, hb3, f9, f9', g91, g92, g93, g94⟩)
    | (go_at_call_of 44 E; refine (BLy.out _ f9').mono ?_; rintro e w10 ⟨b4, rfl, hb4, f10, f10', g101, g102, g103, g104⟩)
    | (go_at_call_of 43 b4; refine (mulWords_any _ _ _ _ _ (hb3.mono f10) hb4 (by omega) (by omega)).mono ?_; rintro e w11 ⟨dv, rfl, hdv, f11⟩)
    | fail)
  have F811 : Fr w8 w11 := (f9.trans f10).trans f11
  have l1 : (A * den F).log2 < k + k' := by have := log2_mul A (den F); omega
  have l2 : (X * den D).log2 < k + k' := by have := log2_mul X (den D); omega
  have l3 : (den D * den F).log2 < k + k' := by have := log2_mul (den D) (den F); omega
  refine (iadd_any Ba Ba Bb _ _ _ _ _ _ _ (ia8.mono F811) (ia8.mono F811) (ib8.mono F811) (by omega) (by omega)).mono ?_
  rintro e w12 ⟨w12', xv, N, s3, rfl, q1, q2, rfl, q4, q5⟩
  have ia12 : Iv (siW w12' Ba s3 xv) Ba s3 N := ((ia8.mono F811).mono q1).si q2 s3
  have dv12 : Nm (siW w12' Ba s3 xv) dv (den D * den F) := (hdv.mono q1).si ((ia8.mono F811).mono q1) s3 q2
  have f12' : Fr w (siW w12' Ba s3 xv) := ((f8'.trans F811).trans q1).si hge1 _ _
  generalize siW w12' Ba s3 xv = w12 at *
  obtain ⟨yv, hc1, hnx⟩ := ia12.c1
  have hc0 := ia12.c0
  obtain ⟨ya, yn, yc, rfl, _⟩ := nm_slice hnx
  have hlt : Ba < w12.heap.size := ia12.nw.1
  have RS : Hid (∀ wz, Fr w12 wz → Calls Try.prog 42 #[.pointer (some ⟨B, 0, none⟩), .bool s3, .slice ya yn yc, dv] wz fun e w' => e = .returned (.pointer (some ⟨B, 0, none⟩)) ∧ Sv w B (sv s A * den F + sv (t != r) X * den D) (den D * den F) (k + k' + 2) e w' ∧ w'.cell? ⟨Ba, 0, none⟩ = some (.bool s3) ∧ w'.cell? ⟨Ba, 1, none⟩ = some (.slice ya yn yc)) := by
    intro wz hz'
    have hN : N.log2 < k + k' + 1 := Nat.lt_of_le_of_lt (log2_up q5) (log2_add _ _ _ l1 l2)
    have hp0 : 0 < den D * den F := Nat.mul_pos (den_pos _) (den_pos _)
    have hzz := hz.mono (f12'.trans hz')
    refine (rset_any B s3 _ dv N (den D * den F) s0 A0 D0 wz hzz (hnx.mono hz') (dv12.mono hz') hp0 (by omega) (by omega)).mono ?_
    intro e w' hsd
    have hv := sd_sv hzz hsd (sv s A * den F + sv (t != r) X * den D) (den D * den F) (k + k' + 2) hp0 (by
      rw [q4, sv_and, sv_and, sv_mul, sv_mul]
      cases t <;> cases r <;> rfl) (by omega) (by omega)
    obtain ⟨w1, x1, y1, A1, D1, e1, e2, e3, e4, e5, _⟩ := hsd
    refine ⟨e1, hv.pre (f12'.trans hz'), ?_, ?_⟩
    · rw [e5, st_other _ _ _ _ (by omega)]
      exact ((hz'.trans e2).1.cell (p := ⟨Ba, 0, none⟩) hlt).trans hc0
    · rw [e5, st_other _ _ _ _ (by omega)]
      exact ((hz'.trans e2).1.cell (p := ⟨Ba, 1, none⟩) hlt).trans hc1
  clear q1 q2 q4 q5 ia8 ib8 ia12 dv12 hdv hb3 hb4 f9 f10 f11 f9' f10' g91 g92 g93 g94 g101 g102 g103 g104 l1 l2 l3 F811 BLx BLy CE
  go_wp2_with fail
  go_region_held (fun w' => w'.cell? ⟨Ba, 0, none⟩ = some (.bool s3) ∧ w'.cell? ⟨Ba, 1, none⟩ = some (.slice ya yn yc)) (go_keep) (first
    | (go_at_call_of 42 B; refine (RS.out _ ?_).mono ?_; exact (Fr.refl _).drew; rintro e w13 ⟨rfl, hsv, j1, j2⟩))
  all_goals (try go_wp2)
  all_goals go_ret
  all_goals exact hsv
end Go.Proofs.Ythfdcembajhgcaa
