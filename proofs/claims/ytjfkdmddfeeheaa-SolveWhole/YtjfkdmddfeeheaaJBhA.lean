/-
 OWN TEXT: what NewInt, Set, Lsh of package eddybig's whole numbers and SetInt of its fractions do.
-/
import Derived.Test.YtjfkdmddfeeheaaJBgZ
namespace Go.Proofs.Ytjfkdmddfeeheaa
open Go.ChangeShapes Go.WideShapes Go.ChangeAt Go.RowKit
open Bg
set_option linter.unusedVariables false
theorem si_other (w : World) (B C i : Nat) (h : C ≠ B) (s : Bool) (x : Value) : (siW w B s x).cell? ⟨C, i, none⟩ = w.cell? ⟨C, i, none⟩ :=
 (World.cell?_of_block (a := ⟨C, i, none⟩) (Below.heap_setCell _ _ _ _ h)).trans (World.cell?_of_block (a := ⟨C, i, none⟩) (Below.heap_setCell _ _ _ _ h))
/-- what a call leaves that has set the whole number at B to N with the sign s -/
def Sw (w : World) (B : Nat) (s : Bool) (N : Nat) (e : Ending) (w' : World) : Prop :=
 ∃ w1 xv, e = .returned (.pointer (some ⟨B, 0, none⟩)) ∧ Fr w w1 ∧ Nm w1 xv N ∧ w' = siW w1 B (s && decide (N ≠ 0)) xv
set_option maxHeartbeats 4000000 in
theorem newint_one (w : World) :
  Calls Try.prog 55 #[.int .i64 1] w fun e w' => ∃ B, e = .returned (.pointer (some ⟨B, 0, none⟩)) ∧ Iv w' B false 1 ∧ w.heap.size ≤ B ∧ Fr w w' := by
 obtain ⟨B, hB⟩ : ∃ B, B = w.heap.size := ⟨_, rfl⟩
 have hm := iv_made w B hB _ rfl
 have hF : Fr w (w.alloc (.cells #[.bool false, .slice none 0 0] 54)) := (Fr.refl w).alloc _ _
 have HB : Hid (B = w.heap.size) := hB
 clear hB
 have SI : Hid (∀ wz, Iv wz B false 0 → Calls Try.prog 85 #[.pointer (some ⟨B, 0, none⟩), .int .i64 1] wz fun e w' => Sw wz B false 1 e w') := by
  intro wz hi
  go_enter Try.func85, Try.ntmps85
  go_wp2_with fail
  refine (fromUint_any 1 _ (by omega)).mono ?_
  rintro e w1 ⟨xv, rfl, hxv, f1⟩
  have g := hi.mono f1
  obtain ⟨v, h1, h2⟩ := g.c1
  go_wp2_with fail
  refine (iset_any B false xv 1 _ g.nw hxv _ _ g.c0 h1).mono ?_
  rintro e w2 ⟨rfl, rfl⟩
  go_wp2
  go_ret
  exact ⟨w1, xv, rfl, f1, hxv, rfl⟩
 go_enter Try.func55, Try.ntmps55
 go_wp2_with fail
 rw [← HB.out]
 generalize w.alloc (.cells #[.bool false, .slice none 0 0] 54) = w1 at *
 refine (SI.out _ hm).mono ?_
 rintro e w2 ⟨w3, xv, rfl, f3, hxv, rfl⟩
 have hi := (hm.mono f3).si hxv (false && decide ((1 : Nat) ≠ 0))
 have hf := (hF.trans f3).si (B := B) (by have := HB.out; omega) (false && decide ((1 : Nat) ≠ 0)) xv
 generalize siW w3 B (false && decide ((1 : Nat) ≠ 0)) xv = w4 at *
 go_wp2
 go_ret
 exact ⟨B, rfl, hi, by have := HB.out; omega, hf⟩
set_option maxHeartbeats 4000000 in
theorem lsh_any (B C N n : Nat) (s s0 : Bool) (A0 : Nat) (w : World) (hz : Iv w B s0 A0) (hx : Iv w C s N) (hne : C ≠ B) (hN : N.log2 < 32000000) (hn : n < 32000000) :
  Calls Try.prog 56 #[.pointer (some ⟨B, 0, none⟩), .pointer (some ⟨C, 0, none⟩), .int .u64 (n : Int)] w fun e w' => Sw w B s (N * 2 ^ n) e w' := by
 obtain ⟨v, h1, h2⟩ := hx.c1
 have h0 := hx.c0
 obtain ⟨va, vn, vc, rfl, _⟩ := nm_slice h2
 have CE : ∀ w', Fr w w' → w'.cell? ⟨C, 0, none⟩ = some (.bool s) ∧ w'.cell? ⟨C, 1, none⟩ = some (.slice va vn vc) := fun w' f =>
  ⟨(f.1.cell (p := ⟨C, 0, none⟩) hx.nw.1).trans h0, (f.1.cell (p := ⟨C, 1, none⟩) hx.nw.1).trans h1⟩
 have UP : Hid (∀ wz, Fr w wz → Calls Try.prog 82 #[.slice va vn vc, .int .i64 (n : Int)] wz fun e w' => ∃ x, e = .returned x ∧ Nm w' x (N * 2 ^ n) ∧ Fr w w' ∧ w'.cell? ⟨C, 0, none⟩ = some (.bool s) ∧ w'.cell? ⟨C, 1, none⟩ = some (.slice va vn vc)) := by
  intro wz hz'
  refine (up_words _ N n wz (h2.mono hz') hN hn).mono ?_
  rintro e w' ⟨x, rfl, hx', hf⟩
  exact ⟨x, rfl, hx', hz'.trans hf, CE _ (hz'.trans hf)⟩
 have ST : Hid (∀ wz xv, Fr w wz → Nm wz xv (N * 2 ^ n) → Calls Try.prog 86 #[.pointer (some ⟨B, 0, none⟩), .bool s, xv] wz fun e w' => e = .returned (.pointer (some ⟨B, 0, none⟩)) ∧ Sw w B s (N * 2 ^ n) e w' ∧ w'.cell? ⟨C, 0, none⟩ = some (.bool s) ∧ w'.cell? ⟨C, 1, none⟩ = some (.slice va vn vc)) := by
  intro wz xv hz' hxv
  have g := hz.mono hz'
  obtain ⟨y1, hy1, hy2⟩ := g.c1
  refine (iset_any B s xv _ wz g.nw hxv _ _ g.c0 hy1).mono ?_
  rintro e w' ⟨rfl, rfl⟩
  refine ⟨rfl, ⟨wz, xv, rfl, hz', hxv, rfl⟩, ?_, ?_⟩
  · exact (si_other wz B C 0 hne _ xv).trans (CE _ hz').1
  · exact (si_other wz B C 1 hne _ xv).trans (CE _ hz').2
 generalize N * 2 ^ n = X at *
 have HW : Hid (IntKind.i64.wrap (n : Int) = (n : Int)) := (IntKind.wrap_i64 _).trans (by first | exact wrap64_in _ (by omega) | omega)
 clear hz hx CE h2
 go_enter Try.func56, Try.ntmps56
 go_wp2_with fail
 go_region_held (fun w' => w'.cell? ⟨C, 0, none⟩ = some (.bool s) ∧ w'.cell? ⟨C, 1, none⟩ = some (.slice va vn vc)) (go_keep) (first
  | (go_at_call 82; rw [HW.out]; refine (UP.out _ ?_).mono ?_; exact (Fr.refl _).drew; rintro e w1 ⟨xv, rfl, hxv, f1, g1, g2⟩)
  | (go_at_call 86; refine (ST.out _ _ f1 hxv).mono ?_; rintro e w2 ⟨rfl, hsw, g3, g4⟩))
 all_goals (try go_wp2)
 all_goals go_ret
 all_goals exact hsw
set_option maxHeartbeats 4000000 in
theorem intset_any (B C N : Nat) (s : Bool) (w : World) (hnw : Nw w B) (u0 u1 : Value) (z0 : w.cell? ⟨B, 0, none⟩ = some u0) (z1 : w.cell? ⟨B, 1, none⟩ = some u1) (hx : Iv w C s N) (hne : C ≠ B) (hN : N.log2 < 32000000) :
  Calls Try.prog 91 #[.pointer (some ⟨B, 0, none⟩), .pointer (some ⟨C, 0, none⟩)] w fun e w' => Sw w B s N e w' := by
 obtain ⟨v, h1, h2⟩ := hx.c1
 have h0 := hx.c0
 obtain ⟨va, vn, vc, rfl, _⟩ := nm_slice h2
 have CE : ∀ w', Fr w w' → w'.cell? ⟨C, 0, none⟩ = some (.bool s) ∧ w'.cell? ⟨C, 1, none⟩ = some (.slice va vn vc) := fun w' f =>
  ⟨(f.1.cell (p := ⟨C, 0, none⟩) hx.nw.1).trans h0, (f.1.cell (p := ⟨C, 1, none⟩) hx.nw.1).trans h1⟩
 have UP : Hid (∀ wz, Fr w wz → Calls Try.prog 84 #[.slice va vn vc] wz fun e w' => ∃ x, e = .returned x ∧ Nm w' x N ∧ Fr w w' ∧ w'.cell? ⟨C, 0, none⟩ = some (.bool s) ∧ w'.cell? ⟨C, 1, none⟩ = some (.slice va vn vc)) := by
  intro wz hz'
  refine (copied_any _ N wz (h2.mono hz') hN).mono ?_
  rintro e w' ⟨x, rfl, hx', hf⟩
  exact ⟨x, rfl, hx', hz'.trans hf, CE _ (hz'.trans hf)⟩
 have ST : Hid (∀ wz xv, Fr w wz → Nm wz xv N → Calls Try.prog 86 #[.pointer (some ⟨B, 0, none⟩), .bool s, xv] wz fun e w' => e = .returned (.pointer (some ⟨B, 0, none⟩)) ∧ Sw w B s N e w' ∧ w'.cell? ⟨C, 0, none⟩ = some (.bool s) ∧ w'.cell? ⟨C, 1, none⟩ = some (.slice va vn vc)) := by
  intro wz xv hz' hxv
  refine (iset_any B s xv _ wz (hnw.mono hz') hxv u0 u1 ((hz'.1.cell (p := ⟨B, 0, none⟩) hnw.1).trans z0) ((hz'.1.cell (p := ⟨B, 1, none⟩) hnw.1).trans z1)).mono ?_
  rintro e w' ⟨rfl, rfl⟩
  refine ⟨rfl, ⟨wz, xv, rfl, hz', hxv, rfl⟩, ?_, ?_⟩
  · exact (si_other wz B C 0 hne _ xv).trans (CE _ hz').1
  · exact (si_other wz B C 1 hne _ xv).trans (CE _ hz').2
 clear hx CE h2 z0 z1 hnw
 go_enter Try.func91, Try.ntmps91
 go_wp2_with fail
 go_region_held (fun w' => w'.cell? ⟨C, 0, none⟩ = some (.bool s) ∧ w'.cell? ⟨C, 1, none⟩ = some (.slice va vn vc)) (go_keep) (first
  | (go_at_call 84; refine (UP.out _ ?_).mono ?_; exact (Fr.refl _).drew; rintro e w1 ⟨xv, rfl, hxv, f1, g1, g2⟩)
  | (go_at_call 86; refine (ST.out _ _ f1 hxv).mono ?_; rintro e w2 ⟨rfl, hsw, g3, g4⟩))
 all_goals (try go_wp2)
 all_goals go_ret
 all_goals exact hsw
end Go.Proofs.Ytjfkdmddfeeheaa
