/-
  OWN TEXT: package eddybig: a number set to itself, a fraction without its sign; eddylaw14's rat; the built-in max of two floats.
-/
import Derived.Test.YtpfaaimfembhdaaJSwH
import Derived.Test.YtpfaaimfembhdaaJSvB
import Derived.Test.YtpfaaimfembhdaaJBhLToBhA
namespace Go.Proofs.Ytpfaaimfembhdaa
open Go.ChangeShapes Go.WideShapes Go.ChangeAt Go.RowKit
set_option linter.unusedVariables false
attribute [local go_sem] frombits_call tobits_call run_neg
open Bg
theorem Rt.abs {w : World} {B : Nat} {s : Bool} {A D : Nat} (h : Rt w B s A D) : Rt (w.setCell ⟨B, 0, none⟩ (.bool false)) B false A D := by
  obtain ⟨v, h1, h2⟩ := h.c1
  obtain ⟨u, h3, h4⟩ := h.c2
  exact ⟨h.nw.set 0 (.bool false) _ h.c0 (by intro x k; cases k), World.cell?_setCell_same _ _ _ h.c0, ⟨v, (World.cell?_setCell_other _ _ _ _ (by intro k; cases k)).trans h1, h2.off h.nw _ _⟩, ⟨u, (World.cell?_setCell_other _ _ _ _ (by intro k; cases k)).trans h3, h4.off h.nw _ _⟩⟩
theorem bmax14 {a b : Nat} (na : a < 9218868437227405312) (nb : b < 9218868437227405312) (ts : Array TypeId) (t : TypeId) (w : World) : (Builtin.max_ ts t #[.float .f64 a, .float .f64 b]).run Try.prog w = .ok (.float .f64 (if a < b then b else a)) w := by
  have ra : Fl.rg a = a := Nat.mod_eq_of_lt (by omega)
  have rb : Fl.rg b = b := Nat.mod_eq_of_lt (by omega)
  have e : FloatKind.f64.format.order a b = some (compare (a : Int) (b : Int)) := by
    have k := Fl.order_all a b
    have k1 : Fl.nan a = false := decide_eq_false (by omega)
    have k2 : Fl.nan b = false := decide_eq_false (by omega)
    have k3 : Fl.key a = (a : Int) := Fl.key_wd false a (by omega)
    have k4 : Fl.key b = (b : Int) := Fl.key_wd false b (by omega)
    rw [k1, k2, k3, k4] at k
    exact k
  simp only [Builtin.max_, Builtin.max2, List.foldlM]
  rw [e]
  by_cases c : a < b
  · rw [show compare (a : Int) (b : Int) = .lt from Int.compare_eq_lt.mpr (by omega), if_pos c]; rfl
  · rw [if_neg c]
    rcases Nat.lt_or_ge b a with d | d
    · rw [show compare (a : Int) (b : Int) = .gt from Int.compare_eq_gt.mpr (by omega)]; rfl
    · have : a = b := by omega
      subst this
      rw [show compare (a : Int) (a : Int) = .eq from Int.compare_eq_eq.mpr rfl]
      dsimp only
      rw [ite_self]
      rfl
end Go.Proofs.Ytpfaaimfembhdaa
/-
  OWN TEXT: package eddybig: NewInt of any number, SetFrac, NewRat, in fractions.
-/
namespace Go.Proofs.Ytpfaaimfembhdaa
open Go.ChangeShapes Go.WideShapes Go.ChangeAt Go.RowKit
set_option linter.unusedVariables false
attribute [local go_sem] frombits_call tobits_call run_neg
open Bg
set_option maxHeartbeats 4000000 in
theorem setint_pos (B m : Nat) (wz : World) (hi : Iv wz B false 0) (hm : m < 4611686018427387904) : Calls Try.prog 88 #[.pointer (some ⟨B, 0, none⟩), .int .i64 (m : Int)] wz fun e w' => ∃ w1 xv, e = .returned (.pointer (some ⟨B, 0, none⟩)) ∧ Fr wz w1 ∧ Nm w1 xv m ∧ w' = siW w1 B false xv := by
  have h0 : ¬ (m : Int) < 0 := by omega
  go_enter Try.func88, Try.ntmps88
  go_wp2_with fail
  refine (fromUint_any m _ (by omega)).mono ?_
  rintro e w1 ⟨xv, rfl, hxv, f1⟩
  have g := hi.mono f1
  obtain ⟨v, h1, h2⟩ := g.c1
  have IS := iset_any B false xv m _ g.nw hxv _ _ g.c0 h1
  simp only [Bool.false_and] at IS
  go_wp2_with fail
  refine IS.mono ?_
  rintro e w2 ⟨rfl, hw⟩
  have HW := Sv.hid hw
  clear hw
  go_wp2
  go_ret
  exact ⟨w1, xv, rfl, f1, hxv, HW.out⟩
set_option maxHeartbeats 4000000 in
theorem setint_neg (B m : Nat) (wz : World) (hi : Iv wz B false 0) (hm : m < 4611686018427387904) (hm0 : 0 < m) : Calls Try.prog 88 #[.pointer (some ⟨B, 0, none⟩), .int .i64 (-(m : Int))] wz fun e w' => ∃ w1 xv, e = .returned (.pointer (some ⟨B, 0, none⟩)) ∧ Fr wz w1 ∧ Nm w1 xv m ∧ w' = siW w1 B true xv := by
  have h0 : -(m : Int) < 0 := by omega
  have h00 : 0 < (m : Int) := by omega
  have u1 : IntKind.u64.wrap (-(m : Int)) = 18446744073709551616 - (m : Int) := by simp [IntKind.wrap, IntKind.bits, IntKind.signed]; omega
  have u2 : IntKind.u64.wrap (-(18446744073709551616 - (m : Int))) = (m : Int) := by simp [IntKind.wrap, IntKind.bits, IntKind.signed]; omega
  go_enter Try.func88, Try.ntmps88
  go_wp2_with fail
  refine (fromUint_any m _ (by omega)).mono ?_
  rintro e w1 ⟨xv, rfl, hxv, f1⟩
  have g := hi.mono f1
  obtain ⟨v, h1, h2⟩ := g.c1
  have IS := iset_any B true xv m _ g.nw hxv _ _ g.c0 h1
  rw [show (true && decide (m ≠ 0)) = true by simp; omega] at IS
  go_wp2_with fail
  refine IS.mono ?_
  rintro e w2 ⟨rfl, hw⟩
  have HW := Sv.hid hw
  clear hw
  go_wp2
  go_ret
  exact ⟨w1, xv, rfl, f1, hxv, HW.out⟩
set_option maxHeartbeats 4000000 in
theorem newint_by (x : Int) (s : Bool) (m : Nat) (w : World) (SI : ∀ B wz, Iv wz B false 0 → Calls Try.prog 88 #[.pointer (some ⟨B, 0, none⟩), .int .i64 x] wz fun e w' => ∃ w1 xv, e = .returned (.pointer (some ⟨B, 0, none⟩)) ∧ Fr wz w1 ∧ Nm w1 xv m ∧ w' = siW w1 B s xv) :
    Calls Try.prog 71 #[.int .i64 x] w fun e w' => ∃ B, e = .returned (.pointer (some ⟨B, 0, none⟩)) ∧ Iv w' B s m ∧ w.heap.size ≤ B ∧ Fr w w' := by
  obtain ⟨B, hB⟩ : ∃ B, B = w.heap.size := ⟨_, rfl⟩
  have hm := iv_made w B hB _ rfl
  have hF : Fr w (w.alloc (.cells #[.bool false, .slice none 0 0] 41)) := (Fr.refl w).alloc _ _
  have HB : Hid (B = w.heap.size) := hB
  have HS := Sv.hid (SI B)
  clear hB SI
  go_enter Try.func71, Try.ntmps71
  go_wp2_with fail
  rw [← HB.out]
  generalize w.alloc (.cells #[.bool false, .slice none 0 0] 41) = w1 at *
  refine (HS.out _ hm).mono ?_
  rintro e w2 ⟨w3, xv, rfl, f3, hxv, rfl⟩
  have hi := (hm.mono f3).si hxv s
  have hf := (hF.trans f3).si (B := B) (by have := HB.out; omega) s xv
  generalize siW w3 B s xv = w4 at *
  go_wp2
  go_ret
  exact ⟨B, rfl, hi, by have := HB.out; omega, hf⟩
/-- a whole number lies at B, with the sign of x -/
def Ix (w : World) (B : Nat) (x : Int) : Prop := Iv w B (decide (x < 0)) x.natAbs
theorem newint_any (x : Int) (w : World) (hx : x.natAbs < 4611686018427387904) : Calls Try.prog 71 #[.int .i64 x] w fun e w' => ∃ B, e = .returned (.pointer (some ⟨B, 0, none⟩)) ∧ Ix w' B x ∧ w.heap.size ≤ B ∧ Fr w w' := by
  by_cases c : x < 0
  · obtain ⟨m, hm⟩ : ∃ m, x.natAbs = m := ⟨_, rfl⟩
    have e : x = -(m : Int) := by omega
    unfold Ix
    rw [decide_eq_true c, hm, e]
    exact newint_by _ true m w (fun B wz hi => setint_neg B m wz hi (by omega) (by omega))
  · obtain ⟨m, hm⟩ : ∃ m, x.natAbs = m := ⟨_, rfl⟩
    have e : x = (m : Int) := by omega
    unfold Ix
    rw [decide_eq_false c, hm, e]
    exact newint_by _ false m w (fun B wz hi => setint_pos B m wz hi (by omega))
set_option maxHeartbeats 8000000 in
theorem setfrac_any (B C E : Nat) (s t s0 : Bool) (M N A0 D0 k : Nat) (r : Rat) (w : World) (hz : Rt w B s0 A0 D0) (hx : Iv w C s M) (hy : Iv w E t N) (hN : 0 < N) (hMk : M.log2 < k) (hNk : N.log2 < k) (hk : k < 32000000) (hr : r * (N : Rat) = ((sv (s != t) M : Int) : Rat)) :
    Calls Try.prog 70 #[.pointer (some ⟨B, 0, none⟩), .pointer (some ⟨C, 0, none⟩), .pointer (some ⟨E, 0, none⟩)] w fun e w' => Sf w B r k e w' := by
  obtain ⟨v, h1, h2⟩ := hx.c1
  obtain ⟨u, k1, k2⟩ := hy.c1
  have h0 := hx.c0
  have k0 := hy.c0
  obtain ⟨va, vn, vc, rfl, _⟩ := nm_slice h2
  obtain ⟨ua, un, uc, rfl, _⟩ := nm_slice k2
  have CE : ∀ w', Fr w w' → w'.cell? ⟨C, 0, none⟩ = some (.bool s) ∧ w'.cell? ⟨C, 1, none⟩ = some (.slice va vn vc) ∧ w'.cell? ⟨E, 0, none⟩ = some (.bool t) ∧ w'.cell? ⟨E, 1, none⟩ = some (.slice ua un uc) := fun w' f =>
    ⟨(f.1.cell (p := ⟨C, 0, none⟩) hx.nw.1).trans h0, (f.1.cell (p := ⟨C, 1, none⟩) hx.nw.1).trans h1, (f.1.cell (p := ⟨E, 0, none⟩) hy.nw.1).trans k0, (f.1.cell (p := ⟨E, 1, none⟩) hy.nw.1).trans k1⟩
  have CPx : Hid (∀ wz, Fr w wz → Calls Try.prog 77 #[.slice va vn vc] wz fun e w' => ∃ x, e = .returned x ∧ Hid (Nm w' x M ∧ Fr wz w' ∧ Fr w w') ∧ w'.cell? ⟨C, 0, none⟩ = some (.bool s) ∧ w'.cell? ⟨C, 1, none⟩ = some (.slice va vn vc) ∧ w'.cell? ⟨E, 0, none⟩ = some (.bool t) ∧ w'.cell? ⟨E, 1, none⟩ = some (.slice ua un uc)) := by
    intro wz hz'
    refine (copied_any _ M wz (h2.mono hz') (by omega)).mono ?_
    rintro e w' ⟨x, rfl, hx', hf⟩
    exact ⟨x, rfl, ⟨hx', hf, hz'.trans hf⟩, CE _ (hz'.trans hf)⟩
  have CPy : Hid (∀ wz, Fr w wz → Calls Try.prog 77 #[.slice ua un uc] wz fun e w' => ∃ x, e = .returned x ∧ Hid (Nm w' x N ∧ Fr wz w' ∧ Fr w w') ∧ w'.cell? ⟨C, 0, none⟩ = some (.bool s) ∧ w'.cell? ⟨C, 1, none⟩ = some (.slice va vn vc) ∧ w'.cell? ⟨E, 0, none⟩ = some (.bool t) ∧ w'.cell? ⟨E, 1, none⟩ = some (.slice ua un uc)) := by
    intro wz hz'
    refine (copied_any _ N wz (k2.mono hz') (by omega)).mono ?_
    rintro e w' ⟨x, rfl, hx', hf⟩
    exact ⟨x, rfl, ⟨hx', hf, hz'.trans hf⟩, CE _ (hz'.trans hf)⟩
  have RS : Hid (∀ wz av dv, Fr w wz → Nm wz av M → Nm wz dv N → Calls Try.prog 46 #[.pointer (some ⟨B, 0, none⟩), .bool (s != t), av, dv] wz fun e w' => e = .returned (.pointer (some ⟨B, 0, none⟩)) ∧ Hid (Sf w B r k e w')) := by
    intro wz av dv hz' ha hd
    refine (rset_any B (s != t) av dv M N _ _ _ wz (hz.mono hz') ha hd hN (by omega) (by omega)).mono fun e w' h => ?_
    have q := (sd_sv (hz.mono hz') h (sv (s != t) M) N k hN rfl hMk hNk).sf hN hr
    exact ⟨q.1, q.pre hz'⟩
  have S0 := CE w.drew (Fr.refl _).drew
  clear CE h1 h2 k1 k2 h0 k0 hx hy hz hr
  go_enter Try.func70, Try.ntmps70
  go_wp2_with fail
  refine wp_region_K (fun w' => w'.cell? ⟨C, 0, none⟩ = some (.bool s) ∧ w'.cell? ⟨C, 1, none⟩ = some (.slice va vn vc) ∧ w'.cell? ⟨E, 0, none⟩ = some (.bool t) ∧ w'.cell? ⟨E, 1, none⟩ = some (.slice ua un uc)) 20 22 #[false, false, false, false, false, false, false, false, false, false, false, false, false, false, false, false, false, false, false, false, false, false] (by kernel_rfl) (by kernel_rfl) (by kernel_rfl) ?_
  refine wpAnyK_take 0 7 (v := ?v0) rfl (by kernel_rfl) (by kernel_rfl) (by kernel_rfl) (by kernel_rfl) (by kernel_rfl) (fun _ _ _ h => h) rfl (Or.inl ⟨by rfl, ?h0⟩) (by assumption) ?r0
  case h0 => (intro w hSw; go_simp; with_reducible rfl)
  simp only [Act.put, List.setIfInBounds_toArray, List.set_cons_zero, List.set_cons_succ]
  refine wpAnyK_take 1 8 (v := ?v1) rfl (by kernel_rfl) (by kernel_rfl) (by kernel_rfl) (by kernel_rfl) (by kernel_rfl) (fun _ _ _ h => h) rfl (Or.inl ⟨by rfl, ?h1⟩) (by assumption) ?r1
  case h1 => (intro w hSw; go_simp; with_reducible rfl)
  simp only [Act.put, List.setIfInBounds_toArray, List.set_cons_zero, List.set_cons_succ]
  refine wpAnyK_take 2 9 (v := ?v2) rfl (by kernel_rfl) (by kernel_rfl) (by kernel_rfl) (by kernel_rfl) (by kernel_rfl) (fun _ _ _ h => h) rfl (Or.inl ⟨by rfl, ?h2⟩) (by assumption) ?r2
  case h2 => (intro w hSw; go_simp; with_reducible rfl)
  simp only [Act.put, List.setIfInBounds_toArray, List.set_cons_zero, List.set_cons_succ]
  refine wpAnyK_take 3 10 (v := ?v3) rfl (by kernel_rfl) (by kernel_rfl) (by kernel_rfl) (by kernel_rfl) (by kernel_rfl) (fun _ _ _ h => h) rfl (Or.inl ⟨by rfl, ?h3⟩) (by assumption) ?r3
  case h3 => (intro w hSw; go_simp; with_reducible rfl)
  simp only [Act.put, List.setIfInBounds_toArray, List.set_cons_zero, List.set_cons_succ]
  refine wpAnyK_take 4 11 (v := ?v4) rfl (by kernel_rfl) (by kernel_rfl) (by kernel_rfl) (by kernel_rfl) (by kernel_rfl) (fun _ _ _ h => h) rfl (Or.inl ⟨by rfl, ?h4⟩) (by assumption) ?r4
  case h4 => (intro w hSw; go_simp; with_reducible rfl)
  simp only [Act.put, List.setIfInBounds_toArray, List.set_cons_zero, List.set_cons_succ]
  refine wpAnyK_take 5 12 (v := ?v5) rfl (by kernel_rfl) (by kernel_rfl) (by kernel_rfl) (by kernel_rfl) (by kernel_rfl) (fun _ _ _ h => h) rfl (Or.inl ⟨by rfl, ?h5⟩) (by assumption) ?r5
  case h5 => (intro w hSw; go_simp; with_reducible rfl)
  simp only [Act.put, List.setIfInBounds_toArray, List.set_cons_zero, List.set_cons_succ]
  refine wpAnyK_take 6 13 (v := ?v6) rfl (by kernel_rfl) (by kernel_rfl) (by kernel_rfl) (by kernel_rfl) (by kernel_rfl) (fun _ _ _ h => h) rfl (Or.inl ⟨by rfl, ?h6⟩) (by assumption) ?r6
  case h6 => (intro w hSw; go_simp; with_reducible rfl)
  simp only [Act.put, List.setIfInBounds_toArray, List.set_cons_zero, List.set_cons_succ]
  refine wpAnyK_take 7 14 (v := ?v7) rfl (by kernel_rfl) (by kernel_rfl) (by kernel_rfl) (by kernel_rfl) (by kernel_rfl) (fun _ _ _ h => h) rfl (Or.inl ⟨by rfl, ?h7⟩) (by assumption) ?r7
  case h7 => (intro w hSw; go_simp; with_reducible rfl)
  simp only [Act.put, List.setIfInBounds_toArray, List.set_cons_zero, List.set_cons_succ]
  refine wpAnyK_take 8 15 (v := ?v8) rfl (by kernel_rfl) (by kernel_rfl) (by kernel_rfl) (by kernel_rfl) (by kernel_rfl) (fun _ _ _ h => h) rfl (Or.inl ⟨by rfl, ?h8⟩) (by assumption) ?r8
  case h8 => (intro w hSw; go_simp; with_reducible rfl)
  simp only [Act.put, List.setIfInBounds_toArray, List.set_cons_zero, List.set_cons_succ]
  refine wpAnyK_take 9 16 (v := ?v9) rfl (by kernel_rfl) (by kernel_rfl) (by kernel_rfl) (by kernel_rfl) (by kernel_rfl) (fun _ _ _ h => h) rfl (Or.inl ⟨by rfl, ?h9⟩) (by assumption) ?r9
  case h9 => (intro w hSw; go_simp; with_reducible rfl)
  simp only [Act.put, List.setIfInBounds_toArray, List.set_cons_zero, List.set_cons_succ]
  refine wpAnyK_take 10 17 (v := ?v10) rfl (by kernel_rfl) (by kernel_rfl) (by kernel_rfl) (by kernel_rfl) (by kernel_rfl) (fun _ _ _ h => h) rfl (Or.inl ⟨by rfl, ?h10⟩) (by assumption) ?r10
  case h10 => (intro w hSw; go_simp; with_reducible rfl)
  simp only [Act.put, List.setIfInBounds_toArray, List.set_cons_zero, List.set_cons_succ]
  refine wpAnyK_take 11 18 (v := ?v11) rfl (by kernel_rfl) (by kernel_rfl) (by kernel_rfl) (by kernel_rfl) (by kernel_rfl) (fun _ _ _ h => h) rfl (Or.inl ⟨by rfl, ?h11⟩) (by assumption) ?r11
  case h11 => (intro w hSw; go_simp; with_reducible rfl)
  simp only [Act.put, List.setIfInBounds_toArray, List.set_cons_zero, List.set_cons_succ]
  refine wpAnyK_take 12 19 (v := ?v12) rfl (by kernel_rfl) (by kernel_rfl) (by kernel_rfl) (by kernel_rfl) (by kernel_rfl) (fun _ _ _ h => h) rfl (Or.inl ⟨by rfl, ?h12⟩) (by assumption) ?r12
  case h12 => (intro w hSw; go_simp; with_reducible rfl)
  simp only [Act.put, List.setIfInBounds_toArray, List.set_cons_zero, List.set_cons_succ]
  refine wpAnyK_take 13 20 (v := ?v13) rfl (by kernel_rfl) (by kernel_rfl) (by kernel_rfl) (by kernel_rfl) (by kernel_rfl) (fun _ _ _ h => h) rfl (Or.inl ⟨by rfl, ?h13⟩) (by assumption) ?r13
  case h13 => (intro w hSw; go_simp; with_reducible rfl)
  simp only [Act.put, List.setIfInBounds_toArray, List.set_cons_zero, List.set_cons_succ]
  refine wpAnyK_take 15 22 (v := ?v15) rfl (by kernel_rfl) (by kernel_rfl) (by kernel_rfl) (by kernel_rfl) (by kernel_rfl) (fun _ _ _ h => h) rfl (Or.inl ⟨by rfl, ?h15⟩) (by assumption) ?r15
  case h15 => (intro w hSw; go_simp; with_reducible rfl)
  simp only [Act.put, List.setIfInBounds_toArray, List.set_cons_zero, List.set_cons_succ]
  refine wpAnyK_take 16 23 (v := ?v16) rfl (by kernel_rfl) (by kernel_rfl) (by kernel_rfl) (by kernel_rfl) (by kernel_rfl) (fun _ _ _ h => h) rfl (Or.inl ⟨by rfl, ?h16⟩) (by assumption) ?r16
  case h16 => (intro w hSw; go_simp; with_reducible rfl)
  simp only [Act.put, List.setIfInBounds_toArray, List.set_cons_zero, List.set_cons_succ]
  refine wpAnyK_take 17 24 (v := ?v17) rfl (by kernel_rfl) (by kernel_rfl) (by kernel_rfl) (by kernel_rfl) (by kernel_rfl) (fun _ _ _ h => h) rfl (Or.inl ⟨by rfl, ?h17⟩) (by assumption) ?r17
  case h17 => (intro w hSw; go_simp; with_reducible rfl)
  simp only [Act.put, List.setIfInBounds_toArray, List.set_cons_zero, List.set_cons_succ]
  refine wpAnyK_take 18 25 (v := ?v18) rfl (by kernel_rfl) (by kernel_rfl) (by kernel_rfl) (by kernel_rfl) (by kernel_rfl) (fun _ _ _ h => h) rfl (Or.inl ⟨by rfl, ?h18⟩) (by assumption) ?r18
  case h18 => (intro w hSw; go_simp; with_reducible rfl)
  simp only [Act.put, List.setIfInBounds_toArray, List.set_cons_zero, List.set_cons_succ]
  refine wpAnyK_one 14 (by kernel_rfl) rfl (fun K hK => ?_)
  go_simp
  go_wp2_with (go_at_call 77; refine (CPx.out _ (Fr.refl _).drew).mono ?_; rintro e w1 ⟨av, rfl, HA, g1, g2, g3, g4⟩)
  refine hK.out _ _ (fun _ _ => ⟨g1, g2, g3, g4⟩) ?_
  clear hK K
  simp only [List.setIfInBounds_toArray, List.set_cons_zero, List.set_cons_succ]
  refine wpAnyK_one 19 (by kernel_rfl) rfl (fun K hK => ?_)
  go_simp
  go_wp2_with (go_at_call 77; refine (CPy.out _ HA.out.2.2).mono ?_; rintro e w2 ⟨dv, rfl, HD, g1', g2', g3', g4'⟩)
  refine hK.out _ _ (fun _ _ => ⟨g1', g2', g3', g4'⟩) ?_
  clear hK K
  simp only [List.setIfInBounds_toArray, List.set_cons_zero, List.set_cons_succ]
  refine wpAnyK_one 20 (by kernel_rfl) rfl (fun K hK => ?_)
  go_simp
  go_wp2_with (go_at_call 46; refine (RS.out _ _ _ HD.out.2.2 (HA.out.1.mono HD.out.2.1) HD.out.1).mono ?_; rintro e w3 ⟨rfl, HSF⟩)
  refine hK.out _ _ (fun h => absurd rfl h) ?_
  clear hK K
  simp only [List.setIfInBounds_toArray, List.set_cons_zero, List.set_cons_succ]
  refine wpAnyK_one 21 (by kernel_rfl) rfl (fun K hK => ?_)
  go_simp
  refine hK.out _ _ (fun _ h => absurd h (by decide)) ?_
  clear hK K
  simp only [List.setIfInBounds_toArray, List.set_cons_zero, List.set_cons_succ]
  refine wpAnyK_done (by kernel_rfl) ?_ _
  go_wp2
  go_ret
  exact HSF.out
set_option maxHeartbeats 4000000 in
theorem newrat_any (a b : Int) (w : World) (ha : a.natAbs < 4611686018427387904) (hb : b.natAbs < 4611686018427387904) (hb0 : b ≠ 0) :
    Calls Try.prog 39 #[.int .i64 a, .int .i64 b] w fun e w' => ∃ B, e = .returned (.pointer (some ⟨B, 0, none⟩)) ∧ Rf w' B ((a : Rat) / (b : Rat)) 64 ∧ w.heap.size ≤ B ∧ Fr w w' := by
  have hm := rt_mk w
  have hF : Fr w (w.alloc (.cells #[.bool false, .slice none 0 0, .slice none 0 0] 43)) := (Fr.refl w).alloc _ _
  obtain ⟨B, hB⟩ : ∃ B, w.heap.size = B := ⟨_, rfl⟩
  have HB := Sv.hid hB
  rw [hB] at hm
  have lg : ∀ x : Int, x.natAbs < 4611686018427387904 → x.natAbs.log2 < 64 := fun x h => by
    by_cases z : x.natAbs = 0
    · rw [z]; decide
    · have := (Nat.log2_lt z).2 (show x.natAbs < 2 ^ 64 by omega)
      exact this
  have hr : ((a : Rat) / (b : Rat)) * ((b.natAbs : Nat) : Rat) = ((sv (decide (a < 0) != decide (b < 0)) a.natAbs : Int) : Rat) := by
    have hb1 : (b : Rat) ≠ 0 := fun h => hb0 (by
      have : ((b : Int) : Rat) = ((0 : Int) : Rat) := h
      exact Rat.intCast_inj.1 this)
    have e1 : ((a : Rat) / (b : Rat)) * (b : Rat) = (a : Rat) := by
      rw [Rat.div_def, Rat.mul_assoc, Rat.inv_mul_cancel _ hb1, Rat.mul_one]
    have e2 : ((sv (decide (a < 0) != decide (b < 0)) a.natAbs : Int) : Rat) * (b : Rat) = (a : Rat) * ((b.natAbs : Nat) : Rat) := by
      rw [← Rat.intCast_natCast, ← Rat.intCast_mul, ← Rat.intCast_mul]
      congr 1
      unfold sv
      by_cases c1 : a < 0 <;> by_cases c2 : b < 0
      · rw [decide_eq_true c1, decide_eq_true c2]
        simp only [bne_self_eq_false, Bool.false_eq_true, if_false]
        rw [show (a.natAbs : Int) = -a by omega, show (b.natAbs : Int) = -b by omega, Int.neg_mul, Int.mul_neg]
      · rw [decide_eq_true c1, decide_eq_false c2]
        simp only [Bool.bne_false, if_true]
        rw [show (a.natAbs : Int) = -a by omega, show (b.natAbs : Int) = b by omega, Int.neg_neg]
      · rw [decide_eq_false c1, decide_eq_true c2]
        simp only [Bool.false_bne, if_true]
        rw [show (a.natAbs : Int) = a by omega, show (b.natAbs : Int) = -b by omega, Int.neg_mul, Int.mul_neg]
      · rw [decide_eq_false c1, decide_eq_false c2]
        simp only [bne_self_eq_false, Bool.false_eq_true, if_false]
        rw [show (a.natAbs : Int) = a by omega, show (b.natAbs : Int) = b by omega]
    have e3 : (((a : Rat) / (b : Rat)) * ((b.natAbs : Nat) : Rat)) * (b : Rat) = ((sv (decide (a < 0) != decide (b < 0)) a.natAbs : Int) : Rat) * (b : Rat) := by
      rw [e2, show ∀ x y z : Rat, x * y * z = x * z * y by intro x y z; grind, e1]
    have e4 := congrArg (· * (b : Rat)⁻¹) e3
    simp only [Rat.mul_assoc, Rat.mul_inv_cancel _ hb1, Rat.mul_one] at e4
    exact e4
  have SF : Hid (∀ w1, Rt w1 B false 0 0 → Calls Try.prog 58 #[.pointer (some ⟨B, 0, none⟩), .int .i64 a, .int .i64 b] w1 fun e w' => e = .returned (.pointer (some ⟨B, 0, none⟩)) ∧ Hid (Rf w' B ((a : Rat) / (b : Rat)) 64 ∧ ∀ w0, Fr w0 w1 → w0.heap.size ≤ B → Fr w0 w')) := by
    intro w1 hz
    have HZ := Sv.hid hz
    clear hm hF hz hB
    go_enter Try.func58, Try.ntmps58
    go_wp2_with fail
    refine (newint_any a _ ha).mono ?_
    rintro e w2 ⟨C, rfl, hC, hCb, f1⟩
    have HC := Sv.hid (And.intro hC f1)
    clear hC hCb f1
    go_wp2_with fail
    refine (newint_any b _ hb).mono ?_
    rintro e w3 ⟨E, rfl, hE, hEb, f2⟩
    have HE := Sv.hid (And.intro hE f2)
    clear hE hEb f2
    go_wp2_with fail
    refine (setfrac_any B C E _ _ false _ _ 0 0 64 _ _ (HZ.out.mono (HC.out.2.trans HE.out.2)) (Iv.mono HC.out.1 HE.out.2) HE.out.1 (by omega) (lg a ha) (lg b hb) (by omega) hr).mono ?_
    rintro e w4 hsf
    have he := hsf.1
    have HR := Sv.hid (And.intro hsf.2.1 (fun (w0 : World) (f : Fr w0 w1) (hB : w0.heap.size ≤ B) => hsf.fr ((f.trans HC.out.2).trans HE.out.2) hB))
    clear hsf
    subst he
    go_wp2
    go_ret
    exact ⟨rfl, HR.out⟩
  clear lg hr hB
  go_enter Try.func39, Try.ntmps39
  go_wp2_with fail
  rw [HB.out]
  generalize w.alloc (.cells #[.bool false, .slice none 0 0, .slice none 0 0] 43) = w1 at *
  refine (SF.out _ hm).mono ?_
  rintro e w2 ⟨rfl, HR⟩
  go_wp2
  go_ret
  exact ⟨B, rfl, HR.out.1, by have := HB.out; omega, HR.out.2 w hF (by have := HB.out; omega)⟩
end Go.Proofs.Ytpfaaimfembhdaa
