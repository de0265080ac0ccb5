/-
  OWN TEXT: what the methods Mul and Quo of package eddybig's fractions do.
-/
import Derived.Test.YtpfaaimfembhdaaJBhLToBhA
namespace Go.Proofs.Ytpfaaimfembhdaa
open Go.ChangeShapes Go.WideShapes Go.ChangeAt Go.RowKit
open Bg
set_option linter.unusedVariables false
set_option maxHeartbeats 8000000 in
theorem rmul_rt (B C E : Nat) (s t s0 : Bool) (A D X F A0 D0 : Nat) (k k' : Nat) (w : World) (hz : Rt w B s0 A0 D0) (hx : Rt w C s A D) (hy : Rt w E t X F) (hne : E ≠ B) (hA : A.log2 < k) (hD : (den D).log2 < k) (hX : X.log2 < k') (hF : (den F).log2 < k') (hk : k + k' + 2 < 16000000) :
    Calls Try.prog 17 #[.pointer (some ⟨B, 0, none⟩), .pointer (some ⟨C, 0, none⟩), .pointer (some ⟨E, 0, none⟩)] w fun e w' => Sv w B (sv s A * sv t X) (den D * den F) (k + k' + 2) e w' := by
  have hpos : 0 < den D * den F := Nat.mul_pos (den_pos _) (den_pos _)
  have l1 := log2_mul A X
  have l2 := log2_mul (den D) (den F)
  obtain ⟨v, h1, h2⟩ := hx.c1
  obtain ⟨u, k1, k2⟩ := hy.c1
  have h0 := hx.c0
  have k0 := hy.c0
  obtain ⟨va, vn, vc, rfl, _⟩ := nm_slice h2
  obtain ⟨ua, un, uc, rfl, _⟩ := nm_slice k2
  have CE : ∀ w', Fr w w' → w'.cell? ⟨C, 0, none⟩ = some (.bool s) ∧ w'.cell? ⟨C, 1, none⟩ = some (.slice va vn vc) ∧ w'.cell? ⟨E, 0, none⟩ = some (.bool t) ∧ w'.cell? ⟨E, 1, none⟩ = some (.slice ua un uc) := fun w' f =>
    ⟨(f.1.cell (p := ⟨C, 0, none⟩) hx.nw.1).trans h0, (f.1.cell (p := ⟨C, 1, none⟩) hx.nw.1).trans h1, (f.1.cell (p := ⟨E, 0, none⟩) hy.nw.1).trans k0, (f.1.cell (p := ⟨E, 1, none⟩) hy.nw.1).trans k1⟩
  have BLx : Hid (∀ wz, Fr w wz → Calls Try.prog 38 #[.pointer (some ⟨C, 0, none⟩)] wz fun e w' => ∃ x, e = .returned x ∧ Nm w' x (den D) ∧ Fr wz w' ∧ Fr w w' ∧ w'.cell? ⟨C, 0, none⟩ = some (.bool s) ∧ w'.cell? ⟨C, 1, none⟩ = some (.slice va vn vc) ∧ w'.cell? ⟨E, 0, none⟩ = some (.bool t) ∧ w'.cell? ⟨E, 1, none⟩ = some (.slice ua un uc)) := by
    intro wz hz'
    refine (below_any C s A D wz (hx.mono hz')).mono ?_
    rintro e w' ⟨x, rfl, hx', hf⟩
    exact ⟨x, rfl, hx', hf, hz'.trans hf, CE _ (hz'.trans hf)⟩
  have BLy : Hid (∀ wz, Fr w wz → Calls Try.prog 38 #[.pointer (some ⟨E, 0, none⟩)] wz fun e w' => ∃ x, e = .returned x ∧ Nm w' x (den F) ∧ Fr wz w' ∧ Fr w w' ∧ w'.cell? ⟨C, 0, none⟩ = some (.bool s) ∧ w'.cell? ⟨C, 1, none⟩ = some (.slice va vn vc) ∧ w'.cell? ⟨E, 0, none⟩ = some (.bool t) ∧ w'.cell? ⟨E, 1, none⟩ = some (.slice ua un uc)) := by
    intro wz hz'
    refine (below_any E t X F wz (hy.mono hz')).mono ?_
    rintro e w' ⟨x, rfl, hx', hf⟩
    exact ⟨x, rfl, hx', hf, hz'.trans hf, CE _ (hz'.trans hf)⟩
  have MW : Hid (∀ wz v1 v2 n1 n2, Fr w wz → Nm wz v1 n1 → Nm wz v2 n2 → n1.log2 < 16000000 → n2.log2 < 16000000 → Calls Try.prog 37 #[v1, v2] wz fun e w' => ∃ x, e = .returned x ∧ Nm w' x (n1 * n2) ∧ Fr wz w' ∧ Fr w w' ∧ w'.cell? ⟨C, 0, none⟩ = some (.bool s) ∧ w'.cell? ⟨C, 1, none⟩ = some (.slice va vn vc) ∧ w'.cell? ⟨E, 0, none⟩ = some (.bool t) ∧ w'.cell? ⟨E, 1, none⟩ = some (.slice ua un uc)) := by
    intro wz v1 v2 n1 n2 hz' hm1 hm2 l1 l2
    refine (mulWords_any v1 v2 n1 n2 wz hm1 hm2 (by omega) (by omega)).mono ?_
    rintro e w' ⟨x, rfl, hx', hf⟩
    exact ⟨x, rfl, hx', hf, hz'.trans hf, CE _ (hz'.trans hf)⟩
  have RS : Hid (∀ wz m av dv, Fr w wz → Nm wz av (A * X) → Nm wz dv (den D * den F) → Calls Try.prog 46 #[.pointer (some ⟨B, 0, none⟩), .bool m, av, dv] wz fun e w' => e = .returned (.pointer (some ⟨B, 0, none⟩)) ∧ Sv w B (sv m (A * X)) (den D * den F) (k + k' + 2) e w') := by
    intro wz m av dv hz' ha hd
    have hzz := hz.mono hz'
    refine (rset_any B m av dv _ _ s0 A0 D0 wz hzz ha hd hpos (by omega) (by omega)).mono ?_
    intro e w' hsd
    have hv := sd_sv hzz hsd (sv m (A * X)) (den D * den F) (k + k' + 2) hpos rfl (by omega) (by omega)
    obtain ⟨w1, x1, y1, A1, D1, e1, e2, e3, e4, e5, _⟩ := hsd
    exact ⟨e1, hv.pre hz'⟩
  have HSG : Hid (∀ m : Bool, m = (!(s == t)) → sv m (A * X) = sv s A * sv t X) := by
    intro m hm
    subst hm
    cases s <;> cases t <;> simp [sv, Int.neg_mul, Int.mul_neg]
  generalize sv s A * sv t X = P at *
  have S0 := CE w.drew (Fr.refl _).drew
  clear CE hz l1 l2
  go_enter Try.func17, Try.ntmps17
  go_wp2_with fail
  refine wp_region_K (fun w' => w'.cell? ⟨C, 0, none⟩ = some (.bool s) ∧ w'.cell? ⟨C, 1, none⟩ = some (.slice va vn vc) ∧ w'.cell? ⟨E, 0, none⟩ = some (.bool t) ∧ w'.cell? ⟨E, 1, none⟩ = some (.slice ua un uc)) 28 30 #[false, false, false, false, false, false, false, false, false, false, false, false, false, false, false, false, false, false, false, false, false, false, false, false, false, false, false, false, false, false] (by kernel_rfl) (by kernel_rfl) (by kernel_rfl) ?_
  refine wpAnyK_take 0 7 (v := ?v0) rfl (by kernel_rfl) (by kernel_rfl) (by kernel_rfl) (by kernel_rfl) (by kernel_rfl) (fun _ _ _ h => h) rfl (Or.inl ⟨by rfl, ?h0⟩) (by assumption) ?r0
  case h0 => (intro w hSw; go_simp; with_reducible rfl)
  simp only [Act.put, List.setIfInBounds_toArray, List.set_cons_zero, List.set_cons_succ]
  refine wpAnyK_take 1 8 (v := ?v1) rfl (by kernel_rfl) (by kernel_rfl) (by kernel_rfl) (by kernel_rfl) (by kernel_rfl) (fun _ _ _ h => h) rfl (Or.inl ⟨by rfl, ?h1⟩) (by assumption) ?r1
  case h1 => (intro w hSw; go_simp; with_reducible rfl)
  simp only [Act.put, List.setIfInBounds_toArray, List.set_cons_zero, List.set_cons_succ]
  refine wpAnyK_take 2 9 (v := ?v2) rfl (by kernel_rfl) (by kernel_rfl) (by kernel_rfl) (by kernel_rfl) (by kernel_rfl) (fun _ _ _ h => h) rfl (Or.inl ⟨by rfl, ?h2⟩) (by assumption) ?r2
  case h2 => (intro w hSw; go_simp; with_reducible rfl)
  simp only [Act.put, List.setIfInBounds_toArray, List.set_cons_zero, List.set_cons_succ]
  refine wpAnyK_take 3 10 (v := ?v3) rfl (by kernel_rfl) (by kernel_rfl) (by kernel_rfl) (by kernel_rfl) (by kernel_rfl) (fun _ _ _ h => h) rfl (Or.inl ⟨by rfl, ?h3⟩) (by assumption) ?r3
  case h3 => (intro w hSw; go_simp; with_reducible rfl)
  simp only [Act.put, List.setIfInBounds_toArray, List.set_cons_zero, List.set_cons_succ]
  refine wpAnyK_take 4 11 (v := ?v4) rfl (by kernel_rfl) (by kernel_rfl) (by kernel_rfl) (by kernel_rfl) (by kernel_rfl) (fun _ _ _ h => h) rfl (Or.inl ⟨by rfl, ?h4⟩) (by assumption) ?r4
  case h4 => (intro w hSw; go_simp; with_reducible rfl)
  simp only [Act.put, List.setIfInBounds_toArray, List.set_cons_zero, List.set_cons_succ]
  refine wpAnyK_take 5 12 (v := ?v5) rfl (by kernel_rfl) (by kernel_rfl) (by kernel_rfl) (by kernel_rfl) (by kernel_rfl) (fun _ _ _ h => h) rfl (Or.inl ⟨by rfl, ?h5⟩) (by assumption) ?r5
  case h5 => (intro w hSw; go_simp; with_reducible rfl)
  simp only [Act.put, List.setIfInBounds_toArray, List.set_cons_zero, List.set_cons_succ]
  refine wpAnyK_take 6 13 (v := ?v6) rfl (by kernel_rfl) (by kernel_rfl) (by kernel_rfl) (by kernel_rfl) (by kernel_rfl) (fun _ _ _ h => h) rfl (Or.inl ⟨by rfl, ?h6⟩) (by assumption) ?r6
  case h6 => (intro w hSw; go_simp; with_reducible rfl)
  simp only [Act.put, List.setIfInBounds_toArray, List.set_cons_zero, List.set_cons_succ]
  refine wpAnyK_take 7 14 (v := ?v7) rfl (by kernel_rfl) (by kernel_rfl) (by kernel_rfl) (by kernel_rfl) (by kernel_rfl) (fun _ _ _ h => h) rfl (Or.inl ⟨by rfl, ?h7⟩) (by assumption) ?r7
  case h7 => (intro w hSw; go_simp; with_reducible rfl)
  simp only [Act.put, List.setIfInBounds_toArray, List.set_cons_zero, List.set_cons_succ]
  refine wpAnyK_take 8 15 (v := ?v8) rfl (by kernel_rfl) (by kernel_rfl) (by kernel_rfl) (by kernel_rfl) (by kernel_rfl) (fun _ _ _ h => h) rfl (Or.inl ⟨by rfl, ?h8⟩) (by assumption) ?r8
  case h8 => (intro w hSw; go_simp; with_reducible rfl)
  simp only [Act.put, List.setIfInBounds_toArray, List.set_cons_zero, List.set_cons_succ]
  refine wpAnyK_take 9 16 (v := ?v9) rfl (by kernel_rfl) (by kernel_rfl) (by kernel_rfl) (by kernel_rfl) (by kernel_rfl) (fun _ _ _ h => h) rfl (Or.inl ⟨by rfl, ?h9⟩) (by assumption) ?r9
  case h9 => (intro w hSw; go_simp; with_reducible rfl)
  simp only [Act.put, List.setIfInBounds_toArray, List.set_cons_zero, List.set_cons_succ]
  refine wpAnyK_take 10 17 (v := ?v10) rfl (by kernel_rfl) (by kernel_rfl) (by kernel_rfl) (by kernel_rfl) (by kernel_rfl) (fun _ _ _ h => h) rfl (Or.inl ⟨by rfl, ?h10⟩) (by assumption) ?r10
  case h10 => (intro w hSw; go_simp; with_reducible rfl)
  simp only [Act.put, List.setIfInBounds_toArray, List.set_cons_zero, List.set_cons_succ]
  refine wpAnyK_take 11 18 (v := ?v11) rfl (by kernel_rfl) (by kernel_rfl) (by kernel_rfl) (by kernel_rfl) (by kernel_rfl) (fun _ _ _ h => h) rfl (Or.inl ⟨by rfl, ?h11⟩) (by assumption) ?r11
  case h11 => (intro w hSw; go_simp; with_reducible rfl)
  simp only [Act.put, List.setIfInBounds_toArray, List.set_cons_zero, List.set_cons_succ]
  refine wpAnyK_take 12 19 (v := ?v12) rfl (by kernel_rfl) (by kernel_rfl) (by kernel_rfl) (by kernel_rfl) (by kernel_rfl) (fun _ _ _ h => h) rfl (Or.inl ⟨by rfl, ?h12⟩) (by assumption) ?r12
  case h12 => (intro w hSw; go_simp; with_reducible rfl)
  simp only [Act.put, List.setIfInBounds_toArray, List.set_cons_zero, List.set_cons_succ]
  refine wpAnyK_take 13 20 (v := ?v13) rfl (by kernel_rfl) (by kernel_rfl) (by kernel_rfl) (by kernel_rfl) (by kernel_rfl) (fun _ _ _ h => h) rfl (Or.inl ⟨by rfl, ?h13⟩) (by assumption) ?r13
  case h13 => (intro w hSw; go_simp; with_reducible rfl)
  simp only [Act.put, List.setIfInBounds_toArray, List.set_cons_zero, List.set_cons_succ]
  refine wpAnyK_take 14 21 (v := ?v14) rfl (by kernel_rfl) (by kernel_rfl) (by kernel_rfl) (by kernel_rfl) (by kernel_rfl) (fun _ _ _ h => h) rfl (Or.inl ⟨by rfl, ?h14⟩) (by assumption) ?r14
  case h14 => (intro w hSw; go_simp; with_reducible rfl)
  simp only [Act.put, List.setIfInBounds_toArray, List.set_cons_zero, List.set_cons_succ]
  refine wpAnyK_take 15 22 (v := ?v15) rfl (by kernel_rfl) (by kernel_rfl) (by kernel_rfl) (by kernel_rfl) (by kernel_rfl) (fun _ _ _ h => h) rfl (Or.inl ⟨by rfl, ?h15⟩) (by assumption) ?r15
  case h15 => (intro w hSw; go_simp; with_reducible rfl)
  simp only [Act.put, List.setIfInBounds_toArray, List.set_cons_zero, List.set_cons_succ]
  refine wpAnyK_take 16 23 (v := ?v16) rfl (by kernel_rfl) (by kernel_rfl) (by kernel_rfl) (by kernel_rfl) (by kernel_rfl) (fun _ _ _ h => h) rfl (Or.inl ⟨by rfl, ?h16⟩) (by assumption) ?r16
  case h16 => (intro w hSw; go_simp; with_reducible rfl)
  simp only [Act.put, List.setIfInBounds_toArray, List.set_cons_zero, List.set_cons_succ]
  refine wpAnyK_take 17 24 (v := ?v17) rfl (by kernel_rfl) (by kernel_rfl) (by kernel_rfl) (by kernel_rfl) (by kernel_rfl) (fun _ _ _ h => h) rfl (Or.inl ⟨by rfl, ?h17⟩) (by assumption) ?r17
  case h17 => (intro w hSw; go_simp; with_reducible rfl)
  simp only [Act.put, List.setIfInBounds_toArray, List.set_cons_zero, List.set_cons_succ]
  refine wpAnyK_take 18 25 (v := ?v18) rfl (by kernel_rfl) (by kernel_rfl) (by kernel_rfl) (by kernel_rfl) (by kernel_rfl) (fun _ _ _ h => h) rfl (Or.inl ⟨by rfl, ?h18⟩) (by assumption) ?r18
  case h18 => (intro w hSw; go_simp; with_reducible rfl)
  simp only [Act.put, List.setIfInBounds_toArray, List.set_cons_zero, List.set_cons_succ]
  refine wpAnyK_take 19 26 (v := ?v19) rfl (by kernel_rfl) (by kernel_rfl) (by kernel_rfl) (by kernel_rfl) (by kernel_rfl) (fun _ _ _ h => h) rfl (Or.inl ⟨by rfl, ?h19⟩) (by assumption) ?r19
  case h19 => (intro w hSw; go_simp; with_reducible rfl)
  simp only [Act.put, List.setIfInBounds_toArray, List.set_cons_zero, List.set_cons_succ]
  refine wpAnyK_take 20 27 (v := ?v20) rfl (by kernel_rfl) (by kernel_rfl) (by kernel_rfl) (by kernel_rfl) (by kernel_rfl) (fun _ _ _ h => h) rfl (Or.inl ⟨by rfl, ?h20⟩) (by assumption) ?r20
  case h20 => (intro w hSw; go_simp; with_reducible rfl)
  simp only [Act.put, List.setIfInBounds_toArray, List.set_cons_zero, List.set_cons_succ]
  refine wpAnyK_take 21 28 (v := ?v21) rfl (by kernel_rfl) (by kernel_rfl) (by kernel_rfl) (by kernel_rfl) (by kernel_rfl) (fun _ _ _ h => h) rfl (Or.inl ⟨by rfl, ?h21⟩) (by assumption) ?r21
  case h21 => (intro w hSw; go_simp; with_reducible rfl)
  simp only [Act.put, List.setIfInBounds_toArray, List.set_cons_zero, List.set_cons_succ]
  refine wpAnyK_take 23 30 (v := ?v23) rfl (by kernel_rfl) (by kernel_rfl) (by kernel_rfl) (by kernel_rfl) (by kernel_rfl) (fun _ _ _ h => h) rfl (Or.inl ⟨by rfl, ?h23⟩) (by assumption) ?r23
  case h23 => (intro w hSw; go_simp; with_reducible rfl)
  simp only [Act.put, List.setIfInBounds_toArray, List.set_cons_zero, List.set_cons_succ]
  refine wpAnyK_take 25 32 (v := ?v25) rfl (by kernel_rfl) (by kernel_rfl) (by kernel_rfl) (by kernel_rfl) (by kernel_rfl) (fun _ _ _ h => h) rfl (Or.inl ⟨by rfl, ?h25⟩) (by assumption) ?r25
  case h25 => (intro w hSw; go_simp; with_reducible rfl)
  simp only [Act.put, List.setIfInBounds_toArray, List.set_cons_zero, List.set_cons_succ]
  refine wpAnyK_one 22 (by kernel_rfl) rfl (fun K hK => ?_)
  go_simp
  go_wp2_with (go_at_call_of 37 ua; refine (MW.out _ _ _ A X ?_ ?_ ?_ (by omega) (by omega)).mono ?_; exact (Fr.refl _).drew; exact h2.mono (Fr.refl _).drew; exact k2.mono (Fr.refl _).drew; rintro e w1 ⟨m1, rfl, hm1, f1, f1', g11, g12, g13, g14⟩)
  refine hK.out _ _ (fun _ _ => ⟨g11, g12, g13, g14⟩) ?_
  clear hK K
  simp only [List.setIfInBounds_toArray, List.set_cons_zero, List.set_cons_succ]
  refine wpAnyK_one 24 (by kernel_rfl) rfl (fun K hK => ?_)
  go_simp
  go_wp2_with (go_at_call_of 38 C; refine (BLx.out _ f1').mono ?_; rintro e w2 ⟨b1, rfl, hb1, f2, f2', g21, g22, g23, g24⟩)
  refine hK.out _ _ (fun _ _ => ⟨g21, g22, g23, g24⟩) ?_
  clear hK K
  simp only [List.setIfInBounds_toArray, List.set_cons_zero, List.set_cons_succ]
  refine wpAnyK_one 26 (by kernel_rfl) rfl (fun K hK => ?_)
  go_simp
  go_wp2_with (go_at_call_of 38 E; refine (BLy.out _ f2').mono ?_; rintro e w3 ⟨b2, rfl, hb2, f3, f3', g31, g32, g33, g34⟩)
  refine hK.out _ _ (fun _ _ => ⟨g31, g32, g33, g34⟩) ?_
  clear hK K
  simp only [List.setIfInBounds_toArray, List.set_cons_zero, List.set_cons_succ]
  refine wpAnyK_one 27 (by kernel_rfl) rfl (fun K hK => ?_)
  go_simp
  go_wp2_with (go_at_call_of 37 b2; refine (MW.out _ _ _ (den D) (den F) f3' (hb1.mono f3) hb2 (by omega) (by omega)).mono ?_; rintro e w4 ⟨m2, rfl, hm2, f4, f4', g41, g42, g43, g44⟩)
  refine hK.out _ _ (fun _ _ => ⟨g41, g42, g43, g44⟩) ?_
  clear hK K
  simp only [List.setIfInBounds_toArray, List.set_cons_zero, List.set_cons_succ]
  refine wpAnyK_one 28 (by kernel_rfl) rfl (fun K hK => ?_)
  go_simp
  go_wp2_with (go_at_call 46; refine (RS.out _ _ _ _ f4' (((hm1.mono f2).mono f3).mono f4) hm2).mono ?_; rintro e w5 ⟨rfl, hsv⟩)
  refine hK.out _ _ (fun h => absurd rfl h) ?_
  clear hK K
  simp only [List.setIfInBounds_toArray, List.set_cons_zero, List.set_cons_succ]
  refine wpAnyK_one 29 (by kernel_rfl) rfl (fun K hK => ?_)
  go_simp
  refine hK.out _ _ (fun _ h => absurd h (by decide)) ?_
  clear hK K
  simp only [List.setIfInBounds_toArray, List.set_cons_zero, List.set_cons_succ]
  refine wpAnyK_done (by kernel_rfl) ?_ _
  go_wp2
  go_ret
  rw [HSG.out _ (by first | rfl | (cases s <;> cases t <;> rfl))] at hsv
  exact hsv
theorem rmul_any (B C E : Nat) (p p' : Int) (q q' k k' : Nat) (s0 : Bool) (A0 D0 : Nat) (w : World) (hz : Rt w B s0 A0 D0) (hx : Rv w C p q k) (hy : Rv w E p' q' k') (hne : E ≠ B) (hk : k + k' + 2 < 16000000) :
    Calls Try.prog 17 #[.pointer (some ⟨B, 0, none⟩), .pointer (some ⟨C, 0, none⟩), .pointer (some ⟨E, 0, none⟩)] w fun e w' => Sv w B (p * p') (q * q') (k + k' + 2) e w' := by
  obtain ⟨s, A, D, h1, h2, h3, h4⟩ := hx
  obtain ⟨t, X, F, k1, k2, k3, k4⟩ := hy
  refine (rmul_rt B C E s t s0 A D X F A0 D0 k k' w hz h1 k1 hne h3 h4 k3 k4 hk).mono ?_
  intro e w' hs
  refine hs.conv (Nat.mul_pos (den_pos _) (den_pos _)) ?_
  rw [Int.natCast_mul, Int.natCast_mul]
  have e1 : sv s A * sv t X * ((q : Int) * q') = (sv s A * q) * (sv t X * q') := by grind
  rw [e1, h2, k2]; grind
end Go.Proofs.Ytpfaaimfembhdaa
