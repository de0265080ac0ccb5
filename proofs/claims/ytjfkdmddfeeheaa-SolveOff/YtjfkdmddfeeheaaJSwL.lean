/-
  OWN TEXT: layer 14's law SolveOff.
-/
import Derived.Test.YtjfkdmddfeeheaaJSwJToSwC
import Derived.Test.YtjfkdmddfeeheaaJSwDToSwK
import Derived.Test.YtjfkdmddfeeheaaJXxAToXxD
namespace Go.Proofs.Ytjfkdmddfeeheaa
open Go.ChangeShapes Go.WideShapes Go.ChangeAt Go.RowKit
set_option linter.unusedVariables false
attribute [local go_sem] frombits_call tobits_call run_neg
open Bg
namespace Sv
theorem c_eq2 {x v : Nat} (h : Fl.bitsF x = v) (hv : Fi v) : x = v := by
  by_cases z : Fl.nan x = true
  · rw [c_nan z] at h
    have := hv.2
    rw [← h] at this
    exact absurd this (by decide)
  · rw [c_num (Bool.eq_false_iff.2 z)] at h; exact h
theorem sub_self {x : Nat} (h : Fi x) : floatBits .sub .f64 x x = some 0 := by
  have k := Fl.sub_fin h.1 h.2 h.2
  rw [Int.sub_self, if_pos rfl] at k
  have e : (Fl.sg x && !Fl.sg x) = false := by cases Fl.sg x <;> rfl
  rw [e] at k
  exact k
/-- the first loop: the greatest element so far, the sum of the unknowns so far -/
def L1 (A : M) (X : Nat → Nat) (n : Nat) (w3 : World) (Bs : Nat) (m i : Value) (wr : World) : Prop := ∃ k M : Nat, k ≤ n ∧ i = .int .i64 (k : Int) ∧ m = .float .f64 M ∧ Mx A n k 0 M ∧ Rf wr Bs (sumF (fun j => ab (rv (X j))) 0 k) (1 + 2202 * k) ∧ Fr w3 wr
def L2 (A : M) (n : Nat) (w3 : World) (Bs k : Nat) (S : Rat) (q : Nat) (m j : Value) (wr : World) : Prop := ∃ t M : Nat, t ≤ n ∧ j = .int .i64 (t : Int) ∧ m = .float .f64 M ∧ Mx A n k t M ∧ Rf wr Bs S q ∧ Fr w3 wr
def L3 (n : Nat) (w5 : World) (i : Value) (wr : World) : Prop := ∃ k : Nat, k ≤ n ∧ i = .int .i64 (k : Int) ∧ Fr w5 wr
def L4 (A : M) (X : Nat → Nat) (n : Nat) (w6 : World) (Bt k : Nat) (j : Value) (wr : World) : Prop := ∃ t : Nat, t ≤ n ∧ j = .int .i64 (t : Int) ∧ Rf wr Bt (sumF (fun j => rv (A k j) * rv (X j)) 0 t) (1 + 4404 * t) ∧ Fr w6 wr
end Sv
theorem Sf.out {w : World} {B : Nat} {r : Rat} {k : Nat} {e : Ending} {w' : World} (h : Sf w B r k e w') : e = .returned (.pointer (some ⟨B, 0, none⟩)) ∧ Hid (Rf w' B r k ∧ (∀ w0, Fr w0 w → w0.heap.size ≤ B → Fr w0 w')) := ⟨h.1, h.2.1, fun w0 f hB => h.fr f hB⟩
theorem solveErr2 {w : World} {va vb : Value} {n nb : Nat} {l : Nat → Nat} {A : Sv.M} {b : Nat → Nat} (ha : Sv.Lm w va n l A) (hb : Sv.Ls w vb nb b) (hn : n < 1000000) (hnb : nb < 1000000) {c : Int} (hc : Sv.solE n l A nb b = c) (h0 : c ≠ 0) :
    Calls Try.prog 8 #[va, vb] w fun e w' => e = .returned (.tuple #[.slice none 0 0, .int .i64 c]) ∧ Bw w w' := by
  refine (solve14 ha hb hn hnb).mono ?_
  rintro e w' ⟨v, he, hbw, ⟨_, rfl⟩ | ⟨h, _⟩⟩
  · rw [hc] at he; exact ⟨he, hbw⟩
  · rw [hc] at h; exact absurd h h0
theorem solveOk2 {w : World} {va vb : Value} {n nb : Nat} {l : Nat → Nat} {A : Sv.M} {b : Nat → Nat} (ha : Sv.Lm w va n l A) (hb : Sv.Ls w vb nb b) (hn : n < 1000000) (hnb : nb < 1000000) (hc : Sv.solE n l A nb b = 0) :
    Calls Try.prog 8 #[va, vb] w fun e w' => ∃ B, e = .returned (.tuple #[.slice (some ⟨B, 0, none⟩) n n, .int .i64 0]) ∧ Sv.Rw w' w.heap.size B n n (Sv.solX n A b) ∧ Bw w w' := by
  refine (solve14 ha hb hn hnb).mono ?_
  rintro e w' ⟨v, he, hbw, ⟨h, _⟩ | ⟨h, B, rfl, hr⟩⟩
  · exact absurd hc h
  · rw [hc] at he; exact ⟨B, he, hr, hbw⟩
set_option maxHeartbeats 16000000 in
set_option maxRecDepth 10000 in
theorem solveoff_any {w : World} {va vb : Value} {n nb : Nat} {l : Nat → Nat} {A : Sv.M} {b : Nat → Nat} (ha : Sv.Lm w va n l A) (hb : Sv.Ls w vb nb b) :
    Calls Try.prog 6 #[va, vb] w fun e w' => e = .returned (.bool true) ∧ Below w.heap.size w w' := by
  have F := Sv.hid (And.intro ha (And.intro hb (Bw.refl w)))
  clear ha hb
  go_enter Try.func6, Try.ntmps6
  go_wp2_with fail
  refine (alive14_ev _ (fun g l h => by cases h) (fun g l h => by cases h)).mono ?_
  rintro e' w1 ⟨rfl, bb⟩
  replace bb : Bw w w1 := bb
  obtain ⟨fa, fb, fw⟩ := F.out
  replace F := Sv.hid (And.intro (fa.bw bb) (And.intro (fb.bw bb) (bw_trans fw bb)))
  clear fa fb fw bb
  go_wp2_with fail
  refine (simple14 F.out.1 F.out.2.1).mono ?_
  rintro e' w2 ⟨r, rfl, bb, hr⟩
  obtain ⟨fa, fb, fw⟩ := F.out
  replace F := Sv.hid (And.intro (fa.bw bb) (And.intro (fb.bw bb) (bw_trans fw bb)))
  clear fa fb fw bb
  cases r
  case false =>
    clear hr
    go_wp2
    go_ret
    exact ⟨rfl, F.out.2.2⟩
  have SP := Sv.hid (hr rfl)
  clear hr
  have hnb : n = nb := SP.out.2.2.1.symm
  subst hnb
  have hn8 : n ≤ 8 := SP.out.2.1
  obtain ⟨pa, po, pc, rfl, hpc, _, _⟩ := F.out.1.resolve_left (fun h => by have := SP.out.1; omega)
  obtain ⟨pb, qo, qc, rfl, hqc, _⟩ := F.out.2.1.resolve_left (fun h => by have := SP.out.1; omega)
  rcases Sv.sp_two SP.out with hE | hE
  case inr =>
    go_wp2_with fail
    refine (solveErr2 F.out.1 F.out.2.1 (by omega) (by omega) hE (by decide)).mono ?_
    rintro e' w3 ⟨rfl, bb⟩
    clear hE
    replace F := Sv.hid (bw_trans F.out.2.2 bb)
    clear bb
    go_wp2
    go_ret
    exact ⟨rfl, F.out⟩
  have XF := Sv.hid (Sv.sp_good SP.out hE).2
  have FIT := Sv.hid (fun (M : Nat) (hM : Sv.Mx A n n 0 M) (i : Nat) (hi : i < n) => Sv.fits14 SP.out hE hM hi)
  go_wp2_with fail
  refine (solveOk2 F.out.1 F.out.2.1 (by omega) (by omega) hE).mono ?_
  rintro e' w3 ⟨B, rfl, hx, bb⟩
  clear hE
  generalize Sv.solX n A b = X at *
  replace hx := hx.rd
  obtain ⟨fa, fb, fw⟩ := F.out
  replace F := Sv.hid (And.intro (fa.bw bb) (And.intro (fb.bw bb) (And.intro hx (bw_trans fw bb))))
  clear fa fb fw bb hx
  have R0 := Sv.hid (And.intro (Rf.zero (rt_made w3)) (((Fr.refl w3).alloc #[.bool false, .slice none 0 0, .slice none 0 0] 56)))
  obtain ⟨Bs, hBs⟩ : ∃ Bs, w3.heap.size = Bs := ⟨_, rfl⟩
  have HBs := Sv.hid hBs
  rw [hBs] at R0
  clear hBs
  go_wp2_with fail
  rw [HBs.out]
  generalize w3.alloc (.cells #[.bool false, .slice none 0 0, .slice none 0 0] 56) = W0 at *
  go_loopw [9, 11] (fun m i wr => Sv.L1 A X n w3 Bs m i wr) (fun _ i _ => n - (intOf i).toNat)
  case atStart => exact ⟨0, 0, Nat.zero_le _, rfl, rfl, Sv.Mx.start A n, R0.out.1, R0.out.2⟩
  case round =>
    clear R0 W0
    obtain ⟨k, M, hk, rfl, rfl, hM, hS, hf⟩ := hrel
    have HM := Sv.hid hM
    have HS := Sv.hid (And.intro hS hf)
    clear hM hS hf
    by_cases hk1 : k < n
    case pos =>
      have hk2 : (k : Int) < n := by omega
      obtain ⟨x, ex, hxl, hxq⟩ := (F.out.2.2.1.bw HS.out.2.1).2 k hk1
      rw [Nat.zero_add] at ex
      obtain rfl := Sv.c_eq2 hxq (XF.out k hk1)
      have hfi := XF.out k hk1
      clear hxq
      obtain ⟨x, hxe⟩ : ∃ x, X k = x := ⟨_, rfl⟩
      have HX := Sv.hid hxe
      rw [hxe] at ex hxl hfi
      clear hxe
      have E17 := fun (ty : TypeId) w => run_float_arith (P := Try.prog) w .sub ty .f64 x x 0 (Sv.sub_self hfi)
      have g17 : (FloatKind.f64.format.order 0 0 != some .eq) = false := by rw [Fl.o_ne]; decide
      have S0 : wr.drew.cell? ⟨B, k, none⟩ = some (.float .f64 x) := (Below.cell (Bw.refl wr).drew (p := ⟨B, k, none⟩) (by have := (F.out.2.2.1.bw HS.out.2.1).1; exact this)).trans ex
      replace HS := Sv.hid (And.intro (HS.out.1.mono (Fr.refl wr).drew) HS.out.2.drew)
      have HFI := Sv.hid hfi
      clear ex hfi
      go_wp2_with fail
      refine wp_region_K (fun w' => w'.cell? ⟨B, k, none⟩ = some (.float .f64 x)) 9 10 #[false, false, false, false, false, false, false, false, false, false] (by kernel_rfl) (by kernel_rfl) (by kernel_rfl) ?_
      generalize wr.drew = W at *
      refine wpAnyK_take 0 47 (v := ?v0) rfl (by kernel_rfl) (by kernel_rfl) (by kernel_rfl) (by kernel_rfl) (by kernel_rfl) (fun _ _ _ h => h) rfl (Or.inl ⟨by rfl, ?h0⟩) (by assumption) ?r0
      case h0 => (intro w hSw; go_simp; with_reducible rfl)
      simp only [Act.put, List.setIfInBounds_toArray, List.set_cons_zero, List.set_cons_succ]
      refine wpAnyK_take 1 48 (v := ?v1) rfl (by kernel_rfl) (by kernel_rfl) (by kernel_rfl) (by kernel_rfl) (by kernel_rfl) (fun _ _ _ h => h) rfl (Or.inl ⟨by rfl, ?h1⟩) (by assumption) ?r1
      case h1 => (intro w hSw; go_simp; with_reducible rfl)
      simp only [Act.put, List.setIfInBounds_toArray, List.set_cons_zero, List.set_cons_succ]
      refine wpAnyK_take 2 49 (v := ?v2) rfl (by kernel_rfl) (by kernel_rfl) (by kernel_rfl) (by kernel_rfl) (by kernel_rfl) (fun _ _ _ h => h) rfl (Or.inl ⟨by rfl, ?h2⟩) (by assumption) ?r2
      case h2 => (intro w hSw; go_simp; with_reducible rfl)
      simp only [Act.put, List.setIfInBounds_toArray, List.set_cons_zero, List.set_cons_succ]
      refine wpAnyK_take 3 50 (v := ?v3) rfl (by kernel_rfl) (by kernel_rfl) (by kernel_rfl) (by kernel_rfl) (by kernel_rfl) (fun _ _ _ h => h) rfl (Or.inl ⟨by rfl, ?h3⟩) (by assumption) ?r3
      case h3 => (intro w hSw; go_simp; with_reducible rfl)
      simp only [Act.put, List.setIfInBounds_toArray, List.set_cons_zero, List.set_cons_succ]
      refine wpAnyK_take 4 51 (v := ?v4) rfl (by kernel_rfl) (by kernel_rfl) (by kernel_rfl) (by kernel_rfl) (by kernel_rfl) (fun _ _ _ h => h) rfl (Or.inl ⟨by rfl, ?h4⟩) (by assumption) ?r4
      case h4 => (intro w hSw; go_simp; with_reducible rfl)
      simp only [Act.put, List.setIfInBounds_toArray, List.set_cons_zero, List.set_cons_succ]
      refine wpAnyK_take 5 52 (v := ?v5) rfl (by kernel_rfl) (by kernel_rfl) (by kernel_rfl) (by kernel_rfl) (by kernel_rfl) (fun _ _ _ h => h) rfl (Or.inl ⟨by rfl, ?h5⟩) (by assumption) ?r5
      case h5 => (intro w hSw; go_simp; with_reducible rfl)
      simp only [Act.put, List.setIfInBounds_toArray, List.set_cons_zero, List.set_cons_succ]
      refine wpAnyK_take 6 53 (v := ?v6) rfl (by kernel_rfl) (by kernel_rfl) (by kernel_rfl) (by kernel_rfl) (by kernel_rfl) (fun _ _ _ h => h) rfl (Or.inl ⟨by rfl, ?h6⟩) (by assumption) ?r6
      case h6 => (intro w hSw; go_simp; with_reducible rfl)
      simp only [Act.put, List.setIfInBounds_toArray, List.set_cons_zero, List.set_cons_succ]
      refine wpAnyK_take 7 54 (v := ?v7) rfl (by kernel_rfl) (by kernel_rfl) (by kernel_rfl) (by kernel_rfl) (by kernel_rfl) (fun _ _ _ h => h) rfl (Or.inl ⟨by rfl, ?h7⟩) (by assumption) ?r7
      case h7 => (intro w hSw; go_simp; with_reducible rfl)
      simp only [Act.put, List.setIfInBounds_toArray, List.set_cons_zero, List.set_cons_succ]
      refine wpAnyK_one 8 (by kernel_rfl) rfl (fun K hK => ?_)
      go_simp
      refine hK.out _ _ (fun _ _ => S0) ?_
      clear hK K
      simp only [List.setIfInBounds_toArray, List.set_cons_zero, List.set_cons_succ]
      refine wpAnyK_one 9 (by kernel_rfl) rfl (fun K hK => ?_)
      go_simp
      refine hK.out _ _ (fun h => absurd rfl h) ?_
      clear hK K
      simp only [List.setIfInBounds_toArray, List.set_cons_zero, List.set_cons_succ]
      refine wpAnyK_done (by kernel_rfl) ?_ _
      clear E17 g17
      go_wp2_with fail
      refine (abs_any x _ hxl).mono ?_
      rintro e' w5 ⟨rfl, hw5⟩
      subst hw5
      go_wp2_with fail
      refine (rat14 (Fl.rg x) _ ⟨by have := HFI.out.2; omega, by rw [Fl.rg_rg]; exact HFI.out.2⟩).mono ?_
      rintro e' w6 ⟨Y, rfl, hY, hYb, f6⟩
      obtain ⟨s0, A0, D0, hz⟩ := (HS.out.1.mono f6).rt
      have HY := Sv.hid (And.intro hz (And.intro hY f6))
      clear hz hY hYb f6
      go_wp2_with fail
      refine (qadd_any Bs Bs Y _ _ _ _ _ s0 A0 D0 HY.out.1 (HS.out.1.mono HY.out.2.2) HY.out.2.1 (by omega)).mono ?_
      rintro e' w7 hsf
      obtain ⟨he, hs2⟩ := hsf.out
      have HT := Sv.hid (And.intro hs2.out.1 (hs2.out.2 w3 (HS.out.2.trans HY.out.2.2) (by have := HBs.out; omega)))
      clear hsf hs2 HY S0
      subst he
      go_wp2
      go_loopw [9, 12] (fun m j wr => Sv.L2 A n w3 Bs k (Sv.sumF (fun j => Sv.ab (Sv.rv (X j))) 0 k + Sv.rv (Fl.rg x)) (1 + 2202 * k + 2200 + 2) m j wr) (fun _ j _ => n - (intOf j).toNat)
      case atStart => exact ⟨0, M, Nat.zero_le _, rfl, rfl, HM.out, HT.out.1, HT.out.2⟩
      case round =>
        clear HT HM HS
        obtain ⟨t, M, ht, rfl, rfl, hM, hS, hf⟩ := hrel
        have HS := Sv.hid (And.intro hS hf)
        have hM1 := hM.1
        have HM := Sv.hid hM
        clear hM hS hf
        by_cases ht1 : t < n
        case pos =>
          have ht2 : (t : Int) < n := by omega
          obtain ⟨rb, ro, rc, e1, hrc, hd⟩ := (F.out.1.bw HS.out.2.1).row2 hk1 (SP.out.2.2.2.1 k hk1)
          obtain ⟨y, ey, hyl, hyq⟩ := hd.2 t ht1
          have hfy := (SP.out.2.2.2.2.2 k hk1 t ht1).1
          obtain rfl := Sv.c_eq2 hyq hfy
          clear hyq hd
          obtain ⟨y, hye⟩ : ∃ y, A k t = y := ⟨_, rfl⟩
          have HYE := Sv.hid hye
          rw [hye] at ey hyl hfy
          clear hye
          have M14 := fun ts t w => bmax14 (a := M) (b := Fl.rg y) hM1 hfy.2 ts t w
          have HFY := Sv.hid hfy
          clear hfy hM1
          go_wp2_with fail
          refine (abs_any y _ hyl).mono ?_
          rintro e' w8 ⟨rfl, hw8⟩
          subst hw8
          generalize hM2 : (if M < Fl.rg y then Fl.rg y else M) = M2 at M14
          have HM2 := Sv.hid hM2
          clear hM2
          clear e1 ey
          go_wp2
          go_roundw
          case rel =>
            refine ⟨t + 1, M2, by omega, by simp, rfl, ?_, HS.out.1, HS.out.2⟩
            have := HM.out.step hk1 ht1 (by rw [HYE.out]; exact HFY.out)
            rw [HYE.out, HM2.out] at this
            exact this
          case measure => simp [intOf]; omega
        case neg =>
          have ht3 : t = n := by omega
          have ht4 : ¬ (t : Int) < n := by omega
          go_wp2
          go_roundw
          case rel =>
            refine ⟨k + 1, M, by omega, by simp, rfl, ?_, ?_, HS.out.2⟩
            · have := HM.out
              rw [ht3] at this
              exact this.row
            · have := HS.out.1
              rw [Sv.rv_rg, ← HX.out] at this
              have e : 1 + 2202 * k + 2200 + 2 = 1 + 2202 * (k + 1) := by omega
              rw [e] at this
              show Rf _ Bs (Sv.sumF (fun j => Sv.ab (Sv.rv (X j))) 0 k + Sv.ab (Sv.rv (X (0 + k)))) _
              rw [Nat.zero_add]
              exact this
          case measure => simp [intOf]; omega
    case neg =>
      have hk3 : k = n := by omega
      clear hk1
      have hk4 : ¬ (k : Int) < n := by omega
      have HM0 := Sv.hid (show Sv.Mx A n n 0 M by have := HM.out; rw [hk3] at this; exact this)
      have HS0 := Sv.hid (show Rf wr Bs (Sv.sumF (fun j => Sv.ab (Sv.rv (X j))) 0 n) (1 + 2202 * n) ∧ Fr w3 wr by have := HS.out; rw [hk3] at this; exact this)
      clear HM HS
      obtain ⟨Q, hQ⟩ : ∃ Q, Sv.rv M * Sv.sumF (fun j => Sv.ab (Sv.rv (X j))) 0 n * Sv.rv 4454060031469420544 + Sv.rv 553942754166571008 = Q := ⟨_, rfl⟩
      have FQ : Hid (∀ i, i < n → Sv.ab (Sv.lo n A X b i) ≤ Q) := fun i hi => by rw [← hQ]; exact FIT.out M HM0.out i hi
      have HQ := Sv.hid hQ
      clear hQ FIT
      obtain ⟨S, hS⟩ : ∃ S, Sv.sumF (fun j => Sv.ab (Sv.rv (X j))) 0 n = S := ⟨_, rfl⟩
      rw [hS] at HS0 HQ
      clear hS
      have hlt := HS0.out.1.lt
      have e2 : (wr.alloc (.cells #[.bool false, .slice none 0 0, .slice none 0 0] 56)).heap.size = wr.heap.size + 1 := by simp
      have hm1 := rt_made wr
      have hm2 := rt_made (wr.alloc (.cells #[.bool false, .slice none 0 0, .slice none 0 0] 56))
      have hF1 : Fr wr (wr.alloc (.cells #[.bool false, .slice none 0 0, .slice none 0 0] 56)) := (Fr.refl _).alloc _ _
      have hF2 : Fr (wr.alloc (.cells #[.bool false, .slice none 0 0, .slice none 0 0] 56)) ((wr.alloc (.cells #[.bool false, .slice none 0 0, .slice none 0 0] 56)).alloc (.cells #[.bool false, .slice none 0 0, .slice none 0 0] 56)) := (Fr.refl _).alloc _ _
      obtain ⟨B1, hB1⟩ : ∃ B1, wr.heap.size = B1 := ⟨_, rfl⟩
      obtain ⟨B2, hB2⟩ : ∃ B2, wr.heap.size + 1 = B2 := ⟨_, rfl⟩
      rw [e2, hB2] at hm2
      rw [hB1] at hm1
      have HB1 := Sv.hid hB1
      have HB2 := Sv.hid hB2
      have R1 := Sv.hid (And.intro hm1 (And.intro hm2 (And.intro hF1 (And.intro hF2 (And.intro (show (wr.alloc (.cells #[.bool false, .slice none 0 0, .slice none 0 0] 56)).heap.size ≤ B2 by omega) (show Bs < B1 by omega))))))
      clear hm1 hm2 hF1 hF2 e2 hlt hB1 hB2
      go_wp2_with fail
      rw [HB2.out, HB1.out]
      generalize hW1 : (wr.alloc (.cells #[.bool false, .slice none 0 0, .slice none 0 0] 56)).alloc (.cells #[.bool false, .slice none 0 0, .slice none 0 0] 56) = W1 at *
      clear hW1
      generalize wr.alloc (.cells #[.bool false, .slice none 0 0, .slice none 0 0] 56) = Wa at *
      refine (rat14 M _ ⟨by have := HM0.out.1; omega, by have := HM0.out.1; have e : Fl.rg M = M := Nat.mod_eq_of_lt (by omega); omega⟩).mono ?_
      rintro e' w5 ⟨Y1, rfl, hY1, hYb1, f1⟩
      obtain ⟨r1, r2, r3, r4, r5, r6⟩ := R1.out
      have R2 := Sv.hid (And.intro (r2.mono f1) (And.intro hY1 (And.intro (HS0.out.1.mono ((r3.trans r4).trans f1)) (r4.trans f1))))
      clear hY1 hYb1 f1 r1 r2 r3 r4 r5 r6
      go_wp2_with fail
      refine (qmul_any B2 Y1 Bs _ _ _ _ _ false 0 0 R2.out.1 R2.out.2.1 R2.out.2.2.1 (by have := R1.out.2.2.2.2.2; have := HB1.out; have := HB2.out; omega) (by omega)).mono ?_
      rintro e' w6 hsf
      obtain ⟨he, hs2⟩ := hsf.out
      have R3 := Sv.hid (And.intro hs2.out.1 (hs2.out.2 Wa R2.out.2.2.2 R1.out.2.2.2.2.1))
      clear hsf hs2 R2
      subst he
      go_wp2_with fail
      refine (rat14 4454060031469420544 _ ⟨by decide, by decide⟩).mono ?_
      rintro e' w7 ⟨Y2, rfl, hY2, hYb2, f2⟩
      have hne : Y2 ≠ B1 := by have := R3.out.2.1.size; have := R1.out.1.nw.1; omega
      have R4 := Sv.hid (And.intro (R1.out.1.mono (R3.out.2.trans f2)) (And.intro (R3.out.1.mono f2) (And.intro hY2 (And.intro hne (R1.out.2.2.1.trans (R3.out.2.trans f2))))))
      clear hY2 hYb2 f2 hne R3
      go_wp2_with fail
      refine (qmul_any B1 B2 Y2 _ _ _ _ _ false 0 0 R4.out.1 R4.out.2.1 R4.out.2.2.1 R4.out.2.2.2.1 (by omega)).mono ?_
      rintro e' w8 hsf
      obtain ⟨he, hs2⟩ := hsf.out
      have R5 := Sv.hid (And.intro hs2.out.1 (hs2.out.2 wr R4.out.2.2.2.2 (by have := HB1.out; omega)))
      clear hsf hs2 R4
      subst he
      go_wp2_with fail
      refine (rat14 553942754166571008 _ ⟨by decide, by decide⟩).mono ?_
      rintro e' w9 ⟨Y3, rfl, hY3, hYb3, f3⟩
      obtain ⟨s0, A0, D0, hz⟩ := (R5.out.1.mono f3).rt
      have R6 := Sv.hid (And.intro hz (And.intro (R5.out.1.mono f3) (And.intro hY3 (R5.out.2.trans f3))))
      clear hY3 hYb3 f3 hz R5
      go_wp2_with fail
      refine (qadd_any B1 B1 Y3 _ _ _ _ _ s0 A0 D0 R6.out.1 R6.out.2.1 R6.out.2.2.1 (by omega)).mono ?_
      rintro e' w10 hsf
      obtain ⟨he, hs2⟩ := hsf.out
      have R7 := Sv.hid (And.intro hs2.out.1 (HS0.out.2.trans (hs2.out.2 wr R6.out.2.2.2 (by have := HB1.out; omega))))
      rw [HQ.out] at R7
      clear hsf hs2 R6 R1 HS0 HM0 HQ
      subst he
      go_wp2
      go_loopw [14] (fun i wr => Sv.L3 n w10 i wr) (fun i _ => n - (intOf i).toNat)
      case atStart => exact ⟨0, Nat.zero_le _, rfl, Fr.refl _⟩
      case round =>
        obtain ⟨i, hi, rfl, hf⟩ := hrel
        obtain ⟨wB, hwB⟩ : ∃ v, v = wr := ⟨_, rfl⟩
        subst hwB
        have HF := Sv.hid hf
        clear hf hk4 hk3 hk HB1 HB2
        by_cases hi1 : i < n
        case neg =>
          have hi3 : ¬ (i : Int) < n := by omega
          go_wp2
          go_ret
          exact ⟨rfl, bw_trans F.out.2.2.2 (R7.out.2.trans HF.out).1⟩
        case pos =>
          have hi2 : (i : Int) < n := by omega
          have R0 := Sv.hid (And.intro (Rf.zero (rt_made wB)) (((Fr.refl wB).alloc #[.bool false, .slice none 0 0, .slice none 0 0] 56)))
          obtain ⟨Bt, hBt⟩ : ∃ Bt, wB.heap.size = Bt := ⟨_, rfl⟩
          have HBt := Sv.hid hBt
          rw [hBt] at R0
          clear hBt
          go_wp2_with fail
          rw [HBt.out]
          generalize wB.alloc (.cells #[.bool false, .slice none 0 0, .slice none 0 0] 56) = W0 at *
          have FW := Sv.hid (R7.out.2.trans HF.out)
          go_loopw [16] (fun j wr => Sv.L4 A X n wB Bt i j wr) (fun j _ => n - (intOf j).toNat)
          case atStart => exact ⟨0, Nat.zero_le _, rfl, R0.out.1, R0.out.2⟩
          case round =>
            clear R0 W0
            obtain ⟨t, ht, rfl, hS, hf⟩ := hrel
            obtain ⟨wC, hwC⟩ : ∃ v, v = wr := ⟨_, rfl⟩
            subst hwC
            have HS := Sv.hid (And.intro hS hf)
            clear hS hf
            have FB := Sv.hid (bw_trans FW.out.1 HS.out.2.1)
            by_cases ht1 : t < n
            case pos =>
              have ht2 : (t : Int) < n := by omega
              obtain ⟨rb, ro, rc, e1, hrc, hd⟩ := (F.out.1.bw FB.out).row2 hi1 (SP.out.2.2.2.1 i hi1)
              obtain ⟨y, ey, hyl, hyq⟩ := hd.2 t ht1
              have hfy := (SP.out.2.2.2.2.2 i hi1 t ht1).1
              obtain rfl := Sv.c_eq2 hyq hfy
              obtain ⟨x, ex, hxl, hxq⟩ := (F.out.2.2.1.bw FB.out).2 t ht1
              rw [Nat.zero_add] at ex
              obtain rfl := Sv.c_eq2 hxq (XF.out t ht1)
              have hfx := XF.out t ht1
              clear hyq hxq
              have bd : Bw wC wC.drew := (Bw.refl wC).drew
              have LT : Hid (pa < wC.drew.heap.size ∧ rb < wC.drew.heap.size ∧ B < wC.drew.heap.size) := ⟨((F.out.1.bw (bw_trans FB.out bd)).row1 hi1).1, (hd.bw bd).1, (F.out.2.2.1.bw (bw_trans FB.out bd)).1⟩
              have S0 : wC.drew.cell? ⟨pa, po + i, none⟩ = some (.slice (some ⟨rb, ro, none⟩) n rc) ∧ wC.drew.cell? ⟨rb, ro + t, none⟩ = some (.float .f64 (A i t)) ∧ wC.drew.cell? ⟨B, t, none⟩ = some (.float .f64 (X t)) := ⟨e1, ey, ex⟩
              obtain ⟨y, hye⟩ : ∃ y, A i t = y := ⟨_, rfl⟩
              obtain ⟨x, hxe⟩ : ∃ x, X t = x := ⟨_, rfl⟩
              have HE := Sv.hid (And.intro hye hxe)
              rw [hye] at S0 hyl hfy
              rw [hxe] at S0 hxl hfx
              have HFY := Sv.hid hfy
              have HFX := Sv.hid hfx
              clear hye hxe hfy hfx hd e1 ey ex bd
              have KEEP := Sv.hid (fun (w' : World) (f : Fr wC.drew w') => (show w'.cell? ⟨pa, po + i, none⟩ = some (.slice (some ⟨rb, ro, none⟩) n rc) ∧ w'.cell? ⟨rb, ro + t, none⟩ = some (.float .f64 y) ∧ w'.cell? ⟨B, t, none⟩ = some (.float .f64 x) from
                ⟨(f.1.cell (p := ⟨pa, po + i, none⟩) LT.out.1).trans S0.1, (f.1.cell (p := ⟨rb, ro + t, none⟩) LT.out.2.1).trans S0.2.1, (f.1.cell (p := ⟨B, t, none⟩) LT.out.2.2).trans S0.2.2⟩))
              have TAIL : Hid (∀ (W4 : World) (Mb Y1 Y2 : Nat), Fr wC.drew W4 → Rt W4 Mb false 0 0 → Rf W4 Y1 (Sv.rv y) 2200 → Rf W4 Y2 (Sv.rv x) 2200 → Y2 ≠ Mb ∧ wC.drew.heap.size ≤ Mb → Calls Try.prog 32 #[.pointer (some ⟨Mb, 0, none⟩), .pointer (some ⟨Y1, 0, none⟩), .pointer (some ⟨Y2, 0, none⟩)] W4 fun e w' => e = .returned (.pointer (some ⟨Mb, 0, none⟩)) ∧ Hid (Rf w' Mb (Sv.rv y * Sv.rv x) 4402 ∧ Fr wC.drew w')) := by
                intro W4 Mb Y1 Y2 f h1 h2 h3 h4
                refine (qmul_any Mb Y1 Y2 _ _ _ _ _ false 0 0 h1 h2 h3 h4.1 (by omega)).mono fun e w' h => ?_
                obtain ⟨he, hs2⟩ := h.out
                exact ⟨he, hs2.out.1, hs2.out.2 _ f h4.2⟩
              have TAIL2 : Hid (∀ (W5 : World) (Mb : Nat), Fr wC.drew W5 → Rf W5 Mb (Sv.rv y * Sv.rv x) 4402 → Calls Try.prog 29 #[.pointer (some ⟨Bt, 0, none⟩), .pointer (some ⟨Bt, 0, none⟩), .pointer (some ⟨Mb, 0, none⟩)] W5 fun e w' => e = .returned (.pointer (some ⟨Bt, 0, none⟩)) ∧ Hid (Rf w' Bt (Sv.sumF (fun j => Sv.rv (A i j) * Sv.rv (X j)) 0 (t + 1)) (1 + 4404 * (t + 1)) ∧ Fr wB w')) := by
                intro W5 Mb f h1
                have h0 := (HS.out.1.mono (Fr.refl wC).drew).mono f
                obtain ⟨s0, A0, D0, hz⟩ := h0.rt
                refine (qadd_any Bt Bt Mb _ _ _ _ _ s0 A0 D0 hz h0 h1 (by omega)).mono fun e w' h => ?_
                obtain ⟨he, hs2⟩ := h.out
                refine ⟨he, ?_, hs2.out.2 _ ((HS.out.2.drew).trans f) (by have := HBt.out; omega)⟩
                have k := hs2.out.1
                rw [show 1 + 4404 * t + 4402 + 2 = 1 + 4404 * (t + 1) by omega] at k
                show Rf w' Bt (Sv.sumF (fun j => Sv.rv (A i j) * Sv.rv (X j)) 0 t + Sv.rv (A i (0 + t)) * Sv.rv (X (0 + t))) _
                rw [Nat.zero_add, HE.out.1, HE.out.2]
                exact k
              clear LT HE
              go_wp2_with fail
              refine wp_region_K (fun w' => w'.cell? ⟨pa, po + i, none⟩ = some (.slice (some ⟨rb, ro, none⟩) n rc) ∧ w'.cell? ⟨rb, ro + t, none⟩ = some (.float .f64 y) ∧ w'.cell? ⟨B, t, none⟩ = some (.float .f64 x)) 17 18 #[false, false, false, false, false, false, false, false, false, false, false, false, false, false, false, false, false, false] (by kernel_rfl) (by kernel_rfl) (by kernel_rfl) ?_
              generalize wC.drew = W at *
              refine wpAnyK_take 0 107 (v := ?vb0) rfl (by kernel_rfl) (by kernel_rfl) (by kernel_rfl) (by kernel_rfl) (by kernel_rfl) (fun _ _ _ h => h) rfl (Or.inl ⟨by rfl, ?hb0⟩) (by assumption) ?rb0
              case hb0 => (intro w hSw; go_simp; with_reducible rfl)
              simp only [Act.put, List.setIfInBounds_toArray, List.set_cons_zero, List.set_cons_succ]
              refine wpAnyK_take 1 108 (v := ?vb1) rfl (by kernel_rfl) (by kernel_rfl) (by kernel_rfl) (by kernel_rfl) (by kernel_rfl) (fun _ _ _ h => h) rfl (Or.inl ⟨by rfl, ?hb1⟩) (by assumption) ?rb1
              case hb1 => (intro w hSw; go_simp; with_reducible rfl)
              simp only [Act.put, List.setIfInBounds_toArray, List.set_cons_zero, List.set_cons_succ]
              refine wpAnyK_take 3 110 (v := ?vb3) rfl (by kernel_rfl) (by kernel_rfl) (by kernel_rfl) (by kernel_rfl) (by kernel_rfl) (fun _ _ _ h => h) rfl (Or.inl ⟨by rfl, ?hb3⟩) (by assumption) ?rb3
              case hb3 => (intro w hSw; go_simp; with_reducible rfl)
              simp only [Act.put, List.setIfInBounds_toArray, List.set_cons_zero, List.set_cons_succ]
              refine wpAnyK_take 4 111 (v := ?vb4) rfl (by kernel_rfl) (by kernel_rfl) (by kernel_rfl) (by kernel_rfl) (by kernel_rfl) (fun _ _ _ h => h) rfl (Or.inl ⟨by rfl, ?hb4⟩) (by assumption) ?rb4
              case hb4 => (intro w hSw; go_simp; with_reducible rfl)
              simp only [Act.put, List.setIfInBounds_toArray, List.set_cons_zero, List.set_cons_succ]
              refine wpAnyK_take 5 112 (v := ?vb5) rfl (by kernel_rfl) (by kernel_rfl) (by kernel_rfl) (by kernel_rfl) (by kernel_rfl) (fun _ _ _ h => h) rfl (Or.inl ⟨by rfl, ?hb5⟩) (by assumption) ?rb5
              case hb5 => (intro w hSw; go_simp; with_reducible rfl)
              simp only [Act.put, List.setIfInBounds_toArray, List.set_cons_zero, List.set_cons_succ]
              refine wpAnyK_take 6 113 (v := ?vb6) rfl (by kernel_rfl) (by kernel_rfl) (by kernel_rfl) (by kernel_rfl) (by kernel_rfl) (fun _ _ _ h => h) rfl (Or.inl ⟨by rfl, ?hb6⟩) (by assumption) ?rb6
              case hb6 => (intro w hSw; go_simp; with_reducible rfl)
              simp only [Act.put, List.setIfInBounds_toArray, List.set_cons_zero, List.set_cons_succ]
              refine wpAnyK_take 7 114 (v := ?vb7) rfl (by kernel_rfl) (by kernel_rfl) (by kernel_rfl) (by kernel_rfl) (by kernel_rfl) (fun _ _ _ h => h) rfl (Or.inl ⟨by rfl, ?hb7⟩) (by assumption) ?rb7
              case hb7 => (intro w hSw; go_simp; with_reducible rfl)
              simp only [Act.put, List.setIfInBounds_toArray, List.set_cons_zero, List.set_cons_succ]
              refine wpAnyK_take 8 115 (v := ?vb8) rfl (by kernel_rfl) (by kernel_rfl) (by kernel_rfl) (by kernel_rfl) (by kernel_rfl) (fun _ _ _ h => h) rfl (Or.inl ⟨by rfl, ?hb8⟩) (by assumption) ?rb8
              case hb8 => (intro w hSw; go_simp; with_reducible rfl)
              simp only [Act.put, List.setIfInBounds_toArray, List.set_cons_zero, List.set_cons_succ]
              refine wpAnyK_take 9 116 (v := ?vb9) rfl (by kernel_rfl) (by kernel_rfl) (by kernel_rfl) (by kernel_rfl) (by kernel_rfl) (fun _ _ _ h => h) rfl (Or.inl ⟨by rfl, ?hb9⟩) (by assumption) ?rb9
              case hb9 => (intro w hSw; go_simp; with_reducible rfl)
              simp only [Act.put, List.setIfInBounds_toArray, List.set_cons_zero, List.set_cons_succ]
              refine wpAnyK_take 11 118 (v := ?vb11) rfl (by kernel_rfl) (by kernel_rfl) (by kernel_rfl) (by kernel_rfl) (by kernel_rfl) (fun _ _ _ h => h) rfl (Or.inl ⟨by rfl, ?hb11⟩) (by assumption) ?rb11
              case hb11 => (intro w hSw; go_simp; with_reducible rfl)
              simp only [Act.put, List.setIfInBounds_toArray, List.set_cons_zero, List.set_cons_succ]
              refine wpAnyK_take 12 119 (v := ?vb12) rfl (by kernel_rfl) (by kernel_rfl) (by kernel_rfl) (by kernel_rfl) (by kernel_rfl) (fun _ _ _ h => h) rfl (Or.inl ⟨by rfl, ?hb12⟩) (by assumption) ?rb12
              case hb12 => (intro w hSw; go_simp; with_reducible rfl)
              simp only [Act.put, List.setIfInBounds_toArray, List.set_cons_zero, List.set_cons_succ]
              refine wpAnyK_take 13 120 (v := ?vb13) rfl (by kernel_rfl) (by kernel_rfl) (by kernel_rfl) (by kernel_rfl) (by kernel_rfl) (fun _ _ _ h => h) rfl (Or.inl ⟨by rfl, ?hb13⟩) (by assumption) ?rb13
              case hb13 => (intro w hSw; go_simp; with_reducible rfl)
              simp only [Act.put, List.setIfInBounds_toArray, List.set_cons_zero, List.set_cons_succ]
              refine wpAnyK_take 14 121 (v := ?vb14) rfl (by kernel_rfl) (by kernel_rfl) (by kernel_rfl) (by kernel_rfl) (by kernel_rfl) (fun _ _ _ h => h) rfl (Or.inl ⟨by rfl, ?hb14⟩) (by assumption) ?rb14
              case hb14 => (intro w hSw; go_simp; with_reducible rfl)
              simp only [Act.put, List.setIfInBounds_toArray, List.set_cons_zero, List.set_cons_succ]
              refine wpAnyK_two 2 10 (by kernel_rfl) rfl rfl (fun K hK => ?_) (fun K hK => ?_)
              · go_simp
                have hm := rt_made W
                have fm : Fr W (W.alloc (.cells #[.bool false, .slice none 0 0, .slice none 0 0] 56)) := (Fr.refl W).alloc _ _
                have em : (W.alloc (.cells #[.bool false, .slice none 0 0, .slice none 0 0] 56)).heap.size = W.heap.size + 1 := by simp
                refine hK.out _ _ (fun _ _ => KEEP.out _ fm) ?_
                clear hK K
                simp only [List.setIfInBounds_toArray, List.set_cons_zero, List.set_cons_succ]
                generalize W.alloc (.cells #[.bool false, .slice none 0 0, .slice none 0 0] 56) = WA at *
                refine wpAnyK_one 10 (by kernel_rfl) rfl (fun K hK => ?_)
                go_simp
                go_wp2_with (go_at_call_of 30 y; refine (rat14 y _ HFY.out).mono ?_; rintro e' wy ⟨Y1, rfl, hY1, hYb1, f1⟩)
                refine hK.out _ _ (fun _ _ => KEEP.out _ (fm.trans f1)) ?_
                clear hK K
                simp only [List.setIfInBounds_toArray, List.set_cons_zero, List.set_cons_succ]
                refine wpAnyK_one 15 (by kernel_rfl) rfl (fun K hK => ?_)
                go_simp
                go_wp2_with (go_at_call_of 30 x; refine (rat14 x _ HFX.out).mono ?_; rintro e' wx ⟨Y2, rfl, hY2, hYb2, f2⟩)
                refine hK.out _ _ (fun _ _ => KEEP.out _ ((fm.trans f1).trans f2)) ?_
                clear hK K
                simp only [List.setIfInBounds_toArray, List.set_cons_zero, List.set_cons_succ]
                refine wpAnyK_one 16 (by kernel_rfl) rfl (fun K hK => ?_)
                go_simp
                go_wp2_with (go_at_call 32; refine (TAIL.out _ W.heap.size Y1 Y2 ((fm.trans f1).trans f2) ((hm.mono f1).mono f2) (hY1.mono f2) hY2 (by have := f1.1.size; omega)).mono ?_; rintro e' wm ⟨rfl, HMU⟩)
                refine hK.out _ _ (fun _ _ => KEEP.out _ HMU.out.2) ?_
                clear hK K
                simp only [List.setIfInBounds_toArray, List.set_cons_zero, List.set_cons_succ]
                refine wpAnyK_one 17 (by kernel_rfl) rfl (fun K hK => ?_)
                go_simp
                go_wp2_with (go_at_call 29; refine (TAIL2.out _ _ HMU.out.2 HMU.out.1).mono ?_; rintro e' wn ⟨rfl, HAD⟩)
                refine hK.out _ _ (fun h => absurd rfl h) ?_
                clear hK K
                simp only [List.setIfInBounds_toArray, List.set_cons_zero, List.set_cons_succ]
                refine wpAnyK_done (by kernel_rfl) ?_ _
                clear TAIL TAIL2 KEEP S0
                go_wp2
                go_roundw
                case rel => exact ⟨t + 1, by omega, by simp, HAD.out⟩
                case measure => simp [intOf]; omega
              · go_simp
                go_wp2_with (go_at_call_of 30 y; refine (rat14 y _ HFY.out).mono ?_; rintro e' wy ⟨Y1, rfl, hY1, hYb1, f1⟩)
                refine hK.out _ _ (fun _ _ => KEEP.out _ f1) ?_
                clear hK K
                simp only [List.setIfInBounds_toArray, List.set_cons_zero, List.set_cons_succ]
                refine wpAnyK_two 2 15 (by kernel_rfl) rfl rfl (fun K hK => ?_) (fun K hK => ?_)
                · go_simp
                  have hm := rt_made wy
                  have fm : Fr wy (wy.alloc (.cells #[.bool false, .slice none 0 0, .slice none 0 0] 56)) := (Fr.refl wy).alloc _ _
                  have em : (wy.alloc (.cells #[.bool false, .slice none 0 0, .slice none 0 0] 56)).heap.size = wy.heap.size + 1 := by simp
                  refine hK.out _ _ (fun _ _ => KEEP.out _ (f1.trans fm)) ?_
                  clear hK K
                  simp only [List.setIfInBounds_toArray, List.set_cons_zero, List.set_cons_succ]
                  generalize wy.alloc (.cells #[.bool false, .slice none 0 0, .slice none 0 0] 56) = WA at *
                  refine wpAnyK_one 15 (by kernel_rfl) rfl (fun K hK => ?_)
                  go_simp
                  go_wp2_with (go_at_call_of 30 x; refine (rat14 x _ HFX.out).mono ?_; rintro e' wx ⟨Y2, rfl, hY2, hYb2, f2⟩)
                  refine hK.out _ _ (fun _ _ => KEEP.out _ ((f1.trans fm).trans f2)) ?_
                  clear hK K
                  simp only [List.setIfInBounds_toArray, List.set_cons_zero, List.set_cons_succ]
                  refine wpAnyK_one 16 (by kernel_rfl) rfl (fun K hK => ?_)
                  go_simp
                  go_wp2_with (go_at_call 32; refine (TAIL.out _ wy.heap.size Y1 Y2 ((f1.trans fm).trans f2) (hm.mono f2) ((hY1.mono fm).mono f2) hY2 (by have := f1.1.size; omega)).mono ?_; rintro e' wm ⟨rfl, HMU⟩)
                  refine hK.out _ _ (fun _ _ => KEEP.out _ HMU.out.2) ?_
                  clear hK K
                  simp only [List.setIfInBounds_toArray, List.set_cons_zero, List.set_cons_succ]
                  refine wpAnyK_one 17 (by kernel_rfl) rfl (fun K hK => ?_)
                  go_simp
                  go_wp2_with (go_at_call 29; refine (TAIL2.out _ _ HMU.out.2 HMU.out.1).mono ?_; rintro e' wn ⟨rfl, HAD⟩)
                  refine hK.out _ _ (fun h => absurd rfl h) ?_
                  clear hK K
                  simp only [List.setIfInBounds_toArray, List.set_cons_zero, List.set_cons_succ]
                  refine wpAnyK_done (by kernel_rfl) ?_ _
                  clear TAIL TAIL2 KEEP S0
                  go_wp2
                  go_roundw
                  case rel => exact ⟨t + 1, by omega, by simp, HAD.out⟩
                  case measure => simp [intOf]; omega
                · go_simp
                  go_wp2_with (go_at_call_of 30 x; refine (rat14 x _ HFX.out).mono ?_; rintro e' wx ⟨Y2, rfl, hY2, hYb2, f2⟩)
                  refine hK.out _ _ (fun _ _ => KEEP.out _ (f1.trans f2)) ?_
                  clear hK K
                  simp only [List.setIfInBounds_toArray, List.set_cons_zero, List.set_cons_succ]
                  refine wpAnyK_one 2 (by kernel_rfl) rfl (fun K hK => ?_)
                  go_simp
                  have hm := rt_made wx
                  have hlt := hY2.lt
                  have fm : Fr wx (wx.alloc (.cells #[.bool false, .slice none 0 0, .slice none 0 0] 56)) := (Fr.refl wx).alloc _ _
                  refine hK.out _ _ (fun _ _ => KEEP.out _ ((f1.trans f2).trans fm)) ?_
                  clear hK K
                  simp only [List.setIfInBounds_toArray, List.set_cons_zero, List.set_cons_succ]
                  generalize wx.alloc (.cells #[.bool false, .slice none 0 0, .slice none 0 0] 56) = WA at *
                  refine wpAnyK_one 16 (by kernel_rfl) rfl (fun K hK => ?_)
                  go_simp
                  go_wp2_with (go_at_call 32; refine (TAIL.out _ wx.heap.size Y1 Y2 ((f1.trans f2).trans fm) hm ((hY1.mono f2).mono fm) (hY2.mono fm) (by have := f1.1.size; have := f2.1.size; omega)).mono ?_; rintro e' wm ⟨rfl, HMU⟩)
                  refine hK.out _ _ (fun _ _ => KEEP.out _ HMU.out.2) ?_
                  clear hK K
                  simp only [List.setIfInBounds_toArray, List.set_cons_zero, List.set_cons_succ]
                  refine wpAnyK_one 17 (by kernel_rfl) rfl (fun K hK => ?_)
                  go_simp
                  go_wp2_with (go_at_call 29; refine (TAIL2.out _ _ HMU.out.2 HMU.out.1).mono ?_; rintro e' wn ⟨rfl, HAD⟩)
                  refine hK.out _ _ (fun h => absurd rfl h) ?_
                  clear hK K
                  simp only [List.setIfInBounds_toArray, List.set_cons_zero, List.set_cons_succ]
                  refine wpAnyK_done (by kernel_rfl) ?_ _
                  clear TAIL TAIL2 KEEP S0
                  go_wp2
                  go_roundw
                  case rel => exact ⟨t + 1, by omega, by simp, HAD.out⟩
                  case measure => simp [intOf]; omega
            case neg =>
              have ht3 : t = n := by omega
              have ht4 : ¬ (t : Int) < n := by omega
              obtain ⟨z, ez, hzl, hzq⟩ := (F.out.2.1.bw FB.out).cell1 hi1
              have hfz := (SP.out.2.2.2.2.1 i hi1).1
              obtain rfl := Sv.c_eq2 hzq hfz
              clear hzq
              obtain ⟨z, hze⟩ : ∃ z, b i = z := ⟨_, rfl⟩
              have HE := Sv.hid hze
              rw [hze] at ez hzl hfz
              have HFZ := Sv.hid hfz
              have HS1 := Sv.hid (show Rf wC Bt (Sv.sumF (fun j => Sv.rv (A i j) * Sv.rv (X j)) 0 n) (1 + 4404 * n) ∧ Fr wB wC by have := HS.out; rw [ht3] at this; exact this)
              have HB0 := Sv.hid (R7.out.1.mono (HF.out.trans HS.out.2))
              clear hze hfz HS ht ht3
              go_wp2_with fail
              refine (rat14 z _ HFZ.out).mono ?_
              rintro e' v1 ⟨Y, rfl, hY, hYb, f1⟩
              obtain ⟨s0, A0, D0, hz⟩ := (HS1.out.1.mono f1).rt
              have R2 := Sv.hid (And.intro hz (And.intro (HS1.out.1.mono f1) (And.intro hY (HS1.out.2.trans f1))))
              clear hz hY hYb f1 HB0
              go_wp2_with fail
              refine (qsub_any Bt Bt Y _ _ _ _ _ s0 A0 D0 R2.out.1 R2.out.2.1 R2.out.2.2.1 (by omega)).mono ?_
              rintro e' v2 hsf
              obtain ⟨he, hs2⟩ := hsf.out
              have R3 := Sv.hid (And.intro hs2.out.1 (hs2.out.2 wB R2.out.2.2.2 (by have := HBt.out; omega)))
              clear hsf hs2 R2
              subst he
              rw [← HE.out] at R3
              go_wp2_with fail
              refine (qabs_any Bt _ _ _ R3.out.1 (by omega)).mono ?_
              rintro e' v3 ⟨rfl, hR, hfr⟩
              have R4 := Sv.hid (And.intro hR (hfr wB R3.out.2 (by have := HBt.out; omega)))
              clear hR hfr R3
              go_wp2_with fail
              refine (qcmp_any Bt B1 _ _ _ _ _ R4.out.1 (R7.out.1.mono (HF.out.trans R4.out.2)) (by omega) (by omega) (FQ.out i hi1)).mono ?_
              rintro e' v4 ⟨c, rfl, hc, f4⟩
              have hc2 : ¬ 0 < c := by omega
              have R5 := Sv.hid (R4.out.2.trans f4)
              clear R4 f4
              go_wp2
              go_roundw
              case rel => exact ⟨i + 1, by omega, by simp, HF.out.trans R5.out⟩
              case measure => simp [intOf]; omega
end Go.Proofs.Ytjfkdmddfeeheaa
