/-
 OWN TEXT: layer 14's law SolveWhole.
-/
import Derived.Test.YtjfkdmddfeeheaaJSwTToSwV
import Derived.Test.YtjfkdmddfeeheaaJSwJToSwR
import Derived.Test.YtjfkdmddfeeheaaJSvKToSvL
import Derived.Test.YtjfkdmddfeeheaaJXxAToXxD
namespace Go.Proofs.Ytjfkdmddfeeheaa
open Go.ChangeShapes Go.WideShapes Go.ChangeAt Go.RowKit
set_option linter.unusedVariables false
attribute [local go_sem] frombits_call tobits_call run_neg

attribute [local go_sem] stof14
namespace Sv
theorem cell_lt {w : World} {a : Addr} {v : Value} (h : w.cell? a = some v) : a.block < w.heap.size := by
 rcases Nat.lt_or_ge a.block w.heap.size with q | q
 · exact q
 · simp [World.cell?, Array.getElem?_eq_none q] at h
/-- the outer round -/
def W1 (k : Nat) (w3 : World) (j : Value) (wr : World) : Prop := ∃ jj : Nat, jj ≤ k ∧ j = .int .i64 (jj : Int) ∧ Bw w3 wr
/-- the matrix so far -/
def W2 (k : Nat) (R : Nat → Nat → Int) (w4 : World) (c i : Value) (wr : World) : Prop := ∃ (ii : Nat) (f cc : Nat → Nat), ii ≤ k ∧ i = .int .i64 (ii : Int) ∧ Mr wr w4.heap.size c ii k f cc (fun i m => iw (R i m)) ∧ Bw w4 wr
end Sv
set_option maxHeartbeats 16000000 in
set_option maxRecDepth 20000 in
theorem solvewhole_any {w : World} {lp : Option Addr} {ln lc : Nat} (n : Int) (hl : Sv.Li2 w (.slice lp ln lc) ln) (hln : ln ≤ 140737488355328) :
  Calls Try.prog 5 #[.int .i64 n, .slice lp ln lc] w fun e w' => e = .returned (.bool true) ∧ Below w.heap.size w w' := by
 have HL := Sv.hid hl
 clear hl
 go_enter Try.func5, Try.ntmps5
 go_wp2_with fail
 refine (alive14_ev _ (fun g l h => by cases h) (fun g l h => by cases h)).mono ?_
 rintro e' w1 ⟨rfl, bb⟩
 replace bb : Bw w w1 := bb
 have F1 := Sv.hid bb
 clear bb
 go_wp2_with fail
 refine (small14 n (HL.out.bw F1.out) hln).mono ?_
 rintro e' w2 hsl
 obtain ⟨k, Z, ab, ca, bb, cb, he, hk1, hk3, hZ, hA, hB, hbw⟩ := hsl
 have HZ : Hid (Sv.Wz k Z) := hZ
 have F := Sv.hid (And.intro hA (And.intro hB (bw_trans F1.out hbw)))
 clear hZ hA hB hbw F1 HL hln
 subst he
 go_wp2_with fail
 refine (deti14 hk1 hk3 F.out.1 (fun i j hi hj => HZ.out i hi j (by omega))).mono ?_
 rintro e' w3 ⟨rfl, b3⟩
 have F2 := Sv.hid (And.intro (F.out.1.bw b3) (And.intro (F.out.2.1.bw b3) (bw_trans F.out.2.2 b3)))
 clear F b3
 have LA : Hid (∀ wz, Bw w3 wz → Sv.Lm wz (.slice (some ⟨ab, 0, none⟩) k ca) k (fun _ => k) (Sv.AA k Z)) := fun wz h => (F2.out.1.bw h).ext2 (fun _ _ => rfl) (fun i j hi hj => (Sv.AA_at (show j ≤ k by omega)).symm)
 go_wp2_with fail
 refine (det14 (LA.out _ (Bw.refl _)) (by omega)).mono ?_
 rintro e' w4 ⟨g, rfl, hg1, hg2, b4⟩
 obtain ⟨d1, d2, d3⟩ := Sv.det_whole hk1 hk3 HZ.out
 obtain rfl := Sv.c_eq3 hg2 d2
 rw [d1]
 generalize Sv.detX k (fun _ => k) (Sv.AA k Z) = g at *
 have HG := Sv.hid (And.intro d2 d3)
 have F3 := Sv.hid (And.intro (F2.out.1.bw b4) (And.intro (F2.out.2.1.bw b4) (bw_trans F2.out.2.2 b4)))
 have B4 := Sv.hid b4
 clear d1 d2 d3 hg1 hg2 b4 F2
 go_wp2_with fail
 refine (solve14 (LA.out _ B4.out) F3.out.2.1 (by omega) (by omega)).mono ?_
 rintro e' w5 ⟨v, he, b5, hor⟩
 have he2 : e' = .returned (.tuple #[v, .int .i64 (Sv.solE k (fun _ => k) (Sv.AA k Z) k (fun i => Sv.iw (Z i k)))]) := he
 have HO := Sv.hid hor
 have F4 := Sv.hid (And.intro (F3.out.1.bw b5) (And.intro (F3.out.2.1.bw b5) (bw_trans F3.out.2.2 b5)))
 clear hor b5 F3 B4 LA he
 subst he2
 have hDb := Sv.dI_bd hk1 hk3 (fun i j hi hj => HZ.out i hi j (by omega))
 obtain ⟨D, hD⟩ : ∃ D, Sv.dI k Z = D := ⟨_, rfl⟩
 have HD := Sv.hid hD
 rw [hD] at HG hDb ⊢
 clear hD
 have E8 := fun (ty : TypeId) w => run_float_arith (P := Try.prog) w .sub ty .f64 g g 0 (Sv.sub_self3 HG.out.1)
 have g8 : (FloatKind.f64.format.order 0 0 != some .eq) = false := by rw [Fl.o_ne]; decide
 have NR8 : Hid (∀ wz, Calls Try.prog 27 #[.float .f64 g, .int .i64 D, .int .i64 1, .int .i64 28] wz fun e w' => e = .returned (.bool true) ∧ Fr wz w') := fun wz => near28 g D 1 wz HG.out.1 (by omega) (by decide) (by decide) HG.out.2
 by_cases hD0 : D = 0
 case pos =>
  generalize Sv.solE k (fun _ => k) (Sv.AA k Z) k (fun i => Sv.iw (Z i k)) = fe at *
  clear HO
  subst hD0
  go_wp2_with fail
  refine (NR8.out _).mono ?_
  rintro e' w6 ⟨rfl, b6⟩
  have HB := Sv.hid (bw_trans F4.out.2.2 b6.1)
  clear b6 NR8 E8 g8 HG HD
  go_wp2
  go_ret
  exact ⟨rfl, HB.out⟩
 case neg =>
  obtain ⟨hE, hX⟩ := Sv.solve_whole hk1 hk3 HZ.out (by rw [HD.out]; exact hD0)
  rw [hE] at HO ⊢
  rcases HO.out with ⟨q, _⟩ | ⟨_, B, rfl, hRw⟩
  · exact absurd rfl q
  have HX := Sv.hid hX
  have HR := Sv.hid hRw.rd
  clear HO hE hX hRw
  generalize Sv.solX k (Sv.AA k Z) (fun i => Sv.iw (Z i k)) = X at *
  have hD1 : (D == 0) = false := by rw [beq_eq_false_iff_ne]; exact hD0
  go_wp2_with fail
  refine (NR8.out _).mono ?_
  rintro e' w6 ⟨rfl, b6⟩
  have F5 := Sv.hid (And.intro (F4.out.1.bw b6.1) (And.intro (F4.out.2.1.bw b6.1) (And.intro (HR.out.bw b6.1) (bw_trans F4.out.2.2 b6.1))))
  clear b6 NR8 E8 HG F4 HR
  go_wp2
  go_loopw [13] (fun j wr => Sv.W1 k w6 j wr) (fun j _ => k - (intOf j).toNat)
  case atStart => exact ⟨0, by omega, rfl, Bw.refl _⟩
  case round =>
   obtain ⟨j, hj, rfl, hbw⟩ := hrel
   obtain ⟨w7, hw7⟩ : ∃ v, v = wr := ⟨_, rfl⟩
   subst hw7
   have HB7 := Sv.hid hbw
   clear hbw
   by_cases hj1 : j < k
   case neg =>
    have hj2 : ¬ (j : Int) < k := by omega
    go_wp2
    go_ret
    exact ⟨rfl, bw_trans F5.out.2.2.2 HB7.out⟩
   case pos =>
    have hj2 : (j : Int) < k := by omega
    go_wp2
    go_loopw [14, 15] (fun c i wr => Sv.W2 k (Sv.rZ k Z j) w7 c i wr) (fun _ i _ => k - (intOf i).toNat)
    case atStart => exact ⟨0, fun _ => 0, fun _ => 0, by omega, rfl, Sv.Mr.nil _ _ _ _ _ _, Bw.refl _⟩
    case round =>
     obtain ⟨i, f, cc, hi, rfl, hMr, hbw⟩ := hrel
     by_cases hi1 : i < k
     case pos =>
      have hi2 : (i : Int) < k := by omega
      have hbw6 := bw_trans HB7.out hbw
      obtain ⟨rb, ro, rc, er, hrc, hrd⟩ := (F5.out.1.bw hbw6).row2 hi1 rfl
      obtain ⟨x, ex, hxl, hxq⟩ := (F5.out.2.1.bw hbw6).cell1 hi1
      rw [Nat.zero_add] at er ex
      have hzi := HZ.out i hi1 k (Nat.le_refl _)
      obtain rfl := Sv.c_iw hxq hzi
      clear hxq
      have hxe : Fl.bitsF (Sv.iw (Z i k)) = Sv.iw (Z i k) := Sv.iw_c hzi
      obtain ⟨x, hx⟩ : ∃ x, Sv.iw (Z i k) = x := ⟨_, rfl⟩
      rw [hx] at ex hxl hxe
      obtain ⟨v1, wA, hr1, hr2, hr3, hr4⟩ := Sv.pushAll 24 (base := wr.heap.size) (c := rc) (by omega) (by omega) hrd (Nat.le_refl _)
      have ER1 := Sv.hid hr1
      obtain ⟨B1, c1, e1, hB1, hB1l, hc1, _⟩ := hr2.form (by omega)
      subst e1
      have hB1e : B1 = wr.heap.size := by simpa [Value.ownBlock] using hr4
      have hRw : Sv.Rw wA wr.heap.size B1 k c1 (fun m => Sv.iw (Z i m)) := hr2
      obtain ⟨y, ey, _, _⟩ := hRw.cell hj1
      have fz := hRw.frozen j
      obtain ⟨hS, gS⟩ := hRw.set j x hxl
      rw [hxe] at hS
      have exA : wA.cell? ⟨bb, i, none⟩ = some (.float .f64 x) := (Below.cell hr3 (p := ⟨bb, i, none⟩) (Sv.cell_lt ex)).trans ex
      obtain ⟨wS, hwS⟩ : ∃ wS, wA.setCell ⟨B1, j, none⟩ (.float .f64 x) = wS := ⟨_, rfl⟩
      rw [hwS] at hS gS
      have bS : Bw w7 wS := Sv.gb_below (bw_trans hbw hr3) gS (bw_trans hbw hr3).size (by have := hbw.size; omega)
      have lt8 := hMr.lt.1
      have ltf := hMr.lt.2
      have nB : some B1 ≠ u14.ownBlock := fun e => by have := lt8 B1 e.symm; omega
      have mrS := (hMr.bw hr3).gb gS (Or.inr (fun e => nB e.symm)) (fun i hi => by have := ltf i hi; intro e; cases e; omega)
      obtain ⟨v2, wB, hs1, hs2, hs3, hs4⟩ := Sv.pushR 23 mrS hS.rd hc1 nB (by omega) bS.size
      have hszS : wS.heap.size = wA.heap.size := by rw [← hwS]; simp [World.setCell]
      have hs1b := hs1
      rw [hszS] at hs1b
      have ER2 := Sv.hid hs1b
      have bl2 := Sv.bw_new wS (.cells #[.slice (some ⟨B1, 0, none⟩) k c1] 24)
      have bB : Bw w7 wB := Below.grown (bw_trans bS bl2) hs3 (bw_trans bS bl2).size (fun y e => (lt8 y e).1)
      have KN : Hid (Sv.W2 k (Sv.rZ k Z j) w7 v2 (.int .i64 ((i : Int) + 1)) wB) := by
       refine ⟨i + 1, fun m => if m = i then B1 else f m, fun m => if m = i then c1 else cc m, by omega, by simp, ?_, bB⟩
       have eA : (fun m => if m = i then (fun j' => if j' = j then x else Sv.iw (Z i j')) else (fun j' => Sv.iw (Sv.rZ k Z j m j'))) = fun m j' => Sv.iw (Sv.rZ k Z j m j') := by
        funext m j'
        by_cases y : m = i
        ·
         subst y
         simp only [if_true]
         unfold Sv.rZ
         by_cases y2 : j' = j
         · rw [if_pos y2, if_pos y2, hx]
         · rw [if_neg y2, if_neg y2]
        · simp only [if_neg y]
       rw [← eA]
       exact hs2
      have EWS := Sv.hid hwS
      clear hszS hs1b hr1 hr2 hr3 hr4 hs1 hs2 hs3 hs4 hRw hS gS bS lt8 ltf nB mrS bl2 bB hMr hbw hbw6 hrd hzi hxe hx hB1 hB1l hB1e hwS
      go_wp2_with (first
       | (at_builtin; refine wpList_append_eq2 (by rfl) _ _ 24 (by rfl) _ _ _ (by rfl) (by rfl) _ ER1.out ?_)
       | (at_builtin; rw [EWS.out]; refine wpList_append_eq2 (by rfl) _ _ 23 (by rfl) _ _ _ (by rfl) (by rfl) _ ER2.out ?_)
       | go_in)
      clear ER1 ER2 EWS er ex exA ey fz
      go_wp2
      go_roundw
      case rel => exact KN.out
      case measure => simp [intOf]; omega
     case neg =>
      have hi2 : ¬ (i : Int) < k := by omega
      have hi3 : i = k := by omega
      rw [hi3] at hMr
      obtain ⟨b9, cap9, e9, hL9⟩ := hMr.lm (by omega)
      subst e9
      have hbw6 := bw_trans HB7.out hbw
      obtain ⟨x, ex, hxl, hxq⟩ := (F5.out.2.2.1.bw hbw6).2 j hj1
      rw [Nat.zero_add] at ex
      obtain ⟨hfx, hnx⟩ := HX.out j hj1
      obtain rfl := Sv.c_eq3 hxq hfx
      clear hxq
      obtain ⟨x, hx⟩ : ∃ x, X j = x := ⟨_, rfl⟩
      rw [hx] at ex hxl hfx hnx
      have hB9 := Sv.hid (bw_trans hbw6 (Bw.refl wr).drew)
      have LT : Hid (B < wr.drew.heap.size) := (F5.out.2.2.1.bw (bw_trans hbw6 (Bw.refl wr).drew)).1
      have S0 : wr.drew.cell? ⟨B, j, none⟩ = some (.float .f64 x) := ex
      have hJb := Sv.dI_bd hk1 hk3 (Sv.rZ_s8 HZ.out j)
      have DT : Hid (∀ wz, Bw wr.drew wz → Calls Try.prog 26 #[.slice (some ⟨b9, 0, none⟩) k cap9] wz fun e w' => e = .returned (.int .i64 (Sv.dI k (Sv.rZ k Z j))) ∧ Bw wz w') := fun wz hz => deti14 hk1 hk3 (hL9.bw (bw_trans (Bw.refl wr).drew hz)) (Sv.rZ_s8 HZ.out j)
      rw [HD.out] at hnx
      have NR : Hid (∀ wz, Calls Try.prog 27 #[.float .f64 x, .int .i64 (Sv.dI k (Sv.rZ k Z j)), .int .i64 D, .int .i64 20] wz fun e w' => e = .returned (.bool true) ∧ Fr wz w') := fun wz => near20 x _ D wz hfx (by omega) (by omega) hD0 hnx
      have E25 := fun (ty : TypeId) w => run_float_arith (P := Try.prog) w .sub ty .f64 x x 0 (Sv.sub_self3 hfx)
      generalize Sv.dI k (Sv.rZ k Z j) = J at *
      clear hnx hfx hxl hx ex hMr hL9 hbw hbw6 hJb hi3
      go_wp2_with fail
      refine wp_region_K (fun w' => w'.cell? ⟨B, j, none⟩ = some (.float .f64 x)) 20 21 #[false, false, false, false, false, false, false, false, false, false, false, false, false, false, false, false, false, false, false, false, false] (by kernel_rfl) (by kernel_rfl) (by kernel_rfl) ?_
      generalize wr.drew = W at *
      refine wpAnyK_take 0 93 (v := ?v0) rfl (by kernel_rfl) (by kernel_rfl) (by kernel_rfl) (by kernel_rfl) (by kernel_rfl) (fun _ _ _ h => h) rfl (Or.inl ⟨by rfl, ?h0⟩) (by assumption) ?r0
      case h0 => (intro w hSw; go_simp; with_reducible rfl)
      simp only [Act.put, List.setIfInBounds_toArray, List.set_cons_zero, List.set_cons_succ]
      refine wpAnyK_take 1 94 (v := ?v1) rfl (by kernel_rfl) (by kernel_rfl) (by kernel_rfl) (by kernel_rfl) (by kernel_rfl) (fun _ _ _ h => h) rfl (Or.inl ⟨by rfl, ?h1⟩) (by assumption) ?r1
      case h1 => (intro w hSw; go_simp; with_reducible rfl)
      simp only [Act.put, List.setIfInBounds_toArray, List.set_cons_zero, List.set_cons_succ]
      refine wpAnyK_take 2 95 (v := ?v2) rfl (by kernel_rfl) (by kernel_rfl) (by kernel_rfl) (by kernel_rfl) (by kernel_rfl) (fun _ _ _ h => h) rfl (Or.inl ⟨by rfl, ?h2⟩) (by assumption) ?r2
      case h2 => (intro w hSw; go_simp; with_reducible rfl)
      simp only [Act.put, List.setIfInBounds_toArray, List.set_cons_zero, List.set_cons_succ]
      refine wpAnyK_take 3 96 (v := ?v3) rfl (by kernel_rfl) (by kernel_rfl) (by kernel_rfl) (by kernel_rfl) (by kernel_rfl) (fun _ _ _ h => h) rfl (Or.inl ⟨by rfl, ?h3⟩) (by assumption) ?r3
      case h3 => (intro w hSw; go_simp; with_reducible rfl)
      simp only [Act.put, List.setIfInBounds_toArray, List.set_cons_zero, List.set_cons_succ]
      refine wpAnyK_take 4 97 (v := ?v4) rfl (by kernel_rfl) (by kernel_rfl) (by kernel_rfl) (by kernel_rfl) (by kernel_rfl) (fun _ _ _ h => h) rfl (Or.inl ⟨by rfl, ?h4⟩) (by assumption) ?r4
      case h4 => (intro w hSw; go_simp; with_reducible rfl)
      simp only [Act.put, List.setIfInBounds_toArray, List.set_cons_zero, List.set_cons_succ]
      refine wpAnyK_take 5 98 (v := ?v5) rfl (by kernel_rfl) (by kernel_rfl) (by kernel_rfl) (by kernel_rfl) (by kernel_rfl) (fun _ _ _ h => h) rfl (Or.inl ⟨by rfl, ?h5⟩) (by assumption) ?r5
      case h5 => (intro w hSw; go_simp; with_reducible rfl)
      simp only [Act.put, List.setIfInBounds_toArray, List.set_cons_zero, List.set_cons_succ]
      refine wpAnyK_take 6 99 (v := ?v6) rfl (by kernel_rfl) (by kernel_rfl) (by kernel_rfl) (by kernel_rfl) (by kernel_rfl) (fun _ _ _ h => h) rfl (Or.inl ⟨by rfl, ?h6⟩) (by assumption) ?r6
      case h6 => (intro w hSw; go_simp; with_reducible rfl)
      simp only [Act.put, List.setIfInBounds_toArray, List.set_cons_zero, List.set_cons_succ]
      refine wpAnyK_take 7 100 (v := ?v7) rfl (by kernel_rfl) (by kernel_rfl) (by kernel_rfl) (by kernel_rfl) (by kernel_rfl) (fun _ _ _ h => h) rfl (Or.inl ⟨by rfl, ?h7⟩) (by assumption) ?r7
      case h7 => (intro w hSw; go_simp; with_reducible rfl)
      simp only [Act.put, List.setIfInBounds_toArray, List.set_cons_zero, List.set_cons_succ]
      refine wpAnyK_take 8 101 (v := ?v8) rfl (by kernel_rfl) (by kernel_rfl) (by kernel_rfl) (by kernel_rfl) (by kernel_rfl) (fun _ _ _ h => h) rfl (Or.inl ⟨by rfl, ?h8⟩) (by assumption) ?r8
      case h8 => (intro w hSw; go_simp; with_reducible rfl)
      simp only [Act.put, List.setIfInBounds_toArray, List.set_cons_zero, List.set_cons_succ]
      refine wpAnyK_take 9 102 (v := ?v9) rfl (by kernel_rfl) (by kernel_rfl) (by kernel_rfl) (by kernel_rfl) (by kernel_rfl) (fun _ _ _ h => h) rfl (Or.inl ⟨by rfl, ?h9⟩) (by assumption) ?r9
      case h9 => (intro w hSw; go_simp; with_reducible rfl)
      simp only [Act.put, List.setIfInBounds_toArray, List.set_cons_zero, List.set_cons_succ]
      refine wpAnyK_take 10 103 (v := ?v10) rfl (by kernel_rfl) (by kernel_rfl) (by kernel_rfl) (by kernel_rfl) (by kernel_rfl) (fun _ _ _ h => h) rfl (Or.inl ⟨by rfl, ?h10⟩) (by assumption) ?r10
      case h10 => (intro w hSw; go_simp; with_reducible rfl)
      simp only [Act.put, List.setIfInBounds_toArray, List.set_cons_zero, List.set_cons_succ]
      refine wpAnyK_take 11 104 (v := ?v11) rfl (by kernel_rfl) (by kernel_rfl) (by kernel_rfl) (by kernel_rfl) (by kernel_rfl) (fun _ _ _ h => h) rfl (Or.inl ⟨by rfl, ?h11⟩) (by assumption) ?r11
      case h11 => (intro w hSw; go_simp; with_reducible rfl)
      simp only [Act.put, List.setIfInBounds_toArray, List.set_cons_zero, List.set_cons_succ]
      refine wpAnyK_take 12 105 (v := ?v12) rfl (by kernel_rfl) (by kernel_rfl) (by kernel_rfl) (by kernel_rfl) (by kernel_rfl) (fun _ _ _ h => h) rfl (Or.inl ⟨by rfl, ?h12⟩) (by assumption) ?r12
      case h12 => (intro w hSw; go_simp; with_reducible rfl)
      simp only [Act.put, List.setIfInBounds_toArray, List.set_cons_zero, List.set_cons_succ]
      refine wpAnyK_take 13 106 (v := ?v13) rfl (by kernel_rfl) (by kernel_rfl) (by kernel_rfl) (by kernel_rfl) (by kernel_rfl) (fun _ _ _ h => h) rfl (Or.inl ⟨by rfl, ?h13⟩) (by assumption) ?r13
      case h13 => (intro w hSw; go_simp; with_reducible rfl)
      simp only [Act.put, List.setIfInBounds_toArray, List.set_cons_zero, List.set_cons_succ]
      refine wpAnyK_take 14 107 (v := ?v14) rfl (by kernel_rfl) (by kernel_rfl) (by kernel_rfl) (by kernel_rfl) (by kernel_rfl) (fun _ _ _ h => h) rfl (Or.inl ⟨by rfl, ?h14⟩) (by assumption) ?r14
      case h14 => (intro w hSw; go_simp; with_reducible rfl)
      simp only [Act.put, List.setIfInBounds_toArray, List.set_cons_zero, List.set_cons_succ]
      refine wpAnyK_take 15 108 (v := ?v15) rfl (by kernel_rfl) (by kernel_rfl) (by kernel_rfl) (by kernel_rfl) (by kernel_rfl) (fun _ _ _ h => h) rfl (Or.inl ⟨by rfl, ?h15⟩) (by assumption) ?r15
      case h15 => (intro w hSw; go_simp; with_reducible rfl)
      simp only [Act.put, List.setIfInBounds_toArray, List.set_cons_zero, List.set_cons_succ]
      refine wpAnyK_take 17 110 (v := ?v17) rfl (by kernel_rfl) (by kernel_rfl) (by kernel_rfl) (by kernel_rfl) (by kernel_rfl) (fun _ _ _ h => h) rfl (Or.inl ⟨by rfl, ?h17⟩) (by assumption) ?r17
      case h17 => (intro w hSw; go_simp; with_reducible rfl)
      simp only [Act.put, List.setIfInBounds_toArray, List.set_cons_zero, List.set_cons_succ]
      refine wpAnyK_one 16 (by kernel_rfl) rfl (fun K hK => ?_)
      go_simp
      go_wp2_with (go_at_call 26; refine (DT.out _ (Bw.refl _)).mono ?_; rintro e' wd ⟨rfl, bd⟩)
      refine hK.out _ _ (fun _ _ => (Below.cell bd (p := ⟨B, j, none⟩) LT.out).trans S0) ?_
      clear hK K
      simp only [List.setIfInBounds_toArray, List.set_cons_zero, List.set_cons_succ]
      refine wpAnyK_one 18 (by kernel_rfl) rfl (fun K hK => ?_)
      go_simp
      go_wp2_with (go_at_call 27; refine (NR.out _).mono ?_; rintro e' wn ⟨rfl, bn⟩)
      refine hK.out _ _ (fun _ _ => (Below.cell (bw_trans bd bn.1) (p := ⟨B, j, none⟩) LT.out).trans S0) ?_
      clear hK K
      simp only [List.setIfInBounds_toArray, List.set_cons_zero, List.set_cons_succ]
      refine wpAnyK_one 19 (by kernel_rfl) rfl (fun K hK => ?_)
      go_simp
      refine hK.out _ _ (fun _ _ => (Below.cell (bw_trans bd bn.1) (p := ⟨B, j, none⟩) LT.out).trans S0) ?_
      clear hK K
      simp only [List.setIfInBounds_toArray, List.set_cons_zero, List.set_cons_succ]
      refine wpAnyK_one 20 (by kernel_rfl) rfl (fun K hK => ?_)
      go_simp
      refine hK.out _ _ (fun h => absurd rfl h) ?_
      clear hK K
      simp only [List.setIfInBounds_toArray, List.set_cons_zero, List.set_cons_succ]
      refine wpAnyK_done (by kernel_rfl) ?_ _
      have HN := Sv.hid (bw_trans hB9.out (bw_trans bd bn.1))
      clear bd bn S0 E25 LT
      go_wp2
      go_roundw
      case rel => exact ⟨j + 1, by omega, by simp, HN.out⟩
      case measure => simp [intOf]; omega
end Go.Proofs.Ytjfkdmddfeeheaa
