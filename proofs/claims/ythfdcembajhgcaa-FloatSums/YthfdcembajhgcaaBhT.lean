/-
  OWN TEXT: the law FloatSums over a list of floats.
-/
import Derived.Test.YthfdcembajhgcaaBhS
import Derived.Test.YthfdcembajhgcaaBhL
import Derived.Deep.AppendLies
namespace Go.Proofs.Ythfdcembajhgcaa
open Go.ChangeShapes Go.WideShapes Go.ChangeAt Go.RowKit
open Bg
set_option linter.unusedVariables false
attribute [local go_sem] frombits_call tobits_call run_neg
theorem info_f64 : (Try.prog.info? 25).map (fun i => (i.zero, i.size, i.bytes)) = some (some (.float .f64 0), 1, 8) := by kernel_rfl
/-- the first k floats, as values -/
def flv (F : Nat → Nat) (k : Nat) : List Value := (List.range k).map (fun j => Value.float .f64 (F j))
theorem flv_succ (F : Nat → Nat) (k : Nat) : flv F (k + 1) = flv F k ++ [.float .f64 (F k)] := by
  unfold flv; rw [List.range_succ, List.map_append]; rfl
theorem flv_len (F : Nat → Nat) (k : Nat) : (flv F k).length = k := by unfold flv; simp
theorem flv_get (F : Nat → Nat) (k j : Nat) (h : j < k) : (flv F k)[j]? = some (.float .f64 (F j)) := by
  unfold flv; simp [h]
/-- two sums of one list tell the same -/
theorem nan_add {a b : Nat} (h : Fl.nan a = true) : floatBits .add .f64 a b = none := by
  have := Fl.nan_lt h
  show Ieee.double.add a b = none
  unfold Ieee.Format.add
  rw [Fl.read_nan this]
  rfl
theorem same_refl (z : Nat) : Fl.sameB z z = true := by unfold Fl.sameB; simp
theorem same_cases {a b : Nat} (h : Fl.sameB a b = true) : a = b ∨ (Fl.nan a = true ∧ Fl.nan b = true) := by
  unfold Fl.sameB at h
  rw [Bool.or_eq_true, Bool.and_eq_true, Bool.and_eq_true, decide_eq_true_eq] at h
  rcases h with h | h
  · exact Or.inr h
  · exact Or.inl h.2
theorem sum_same (F : Nat → Nat) : ∀ (k a b : Nat), sumR F k a → sumR F k b → Fl.sameB a b = true
  | 0, a, b, ha, hb => by
    have e1 : a = F 0 := ha
    have e2 : b = F 0 := hb
    rw [e1, e2]; exact same_refl _
  | k + 1, a, b, ⟨c, hc, _, ha⟩, ⟨d, hd, _, hb⟩ => by
    rcases same_cases (sum_same F k c d hc hd) with e | ⟨e1, e2⟩
    · subst e
      rcases ha with ha | ⟨ha, na⟩
      · rcases hb with hb | ⟨hb, nb⟩
        · rw [ha] at hb
          rw [Option.some.inj hb]; exact same_refl _
        · rw [ha] at hb; cases hb
      · rcases hb with hb | ⟨hb, nb⟩
        · rw [ha] at hb; cases hb
        · unfold Fl.sameB; rw [na, nb]; rfl
    · have n1 := nan_add (b := F (k + 1)) e1
      have n2 := nan_add (b := F (k + 1)) e2
      rcases ha with ha | ⟨ha, na⟩
      · rw [n1] at ha; cases ha
      · rcases hb with hb | ⟨hb, nb⟩
        · rw [n2] at hb; cases hb
        · unfold Fl.sameB; rw [na, nb]; rfl
theorem exact_none2 (x y : Nat) (w : World) (h : floatBits .add .f64 x y = none) :
    Calls Try.prog 9 #[.float .f64 x, .float .f64 y] w fun e w' => ∃ z, e = .returned (.tuple #[.float .f64 z, .float .f64 0]) ∧ Fl.nan z = true ∧ z < 18446744073709551616 ∧ Fr w w' := by
  obtain ⟨z, hz, nz, rz⟩ := run_arith_none Try.prog .add x y w (by simp) h
  have hf : Fl.finB z = false := by
    have := Fl.nan_lt nz
    unfold Fl.finB
    exact decide_eq_false (by omega)
  clear h
  have N := nz
  have HN : Hid (Fl.nan z = true) := N
  clear nz N
  go_enter Try.func9, Try.ntmps9
  go_wp2_with (go_at_call 30; refine (finite_any _ _ (by assumption)).mono ?_; rintro e w' ⟨rfl, rfl⟩)
  go_ret2
  exact ⟨z, rfl, HN.out, hz, (Fr.refl _).drew⟩
theorem exact_fr (x y : Nat) (w : World) (hx : x < 18446744073709551616) (hy : y < 18446744073709551616) :
    Calls Try.prog 9 #[.float .f64 x, .float .f64 y] w fun e w' => ∃ s l, e = .returned (.tuple #[.float .f64 s, .float .f64 l]) ∧ ExO x y s l ∧ Fr w w' := by
  by_cases c : Fl.rg x < 9218868437227405312 ∧ Fl.rg y < 9218868437227405312
  · obtain ⟨fx, fy⟩ := c
    have ha : Ieee.double.add x y = some (Fl.aw x y) := Fl.add_fin fx fy
    cases hf : Fl.finB (Fl.aw x y)
    · refine (exact_far x y (Fl.aw x y) w ha hf).mono ?_
      rintro e w' ⟨rfl, rfl⟩
      exact ⟨_, _, rfl, Or.inr (Or.inl ⟨ha, hf, rfl⟩), Fr.refl _⟩
    · have hf' := of_decide_eq_true hf
      have hq : Fl.rq (Fl.val x + Fl.val y).natAbs 0 < 9218868437227405312 := by rw [← Fl.rg_aw]; exact hf'
      have nx : Fl.nan x = false := by unfold Fl.nan; exact decide_eq_false (by omega)
      have ny : Fl.nan y = false := by unfold Fl.nan; exact decide_eq_false (by omega)
      by_cases k : Fl.rg x < Fl.rg y
      · have e1 : hi x y = y := if_pos k
        have e2 : lo x y = x := if_pos k
        obtain ⟨d, m, h1, h2, h3, h4, h5, h6⟩ := Fl.loss_steps (a := y) (b := x) (s := Fl.aw x y) fy fx hy (by omega) hf' (by rw [Int.add_comm (Fl.val y)]; exact Fl.val_aw x y) (by rw [Int.add_comm (Fl.val y)]; exact hq)
        rw [Int.add_comm (Fl.val y)] at h4 h5 h6
        refine (exact_fin x y (Fl.aw x y) d m w hx hy nx ny ha hf (by rw [e1]; exact h1) (by rw [e2]; exact h2) h3).mono ?_
        rintro e w' ⟨rfl, rfl⟩
        exact ⟨_, _, rfl, Or.inr (Or.inr ⟨fx, fy, rfl, hf, h4, h5, h6⟩), Fr.refl _⟩
      · have e1 : hi x y = x := if_neg k
        have e2 : lo x y = y := if_neg k
        obtain ⟨d, m, h1, h2, h3, h4, h5, h6⟩ := Fl.loss_steps (a := x) (b := y) (s := Fl.aw x y) fx fy hx (by omega) hf' (Fl.val_aw x y) hq
        refine (exact_fin x y (Fl.aw x y) d m w hx hy nx ny ha hf (by rw [e1]; exact h1) (by rw [e2]; exact h2) h3).mono ?_
        rintro e w' ⟨rfl, rfl⟩
        exact ⟨_, _, rfl, Or.inr (Or.inr ⟨fx, fy, rfl, hf, h4, h5, h6⟩), Fr.refl _⟩
  · rcases Fl.add_ng_far hx hy (by omega) with ⟨h1, _⟩ | ⟨b, h1, _⟩
    · refine (exact_none2 x y w h1).mono ?_
      rintro e w' ⟨z, rfl, nz, hz, hg⟩
      exact ⟨_, _, rfl, Or.inl ⟨h1, nz, hz, rfl⟩, hg⟩
    · have hf : Fl.finB (Fl.wd b 9218868437227405312) = false := by unfold Fl.finB; rw [Fl.rg_wd _ _ (by omega)]; decide
      refine (exact_far x y _ w h1 hf).mono ?_
      rintro e w' ⟨rfl, rfl⟩
      exact ⟨_, _, rfl, Or.inr (Or.inl ⟨h1, hf, rfl⟩), Fr.refl _⟩
set_option maxHeartbeats 8000000 in
set_option maxRecDepth 100000 in
theorem floatsums_any (b off len cap : Nat) (F : Nat → Nat) (x y : Nat) (w : World) (hl : 0 < len) (hreach : len * 8 ≤ 140737488351232) (hb : b < w.heap.size) (hF : ∀ j, j < len → F j < 18446744073709551616) (hx : x < 18446744073709551616) (hy : y < 18446744073709551616)
    (hc : ∀ j, j < len → w.cell? ⟨b, off + j, none⟩ = some (.int .u64 (F j : Int))) :
    Calls Try.prog 3 #[.slice (some ⟨b, off, none⟩) len cap, .int .u64 (x : Int), .int .u64 (y : Int)] w fun e w' => e = .returned (.bool true) ∧ Below w.heap.size w w' := by
  obtain ⟨i0, hi, hz0, hz1, hz2⟩ := info_parts info_f64
  have hu : Try.prog.underlying 24 = some (.slice 25) := by kernel_rfl
  obtain ⟨B, hB⟩ : ∃ B, w.heap.size = B := ⟨_, rfl⟩
  have HB : Hid (w.heap.size = B) := hB
  rw [hB]
  clear hB
  have HC : Hid _ := hc
  have HF : Hid _ := hF
  clear hc hF
  go_enter Try.func3, Try.ntmps3
  go_wp2_with fail
  go_loopw [7, 8] (fun v i wr => ∃ k : Nat, k ≤ len ∧ i = .int .i64 k ∧ wr.ownsRow B 25 1 v k (flv F k) ∧ Below B w wr) (fun _ i _ => len - (intOf i).toNat)
  case atStart => exact ⟨0, Nat.zero_le _, rfl, World.ownsRow_nil _ _ _ _, Below.refl _ _⟩
  case round =>
    obtain ⟨k, hk, rfl, hown, hbl⟩ := hrel
    by_cases hk1 : k < len
    · have hsz := hbl.size
      have hcx : wr.cell? ⟨b, off + k, none⟩ = some (.int .u64 (F k : Int)) := (hbl.cell (by have := HB.out; show b < B; omega)).trans (HC.out k hk1)
      have hFk := HF.out k hk1
      go_wp2_with (first
        | (at_builtin; refine wpList_append_lies _ (by rfl) _ _ 24 (by rfl) B 25 i0 (.float .f64 0) 1 8 hu hi hz0 hz1 hz2 rfl (by decide) _ _ _ (by rfl) (hown.alloc _) ⟨wr.heap.size, 0, none⟩ 1 1 [.float .f64 (F k)] (by rfl) rfl ?c1 ?c2 (by decide) ?c3 ?c4 ?c5 (wr.heap.size + 1) (by simp) ?_)
        | go_in)
      case c1 =>
        intro j u hj
        match j, hj with
        | 0, hj => simp at hj; subst hj; simp [Addr.add]
      case c2 => intro u hu; simp at hu; subst hu; rfl
      case c3 => unfold maxLen; omega
      case c4 => omega
      case c5 => have := HB.out; simp; omega
      intro g cp w1 hown' hgrow hat hlt
      have R : Below B w w1 := (hbl.alloc (by have := HB.out; omega) _).grown hgrow (by have := HB.out; simp; omega) (fun j hj => (hown.lt j hj).1)
      have O : w1.ownsRow B 25 1 (.slice (some ⟨g, 0, none⟩) (k + 1) cp) (k + 1) (flv F (k + 1)) := by rw [flv_succ]; exact hown'
      clear hown' hgrow hown hcx hat hlt
      go_wp2
      go_roundw
      case rel => exact ⟨k + 1, by omega, by simp, O, R⟩
      case measure => simp [intOf]; omega
    · have hkl : k = len := by omega
      subst hkl
      obtain ⟨g, cp, rfl⟩ : ∃ g cp, u7 = .slice (some ⟨g, 0, none⟩) k cp := by
        rcases hown.2 with ⟨_, z⟩ | ⟨g, cp, _, e, _⟩
        · omega
        · exact ⟨g, cp, e⟩
      have hgl := hown.lt g rfl
      have hlc : ∀ j, j < k → wr.cell? ⟨g, j, none⟩ = some (.float .f64 (F j)) := fun j hj => by
        rw [hown.cellAt j (by omega)]; exact flv_get F k j hj
      have HL : Hid _ := hlc
      have hsz := hbl.size
      clear hlc hk hk1
      go_wp2_with (first
        | (at_builtin; refine wpList_append_lies _ (by rfl) _ _ 24 (by rfl) B 25 i0 (.float .f64 0) 1 8 hu hi hz0 hz1 hz2 rfl (by decide) _ 0 [] (by rfl) (World.ownsRow_nil _ _ _ _) ⟨g, 0, none⟩ k cp (flv F k) (by rfl) (by rw [flv_len, Nat.mul_one]) ?d1 ?d2 hl ?d3 ?d4 ?d5 wr.heap.size (by simp) ?_)
        | fail)
      case d1 =>
        intro j u hj
        have hj' : j < k := by
          have := (List.getElem?_eq_some_iff.1 hj).1
          rw [flv_len] at this; exact this
        rw [flv_get F k j hj'] at hj
        have := HL.out j hj'
        rw [add_plain, Nat.zero_add, this]; exact hj
      case d2 =>
        intro u hu
        unfold flv at hu
        obtain ⟨j, _, rfl⟩ := List.mem_map.1 hu
        rfl
      case d3 => unfold maxLen; omega
      case d4 => omega
      case d5 => have := HB.out; omega
      intro g2 cp2 w2 hown2 hgrow2 hat2 hlt2
      have hg2 : g2 = wr.heap.size := by
        rcases hat2 with e | e
        · cases e
        · exact e
      have HG2 : Hid (g2 = wr.heap.size) := hg2
      clear hg2
      have hb2 : Below B w w2 := hbl.grown hgrow2 (by have := HB.out; omega) (fun j hj => by cases hj)
      have hs2 := hgrow2.size
      go_wp2_with (first
        | (at_builtin; refine wpList_append_lies _ (by rfl) _ _ 24 (by rfl) B 25 i0 (.float .f64 0) 1 8 hu hi hz0 hz1 hz2 rfl (by decide) _ _ _ (by rfl) (hown2.alloc _) ⟨w2.heap.size, 0, none⟩ 1 1 [.float .f64 4635118810238550016] (by rfl) rfl ?e1 ?e2 (by decide) ?e3 ?e4 ?e5 (w2.heap.size + 1) (by simp) ?_)
        | fail)
      case e1 =>
        intro j u hj
        match j, hj with
        | 0, hj => simp at hj; subst hj; simp [Addr.add]
      case e2 => intro u hu; simp at hu; subst hu; rfl
      case e3 => unfold maxLen; omega
      case e4 => omega
      case e5 => have := HB.out; simp; omega
      intro g3 cp3 w3 hown3 hgrow3 hat3 hlt3
      have hb3 : Below B w w3 := (hb2.alloc (by have := HB.out; omega) _).grown hgrow3 (by have := HB.out; simp; omega) (fun j hj => (hown2.lt j hj).1)
      have hne3 : g3 ≠ g := by
        rcases hat3 with e | e
        · have : g2 = g3 := Option.some.inj e
          have := HG2.out
          omega
        · omega
      have hl3 : ∀ j, j < k → w3.cell? ⟨g, j, none⟩ = some (.float .f64 (F j)) := fun j hj => by
        refine hgrow3.cell ((World.cell?_alloc_past _ _ _ (by show g < _; omega)).trans (hgrow2.cell (HL.out j hj) (by intro e; cases e))) ?_
        show some g ≠ some g2
        intro e; have := Option.some.inj e; have := HG2.out; omega
      have ho3 : ∀ j, j < k → w3.cell? ⟨g3, j, none⟩ = some (.float .f64 (F j)) := fun j hj => by
        rw [hown3.cellAt j (by omega), List.getElem?_append_left (by rw [flv_len]; exact hj)]; exact flv_get F k j hj
      have ho4 : w3.cell? ⟨g3, k, none⟩ = some (.float .f64 4635118810238550016) := by
        rw [hown3.cellAt k (by omega), List.getElem?_append_right (by rw [flv_len]; omega), flv_len, Nat.sub_self]; rfl
      have hcp3 : k + 1 ≤ cp3 := by
        rcases hown3.2 with ⟨e, _⟩ | ⟨g', cp', _, e, _, _, h, _⟩
        · cases e
        · cases e; exact h
      have hg3 := (hown3.lt g3 rfl).2
      have hgg : g < w3.heap.size := by have := hgrow3.size; simp at this; omega
      have H1 : Hid _ := hl3
      have H2 : Hid _ := ho3
      clear HL hl3 ho3 hown3 hgrow3 hat3 hlt3 hown2 hgrow2 hat2 hlt2 hb2 hs2 hown hbl hgl hsz HC
      have hk8 : k ≤ 140737488355328 := by omega
      go_wp2_with fail
      refine (sum_any g3 0 k cp3 F _ hl hk8 (by omega) (by omega) hg3 HF.out (fun j hj => by rw [Nat.zero_add]; exact H2.out j hj)).mono ?_
      rintro e w4 ⟨s1, rfl, hs1, f4⟩
      have H3 : Hid (∀ j, j < k → w4.cell? ⟨g, j, none⟩ = some (.float .f64 (F j))) := fun j hj => (f4.1.cell (p := ⟨g, j, none⟩) hgg).trans (H1.out j hj)
      have H4 : Hid (∀ j, j < k → w4.cell? ⟨g3, j, none⟩ = some (.float .f64 (F j))) := fun j hj => (f4.1.cell (p := ⟨g3, j, none⟩) hg3).trans (H2.out j hj)
      have h5 : w4.cell? ⟨g3, k, none⟩ = some (.float .f64 4635118810238550016) := (f4.1.cell (p := ⟨g3, k, none⟩) hg3).trans ho4
      have hb4 : Below B w w4 := hb3.trans (f4.1.mono (by have := hb3.size; have := HB.out; omega))
      have hgg4 : g < w4.heap.size := by have := f4.1.size; omega
      have hg34 : g3 < w4.heap.size := by have := f4.1.size; omega
      have HS1 : Hid _ := hs1
      clear H1 H2 ho4 hb3 f4 hs1 hg3 hgg
      go_wp2_with fail
      go_loopw [11] (fun i wr => ∃ j : Nat, j ≤ k ∧ i = .int .i64 j ∧ Fr w4 wr) (fun i _ => k - (intOf i).toNat)
      case atStart => exact ⟨0, Nat.zero_le _, rfl, Fr.refl _⟩
      case round =>
        obtain ⟨j, hj, rfl, fr⟩ := hrel
        by_cases hj1 : j < k
        · have c1 : wr.cell? ⟨g, j, none⟩ = some (.float .f64 (F j)) := (fr.1.cell (p := ⟨g, j, none⟩) hgg4).trans (H3.out j hj1)
          have c2 : wr.cell? ⟨g3, j, none⟩ = some (.float .f64 (F j)) := (fr.1.cell (p := ⟨g3, j, none⟩) hg34).trans (H4.out j hj1)
          have i1 : (0 : Int) ≤ (j : Int) := by omega
          have i2 : (j : Int) < (k : Int) := by omega
          have i3 : (j : Int) < (k : Int) + 1 := by omega
          have SR := same_refl (F j)
          go_wp2_with fail
          have S0 : wr.drew.cell? ⟨g, j, none⟩ = some (.float .f64 (F j)) ∧ wr.drew.cell? ⟨g3, j, none⟩ = some (.float .f64 (F j)) := ⟨c1, c2⟩
          refine wp_region_K (fun w' => w'.cell? ⟨g, j, none⟩ = some (.float .f64 (F j)) ∧ w'.cell? ⟨g3, j, none⟩ = some (.float .f64 (F j))) 9 10 #[false, false, false, false, false, false, false, false, false, false] (by kernel_rfl) (by kernel_rfl) (by kernel_rfl) ?_
          refine wpAnyK_take 0 45 (v := ?v0) rfl (by kernel_rfl) (by kernel_rfl) (by kernel_rfl) (by kernel_rfl) (by kernel_rfl) (fun _ _ _ h => h) rfl (Or.inl ⟨by rfl, ?h0⟩) (by assumption) ?r0
          case h0 => (intro w hSw; go_simp; with_reducible rfl)
          simp only [Act.put, List.setIfInBounds_toArray, List.set_cons_zero, List.set_cons_succ]
          refine wpAnyK_take 1 46 (v := ?v1) rfl (by kernel_rfl) (by kernel_rfl) (by kernel_rfl) (by kernel_rfl) (by kernel_rfl) (fun _ _ _ h => h) rfl (Or.inl ⟨by rfl, ?h1⟩) (by assumption) ?r1
          case h1 => (intro w hSw; go_simp; with_reducible rfl)
          simp only [Act.put, List.setIfInBounds_toArray, List.set_cons_zero, List.set_cons_succ]
          refine wpAnyK_take 2 47 (v := ?v2) rfl (by kernel_rfl) (by kernel_rfl) (by kernel_rfl) (by kernel_rfl) (by kernel_rfl) (fun _ _ _ h => h) rfl (Or.inl ⟨by rfl, ?h2⟩) (by assumption) ?r2
          case h2 => (intro w hSw; go_simp; with_reducible rfl)
          simp only [Act.put, List.setIfInBounds_toArray, List.set_cons_zero, List.set_cons_succ]
          refine wpAnyK_take 3 48 (v := ?v3) rfl (by kernel_rfl) (by kernel_rfl) (by kernel_rfl) (by kernel_rfl) (by kernel_rfl) (fun _ _ _ h => h) rfl (Or.inl ⟨by rfl, ?h3⟩) (by assumption) ?r3
          case h3 => (intro w hSw; go_simp; with_reducible rfl)
          simp only [Act.put, List.setIfInBounds_toArray, List.set_cons_zero, List.set_cons_succ]
          refine wpAnyK_take 4 49 (v := ?v4) rfl (by kernel_rfl) (by kernel_rfl) (by kernel_rfl) (by kernel_rfl) (by kernel_rfl) (fun _ _ _ h => h) rfl (Or.inl ⟨by rfl, ?h4⟩) (by assumption) ?r4
          case h4 => (intro w hSw; go_simp; with_reducible rfl)
          simp only [Act.put, List.setIfInBounds_toArray, List.set_cons_zero, List.set_cons_succ]
          refine wpAnyK_take 5 50 (v := ?v5) rfl (by kernel_rfl) (by kernel_rfl) (by kernel_rfl) (by kernel_rfl) (by kernel_rfl) (fun _ _ _ h => h) rfl (Or.inl ⟨by rfl, ?h5⟩) (by assumption) ?r5
          case h5 => (intro w hSw; go_simp; with_reducible rfl)
          simp only [Act.put, List.setIfInBounds_toArray, List.set_cons_zero, List.set_cons_succ]
          refine wpAnyK_take 6 51 (v := ?v6) rfl (by kernel_rfl) (by kernel_rfl) (by kernel_rfl) (by kernel_rfl) (by kernel_rfl) (fun _ _ _ h => h) rfl (Or.inl ⟨by rfl, ?h6⟩) (by assumption) ?r6
          case h6 => (intro w hSw; go_simp; with_reducible rfl)
          simp only [Act.put, List.setIfInBounds_toArray, List.set_cons_zero, List.set_cons_succ]
          refine wpAnyK_take 7 52 (v := ?v7) rfl (by kernel_rfl) (by kernel_rfl) (by kernel_rfl) (by kernel_rfl) (by kernel_rfl) (fun _ _ _ h => h) rfl (Or.inl ⟨by rfl, ?h7⟩) (by assumption) ?r7
          case h7 => (intro w hSw; go_simp; with_reducible rfl)
          simp only [Act.put, List.setIfInBounds_toArray, List.set_cons_zero, List.set_cons_succ]
          refine wpAnyK_one 8 (by kernel_rfl) rfl (fun K hK => ?_)
          go_simp
          go_wp2_with (go_at_call 8; refine (rsame_any _ _ _).mono ?_; rintro e w7 ⟨rfl, rfl⟩)
          refine hK.out _ _ (fun _ _ => S0) ?_
          clear hK K
          simp only [List.setIfInBounds_toArray, List.set_cons_zero, List.set_cons_succ]
          refine wpAnyK_one 9 (by kernel_rfl) rfl (fun K hK => ?_)
          go_simp
          refine hK.out _ _ (fun h => absurd rfl h) ?_
          clear hK K
          simp only [List.setIfInBounds_toArray, List.set_cons_zero, List.set_cons_succ]
          refine wpAnyK_done (by kernel_rfl) ?_ _
          clear S0
          go_wp2
          go_roundw
          case rel => exact ⟨j + 1, by omega, by simp, fr.drew⟩
          case measure => simp [intOf]; omega
        · have hjk : j = k := by omega
          subst hjk
          clear hj hj1
          go_wp2_with (first
            | (go_at_call 6; refine (f_any _ _).mono ?_; rintro e w' ⟨rfl, rfl⟩)
            | fail)
          refine (exact_fr x y _ hx hy).mono ?_
          rintro e w5 ⟨a1, l1, rfl, hex, f5⟩
          have HE : Hid _ := hex
          clear hex
          go_wp2_with (first
            | (go_at_call 6; refine (f_any _ _).mono ?_; rintro e w' ⟨rfl, rfl⟩)
            | fail)
          refine (rexact_any x y _ hx hy).mono ?_
          rintro e w6 ⟨a2, l2, rfl, hrx, f6⟩
          have hsm := ex_same HE.out hrx
          clear HE hrx
          have f7 := (fr.trans f5).trans f6
          clear fr f5 f6
          have c1 : w6.cell? ⟨g3, j, none⟩ = some (.float .f64 4635118810238550016) := (f7.1.cell (p := ⟨g3, j, none⟩) hg34).trans h5
          go_wp2_with fail
          refine (rsum_any g 0 j cp F _ hl hk8 (by have := f7.1.size; omega) HF.out (fun i hi => by rw [Nat.zero_add]; exact (f7.1.cell (p := ⟨g, i, none⟩) hgg4).trans (H3.out i hi))).mono ?_
          rintro e w8 ⟨s2, rfl, hs2, f8⟩
          have hss := sum_same F (j - 1) s1 s2 HS1.out hs2
          have hfin : Below B w w8 := hb4.trans ((f7.trans f8).1.mono (by have := hb4.size; have := HB.out; omega))
          obtain ⟨hsm1, hsm2⟩ := hsm
          clear hs2 HS1 H3 H4 HF f7 f8 c1 h5 hb4
          go_wp2_with (go_at_call 8; refine (rsame_any _ _ _).mono ?_; rintro e w9 ⟨rfl, rfl⟩)
          all_goals go_ret
          all_goals exact ⟨rfl, hfin⟩
end Go.Proofs.Ythfdcembajhgcaa
