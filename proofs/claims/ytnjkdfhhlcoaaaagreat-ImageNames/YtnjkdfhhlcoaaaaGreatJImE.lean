/-
 OWN TEXT: package image: what a wall does with a source and with a stream.
-/
import Derived.Test.YtnjkdfhhlcoaaaaGreatJImAToImD
namespace Go.Proofs.YtnjkdfhhlcoaaaaGreat
open Go.ChangeShapes Go.WideShapes Go.ChangeAt Go.RowKit
set_option linter.unusedVariables false
set_option linter.unusedSimpArgs false
attribute [local go_sem] frombits_call tobits_call run_neg run_store_cx El.run_store_fl
namespace Im
/-- a block's cells -/
structure Bl (w : World) (B : Nat) (l : List Value) : Prop where
 lt : B < w.heap.size
 c : ∀ j u, l[j]? = some u → w.cell? ⟨B, j, none⟩ = some u
 fz : ∀ i, w.frozen? ⟨B, i, none⟩ = false
theorem Bl.bw {w w' : World} {B : Nat} {l : List Value} (h : Bl w B l) (g : Bw w w') : Bl w' B l :=
 ⟨Nat.lt_of_lt_of_le h.lt g.size, fun j u hu => (Below.cell g (p := ⟨B, j, none⟩) h.lt).trans (h.c j u hu), fun i => (Below.frozen g (p := ⟨B, i, none⟩) h.lt).trans (h.fz i)⟩
theorem Bl.new (w : World) (c : Array Value) (T : TypeId) : Bl (w.alloc (.cells c T)) w.heap.size c.toList :=
 ⟨by simp, fun j u hu => by rw [World.cell?_alloc_at _ _ _ _ rfl]; simpa using hu, fun i => fz_new _ _ _ _⟩
theorem Bl.off {w : World} {B C i : Nat} {l : List Value} {v : Value} (h : Bl w B l) (hC : C ≠ B) : Bl (w.setCell ⟨C, i, none⟩ v) B l :=
 ⟨by simpa [World.setCell] using h.lt, fun j u hu => by rw [Ff.set_blk hC]; exact h.c j u hu, fun i => by rw [World.frozen?_setCell]; exact h.fz i⟩
theorem Bl.set {w : World} {B i : Nat} {l : List Value} (h : Bl w B l) (hi : i < l.length) (v : Value) : Bl (w.setCell ⟨B, i, none⟩ v) B (l.set i v) := by
 refine ⟨by simpa [World.setCell] using h.lt, fun j u hu => ?_, fun i => by rw [World.frozen?_setCell]; exact h.fz i⟩
 by_cases q : i = j
 ·
  subst q
  rw [List.getElem?_set_self hi] at hu
  cases hu
  exact Ff.set_any (h.c i l[i] (by simp [hi]))
 ·
  rw [List.getElem?_set_ne q] at hu
  rw [Ff.set_off q]
  exact h.c j u hu
def s5 (w : World) (B : Nat) (v0 v1 v2 v3 v4 : Value) : World := ((((w.setCell ⟨B, 0, none⟩ v0).setCell ⟨B, 1, none⟩ v1).setCell ⟨B, 2, none⟩ v2).setCell ⟨B, 3, none⟩ v3).setCell ⟨B, 4, none⟩ v4
theorem s5_at {w : World} {B : Nat} {x0 x1 x2 x3 x4 : Value} (h : Bl w B [x0, x1, x2, x3, x4]) (v0 v1 v2 v3 v4 : Value) : Bl (s5 w B v0 v1 v2 v3 v4) B [v0, v1, v2, v3, v4] :=
 ((((h.set (i := 0) (by simp) v0).set (i := 1) (by simp) v1).set (i := 2) (by simp) v2).set (i := 3) (by simp) v3).set (i := 4) (by simp) v4
theorem s5_off {w : World} {B C : Nat} {l : List Value} (h : Bl w C l) (hC : B ≠ C) (v0 v1 v2 v3 v4 : Value) : Bl (s5 w B v0 v1 v2 v3 v4) C l :=
 ((((h.off (i := 0) hC).off (i := 1) hC).off (i := 2) hC).off (i := 3) hC).off (i := 4) hC
theorem s5_bw {u w : World} {B : Nat} (h : Bw u w) (hB : u.heap.size ≤ B) (v0 v1 v2 v3 v4 : Value) : Bw u (s5 w B v0 v1 v2 v3 v4) :=
 Below.setCell (Below.setCell (Below.setCell (Below.setCell (Below.setCell h hB _) hB _) hB _) hB _) hB _
theorem refl_load {w : World} {B : Nat} {x0 x1 x2 x3 x4 : Value} (h : Bl w B [x0, x1, x2, x3, x4]) : (loadVar 70 ⟨B, 0, none⟩).run Tryz.prog w = .ok (.agg #[x0, x1, x2, x3, x4]) w := by
 refine run_loadVar_mid w B 0 70 [x0, x1, x2, x3, x4] _ (fun j v hv => ?_) Tryz.underlying70 rfl (by kernel_rfl)
 rw [Nat.zero_add]
 exact h.c j v hv
theorem res_refl {fn : Func} {i j : Tmp} (hr : fn.results = #[.cell i 70, .tmp j]) (tmps : Array Value) (w : World) (B : Nat) {x0 x1 x2 x3 x4 : Value} (hi : tmps.getD i undef = .pointer (some ⟨B, 0, none⟩)) (h : Bl w B [x0, x1, x2, x3, x4]) : (results fn tmps).run Tryz.prog w = .ok (.tuple #[.agg #[x0, x1, x2, x3, x4], tmps.getD j undef]) w := by
 rw [results_cell_tmp hr, hi]
 simp only [asAddr, Sem.run_pure, Result.andThen_ok, refl_load h]
end Im
set_option maxHeartbeats 16000000 in
theorem mirroredI {k : Int} {a b s t p s' t' u0 u1 v0 v1 x y : Nat} {ok : Bool} (w : World)
  (AC : Hid (∀ wz, Calls Tryz.prog 26 #[.agg #[.complex .f64 u0 u1, .complex .f64 v0 v1], .complex .f64 a b] wz fun r w' => r = .returned (.complex .f64 x y) ∧ Bw wz w'))
  (AB : Hid (∀ wz, Calls Tryz.prog 108 #[.agg #[.complex .f64 u0 u1, .complex .f64 v0 v1], .complex .f64 a b] wz fun r w' => r = .returned (.bool ok) ∧ Bw wz w')) :
  Calls Tryz.prog 105 #[.agg #[.complex .f64 u0 u1, .complex .f64 v0 v1], .agg #[.int .u8 k, .complex .f64 a b, .complex .f64 s t, .float .f64 p], .complex .f64 s' t'] w fun r w' => ∃ B, r = .returned (.tuple #[.agg #[.int .u8 k, .complex .f64 a b, .complex .f64 s t, .float .f64 p, .slice (some ⟨B, 0, none⟩) 1 1], .bool ok]) ∧ w.heap.size ≤ B ∧ Im.Bl w' B [.int .u8 k, .complex .f64 x y, .complex .f64 s' t', .float .f64 p] ∧ Bw w w' := by
 have g1 := Im.Bl.new w #[.complex .f64 u0 u1, .complex .f64 v0 v1] 47
 have z1 : (w.alloc (.cells #[.complex .f64 u0 u1, .complex .f64 v0 v1] 47)).heap.size = w.heap.size + 1 := by simp
 have b1 := bw_alloc w (.cells #[.complex .f64 u0 u1, .complex .f64 v0 v1] 47)
 obtain ⟨W1, hW1⟩ : ∃ v, w.alloc (.cells #[.complex .f64 u0 u1, .complex .f64 v0 v1] 47) = v := ⟨_, rfl⟩
 rw [hW1] at g1 z1 b1
 have g2 := Im.Bl.new W1 #[.int .u8 k, .complex .f64 a b, .complex .f64 s t, .float .f64 p] 28
 have z2 : (W1.alloc (.cells #[.int .u8 k, .complex .f64 a b, .complex .f64 s t, .float .f64 p] 28)).heap.size = w.heap.size + 1 + 1 := by simp [z1]
 have b2 := bw_alloc W1 (.cells #[.int .u8 k, .complex .f64 a b, .complex .f64 s t, .float .f64 p] 28)
 obtain ⟨W2, hW2⟩ : ∃ v, W1.alloc (.cells #[.int .u8 k, .complex .f64 a b, .complex .f64 s t, .float .f64 p] 28) = v := ⟨_, rfl⟩
 rw [hW2] at g2 z2 b2
 have g3 := Im.Bl.new W2 #[.int .u8 0, .complex .f64 0 0, .complex .f64 0 0, .float .f64 0, .slice none 0 0] 70
 have z3 : (W2.alloc (.cells #[.int .u8 0, .complex .f64 0 0, .complex .f64 0 0, .float .f64 0, .slice none 0 0] 70)).heap.size = w.heap.size + 1 + 1 + 1 := by simp [z2]
 have b3 := bw_alloc W2 (.cells #[.int .u8 0, .complex .f64 0 0, .complex .f64 0 0, .float .f64 0, .slice none 0 0] 70)
 obtain ⟨W3, hW3⟩ : ∃ v, W2.alloc (.cells #[.int .u8 0, .complex .f64 0 0, .complex .f64 0 0, .float .f64 0, .slice none 0 0] 70) = v := ⟨_, rfl⟩
 rw [hW3] at g3 z3 b3
 have g4 := Im.Bl.new W3 #[.int .u8 k, .complex .f64 a b, .complex .f64 s t, .float .f64 p] 28
 have b4 := bw_alloc W3 (.cells #[.int .u8 k, .complex .f64 a b, .complex .f64 s t, .float .f64 p] 28)
 obtain ⟨W4, hW4⟩ : ∃ v, W3.alloc (.cells #[.int .u8 k, .complex .f64 a b, .complex .f64 s t, .float .f64 p] 28) = v := ⟨_, rfl⟩
 rw [hW4] at g4 b4
 have GG := hide (And.intro (g1.bw (bw_trans b2 (bw_trans b3 b4))) (And.intro (g2.bw (bw_trans b3 b4)) (And.intro (g3.bw b4) (And.intro g4 (bw_trans b1 (bw_trans b2 (bw_trans b3 b4)))))))
 rw [z1, z2, z3] at GG
 have HW := hide (And.intro hW1 (And.intro hW2 (And.intro hW3 hW4)))
 clear g1 g2 g3 g4 b1 b2 b3 b4 z1 z2 z3 hW1 hW2 hW3 hW4
 go_enter Tryz.func105, Tryz.ntmps105
 go_wp2_with fail
 rw [HW.out.1, HW.out.2.1, HW.out.2.2.1, HW.out.2.2.2]
 obtain ⟨A, hA⟩ : ∃ A, w.heap.size = A := ⟨_, rfl⟩
 rw [hA] at GG ⊢
 have HA := hide hA
 refine (AC.out _).mono ?_
 rintro e' w5 ⟨rfl, b5⟩
 have GX : Hid (∀ V, V = (w5.setCell ⟨A + 1 + 1 + 1, 1, none⟩ (.complex .f64 x y)).setCell ⟨A + 1 + 1 + 1, 2, none⟩ (.complex .f64 s' t') → Im.Bl V A [.complex .f64 u0 u1, .complex .f64 v0 v1] ∧ Im.Bl V (A + 1) [.int .u8 k, .complex .f64 a b, .complex .f64 s t, .float .f64 p] ∧ Im.Bl V (A + 1 + 1) [.int .u8 0, .complex .f64 0 0, .complex .f64 0 0, .float .f64 0, .slice none 0 0] ∧ Im.Bl V (A + 1 + 1 + 1) [.int .u8 k, .complex .f64 x y, .complex .f64 s' t', .float .f64 p] ∧ Bw w V) := by
  rintro V rfl
  obtain ⟨k1, k2, k3, k4, k5⟩ := GG.out
  refine ⟨((k1.bw b5).off (by omega)).off (by omega), ((k2.bw b5).off (by omega)).off (by omega), ((k3.bw b5).off (by omega)).off (by omega), ((k4.bw b5).set (i := 1) (by show 1 < 4; decide) _).set (i := 2) (by show 2 < 4; decide) _, Below.setCell (Below.setCell (bw_trans k5 b5) (by show _ ≤ A + 1 + 1 + 1; have := HA.out; omega) _) (by show _ ≤ A + 1 + 1 + 1; have := HA.out; omega) _⟩
 have x1 := (GG.out.2.2.2.1.bw b5).c 1 _ rfl
 have x2 := (GG.out.2.2.2.1.bw b5).c 2 _ rfl
 have y1 := (GG.out.2.2.2.1.bw b5).fz 1
 have y2 := (GG.out.2.2.2.1.bw b5).fz 2
 clear GG b5 AC
 go_wp2_with fail
 obtain ⟨W6, hW6⟩ : ∃ V, V = (w5.setCell ⟨A + 1 + 1 + 1, 1, none⟩ (.complex .f64 x y)).setCell ⟨A + 1 + 1 + 1, 2, none⟩ (.complex .f64 s' t') := ⟨_, rfl⟩
 have G6 := hide (GX.out _ hW6)
 rw [← hW6]
 clear hW6 GX x1 x2 y1 y2
 apply Im.join (F := fun B W => Im.Bl W (A + 1 + 1) [.int .u8 k, .complex .f64 a b, .complex .f64 s t, .float .f64 p, .slice (some ⟨B, 0, none⟩) 1 1] ∧ Im.Bl W B [.int .u8 k, .complex .f64 x y, .complex .f64 s' t', .float .f64 p] ∧ w.heap.size ≤ B ∧ Bw w W)
 case way =>
  intro K' J
  refine wp_region_K (fun w' => Im.Bl w' A [.complex .f64 u0 u1, .complex .f64 v0 v1] ∧ Im.Bl w' (A + 1) [.int .u8 k, .complex .f64 a b, .complex .f64 s t, .float .f64 p] ∧ Im.Bl w' (A + 1 + 1 + 1) [.int .u8 k, .complex .f64 x y, .complex .f64 s' t', .float .f64 p]) 9 10 #[false, false, false, false, false, false, false, false, false, false] (by kernel_rfl) (by kernel_rfl) (by kernel_rfl) ?_
  have G7 : Hid (Im.Bl W6.drew A [.complex .f64 u0 u1, .complex .f64 v0 v1] ∧ Im.Bl W6.drew (A + 1) [.int .u8 k, .complex .f64 a b, .complex .f64 s t, .float .f64 p] ∧ Im.Bl W6.drew (A + 1 + 1) [.int .u8 0, .complex .f64 0 0, .complex .f64 0 0, .float .f64 0, .slice none 0 0] ∧ Im.Bl W6.drew (A + 1 + 1 + 1) [.int .u8 k, .complex .f64 x y, .complex .f64 s' t', .float .f64 p] ∧ Bw w W6.drew) := by
   obtain ⟨k1, k2, k3, k4, k5⟩ := G6.out
   exact ⟨k1.bw (Bw.refl _).drew, k2.bw (Bw.refl _).drew, k3.bw (Bw.refl _).drew, k4.bw (Bw.refl _).drew, k5.drew⟩
  generalize W6.drew = WA at *
  have SA : Im.Bl WA A [.complex .f64 u0 u1, .complex .f64 v0 v1] ∧ Im.Bl WA (A + 1) [.int .u8 k, .complex .f64 a b, .complex .f64 s t, .float .f64 p] ∧ Im.Bl WA (A + 1 + 1 + 1) [.int .u8 k, .complex .f64 x y, .complex .f64 s' t', .float .f64 p] := ⟨G7.out.1, G7.out.2.1, G7.out.2.2.2.1⟩
  refine wpAnyK_take 0 17 (v := ?v0) rfl (by kernel_rfl) (by kernel_rfl) (by kernel_rfl) (by kernel_rfl) (by kernel_rfl) (fun _ _ _ h => h) rfl (Or.inl ⟨by rfl, ?h0⟩) (by assumption) ?r0
  case h0 => (intro w hSw; obtain ⟨h1, h2, h3⟩ := hSw; have a0 := h1.c 0 _ rfl; have a1 := h1.c 1 _ rfl; have b0 := h2.c 0 _ rfl; have b1 := h2.c 1 _ rfl; have b2 := h2.c 2 _ rfl; have b3 := h2.c 3 _ rfl; have d0 := h3.c 0 _ rfl; have d1 := h3.c 1 _ rfl; have d2 := h3.c 2 _ rfl; have d3 := h3.c 3 _ rfl; go_simp; with_reducible rfl)
  simp only [Act.put, List.setIfInBounds_toArray, List.set_cons_zero, List.set_cons_succ]
  refine wpAnyK_take 1 18 (v := ?v1) rfl (by kernel_rfl) (by kernel_rfl) (by kernel_rfl) (by kernel_rfl) (by kernel_rfl) (fun _ _ _ h => h) rfl (Or.inl ⟨by rfl, ?h1⟩) (by assumption) ?r1
  case h1 => (intro w hSw; obtain ⟨h1, h2, h3⟩ := hSw; have a0 := h1.c 0 _ rfl; have a1 := h1.c 1 _ rfl; have b0 := h2.c 0 _ rfl; have b1 := h2.c 1 _ rfl; have b2 := h2.c 2 _ rfl; have b3 := h2.c 3 _ rfl; have d0 := h3.c 0 _ rfl; have d1 := h3.c 1 _ rfl; have d2 := h3.c 2 _ rfl; have d3 := h3.c 3 _ rfl; go_simp; with_reducible rfl)
  simp only [Act.put, List.setIfInBounds_toArray, List.set_cons_zero, List.set_cons_succ]
  refine wpAnyK_take 4 21 (v := ?v4) rfl (by kernel_rfl) (by kernel_rfl) (by kernel_rfl) (by kernel_rfl) (by kernel_rfl) (fun _ _ _ h => h) rfl (Or.inl ⟨by rfl, ?h4⟩) (by assumption) ?r4
  case h4 => (intro w hSw; obtain ⟨h1, h2, h3⟩ := hSw; have a0 := h1.c 0 _ rfl; have a1 := h1.c 1 _ rfl; have b0 := h2.c 0 _ rfl; have b1 := h2.c 1 _ rfl; have b2 := h2.c 2 _ rfl; have b3 := h2.c 3 _ rfl; have d0 := h3.c 0 _ rfl; have d1 := h3.c 1 _ rfl; have d2 := h3.c 2 _ rfl; have d3 := h3.c 3 _ rfl; go_simp; with_reducible rfl)
  simp only [Act.put, List.setIfInBounds_toArray, List.set_cons_zero, List.set_cons_succ]
  refine wpAnyK_take 5 22 (v := ?v5) rfl (by kernel_rfl) (by kernel_rfl) (by kernel_rfl) (by kernel_rfl) (by kernel_rfl) (fun _ _ _ h => h) rfl (Or.inl ⟨by rfl, ?h5⟩) (by assumption) ?r5
  case h5 => (intro w hSw; obtain ⟨h1, h2, h3⟩ := hSw; have a0 := h1.c 0 _ rfl; have a1 := h1.c 1 _ rfl; have b0 := h2.c 0 _ rfl; have b1 := h2.c 1 _ rfl; have b2 := h2.c 2 _ rfl; have b3 := h2.c 3 _ rfl; have d0 := h3.c 0 _ rfl; have d1 := h3.c 1 _ rfl; have d2 := h3.c 2 _ rfl; have d3 := h3.c 3 _ rfl; go_simp; with_reducible rfl)
  simp only [Act.put, List.setIfInBounds_toArray, List.set_cons_zero, List.set_cons_succ]
  refine wpAnyK_take 6 23 (v := ?v6) rfl (by kernel_rfl) (by kernel_rfl) (by kernel_rfl) (by kernel_rfl) (by kernel_rfl) (fun _ _ _ h => h) rfl (Or.inl ⟨by rfl, ?h6⟩) (by assumption) ?r6
  case h6 => (intro w hSw; obtain ⟨h1, h2, h3⟩ := hSw; have a0 := h1.c 0 _ rfl; have a1 := h1.c 1 _ rfl; have b0 := h2.c 0 _ rfl; have b1 := h2.c 1 _ rfl; have b2 := h2.c 2 _ rfl; have b3 := h2.c 3 _ rfl; have d0 := h3.c 0 _ rfl; have d1 := h3.c 1 _ rfl; have d2 := h3.c 2 _ rfl; have d3 := h3.c 3 _ rfl; go_simp; with_reducible rfl)
  simp only [Act.put, List.setIfInBounds_toArray, List.set_cons_zero, List.set_cons_succ]
  refine wpAnyK_two 2 7 (by kernel_rfl) rfl rfl (fun K hK => ?_) (fun K hK => ?_)
  ·
   go_simp
   have GB := Im.Bl.new WA #[.int .u8 k, .complex .f64 x y, .complex .f64 s' t', .float .f64 p] 28
   have bB := bw_alloc WA (.cells #[.int .u8 k, .complex .f64 x y, .complex .f64 s' t', .float .f64 p] 28)
   obtain ⟨WB, hWB⟩ : ∃ V, WA.alloc (.cells #[.int .u8 k, .complex .f64 x y, .complex .f64 s' t', .float .f64 p] 28) = V := ⟨_, rfl⟩
   rw [hWB] at GB bB ⊢
   obtain ⟨B, hB⟩ : ∃ B, WA.heap.size = B := ⟨_, rfl⟩
   rw [hB] at GB ⊢
   have HN := hide (show A = w.heap.size ∧ A + 1 + 1 + 1 < B ∧ w.heap.size ≤ A from ⟨HA.out.symm, by rw [← hB]; exact G7.out.2.2.2.1.lt, by have := HA.out; omega⟩)
   have G8 : Hid ((Im.Bl WB A [.complex .f64 u0 u1, .complex .f64 v0 v1] ∧ Im.Bl WB (A + 1) [.int .u8 k, .complex .f64 a b, .complex .f64 s t, .float .f64 p] ∧ Im.Bl WB (A + 1 + 1 + 1) [.int .u8 k, .complex .f64 x y, .complex .f64 s' t', .float .f64 p] ∧ Im.Bl WB (A + 1 + 1) [.int .u8 0, .complex .f64 0 0, .complex .f64 0 0, .float .f64 0, .slice none 0 0] ∧ Bw w WB) ∧ Im.Bl WB B [.int .u8 k, .complex .f64 x y, .complex .f64 s' t', .float .f64 p]) :=
    ⟨⟨G7.out.1.bw bB, G7.out.2.1.bw bB, G7.out.2.2.2.1.bw bB, G7.out.2.2.1.bw bB, bw_trans G7.out.2.2.2.2 bB⟩, GB⟩
   have SB : Im.Bl WB A [.complex .f64 u0 u1, .complex .f64 v0 v1] ∧ Im.Bl WB (A + 1) [.int .u8 k, .complex .f64 a b, .complex .f64 s t, .float .f64 p] ∧ Im.Bl WB (A + 1 + 1 + 1) [.int .u8 k, .complex .f64 x y, .complex .f64 s' t', .float .f64 p] := ⟨G8.out.1.1, G8.out.1.2.1, G8.out.1.2.2.1⟩
   clear hWB hB GB bB SA G7
   refine hK.out _ _ (fun _ _ => SB) ?_
   clear hK K
   simp only [List.setIfInBounds_toArray, List.set_cons_zero, List.set_cons_succ]
   refine wpAnyK_take 3 20 (v := ?vp3) rfl (by kernel_rfl) (by kernel_rfl) (by kernel_rfl) (by kernel_rfl) (by kernel_rfl) (fun _ _ _ h => h) rfl (Or.inl ⟨by rfl, ?hp3⟩) (by assumption) ?rp3
   case hp3 => (intro w hSw; obtain ⟨h1, h2, h3⟩ := hSw; have a0 := h1.c 0 _ rfl; have a1 := h1.c 1 _ rfl; have b0 := h2.c 0 _ rfl; have b1 := h2.c 1 _ rfl; have b2 := h2.c 2 _ rfl; have b3 := h2.c 3 _ rfl; have d0 := h3.c 0 _ rfl; have d1 := h3.c 1 _ rfl; have d2 := h3.c 2 _ rfl; have d3 := h3.c 3 _ rfl; go_simp; with_reducible rfl)
   simp only [Act.put, List.setIfInBounds_toArray, List.set_cons_zero, List.set_cons_succ]
   refine wpAnyK_one 7 (by kernel_rfl) rfl (fun K hK => ?_)
   go_simp
   refine (AB.out _).mono ?_
   rintro e' w7 ⟨rfl, b7⟩
   have GS : Hid ((Im.Bl w7 A [.complex .f64 u0 u1, .complex .f64 v0 v1] ∧ Im.Bl w7 (A + 1) [.int .u8 k, .complex .f64 a b, .complex .f64 s t, .float .f64 p] ∧ Im.Bl w7 (A + 1 + 1 + 1) [.int .u8 k, .complex .f64 x y, .complex .f64 s' t', .float .f64 p] ∧ Im.Bl w7 (A + 1 + 1) [.int .u8 0, .complex .f64 0 0, .complex .f64 0 0, .float .f64 0, .slice none 0 0] ∧ Bw w w7) ∧ Im.Bl w7 B [.int .u8 k, .complex .f64 x y, .complex .f64 s' t', .float .f64 p]) :=
    ⟨⟨G8.out.1.1.bw b7, G8.out.1.2.1.bw b7, G8.out.1.2.2.1.bw b7, G8.out.1.2.2.2.1.bw b7, bw_trans G8.out.1.2.2.2.2 b7⟩, G8.out.2.bw b7⟩
   clear SB b7 G8
   refine hK.out _ _ (fun _ _ => ⟨GS.out.1.1, GS.out.1.2.1, GS.out.1.2.2.1⟩) ?_
   clear hK K
   simp only [List.setIfInBounds_toArray, List.set_cons_zero, List.set_cons_succ]
   have GZ : Hid (∀ V, V = Im.s5 w7 (A + 1 + 1) (.int .u8 k) (.complex .f64 a b) (.complex .f64 s t) (.float .f64 p) (.slice (some ⟨B, 0, none⟩) 1 1) → (Im.Bl V A [.complex .f64 u0 u1, .complex .f64 v0 v1] ∧ Im.Bl V (A + 1) [.int .u8 k, .complex .f64 a b, .complex .f64 s t, .float .f64 p] ∧ Im.Bl V (A + 1 + 1 + 1) [.int .u8 k, .complex .f64 x y, .complex .f64 s' t', .float .f64 p]) ∧ Im.Bl V (A + 1 + 1) [.int .u8 k, .complex .f64 a b, .complex .f64 s t, .float .f64 p, .slice (some ⟨B, 0, none⟩) 1 1] ∧ Im.Bl V B [.int .u8 k, .complex .f64 x y, .complex .f64 s' t', .float .f64 p] ∧ w.heap.size ≤ B ∧ Bw w V) := by
    rintro V rfl
    have n1 := HN.out.2
    exact ⟨⟨Im.s5_off GS.out.1.1 (by omega) _ _ _ _ _, Im.s5_off GS.out.1.2.1 (by omega) _ _ _ _ _, Im.s5_off GS.out.1.2.2.1 (by omega) _ _ _ _ _⟩, Im.s5_at GS.out.1.2.2.2.1 _ _ _ _ _, Im.s5_off GS.out.2 (by omega) _ _ _ _ _, by omega, Im.s5_bw GS.out.1.2.2.2.2 (by omega) _ _ _ _ _⟩
   have q0 := GS.out.1.2.2.2.1.c 0 _ rfl
   have q1 := GS.out.1.2.2.2.1.c 1 _ rfl
   have q2 := GS.out.1.2.2.2.1.c 2 _ rfl
   have q3 := GS.out.1.2.2.2.1.c 3 _ rfl
   have q4 := GS.out.1.2.2.2.1.c 4 _ rfl
   have r0 := GS.out.1.2.2.2.1.fz 0
   have r1 := GS.out.1.2.2.2.1.fz 1
   have r2 := GS.out.1.2.2.2.1.fz 2
   have r3 := GS.out.1.2.2.2.1.fz 3
   have r4 := GS.out.1.2.2.2.1.fz 4
   refine wpAnyK_one 8 (by kernel_rfl) rfl (fun K hK => ?_)
   go_simp
   obtain ⟨V, hV⟩ : ∃ V, V = Im.s5 w7 (A + 1 + 1) (.int .u8 k) (.complex .f64 a b) (.complex .f64 s t) (.float .f64 p) (.slice (some ⟨B, 0, none⟩) 1 1) := ⟨_, rfl⟩
   have GV := hide (GZ.out _ hV)
   unfold Im.s5 at hV
   rw [← hV]
   clear hV q0 q1 q2 q3 q4 r0 r1 r2 r3 r4 GZ
   refine hK.out _ _ (fun _ _ => GV.out.1) ?_
   clear hK K
   simp only [List.setIfInBounds_toArray, List.set_cons_zero, List.set_cons_succ]
   refine wpAnyK_one 9 (by kernel_rfl) rfl (fun K hK => ?_)
   go_simp
   refine hK.out _ _ (fun h => absurd rfl h) ?_
   clear hK K
   simp only [List.setIfInBounds_toArray, List.set_cons_zero, List.set_cons_succ]
   refine wpAnyK_done (by kernel_rfl) ?_ _
   exact J.out _ _ GV.out.2
  ·
   go_simp
   refine (AB.out _).mono ?_
   rintro e' w7 ⟨rfl, b7⟩
   have G8 : Hid (Im.Bl w7 A [.complex .f64 u0 u1, .complex .f64 v0 v1] ∧ Im.Bl w7 (A + 1) [.int .u8 k, .complex .f64 a b, .complex .f64 s t, .float .f64 p] ∧ Im.Bl w7 (A + 1 + 1) [.int .u8 0, .complex .f64 0 0, .complex .f64 0 0, .float .f64 0, .slice none 0 0] ∧ Im.Bl w7 (A + 1 + 1 + 1) [.int .u8 k, .complex .f64 x y, .complex .f64 s' t', .float .f64 p] ∧ Bw w w7) :=
    ⟨G7.out.1.bw b7, G7.out.2.1.bw b7, G7.out.2.2.1.bw b7, G7.out.2.2.2.1.bw b7, bw_trans G7.out.2.2.2.2 b7⟩
   clear SA b7 G7
   refine hK.out _ _ (fun _ _ => ⟨G8.out.1, G8.out.2.1, G8.out.2.2.2.1⟩) ?_
   clear hK K
   simp only [List.setIfInBounds_toArray, List.set_cons_zero, List.set_cons_succ]
   refine wpAnyK_one 2 (by kernel_rfl) rfl (fun K hK => ?_)
   go_simp
   have GB := Im.Bl.new w7 #[.int .u8 k, .complex .f64 x y, .complex .f64 s' t', .float .f64 p] 28
   have bB := bw_alloc w7 (.cells #[.int .u8 k, .complex .f64 x y, .complex .f64 s' t', .float .f64 p] 28)
   obtain ⟨WB, hWB⟩ : ∃ V, w7.alloc (.cells #[.int .u8 k, .complex .f64 x y, .complex .f64 s' t', .float .f64 p] 28) = V := ⟨_, rfl⟩
   rw [hWB] at GB bB ⊢
   obtain ⟨B, hB⟩ : ∃ B, w7.heap.size = B := ⟨_, rfl⟩
   rw [hB] at GB ⊢
   have HN := hide (show A = w.heap.size ∧ A + 1 + 1 + 1 < B ∧ w.heap.size ≤ A from ⟨HA.out.symm, by rw [← hB]; exact G8.out.2.2.2.1.lt, by have := HA.out; omega⟩)
   have GS : Hid ((Im.Bl WB A [.complex .f64 u0 u1, .complex .f64 v0 v1] ∧ Im.Bl WB (A + 1) [.int .u8 k, .complex .f64 a b, .complex .f64 s t, .float .f64 p] ∧ Im.Bl WB (A + 1 + 1 + 1) [.int .u8 k, .complex .f64 x y, .complex .f64 s' t', .float .f64 p] ∧ Im.Bl WB (A + 1 + 1) [.int .u8 0, .complex .f64 0 0, .complex .f64 0 0, .float .f64 0, .slice none 0 0] ∧ Bw w WB) ∧ Im.Bl WB B [.int .u8 k, .complex .f64 x y, .complex .f64 s' t', .float .f64 p]) :=
    ⟨⟨G8.out.1.bw bB, G8.out.2.1.bw bB, G8.out.2.2.2.1.bw bB, G8.out.2.2.1.bw bB, bw_trans G8.out.2.2.2.2 bB⟩, GB⟩
   have SB : Im.Bl WB A [.complex .f64 u0 u1, .complex .f64 v0 v1] ∧ Im.Bl WB (A + 1) [.int .u8 k, .complex .f64 a b, .complex .f64 s t, .float .f64 p] ∧ Im.Bl WB (A + 1 + 1 + 1) [.int .u8 k, .complex .f64 x y, .complex .f64 s' t', .float .f64 p] := ⟨GS.out.1.1, GS.out.1.2.1, GS.out.1.2.2.1⟩
   clear hWB hB GB bB G8
   refine hK.out _ _ (fun _ _ => SB) ?_
   clear hK K
   simp only [List.setIfInBounds_toArray, List.set_cons_zero, List.set_cons_succ]
   refine wpAnyK_take 3 20 (v := ?vq3) rfl (by kernel_rfl) (by kernel_rfl) (by kernel_rfl) (by kernel_rfl) (by kernel_rfl) (fun _ _ _ h => h) rfl (Or.inl ⟨by rfl, ?hq3⟩) (by assumption) ?rq3
   case hq3 => (intro w hSw; obtain ⟨h1, h2, h3⟩ := hSw; have a0 := h1.c 0 _ rfl; have a1 := h1.c 1 _ rfl; have b0 := h2.c 0 _ rfl; have b1 := h2.c 1 _ rfl; have b2 := h2.c 2 _ rfl; have b3 := h2.c 3 _ rfl; have d0 := h3.c 0 _ rfl; have d1 := h3.c 1 _ rfl; have d2 := h3.c 2 _ rfl; have d3 := h3.c 3 _ rfl; go_simp; with_reducible rfl)
   simp only [Act.put, List.setIfInBounds_toArray, List.set_cons_zero, List.set_cons_succ]
   clear SB
   have GZ : Hid (∀ V, V = Im.s5 WB (A + 1 + 1) (.int .u8 k) (.complex .f64 a b) (.complex .f64 s t) (.float .f64 p) (.slice (some ⟨B, 0, none⟩) 1 1) → (Im.Bl V A [.complex .f64 u0 u1, .complex .f64 v0 v1] ∧ Im.Bl V (A + 1) [.int .u8 k, .complex .f64 a b, .complex .f64 s t, .float .f64 p] ∧ Im.Bl V (A + 1 + 1 + 1) [.int .u8 k, .complex .f64 x y, .complex .f64 s' t', .float .f64 p]) ∧ Im.Bl V (A + 1 + 1) [.int .u8 k, .complex .f64 a b, .complex .f64 s t, .float .f64 p, .slice (some ⟨B, 0, none⟩) 1 1] ∧ Im.Bl V B [.int .u8 k, .complex .f64 x y, .complex .f64 s' t', .float .f64 p] ∧ w.heap.size ≤ B ∧ Bw w V) := by
    rintro V rfl
    have n1 := HN.out.2
    exact ⟨⟨Im.s5_off GS.out.1.1 (by omega) _ _ _ _ _, Im.s5_off GS.out.1.2.1 (by omega) _ _ _ _ _, Im.s5_off GS.out.1.2.2.1 (by omega) _ _ _ _ _⟩, Im.s5_at GS.out.1.2.2.2.1 _ _ _ _ _, Im.s5_off GS.out.2 (by omega) _ _ _ _ _, by omega, Im.s5_bw GS.out.1.2.2.2.2 (by omega) _ _ _ _ _⟩
   have q0 := GS.out.1.2.2.2.1.c 0 _ rfl
   have q1 := GS.out.1.2.2.2.1.c 1 _ rfl
   have q2 := GS.out.1.2.2.2.1.c 2 _ rfl
   have q3 := GS.out.1.2.2.2.1.c 3 _ rfl
   have q4 := GS.out.1.2.2.2.1.c 4 _ rfl
   have r0 := GS.out.1.2.2.2.1.fz 0
   have r1 := GS.out.1.2.2.2.1.fz 1
   have r2 := GS.out.1.2.2.2.1.fz 2
   have r3 := GS.out.1.2.2.2.1.fz 3
   have r4 := GS.out.1.2.2.2.1.fz 4
   refine wpAnyK_one 8 (by kernel_rfl) rfl (fun K hK => ?_)
   go_simp
   obtain ⟨V, hV⟩ : ∃ V, V = Im.s5 WB (A + 1 + 1) (.int .u8 k) (.complex .f64 a b) (.complex .f64 s t) (.float .f64 p) (.slice (some ⟨B, 0, none⟩) 1 1) := ⟨_, rfl⟩
   have GV := hide (GZ.out _ hV)
   unfold Im.s5 at hV
   rw [← hV]
   clear hV q0 q1 q2 q3 q4 r0 r1 r2 r3 r4 GZ
   refine hK.out _ _ (fun _ _ => GV.out.1) ?_
   clear hK K
   simp only [List.setIfInBounds_toArray, List.set_cons_zero, List.set_cons_succ]
   refine wpAnyK_one 9 (by kernel_rfl) rfl (fun K hK => ?_)
   go_simp
   refine hK.out _ _ (fun h => absurd rfl h) ?_
   clear hK K
   simp only [List.setIfInBounds_toArray, List.set_cons_zero, List.set_cons_succ]
   refine wpAnyK_done (by kernel_rfl) ?_ _
   exact J.out _ _ GV.out.2
 case rest =>
  intro B W FF
  go_wp2
  refine bodyPost_ret (Im.res_refl rfl _ _ (A + 1 + 1) rfl FF.1) rfl ?_
  exact ⟨B, rfl, FF.2.2.1, FF.2.1, FF.2.2.2⟩
set_option maxHeartbeats 16000000 in
theorem wsourceI {k : Int} {a b s t p s' t' u0 u1 v0 v1 x y : Nat} {ok : Bool} (w : World)
  (CJ : Hid (∀ wz, Calls Tryz.prog 43 #[.complex .f64 s t] wz fun r w' => r = .returned (.complex .f64 s' t') ∧ Bw wz w'))
  (AC : Hid (∀ wz, Calls Tryz.prog 26 #[.agg #[.complex .f64 u0 u1, .complex .f64 v0 v1], .complex .f64 a b] wz fun r w' => r = .returned (.complex .f64 x y) ∧ Bw wz w'))
  (AB : Hid (∀ wz, Calls Tryz.prog 108 #[.agg #[.complex .f64 u0 u1, .complex .f64 v0 v1], .complex .f64 a b] wz fun r w' => r = .returned (.bool ok) ∧ Bw wz w')) :
  Calls Tryz.prog 102 #[.agg #[.complex .f64 u0 u1, .complex .f64 v0 v1], .agg #[.int .u8 k, .complex .f64 a b, .complex .f64 s t, .float .f64 p]] w fun r w' => ∃ B, r = .returned (.tuple #[.agg #[.int .u8 k, .complex .f64 a b, .complex .f64 s t, .float .f64 p, .slice (some ⟨B, 0, none⟩) 1 1], .bool ok]) ∧ w.heap.size ≤ B ∧ Im.Bl w' B [.int .u8 k, .complex .f64 x y, .complex .f64 s' t', .float .f64 p] ∧ Bw w w' := by
 have g1 := Im.Bl.new w #[.complex .f64 u0 u1, .complex .f64 v0 v1] 47
 have z1 : (w.alloc (.cells #[.complex .f64 u0 u1, .complex .f64 v0 v1] 47)).heap.size = w.heap.size + 1 := by simp
 have b1 := bw_alloc w (.cells #[.complex .f64 u0 u1, .complex .f64 v0 v1] 47)
 obtain ⟨W1, hW1⟩ : ∃ v, w.alloc (.cells #[.complex .f64 u0 u1, .complex .f64 v0 v1] 47) = v := ⟨_, rfl⟩
 rw [hW1] at g1 z1 b1
 have g2 := Im.Bl.new W1 #[.int .u8 k, .complex .f64 a b, .complex .f64 s t, .float .f64 p] 28
 have z2 : (W1.alloc (.cells #[.int .u8 k, .complex .f64 a b, .complex .f64 s t, .float .f64 p] 28)).heap.size = w.heap.size + 1 + 1 := by simp [z1]
 have b2 := bw_alloc W1 (.cells #[.int .u8 k, .complex .f64 a b, .complex .f64 s t, .float .f64 p] 28)
 obtain ⟨W2, hW2⟩ : ∃ v, W1.alloc (.cells #[.int .u8 k, .complex .f64 a b, .complex .f64 s t, .float .f64 p] 28) = v := ⟨_, rfl⟩
 rw [hW2] at g2 z2 b2
 have g3 := Im.Bl.new W2 #[.int .u8 0, .complex .f64 0 0, .complex .f64 0 0, .float .f64 0, .slice none 0 0] 70
 have z3 : (W2.alloc (.cells #[.int .u8 0, .complex .f64 0 0, .complex .f64 0 0, .float .f64 0, .slice none 0 0] 70)).heap.size = w.heap.size + 1 + 1 + 1 := by simp [z2]
 have b3 := bw_alloc W2 (.cells #[.int .u8 0, .complex .f64 0 0, .complex .f64 0 0, .float .f64 0, .slice none 0 0] 70)
 obtain ⟨W3, hW3⟩ : ∃ v, W2.alloc (.cells #[.int .u8 0, .complex .f64 0 0, .complex .f64 0 0, .float .f64 0, .slice none 0 0] 70) = v := ⟨_, rfl⟩
 rw [hW3] at g3 z3 b3
 have GG : Hid (Im.Bl W3 (w.heap.size) [.complex .f64 u0 u1, .complex .f64 v0 v1] ∧ Im.Bl W3 (w.heap.size + 1) [.int .u8 k, .complex .f64 a b, .complex .f64 s t, .float .f64 p] ∧ Im.Bl W3 (w.heap.size + 1 + 1) [.int .u8 0, .complex .f64 0 0, .complex .f64 0 0, .float .f64 0, .slice none 0 0] ∧ Bw w W3) := ⟨(show Im.Bl _ (w.heap.size) _ from g1).bw (bw_trans b2 b3), (show Im.Bl _ (w.heap.size + 1) _ from z1 ▸ g2).bw b3, (show Im.Bl _ (w.heap.size + 1 + 1) _ from z2 ▸ g3), (bw_trans b1 (bw_trans b2 b3))⟩
 have HW := hide (And.intro hW1 (And.intro hW2 (hW3)))
 clear g1 b1 z1 hW1 g2 b2 z2 hW2 g3 b3 z3 hW3
 go_enter Tryz.func102, Tryz.ntmps102
 go_wp2_with fail
 rw [HW.out.1, HW.out.2.1, HW.out.2.2]
 obtain ⟨A, hA⟩ : ∃ A, w.heap.size = A := ⟨_, rfl⟩
 rw [hA] at GG ⊢
 have HA := hide hA
 refine wp_region_K (fun w' => Im.Bl w' (A) [.complex .f64 u0 u1, .complex .f64 v0 v1] ∧ Im.Bl w' (A + 1) [.int .u8 k, .complex .f64 a b, .complex .f64 s t, .float .f64 p]) 9 10 #[false, false, false, false, false, false, false, false, false, false] (by kernel_rfl) (by kernel_rfl) (by kernel_rfl) ?_
 have GGd : Hid (Im.Bl W3.drew (A) [.complex .f64 u0 u1, .complex .f64 v0 v1] ∧ Im.Bl W3.drew (A + 1) [.int .u8 k, .complex .f64 a b, .complex .f64 s t, .float .f64 p] ∧ Im.Bl W3.drew (A + 1 + 1) [.int .u8 0, .complex .f64 0 0, .complex .f64 0 0, .float .f64 0, .slice none 0 0] ∧ Bw w W3.drew) := ⟨GG.out.1.bw (Bw.refl W3).drew, GG.out.2.1.bw (Bw.refl W3).drew, GG.out.2.2.1.bw (Bw.refl W3).drew, bw_trans GG.out.2.2.2 (Bw.refl W3).drew⟩
 generalize W3.drew = W3d at *
 have GGS : Im.Bl W3d (A) [.complex .f64 u0 u1, .complex .f64 v0 v1] ∧ Im.Bl W3d (A + 1) [.int .u8 k, .complex .f64 a b, .complex .f64 s t, .float .f64 p] := ⟨GGd.out.1, GGd.out.2.1⟩
 refine wpAnyK_take 0 6 (v := ?v0) rfl (by kernel_rfl) (by kernel_rfl) (by kernel_rfl) (by kernel_rfl) (by kernel_rfl) (fun _ _ _ h => h) rfl (Or.inl ⟨by rfl, ?h0⟩) (by assumption) ?r0
 case h0 => (intro w hSw; obtain ⟨h0, h1⟩ := hSw; have c00 := h0.c 0 _ rfl; have c01 := h0.c 1 _ rfl; have c10 := h1.c 0 _ rfl; have c11 := h1.c 1 _ rfl; have c12 := h1.c 2 _ rfl; have c13 := h1.c 3 _ rfl; go_simp; with_reducible rfl)
 simp only [Act.put, List.setIfInBounds_toArray, List.set_cons_zero, List.set_cons_succ]
 refine wpAnyK_take 1 7 (v := ?v1) rfl (by kernel_rfl) (by kernel_rfl) (by kernel_rfl) (by kernel_rfl) (by kernel_rfl) (fun _ _ _ h => h) rfl (Or.inl ⟨by rfl, ?h1⟩) (by assumption) ?r1
 case h1 => (intro w hSw; obtain ⟨h0, h1⟩ := hSw; have c00 := h0.c 0 _ rfl; have c01 := h0.c 1 _ rfl; have c10 := h1.c 0 _ rfl; have c11 := h1.c 1 _ rfl; have c12 := h1.c 2 _ rfl; have c13 := h1.c 3 _ rfl; go_simp; with_reducible rfl)
 simp only [Act.put, List.setIfInBounds_toArray, List.set_cons_zero, List.set_cons_succ]
 refine wpAnyK_take 2 8 (v := ?v2) rfl (by kernel_rfl) (by kernel_rfl) (by kernel_rfl) (by kernel_rfl) (by kernel_rfl) (fun _ _ _ h => h) rfl (Or.inl ⟨by rfl, ?h2⟩) (by assumption) ?r2
 case h2 => (intro w hSw; obtain ⟨h0, h1⟩ := hSw; have c00 := h0.c 0 _ rfl; have c01 := h0.c 1 _ rfl; have c10 := h1.c 0 _ rfl; have c11 := h1.c 1 _ rfl; have c12 := h1.c 2 _ rfl; have c13 := h1.c 3 _ rfl; go_simp; with_reducible rfl)
 simp only [Act.put, List.setIfInBounds_toArray, List.set_cons_zero, List.set_cons_succ]
 refine wpAnyK_take 3 9 (v := ?v3) rfl (by kernel_rfl) (by kernel_rfl) (by kernel_rfl) (by kernel_rfl) (by kernel_rfl) (fun _ _ _ h => h) rfl (Or.inl ⟨by rfl, ?h3⟩) (by assumption) ?r3
 case h3 => (intro w hSw; obtain ⟨h0, h1⟩ := hSw; have c00 := h0.c 0 _ rfl; have c01 := h0.c 1 _ rfl; have c10 := h1.c 0 _ rfl; have c11 := h1.c 1 _ rfl; have c12 := h1.c 2 _ rfl; have c13 := h1.c 3 _ rfl; go_simp; with_reducible rfl)
 simp only [Act.put, List.setIfInBounds_toArray, List.set_cons_zero, List.set_cons_succ]
 refine wpAnyK_one 4 (by kernel_rfl) rfl (fun K hK => ?_)
 go_simp
 refine (CJ.out _).mono ?_
 rintro e' w5 ⟨rfl, bb⟩
 have G5 : Hid (Im.Bl w5 (A) [.complex .f64 u0 u1, .complex .f64 v0 v1] ∧ Im.Bl w5 (A + 1) [.int .u8 k, .complex .f64 a b, .complex .f64 s t, .float .f64 p] ∧ Im.Bl w5 (A + 1 + 1) [.int .u8 0, .complex .f64 0 0, .complex .f64 0 0, .float .f64 0, .slice none 0 0] ∧ Bw w w5) := ⟨GGd.out.1.bw bb, GGd.out.2.1.bw bb, GGd.out.2.2.1.bw bb, bw_trans GGd.out.2.2.2 bb⟩
 clear bb GGS
 have G5S : Im.Bl w5 (A) [.complex .f64 u0 u1, .complex .f64 v0 v1] ∧ Im.Bl w5 (A + 1) [.int .u8 k, .complex .f64 a b, .complex .f64 s t, .float .f64 p] := ⟨G5.out.1, G5.out.2.1⟩
 refine hK.out _ _ (fun _ _ => G5S) ?_
 clear hK K
 simp only [List.setIfInBounds_toArray, List.set_cons_zero, List.set_cons_succ]
 refine wpAnyK_one 5 (by kernel_rfl) rfl (fun K hK => ?_)
 go_simp
 refine (mirroredI (k := k) (a := a) (b := b) (s := s) (t := t) (p := p) (s' := s') (t' := t') w5 AC AB).mono ?_
 rintro e' w6 ⟨B, rfl, hB, gB, bb⟩
 have G6 : Hid (Im.Bl w6 (A) [.complex .f64 u0 u1, .complex .f64 v0 v1] ∧ Im.Bl w6 (A + 1) [.int .u8 k, .complex .f64 a b, .complex .f64 s t, .float .f64 p] ∧ Im.Bl w6 (A + 1 + 1) [.int .u8 0, .complex .f64 0 0, .complex .f64 0 0, .float .f64 0, .slice none 0 0] ∧ Bw w w6) := ⟨G5.out.1.bw bb, G5.out.2.1.bw bb, G5.out.2.2.1.bw bb, bw_trans G5.out.2.2.2 bb⟩
 have GB := hide (show w.heap.size ≤ B ∧ A + 1 + 1 < B ∧ Im.Bl w6 B [.int .u8 k, .complex .f64 x y, .complex .f64 s' t', .float .f64 p] from ⟨by have := G5.out.2.2.2.size; omega, by have := G5.out.2.2.1.lt; omega, gB⟩)
 clear bb G5S hB gB
 have G6S : Im.Bl w6 (A) [.complex .f64 u0 u1, .complex .f64 v0 v1] ∧ Im.Bl w6 (A + 1) [.int .u8 k, .complex .f64 a b, .complex .f64 s t, .float .f64 p] := ⟨G6.out.1, G6.out.2.1⟩
 refine hK.out _ _ (fun _ _ => G6S) ?_
 clear hK K
 simp only [List.setIfInBounds_toArray, List.set_cons_zero, List.set_cons_succ]
 refine wpAnyK_take 6 12 (v := ?ve6) rfl (by kernel_rfl) (by kernel_rfl) (by kernel_rfl) (by kernel_rfl) (by kernel_rfl) (fun _ _ _ h => h) rfl (Or.inl ⟨by rfl, ?he6⟩) (by assumption) ?re6
 case he6 => (intro w hSw; obtain ⟨h0, h1⟩ := hSw; have c00 := h0.c 0 _ rfl; have c01 := h0.c 1 _ rfl; have c10 := h1.c 0 _ rfl; have c11 := h1.c 1 _ rfl; have c12 := h1.c 2 _ rfl; have c13 := h1.c 3 _ rfl; go_simp; with_reducible rfl)
 simp only [Act.put, List.setIfInBounds_toArray, List.set_cons_zero, List.set_cons_succ]
 refine wpAnyK_take 7 13 (v := ?ve7) rfl (by kernel_rfl) (by kernel_rfl) (by kernel_rfl) (by kernel_rfl) (by kernel_rfl) (fun _ _ _ h => h) rfl (Or.inl ⟨by rfl, ?he7⟩) (by assumption) ?re7
 case he7 => (intro w hSw; obtain ⟨h0, h1⟩ := hSw; have c00 := h0.c 0 _ rfl; have c01 := h0.c 1 _ rfl; have c10 := h1.c 0 _ rfl; have c11 := h1.c 1 _ rfl; have c12 := h1.c 2 _ rfl; have c13 := h1.c 3 _ rfl; go_simp; with_reducible rfl)
 simp only [Act.put, List.setIfInBounds_toArray, List.set_cons_zero, List.set_cons_succ]
 have GZ : Hid (∀ V, V = Im.s5 w6 (A + 1 + 1) (.int .u8 k) (.complex .f64 a b) (.complex .f64 s t) (.float .f64 p) (.slice (some ⟨B, 0, none⟩) 1 1) → (Im.Bl V A [.complex .f64 u0 u1, .complex .f64 v0 v1] ∧ Im.Bl V (A + 1) [.int .u8 k, .complex .f64 a b, .complex .f64 s t, .float .f64 p]) ∧ Im.Bl V (A + 1 + 1) [.int .u8 k, .complex .f64 a b, .complex .f64 s t, .float .f64 p, .slice (some ⟨B, 0, none⟩) 1 1] ∧ Im.Bl V B [.int .u8 k, .complex .f64 x y, .complex .f64 s' t', .float .f64 p] ∧ w.heap.size ≤ B ∧ Bw w V) := by
  rintro V rfl
  have n1 := GB.out.2.1
  have n2 := HA.out
  exact ⟨⟨Im.s5_off G6.out.1 (by omega) _ _ _ _ _, Im.s5_off G6.out.2.1 (by omega) _ _ _ _ _⟩, Im.s5_at G6.out.2.2.1 _ _ _ _ _, Im.s5_off GB.out.2.2 (by omega) _ _ _ _ _, GB.out.1, Im.s5_bw G6.out.2.2.2 (by omega) _ _ _ _ _⟩
 have q0 := G6.out.2.2.1.c 0 _ rfl
 have r0 := G6.out.2.2.1.fz 0
 have q1 := G6.out.2.2.1.c 1 _ rfl
 have r1 := G6.out.2.2.1.fz 1
 have q2 := G6.out.2.2.1.c 2 _ rfl
 have r2 := G6.out.2.2.1.fz 2
 have q3 := G6.out.2.2.1.c 3 _ rfl
 have r3 := G6.out.2.2.1.fz 3
 have q4 := G6.out.2.2.1.c 4 _ rfl
 have r4 := G6.out.2.2.1.fz 4
 refine wpAnyK_one 8 (by kernel_rfl) rfl (fun K hK => ?_)
 go_simp
 obtain ⟨V, hV⟩ : ∃ V, V = Im.s5 w6 (A + 1 + 1) (.int .u8 k) (.complex .f64 a b) (.complex .f64 s t) (.float .f64 p) (.slice (some ⟨B, 0, none⟩) 1 1) := ⟨_, rfl⟩
 have GV := hide (GZ.out _ hV)
 unfold Im.s5 at hV
 rw [← hV]
 clear hV GZ q0 r0 q1 r1 q2 r2 q3 r3 q4 r4
 refine hK.out _ _ (fun _ _ => GV.out.1) ?_
 clear hK K
 simp only [List.setIfInBounds_toArray, List.set_cons_zero, List.set_cons_succ]
 refine wpAnyK_one 9 (by kernel_rfl) rfl (fun K hK => ?_)
 go_simp
 refine hK.out _ _ (fun h => absurd rfl h) ?_
 clear hK K
 simp only [List.setIfInBounds_toArray, List.set_cons_zero, List.set_cons_succ]
 refine wpAnyK_done (by kernel_rfl) ?_ _
 go_wp2
 refine bodyPost_ret (Im.res_refl rfl _ _ (A + 1 + 1) rfl GV.out.2.1) rfl ?_
 exact ⟨B, rfl, GV.out.2.2.2.1, GV.out.2.2.1, GV.out.2.2.2.2⟩
end Go.Proofs.YtnjkdfhhlcoaaaaGreat

