/-
  OWN TEXT: the law PowerReals, for every two numbers.
-/
import Derived.Test.YtlbikopancleoaaGreatDoorJnBc
import Derived.Test.YtlbikopancleoaaGreatDoorPoC
import Derived.Test.YtlbikopancleoaaGreatDoorJnBa
namespace Go.Proofs.YtlbikopancleoaaGreatDoor
open Go.ChangeShapes Go.WideShapes Go.ChangeAt Go.RowKit
open Bg
set_option linter.unusedVariables false
attribute [local go_sem] frombits_call tobits_call run_neg
set_option maxHeartbeats 1000000 in
theorem number7b_any (x y : Nat) (w : World) : Calls Tryz.prog 6 #[.agg #[.int .u64 (x : Int), .int .u64 (y : Int)]] w fun e w' => e = .returned (.complex .f64 x y) ∧ Bw w w' := by
  have g : Bw w (w.alloc (.cells #[.int .u64 (x : Int), .int .u64 (y : Int)] 24)) := Below.alloc (Bw.refl w) (Nat.le_refl _) _
  have c0 : (w.alloc (.cells #[.int .u64 (x : Int), .int .u64 (y : Int)] 24)).cell? ⟨w.heap.size, 0, none⟩ = some (.int .u64 (x : Int)) := by simp
  have c1 : (w.alloc (.cells #[.int .u64 (x : Int), .int .u64 (y : Int)] 24)).cell? ⟨w.heap.size, 1, none⟩ = some (.int .u64 (y : Int)) := by simp
  go_enter Tryz.func6, Tryz.ntmps6
  go_wp2
  generalize w.alloc (.cells #[.int .u64 (x : Int), .int .u64 (y : Int)] 24) = W at *
  generalize w.heap.size = B at c0 c1 ⊢
  go_region_held (fun w' => w'.cell? ⟨B, 0, none⟩ = some (.int .u64 (x : Int)) ∧ w'.cell? ⟨B, 1, none⟩ = some (.int .u64 (y : Int))) (go_keep) (go_in)
  go_wp2
  go_ret
  exact ⟨rfl, g.drew⟩
set_option maxHeartbeats 8000000 in
set_option maxRecDepth 100000 in
theorem powerreals_any (x y u v : Nat) (w : World) (hx : x < 18446744073709551616) (hy : y < 18446744073709551616) (hu : u < 18446744073709551616) (hv : v < 18446744073709551616) (hT : Tab w) (hw : 2 ≤ w.heap.size) : Calls Tryz.prog 4 #[.agg #[.int .u64 (x : Int), .int .u64 (y : Int)], .agg #[.int .u64 (u : Int), .int .u64 (v : Int)]] w fun e w' => e = .returned (.bool true) ∧ Below w.heap.size w w' := by
  have T : Hid (Tab w) := hT
  clear hT
  go_enter Tryz.func4, Tryz.ntmps4
  go_wp2_with fail
  have g0 : Bw w ((w.alloc (.cells #[.int .u64 (x : Int), .int .u64 (y : Int)] 24)).alloc (.cells #[.int .u64 (u : Int), .int .u64 (v : Int)] 24)) := Below.alloc (Below.alloc (Bw.refl w) (Nat.le_refl _) _) (by simp) _
  have c0 : ((w.alloc (.cells #[.int .u64 (x : Int), .int .u64 (y : Int)] 24)).alloc (.cells #[.int .u64 (u : Int), .int .u64 (v : Int)] 24)).cell? ⟨w.heap.size, 0, none⟩ = some (.int .u64 (x : Int)) ∧ ((w.alloc (.cells #[.int .u64 (x : Int), .int .u64 (y : Int)] 24)).alloc (.cells #[.int .u64 (u : Int), .int .u64 (v : Int)] 24)).cell? ⟨w.heap.size, 1, none⟩ = some (.int .u64 (y : Int)) ∧ ((w.alloc (.cells #[.int .u64 (x : Int), .int .u64 (y : Int)] 24)).alloc (.cells #[.int .u64 (u : Int), .int .u64 (v : Int)] 24)).cell? ⟨w.heap.size + 1, 0, none⟩ = some (.int .u64 (u : Int)) ∧ ((w.alloc (.cells #[.int .u64 (x : Int), .int .u64 (y : Int)] 24)).alloc (.cells #[.int .u64 (u : Int), .int .u64 (v : Int)] 24)).cell? ⟨w.heap.size + 1, 1, none⟩ = some (.int .u64 (v : Int)) := by simp
  have hs : w.heap.size + 1 < ((w.alloc (.cells #[.int .u64 (x : Int), .int .u64 (y : Int)] 24)).alloc (.cells #[.int .u64 (u : Int), .int .u64 (v : Int)] 24)).heap.size := by simp
  generalize (w.alloc (.cells #[.int .u64 (x : Int), .int .u64 (y : Int)] 24)).alloc (.cells #[.int .u64 (u : Int), .int .u64 (v : Int)] 24) = W at *
  obtain ⟨B, hB⟩ : ∃ B, B = w.heap.size := ⟨_, rfl⟩
  obtain ⟨C, hC⟩ : ∃ C, C = w.heap.size + 1 := ⟨_, rfl⟩
  rw [← hC] at hs
  rw [← hC, ← hB] at c0
  rw [← hC, ← hB]
  have hs2 : B < W.heap.size := by omega
  have HBC : Hid (B = w.heap.size ∧ C = w.heap.size + 1) := ⟨hB, hC⟩
  clear hB hC
  have S0 : W.drew.cell? ⟨B, 0, none⟩ = some (.int .u64 (x : Int)) ∧ W.drew.cell? ⟨B, 1, none⟩ = some (.int .u64 (y : Int)) ∧ W.drew.cell? ⟨C, 0, none⟩ = some (.int .u64 (u : Int)) ∧ W.drew.cell? ⟨C, 1, none⟩ = some (.int .u64 (v : Int)) := c0
  have g1 : Bw w W.drew := g0.drew
  have hs3 : B < W.drew.heap.size := hs2
  have hs4 : C < W.drew.heap.size := hs
  clear g0 c0 hs hs2
  refine wp_region_K (fun w' => w'.cell? ⟨B, 0, none⟩ = some (.int .u64 (x : Int)) ∧ w'.cell? ⟨B, 1, none⟩ = some (.int .u64 (y : Int)) ∧ w'.cell? ⟨C, 0, none⟩ = some (.int .u64 (u : Int)) ∧ w'.cell? ⟨C, 1, none⟩ = some (.int .u64 (v : Int))) 5 6 #[false, false, false, false, false, false] (by kernel_rfl) (by kernel_rfl) (by kernel_rfl) ?_
  generalize W.drew = W0 at *
  refine wpAnyK_take 0 7 (v := ?v0) rfl (by kernel_rfl) (by kernel_rfl) (by kernel_rfl) (by kernel_rfl) (by kernel_rfl) (fun _ _ _ h => h) rfl (Or.inl ⟨by rfl, ?h0⟩) (by assumption) ?r0
  case h0 => (intro w hSw; go_simp; with_reducible rfl)
  simp only [Act.put, List.setIfInBounds_toArray, List.set_cons_zero, List.set_cons_succ]
  refine wpAnyK_take 2 9 (v := ?v2) rfl (by kernel_rfl) (by kernel_rfl) (by kernel_rfl) (by kernel_rfl) (by kernel_rfl) (fun _ _ _ h => h) rfl (Or.inl ⟨by rfl, ?h2⟩) (by assumption) ?r2
  case h2 => (intro w hSw; go_simp; with_reducible rfl)
  simp only [Act.put, List.setIfInBounds_toArray, List.set_cons_zero, List.set_cons_succ]
  refine wpAnyK_one 1 (by kernel_rfl) rfl (fun K hK => ?_)
  go_simp
  refine (number7b_any x y _).mono ?_
  rintro e w1 ⟨rfl, b⟩
  have S1 : w1.cell? ⟨B, 0, none⟩ = some (.int .u64 (x : Int)) ∧ w1.cell? ⟨B, 1, none⟩ = some (.int .u64 (y : Int)) ∧ w1.cell? ⟨C, 0, none⟩ = some (.int .u64 (u : Int)) ∧ w1.cell? ⟨C, 1, none⟩ = some (.int .u64 (v : Int)) := ⟨(Below.cell b (p := ⟨B, 0, none⟩) hs3).trans S0.1, (Below.cell b (p := ⟨B, 1, none⟩) hs3).trans S0.2.1, (Below.cell b (p := ⟨C, 0, none⟩) hs4).trans S0.2.2.1, (Below.cell b (p := ⟨C, 1, none⟩) hs4).trans S0.2.2.2⟩
  have G := bw_trans g1 b
  have sz := Below.size b
  have hs5 : B < w1.heap.size := by omega
  have hs6 : C < w1.heap.size := by omega
  clear S0 b g1 hs3 hs4 sz
  refine hK.out _ _ (fun _ _ => S1) ?_
  clear hK K
  simp only [List.setIfInBounds_toArray, List.set_cons_zero, List.set_cons_succ]
  refine wpAnyK_one 3 (by kernel_rfl) rfl (fun K hK => ?_)
  go_simp
  refine (number7b_any u v _).mono ?_
  rintro e w2 ⟨rfl, b⟩
  have S2 : w2.cell? ⟨B, 0, none⟩ = some (.int .u64 (x : Int)) ∧ w2.cell? ⟨B, 1, none⟩ = some (.int .u64 (y : Int)) ∧ w2.cell? ⟨C, 0, none⟩ = some (.int .u64 (u : Int)) ∧ w2.cell? ⟨C, 1, none⟩ = some (.int .u64 (v : Int)) := ⟨(Below.cell b (p := ⟨B, 0, none⟩) hs5).trans S1.1, (Below.cell b (p := ⟨B, 1, none⟩) hs5).trans S1.2.1, (Below.cell b (p := ⟨C, 0, none⟩) hs6).trans S1.2.2.1, (Below.cell b (p := ⟨C, 1, none⟩) hs6).trans S1.2.2.2⟩
  replace G := bw_trans G b
  clear S1 b hs5 hs6
  refine hK.out _ _ (fun _ _ => S2) ?_
  clear hK K
  simp only [List.setIfInBounds_toArray, List.set_cons_zero, List.set_cons_succ]
  refine wpAnyK_one 4 (by kernel_rfl) rfl (fun K hK => ?_)
  go_simp
  refine hK.out _ _ (fun _ _ => S2) ?_
  clear hK K S2
  simp only [List.setIfInBounds_toArray, List.set_cons_zero, List.set_cons_succ]
  refine wpAnyK_one 5 (by kernel_rfl) rfl (fun K hK => ?_)
  go_simp
  refine hK.out _ _ (fun h => absurd rfl h) ?_
  clear hK K
  simp only [List.setIfInBounds_toArray, List.set_cons_zero, List.set_cons_succ]
  refine wpAnyK_done (by kernel_rfl) ?_ _
  have s := Below.size G
  go_wp2_with fail
  refine (creal_any x y u _ hx hy).mono ?_
  rintro e w3 ⟨p, q, rfl, h1, b⟩
  have H1 : Hid (creR x y u p q) := h1
  replace G := bw_trans G b
  replace s := Below.size G
  clear b h1
  go_wp2_with fail
  refine (rcreal_any x y u _ hx hy (T.out.bw6 hw G) (by omega)).mono ?_
  rintro e w4 ⟨p', q', rfl, h1, b⟩
  have S : Hid (simR p p' ∧ simR q q') := H1.out.sim h1
  replace G := bw_trans G b
  clear b h1 H1 s
  go_wp2_with fail
  refine (rsame7_any S.out.1 S.out.2 _).mono ?_
  rintro e w4 ⟨rfl, rfl⟩
  clear S
  have s := Below.size G
  go_wp2_with fail
  refine (cpower_any x y u v _ hx hy).mono ?_
  rintro e w3 ⟨p, q, rfl, h1, b⟩
  have H1 : Hid (cpoR x y u v p q) := h1
  replace G := bw_trans G b
  replace s := Below.size G
  clear b h1
  go_wp2_with fail
  refine (rcpower_any x y u v _ hx hy (T.out.bw6 hw G) (by omega)).mono ?_
  rintro e w4 ⟨p', q', rfl, h1, b⟩
  have S : Hid (simR p p' ∧ simR q q') := H1.out.sim h1
  replace G := bw_trans G b
  clear b h1 H1 s
  go_wp2_with fail
  refine (rsame7_any S.out.1 S.out.2 _).mono ?_
  rintro e w4 ⟨rfl, rfl⟩
  clear S
  go_wp2
  go_ret
  exact ⟨rfl, G⟩
end Go.Proofs.YtlbikopancleoaaGreatDoor
