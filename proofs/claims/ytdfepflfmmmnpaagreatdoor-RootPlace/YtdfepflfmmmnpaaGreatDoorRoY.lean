/-
  OWN TEXT: the law RootPlace, for every length, angle and two numbers.
-/
import Derived.Test.YtdfepflfmmmnpaaGreatDoorRoX
namespace Go.Proofs.YtdfepflfmmmnpaaGreatDoor
open Go.ChangeShapes Go.WideShapes Go.ChangeAt Go.RowKit
open Bg
set_option linter.unusedVariables false
attribute [local go_sem] frombits_call tobits_call run_neg
set_option maxHeartbeats 8000000 in
set_option maxRecDepth 100000 in
theorem rootplace_any (l t a b c d m : Nat) (w : World) (hl : l < 18446744073709551616) (ht : t < 18446744073709551616) (ha : a < 18446744073709551616) (hb : b < 18446744073709551616) (hc : c < 18446744073709551616) (hd : d < 18446744073709551616) (hT : Tab w) (hw : 2 ≤ w.heap.size) :
    Calls Tryz.prog 4 #[.int .u64 (l : Int), .int .u64 (t : Int), .agg #[.int .u64 (a : Int), .int .u64 (b : Int)], .agg #[.int .u64 (c : Int), .int .u64 (d : Int)], .int .u64 (m : Int)] w fun e w' => e = .returned (.bool true) ∧ Below w.heap.size w w' := by
  have T : Hid (Tab w) := hT
  clear hT
  go_enter Tryz.func4, Tryz.ntmps4
  go_wp2_with fail
  have g0 : Bw w ((w.alloc (.cells #[.int .u64 (a : Int), .int .u64 (b : Int)] 24)).alloc (.cells #[.int .u64 (c : Int), .int .u64 (d : Int)] 24)) := Below.alloc (Below.alloc (Bw.refl w) (Nat.le_refl _) _) (by simp) _
  have c0 : ((w.alloc (.cells #[.int .u64 (a : Int), .int .u64 (b : Int)] 24)).alloc (.cells #[.int .u64 (c : Int), .int .u64 (d : Int)] 24)).cell? ⟨w.heap.size, 0, none⟩ = some (.int .u64 (a : Int)) := by simp
  have c1 : ((w.alloc (.cells #[.int .u64 (a : Int), .int .u64 (b : Int)] 24)).alloc (.cells #[.int .u64 (c : Int), .int .u64 (d : Int)] 24)).cell? ⟨w.heap.size, 1, none⟩ = some (.int .u64 (b : Int)) := by simp
  have c2 : ((w.alloc (.cells #[.int .u64 (a : Int), .int .u64 (b : Int)] 24)).alloc (.cells #[.int .u64 (c : Int), .int .u64 (d : Int)] 24)).cell? ⟨w.heap.size + 1, 0, none⟩ = some (.int .u64 (c : Int)) := by simp
  have c3 : ((w.alloc (.cells #[.int .u64 (a : Int), .int .u64 (b : Int)] 24)).alloc (.cells #[.int .u64 (c : Int), .int .u64 (d : Int)] 24)).cell? ⟨w.heap.size + 1, 1, none⟩ = some (.int .u64 (d : Int)) := by simp
  have hs : w.heap.size + 1 < ((w.alloc (.cells #[.int .u64 (a : Int), .int .u64 (b : Int)] 24)).alloc (.cells #[.int .u64 (c : Int), .int .u64 (d : Int)] 24)).heap.size := by simp
  generalize (w.alloc (.cells #[.int .u64 (a : Int), .int .u64 (b : Int)] 24)).alloc (.cells #[.int .u64 (c : Int), .int .u64 (d : Int)] 24) = W at *
  obtain ⟨B, hB⟩ : ∃ B, B = w.heap.size := ⟨_, rfl⟩
  obtain ⟨C, hC⟩ : ∃ C, C = w.heap.size + 1 := ⟨_, rfl⟩
  rw [← hC] at c2 c3 hs
  rw [← hB] at c0 c1
  have hs2 : B < W.heap.size := by omega
  refine (awake6_any _).mono ?_
  rintro e w1 ⟨rfl, b0⟩
  have G := bw_trans g0 b0
  have s0 := Below.size b0
  have d0 := (Below.cell b0 (p := ⟨B, 0, none⟩) hs2).trans c0
  have d1 := (Below.cell b0 (p := ⟨B, 1, none⟩) hs2).trans c1
  have d2 := (Below.cell b0 (p := ⟨C, 0, none⟩) hs).trans c2
  have d3 := (Below.cell b0 (p := ⟨C, 1, none⟩) hs).trans c3
  have z1 : B < w1.heap.size := by omega
  have z2 : C < w1.heap.size := by omega
  have sG := Below.size G
  have KE : Hid (∀ w' : World, Bw w1 w' → w'.cell? ⟨B, 0, none⟩ = some (.int .u64 (a : Int)) ∧ w'.cell? ⟨B, 1, none⟩ = some (.int .u64 (b : Int)) ∧ w'.cell? ⟨C, 0, none⟩ = some (.int .u64 (c : Int)) ∧ w'.cell? ⟨C, 1, none⟩ = some (.int .u64 (d : Int))) := by
    intro w' h
    exact ⟨(Below.cell h (p := ⟨B, 0, none⟩) z1).trans d0, (Below.cell h (p := ⟨B, 1, none⟩) z1).trans d1, (Below.cell h (p := ⟨C, 0, none⟩) z2).trans d2, (Below.cell h (p := ⟨C, 1, none⟩) z2).trans d3⟩
  have TE : Hid (∀ w' : World, Bw w1 w' → Tab w' ∧ 2 ≤ w'.heap.size) := by
    intro w' h
    have := Below.size h
    exact ⟨T.out.bw6 hw (bw_trans G h), by omega⟩
  have P1 : Hid (∀ wz, Bw w1 wz → Calls Tryz.prog 20 #[.float .f64 l, .float .f64 t] wz fun e w' => ∃ p q, e = .returned (.complex .f64 p q) ∧ plaR l t p q ∧ Bw w1 w' ∧ w'.cell? ⟨B, 0, none⟩ = some (.int .u64 (a : Int)) ∧ w'.cell? ⟨B, 1, none⟩ = some (.int .u64 (b : Int)) ∧ w'.cell? ⟨C, 0, none⟩ = some (.int .u64 (c : Int)) ∧ w'.cell? ⟨C, 1, none⟩ = some (.int .u64 (d : Int))) := fun wz hz =>
    (place_any l t wz ht).mono fun e w' ⟨p, q, h1, h2, h3⟩ => ⟨p, q, h1, h2, bw_trans hz h3, KE.out w' (bw_trans hz h3)⟩
  have P2 : Hid (∀ p q wz, plaR l t p q → Bw w1 wz → Calls Tryz.prog 21 #[.float .f64 l, .float .f64 t] wz fun e w' => ∃ p' q', e = .returned (.complex .f64 p' q') ∧ (simR p p' ∧ simR q q') ∧ Bw w1 w' ∧ w'.cell? ⟨B, 0, none⟩ = some (.int .u64 (a : Int)) ∧ w'.cell? ⟨B, 1, none⟩ = some (.int .u64 (b : Int)) ∧ w'.cell? ⟨C, 0, none⟩ = some (.int .u64 (c : Int)) ∧ w'.cell? ⟨C, 1, none⟩ = some (.int .u64 (d : Int))) := fun p q wz hp hz =>
    (rplace_any l t wz ht).mono fun e w' ⟨p', q', h1, h2, h3⟩ => ⟨p', q', h1, hp.sim ht h2, bw_trans hz h3, KE.out w' (bw_trans hz h3)⟩
  have P3 : Hid (∀ p q p' q' wz, (simR p p' ∧ simR q q') → Bw w1 wz → Calls Tryz.prog 16 #[.complex .f64 p q, .complex .f64 p' q'] wz fun e w' => e = .returned (.bool true) ∧ Bw w1 w' ∧ w'.cell? ⟨B, 0, none⟩ = some (.int .u64 (a : Int)) ∧ w'.cell? ⟨B, 1, none⟩ = some (.int .u64 (b : Int)) ∧ w'.cell? ⟨C, 0, none⟩ = some (.int .u64 (c : Int)) ∧ w'.cell? ⟨C, 1, none⟩ = some (.int .u64 (d : Int))) := fun p q p' q' wz hp hz =>
    (same6_yes hp.1 hp.2 wz).mono fun e w' ⟨h1, h2⟩ => ⟨h1, by rw [h2]; exact hz, by rw [h2]; exact KE.out wz hz⟩
  have P4 : Hid (∀ x y wz, Bw w1 wz → Calls Tryz.prog 6 #[.agg #[.int .u64 ((x : Nat) : Int), .int .u64 ((y : Nat) : Int)]] wz fun e w' => e = .returned (.complex .f64 x y) ∧ Bw w1 w' ∧ w'.cell? ⟨B, 0, none⟩ = some (.int .u64 (a : Int)) ∧ w'.cell? ⟨B, 1, none⟩ = some (.int .u64 (b : Int)) ∧ w'.cell? ⟨C, 0, none⟩ = some (.int .u64 (c : Int)) ∧ w'.cell? ⟨C, 1, none⟩ = some (.int .u64 (d : Int))) := fun x y wz hz =>
    (number6_any x y wz).mono fun e w' ⟨h1, h2⟩ => ⟨h1, bw_trans hz h2, KE.out w' (bw_trans hz h2)⟩
  have P5 : Hid (∀ wz, Bw w1 wz → Calls Tryz.prog 22 #[.complex .f64 a b, .complex .f64 c d, .float .f64 m] wz fun e w' => ∃ r, e = .returned (.bool r) ∧ neaR a b c d m r ∧ Bw w1 w' ∧ w'.cell? ⟨B, 0, none⟩ = some (.int .u64 (a : Int)) ∧ w'.cell? ⟨B, 1, none⟩ = some (.int .u64 (b : Int)) ∧ w'.cell? ⟨C, 0, none⟩ = some (.int .u64 (c : Int)) ∧ w'.cell? ⟨C, 1, none⟩ = some (.int .u64 (d : Int))) := fun wz hz =>
    (near_any6 a b c d m wz ha hb hc hd).mono fun e w' ⟨r, h1, h2, h3⟩ => ⟨r, h1, h2, bw_trans hz h3, KE.out w' (bw_trans hz h3)⟩
  have P6 : Hid (∀ r wz, neaR a b c d m r → Bw w1 wz → Calls Tryz.prog 23 #[.complex .f64 a b, .complex .f64 c d, .float .f64 m] wz fun e w' => e = .returned (.bool r) ∧ Bw w1 w' ∧ w'.cell? ⟨B, 0, none⟩ = some (.int .u64 (a : Int)) ∧ w'.cell? ⟨B, 1, none⟩ = some (.int .u64 (b : Int)) ∧ w'.cell? ⟨C, 0, none⟩ = some (.int .u64 (c : Int)) ∧ w'.cell? ⟨C, 1, none⟩ = some (.int .u64 (d : Int))) := fun r wz hr hz =>
    (rnear_any a b c d m wz (TE.out wz hz).1 (TE.out wz hz).2).mono fun e w' ⟨r', h1, h2, h3⟩ => ⟨by rw [h1, hr.sim h2], bw_trans hz h3, KE.out w' (bw_trans hz h3)⟩
  have HBB : Hid (B = w.heap.size) := hB
  have HCC : Hid (C = w.heap.size + 1) := hC
  rw [← hC, ← hB]
  clear b0 g0 c0 c1 c2 c3 hs hs2 s0 z1 z2 sG KE TE T hB hC
  go_wp2_with fail
  go_region_held (fun w' => w'.cell? ⟨B, 0, none⟩ = some (.int .u64 (a : Int)) ∧ w'.cell? ⟨B, 1, none⟩ = some (.int .u64 (b : Int)) ∧ w'.cell? ⟨C, 0, none⟩ = some (.int .u64 (c : Int)) ∧ w'.cell? ⟨C, 1, none⟩ = some (.int .u64 (d : Int))) (go_keep) (first
    | (go_at_call 20; refine (P1.out _ ?_).mono ?_; exact (Bw.refl _).drew; rintro e w2 ⟨p, q, rfl, hp, f2, k0, k1, k2, k3⟩)
    | (go_at_call 21; refine (P2.out _ _ _ hp f2).mono ?_; rintro e w3 ⟨p', q', rfl, hs, f3, k0, k1, k2, k3⟩)
    | (go_at_call 16; refine (P3.out _ _ _ _ _ hs f3).mono ?_; rintro e w4 ⟨rfl, f4, k0, k1, k2, k3⟩)
    | (go_at_call 6; refine (P4.out _ _ _ ?_).mono ?_; assumption; rintro e w5 ⟨rfl, f5, k0, k1, k2, k3⟩)
    | (go_at_call 22; refine (P5.out _ ?_).mono ?_; assumption; rintro e w6 ⟨r, rfl, hr, f6, k0, k1, k2, k3⟩)
    | (go_at_call 23; refine (P6.out _ _ hr ?_).mono ?_; assumption; rintro e w7 ⟨rfl, f7, k0, k1, k2, k3⟩))
  all_goals (try go_wp2)
  all_goals go_ret
  all_goals exact ⟨rfl, bw_trans G f7⟩
end Go.Proofs.YtdfepflfmmmnpaaGreatDoor
