/-
  OWN TEXT: the laws RootOne and RootPlace, for every number.
-/
import Derived.Test.YtdfepflfmmmnpaaGreatDoorJnAv
import Derived.Test.YtdfepflfmmmnpaaGreatDoorRoE
import Derived.Test.YtdfepflfmmmnpaaGreatDoorRoD
import Derived.Deep.RegionHeld
namespace Go.Proofs.YtdfepflfmmmnpaaGreatDoor
open Go.ChangeShapes Go.WideShapes Go.ChangeAt Go.RowKit
open Bg
set_option linter.unusedVariables false
attribute [local go_sem] frombits_call tobits_call run_neg
theorem same_yes6 {a b : Nat} (h : simR a b) (w : World) : Calls Tryz.prog 11 #[.float .f64 a, .float .f64 b] w fun e w' => e = .returned (.bool true) ∧ w' = w := by
  have k := rsame_any a b w
  rw [h.same] at k
  exact k
set_option maxHeartbeats 1000000 in
theorem number6_any (x y : Nat) (w : World) : Calls Tryz.prog 6 #[.agg #[.int .u64 (x : Int), .int .u64 (y : Int)]] w fun e w' => e = .returned (.complex .f64 x y) ∧ Bw w w' := by
  have g : Bw w (w.alloc (.cells #[.int .u64 (x : Int), .int .u64 (y : Int)] 24)) := Below.alloc (Bw.refl w) (Nat.le_refl _) _
  have c0 : (w.alloc (.cells #[.int .u64 (x : Int), .int .u64 (y : Int)] 24)).cell? ⟨w.heap.size, 0, none⟩ = some (.int .u64 (x : Int)) := by simp
  have c1 : (w.alloc (.cells #[.int .u64 (x : Int), .int .u64 (y : Int)] 24)).cell? ⟨w.heap.size, 1, none⟩ = some (.int .u64 (y : Int)) := by simp
  go_enter Tryz.func6, Tryz.ntmps6
  go_wp2
  generalize w.alloc (.cells #[.int .u64 (x : Int), .int .u64 (y : Int)] 24) = W at *
  generalize w.heap.size = B at c0 c1 ⊢
  go_region_held (fun w' => w'.cell? ⟨B, 0, none⟩ = some (.int .u64 (x : Int)) ∧ w'.cell? ⟨B, 1, none⟩ = some (.int .u64 (y : Int))) (go_keep) (go_in)
  go_wp2
  go_ret
  exact ⟨rfl, g.drew⟩
set_option maxHeartbeats 8000000 in
set_option maxRecDepth 100000 in
theorem rootone_any (x y : Nat) (w : World) (hx : x < 18446744073709551616) (hy : y < 18446744073709551616) (hT : Tab w) (hw : 2 ≤ w.heap.size) : Calls Tryz.prog 3 #[.agg #[.int .u64 (x : Int), .int .u64 (y : Int)]] w fun e w' => e = .returned (.bool true) ∧ Below w.heap.size w w' := by
  have T : Hid (Tab w) := hT
  clear hT
  go_enter Tryz.func3, Tryz.ntmps3
  go_wp2_with fail
  have g0 : Bw w (w.alloc (.cells #[.int .u64 (x : Int), .int .u64 (y : Int)] 24)) := Below.alloc (Bw.refl w) (Nat.le_refl _) _
  have c0 : (w.alloc (.cells #[.int .u64 (x : Int), .int .u64 (y : Int)] 24)).cell? ⟨w.heap.size, 0, none⟩ = some (.int .u64 (x : Int)) := by simp
  have c1 : (w.alloc (.cells #[.int .u64 (x : Int), .int .u64 (y : Int)] 24)).cell? ⟨w.heap.size, 1, none⟩ = some (.int .u64 (y : Int)) := by simp
  have hs : w.heap.size < (w.alloc (.cells #[.int .u64 (x : Int), .int .u64 (y : Int)] 24)).heap.size := by simp
  generalize w.alloc (.cells #[.int .u64 (x : Int), .int .u64 (y : Int)] 24) = W at *
  obtain ⟨B, hB⟩ : ∃ B, B = w.heap.size := ⟨_, rfl⟩
  rw [← hB] at c0 c1 hs
  refine (awake6_any _).mono ?_
  rintro e w1 ⟨rfl, b⟩
  have d0 := (Below.cell b (p := ⟨B, 0, none⟩) hs).trans c0
  have d1 := (Below.cell b (p := ⟨B, 1, none⟩) hs).trans c1
  have G := bw_trans g0 b
  clear b g0 c0 c1 hs
  rw [← hB]
  have HBB : Hid (B = w.heap.size) := hB
  clear hB
  go_wp2_with fail
  refine (number6_any x y _).mono ?_
  rintro e w1b ⟨rfl, b⟩
  replace G := bw_trans G b
  clear b d0 d1
  go_wp2_with fail
  refine (polar_any x y _ hx hy).mono ?_
  rintro e w2 ⟨l, t, rfl, h1, h2, b⟩
  have H1 : Hid (lenR x y l ∧ offR y x t) := ⟨h1, h2⟩
  replace G := bw_trans G b
  have s := Below.size G
  clear b h1 h2
  go_wp2_with fail
  refine (rpolar_any x y _ hx hy (T.out.bw6 hw G) (by omega)).mono ?_
  rintro e w3 ⟨l', t', rfl, h1, h2, b⟩
  have S1 : Hid (simR l l' ∧ simR t t') := ⟨H1.out.1.sim h1, H1.out.2.sim h2⟩
  replace G := bw_trans G b
  clear b h1 h2 H1 s
  go_wp2_with fail
  refine (unit_any x y _ hx hy).mono ?_
  rintro e w4 ⟨u, v, o, rfl, h1, b⟩
  have H1 : Hid (uniR x y u v o) := h1
  replace G := bw_trans G b
  have s := Below.size G
  clear b h1
  go_wp2_with fail
  refine (runit_any x y _ hx hy (T.out.bw6 hw G) (by omega)).mono ?_
  rintro e w5 ⟨u', v', o', rfl, h1, b⟩
  have S2 : Hid (simR u u' ∧ simR v v') := ⟨(H1.out.sim h1).1, (H1.out.sim h1).2.1⟩
  have eo := (H1.out.sim h1).2.2
  subst eo
  replace G := bw_trans G b
  clear b h1 H1 s
  go_wp2_with fail
  refine (length_any x y _ hx hy).mono ?_
  rintro e w6 ⟨r, rfl, h1, b⟩
  have H1 : Hid (lenR x y r) := h1
  replace G := bw_trans G b
  have s := Below.size G
  clear b h1
  go_wp2_with fail
  refine (rlength_any x y _ hx hy (T.out.bw6 hw G) (by omega)).mono ?_
  rintro e w7 ⟨r', rfl, h1, b⟩
  have S3 : Hid (simR r r') := H1.out.sim h1
  replace G := bw_trans G b
  clear b h1 H1 s
  go_wp2_with fail
  refine (same_yes6 S3.out _).mono ?_
  rintro e w7 ⟨rfl, rfl⟩
  clear S3
  go_wp2_with fail
  refine (square_any x y _).mono ?_
  rintro e w8 ⟨q, rfl, h1, b⟩
  have H1 : Hid (sqaR x y q) := h1
  replace G := bw_trans G b
  clear b h1
  go_wp2_with fail
  refine (rsquare_any x y _).mono ?_
  rintro e w9 ⟨q', rfl, h1, b⟩
  have S3 : Hid (simR q q') := H1.out.sim h1 (simR.refl _) (simR.refl _)
  replace G := bw_trans G b
  clear b h1 H1
  go_wp2_with fail
  refine (same_yes6 S3.out _).mono ?_
  rintro e w9 ⟨rfl, rfl⟩
  clear S3
  go_wp2_with fail
  refine (root_any6 x y _ hx hy).mono ?_
  rintro e w10 ⟨p, m, rfl, h1, b⟩
  have H1 : Hid (rooR x y p m) := h1
  replace G := bw_trans G b
  have s := Below.size G
  clear b h1
  go_wp2_with fail
  refine (rroot_any x y _ hx hy (T.out.bw6 hw G) (by omega)).mono ?_
  rintro e w11 ⟨p', m', rfl, h1, b⟩
  have S3 : Hid (simR p p' ∧ simR m m') := H1.out.sim h1
  replace G := bw_trans G b
  clear b h1 H1 s
  go_wp2_with fail
  refine (same6_yes S3.out.1 S3.out.2 _).mono ?_
  rintro e w11 ⟨rfl, rfl⟩
  clear S3
  go_wp2_with fail
  refine (same_yes6 S1.out.1 _).mono ?_
  rintro e w11 ⟨rfl, rfl⟩
  go_wp2_with fail
  refine (same_yes6 S1.out.2 _).mono ?_
  rintro e w11 ⟨rfl, rfl⟩
  clear S1
  go_wp2_with fail
  refine (same6_yes S2.out.1 S2.out.2 _).mono ?_
  rintro e w11 ⟨rfl, rfl⟩
  clear S2 T
  go_wp2
  go_ret
  exact ⟨by simp, G⟩
end Go.Proofs.YtdfepflfmmmnpaaGreatDoor
