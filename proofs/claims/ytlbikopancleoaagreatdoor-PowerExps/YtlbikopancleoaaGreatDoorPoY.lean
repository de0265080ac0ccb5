/-
  OWN TEXT: the law PowerExps, for every number.
-/
import Derived.Test.YtlbikopancleoaaGreatDoorJnBc
import Derived.Test.YtlbikopancleoaaGreatDoorPoC
import Derived.Deep.RegionHeld
namespace Go.Proofs.YtlbikopancleoaaGreatDoor
open Go.ChangeShapes Go.WideShapes Go.ChangeAt Go.RowKit
open Bg
set_option linter.unusedVariables false
attribute [local go_sem] frombits_call tobits_call run_neg
set_option maxHeartbeats 1000000 in
theorem number7b_any (x y : Nat) (w : World) : Calls Tryz.prog 6 #[.agg #[.int .u64 (x : Int), .int .u64 (y : Int)]] w fun e w' => e = .returned (.complex .f64 x y) ∧ Bw w w' := by
  have g : Bw w (w.alloc (.cells #[.int .u64 (x : Int), .int .u64 (y : Int)] 24)) := Below.alloc (Bw.refl w) (Nat.le_refl _) _
  have c0 : (w.alloc (.cells #[.int .u64 (x : Int), .int .u64 (y : Int)] 24)).cell? ⟨w.heap.size, 0, none⟩ = some (.int .u64 (x : Int)) := by simp
  have c1 : (w.alloc (.cells #[.int .u64 (x : Int), .int .u64 (y : Int)] 24)).cell? ⟨w.heap.size, 1, none⟩ = some (.int .u64 (y : Int)) := by simp
  go_enter Tryz.func6, Tryz.ntmps6
  go_wp2
  generalize w.alloc (.cells #[.int .u64 (x : Int), .int .u64 (y : Int)] 24) = W at *
  generalize w.heap.size = B at c0 c1 ⊢
  go_region_held (fun w' => w'.cell? ⟨B, 0, none⟩ = some (.int .u64 (x : Int)) ∧ w'.cell? ⟨B, 1, none⟩ = some (.int .u64 (y : Int))) (go_keep) (go_in)
  go_wp2
  go_ret
  exact ⟨rfl, g.drew⟩
set_option maxHeartbeats 8000000 in
set_option maxRecDepth 100000 in
theorem powerexps_any (x y : Nat) (w : World) (hx : x < 18446744073709551616) (hy : y < 18446744073709551616) (hT : Tab w) (hw : 2 ≤ w.heap.size) : Calls Tryz.prog 3 #[.agg #[.int .u64 (x : Int), .int .u64 (y : Int)]] w fun e w' => e = .returned (.bool true) ∧ Below w.heap.size w w' := by
  have T : Hid (Tab w) := hT
  clear hT
  have g0 : Bw w (w.alloc (.cells #[.int .u64 (x : Int), .int .u64 (y : Int)] 24)) := Below.alloc (Bw.refl w) (Nat.le_refl _) _
  go_enter Tryz.func3, Tryz.ntmps3
  go_wp2_with fail
  refine (number7b_any x y _).mono ?_
  rintro e w1 ⟨rfl, b⟩
  have G := bw_trans g0 b
  have s := Below.size G
  clear b g0
  go_wp2_with fail
  refine (cexp_any x y _ hx hy).mono ?_
  rintro e w2 ⟨p, q, rfl, h1, _, _, b⟩
  have H1 : Hid (cexR x y p q) := h1
  replace G := bw_trans G b
  replace s := Below.size G
  clear b h1
  go_wp2_with fail
  refine (rcexp_any x y _ hx hy (T.out.bw6 hw G) (by omega)).mono ?_
  rintro e w3 ⟨p', q', rfl, h1, _, _, b⟩
  have S : Hid (simR p p' ∧ simR q q') := H1.out.sim hx hy h1 (simR.refl _) (simR.refl _)
  replace G := bw_trans G b
  replace s := Below.size G
  clear b h1 H1
  go_wp2_with fail
  refine (rsame7_any S.out.1 S.out.2 _).mono ?_
  rintro e w3 ⟨rfl, rfl⟩
  clear S
  go_wp2_with fail
  refine (clog_any x y _ hx hy).mono ?_
  rintro e w4 ⟨p, q, rfl, h1, _, b⟩
  have H1 : Hid (cloR x y p q) := h1
  replace G := bw_trans G b
  replace s := Below.size G
  clear b h1
  go_wp2_with fail
  refine (rclog_any x y _ hx hy (T.out.bw6 hw G) (by omega)).mono ?_
  rintro e w5 ⟨p', q', rfl, h1, b⟩
  have S : Hid (simR p p' ∧ simR q q') := H1.out.sim h1
  replace G := bw_trans G b
  replace s := Below.size G
  clear b h1 H1
  go_wp2_with fail
  refine (rsame7_any S.out.1 S.out.2 _).mono ?_
  rintro e w5 ⟨rfl, rfl⟩
  clear S
  go_wp2
  go_ret
  exact ⟨rfl, G⟩
end Go.Proofs.YtlbikopancleoaaGreatDoor
