/-
  OWN TEXT: the laws PowerSines and PowerSheets, for every number.
-/
import Derived.Test.YtlbikopancleoaaDoorJnBc
import Derived.Test.YtlbikopancleoaaDoorPoC
import Derived.Deep.RegionHeld
namespace Go.Proofs.YtlbikopancleoaaDoor
open Go.ChangeShapes Go.WideShapes Go.ChangeAt Go.RowKit
open Bg
set_option linter.unusedVariables false
attribute [local go_sem] frombits_call tobits_call run_neg
set_option maxHeartbeats 1000000 in
theorem number7_any (x y : Nat) (w : World) : Calls Tryd.prog 5 #[.agg #[.int .u64 (x : Int), .int .u64 (y : Int)]] w fun e w' => e = .returned (.complex .f64 x y) ∧ Bw w w' := by
  have g : Bw w (w.alloc (.cells #[.int .u64 (x : Int), .int .u64 (y : Int)] 24)) := Below.alloc (Bw.refl w) (Nat.le_refl _) _
  have c0 : (w.alloc (.cells #[.int .u64 (x : Int), .int .u64 (y : Int)] 24)).cell? ⟨w.heap.size, 0, none⟩ = some (.int .u64 (x : Int)) := by simp
  have c1 : (w.alloc (.cells #[.int .u64 (x : Int), .int .u64 (y : Int)] 24)).cell? ⟨w.heap.size, 1, none⟩ = some (.int .u64 (y : Int)) := by simp
  go_enter Tryd.func5, Tryd.ntmps5
  go_wp2
  generalize w.alloc (.cells #[.int .u64 (x : Int), .int .u64 (y : Int)] 24) = W at *
  generalize w.heap.size = B at c0 c1 ⊢
  go_region_held (fun w' => w'.cell? ⟨B, 0, none⟩ = some (.int .u64 (x : Int)) ∧ w'.cell? ⟨B, 1, none⟩ = some (.int .u64 (y : Int))) (go_keep) (go_in)
  go_wp2
  go_ret
  exact ⟨rfl, g.drew⟩
set_option maxHeartbeats 8000000 in
set_option maxRecDepth 100000 in
theorem powersheets_any (x y : Nat) (n : Int) (w : World) (hx : x < 18446744073709551616) (hy : y < 18446744073709551616) (hn : -9223372036854775808 ≤ n) (hn' : n ≤ 9223372036854775807) (hT : Tab w) (hw : 2 ≤ w.heap.size) : Calls Tryd.prog 3 #[.agg #[.int .u64 (x : Int), .int .u64 (y : Int)], .int .i64 n] w fun e w' => e = .returned (.bool true) ∧ Below w.heap.size w w' := by
  have T : Hid (Tab w) := hT
  clear hT
  have g0 : Bw w (w.alloc (.cells #[.int .u64 (x : Int), .int .u64 (y : Int)] 24)) := Below.alloc (Bw.refl w) (Nat.le_refl _) _
  have c0 : (w.alloc (.cells #[.int .u64 (x : Int), .int .u64 (y : Int)] 24)).cell? ⟨w.heap.size, 0, none⟩ = some (.int .u64 (x : Int)) := by simp
  have c1 : (w.alloc (.cells #[.int .u64 (x : Int), .int .u64 (y : Int)] 24)).cell? ⟨w.heap.size, 1, none⟩ = some (.int .u64 (y : Int)) := by simp
  have hs : w.heap.size < (w.alloc (.cells #[.int .u64 (x : Int), .int .u64 (y : Int)] 24)).heap.size := by simp
  go_enter Tryd.func3, Tryd.ntmps3
  go_wp2_with fail
  generalize w.alloc (.cells #[.int .u64 (x : Int), .int .u64 (y : Int)] 24) = W at *
  obtain ⟨B, hB⟩ : ∃ B, B = w.heap.size := ⟨_, rfl⟩
  rw [← hB] at c0 c1 hs
  rw [← hB]
  have HBB : Hid (B = w.heap.size) := hB
  clear hB
  refine (number7_any x y _).mono ?_
  rintro e w1 ⟨rfl, b1⟩
  go_wp2_with fail
  refine (csheet_any x y n _ hx hy hn hn').mono ?_
  rintro e w2 ⟨p, q, o, rfl, h1, b2⟩
  have H1 : Hid (sheR x y n p q o) := h1
  have b12 := bw_trans b1 b2
  have d0 := (Below.cell b12 (p := ⟨B, 0, none⟩) hs).trans c0
  have d1 := (Below.cell b12 (p := ⟨B, 1, none⟩) hs).trans c1
  have G := bw_trans g0 b12
  clear b1 b2 b12 c0 c1 g0 h1 hs
  go_wp2_with fail
  refine (number7_any x y _).mono ?_
  rintro e w3 ⟨rfl, b⟩
  replace G := bw_trans G b
  have s := Below.size G
  clear b d0 d1
  go_wp2_with fail
  refine (rcsheet_any x y n _ hx hy (T.out.bw6 hw G) (by omega) hn hn').mono ?_
  rintro e w4 ⟨p', q', o', rfl, h1, b⟩
  have S : Hid (simR p p' ∧ simR q q') := ⟨(H1.out.sim h1).1, (H1.out.sim h1).2.1⟩
  have eo := (H1.out.sim h1).2.2
  subst eo
  replace G := bw_trans G b
  clear b h1 H1 s T
  cases o
  all_goals
    go_wp2_with fail
    refine (rsame7_any S.out.1 S.out.2 _).mono ?_
    rintro e w4 ⟨rfl, rfl⟩
    go_wp2
    go_ret
    exact ⟨rfl, G⟩
end Go.Proofs.YtlbikopancleoaaDoor
