/-
  OWN TEXT: the law FloatSums over an empty list.
-/
import Derived.Test.YthfdcembajhgcaaBhT
namespace Go.Proofs.Ythfdcembajhgcaa
open Go.ChangeShapes Go.WideShapes Go.ChangeAt Go.RowKit
open Bg
set_option linter.unusedVariables false
attribute [local go_sem] frombits_call tobits_call run_neg
theorem sum_nil (a : Option Addr) (c : Nat) (w : World) : Calls Try.prog 7 #[.slice a 0 c] w fun e w' => e = .returned (.float .f64 0) ∧ w' = w := by
  go_enter Try.func7, Try.ntmps7
  go_wp2
  go_ret
  exact ⟨rfl, rfl⟩
theorem rsum_nil (a : Option Addr) (c : Nat) (w : World) : Calls Try.prog 11 #[.slice a 0 c] w fun e w' => e = .returned (.float .f64 0) ∧ w' = w := by
  go_enter Try.func11, Try.ntmps11
  go_wp2
  go_ret
  exact ⟨rfl, rfl⟩
set_option maxHeartbeats 8000000 in
set_option maxRecDepth 100000 in
theorem floatsums_nil (ad : Option Addr) (cap : Nat) (x y : Nat) (w : World) (hx : x < 18446744073709551616) (hy : y < 18446744073709551616) :
    Calls Try.prog 3 #[.slice ad 0 cap, .int .u64 (x : Int), .int .u64 (y : Int)] w fun e w' => e = .returned (.bool true) ∧ Below w.heap.size w w' := by
  obtain ⟨i0, hi, hz0, hz1, hz2⟩ := info_parts info_f64
  have hu : Try.prog.underlying 24 = some (.slice 25) := by kernel_rfl
  obtain ⟨B, hB⟩ : ∃ B, w.heap.size = B := ⟨_, rfl⟩
  have HB : Hid (w.heap.size = B) := hB
  rw [hB]
  clear hB
  go_enter Try.func3, Try.ntmps3
  go_wp2_with fail
  go_loopw [7, 8] (fun v i wr => v = .slice none 0 0 ∧ i = .int .i64 0 ∧ wr = w) (fun _ _ _ => 0)
  case atStart => exact ⟨rfl, rfl, rfl⟩
  case round =>
    obtain ⟨rfl, rfl, rfl⟩ := hrel
    go_wp2_with (first
        | (at_builtin; refine wpList_append_lies _ (by rfl) _ _ 24 (by rfl) B 25 i0 (.float .f64 0) 1 8 hu hi hz0 hz1 hz2 rfl (by decide) _ 0 [] (by rfl) (World.ownsRow_nil _ _ _ _) ⟨_, 0, none⟩ 1 1 [.float .f64 4635118810238550016] (by rfl) rfl ?e1 ?e2 (by decide) ?e3 ?e4 ?e5 _ rfl ?_)
        | fail)
    case e1 =>
      intro j u hj
      match j, hj with
      | 0, hj => simp at hj; subst hj; simp [Addr.add]
    case e2 => intro u hu; simp at hu; subst hu; rfl
    case e3 => unfold maxLen; omega
    case e4 => omega
    case e5 => have := HB.out; simp; omega
    intro g3 cp3 w3 hown3 hgrow3 hat3 hlt3
    have hb3 : Below B wr w3 := ((Below.refl B wr).alloc (by have := HB.out; omega) _).grown hgrow3 (by have := HB.out; simp; omega) (fun j hj => by cases hj)
    have hg3 := (hown3.lt g3 rfl).2
    have hcp3 : 1 ≤ cp3 := by
      rcases hown3.2 with ⟨e, _⟩ | ⟨g', cp', _, e, _, _, h, _⟩
      · cases e
      · cases e; exact h
    have h5 : w3.cell? ⟨g3, 0, none⟩ = some (.float .f64 4635118810238550016) := by
      rw [hown3.cellAt 0 (by omega)]; rfl
    clear hown3 hgrow3 hat3 hlt3
    go_wp2_with (first
      | (go_at_call 7; refine (sum_nil _ _ _).mono ?_; rintro e w4 ⟨rfl, rfl⟩)
      | fail)
    go_loopw [11] (fun i wz => i = .int .i64 0 ∧ wz = w4) (fun _ _ => 0)
    case atStart => exact ⟨rfl, rfl⟩
    case round =>
      obtain ⟨rfl, rfl⟩ := hrel
      go_wp2_with (first
        | (go_at_call 6; refine (f_any _ _).mono ?_; rintro e w' ⟨rfl, rfl⟩)
        | fail)
      refine (exact_fr x y _ hx hy).mono ?_
      rintro e w5 ⟨a1, l1, rfl, hex, f5⟩
      have HE : Hid _ := hex
      clear hex
      go_wp2_with (first
        | (go_at_call 6; refine (f_any _ _).mono ?_; rintro e w' ⟨rfl, rfl⟩)
        | fail)
      refine (rexact_any x y _ hx hy).mono ?_
      rintro e w6 ⟨a2, l2, rfl, hrx, f6⟩
      obtain ⟨hsm1, hsm2⟩ := ex_same HE.out hrx
      clear HE hrx
      have f7 := f5.trans f6
      clear f5 f6
      have c1 : w6.cell? ⟨g3, 0, none⟩ = some (.float .f64 4635118810238550016) := (f7.1.cell (p := ⟨g3, 0, none⟩) hg3).trans h5
      have hss := same_refl 0
      have hfin : Below B wr w6 := hb3.trans (f7.1.mono (by have := hb3.size; have := HB.out; omega))
      clear f7 h5 hb3
      go_wp2_with (first
        | (go_at_call 11; refine (rsum_nil _ _ _).mono ?_; rintro e w8 ⟨rfl, rfl⟩)
        | (go_at_call 8; refine (rsame_any _ _ _).mono ?_; rintro e w9 ⟨rfl, rfl⟩))
      all_goals go_ret
      all_goals exact ⟨rfl, hfin⟩
end Go.Proofs.Ythfdcembajhgcaa
