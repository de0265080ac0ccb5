/-
  OWN TEXT: what math.Nextafter returns of a finite float and its double; a float's fraction in memory of its own.
-/
import Derived.Test.YthfdcembajhgcaaBgZ
import Derived.Test.YthfdcembajhgcaaLsA
namespace Go.Proofs.Ythfdcembajhgcaa
open Go.ChangeShapes Go.WideShapes Go.ChangeAt Go.RowKit
open Bg
set_option linter.unusedVariables false
attribute [local go_sem] frombits_call tobits_call run_neg
def nx (s : Nat) : Nat := if Fl.rg s = 0 then s else s + 1
def tw (s : Nat) : Nat := Fl.wd (Fl.sg s) (Fl.rq (Fl.vl (Fl.rg s) * 2) 0)
theorem nan_rg {s : Nat} (h : Fl.rg s < 9218868437227405312) : Fl.nan s = false := by unfold Fl.nan; exact decide_eq_false (by omega)
theorem nan_tw (s : Nat) : Fl.nan (tw s) = false := Fl.nan_wd _ _ (Fl.rq_le _ _)
theorem key_tw (s : Nat) : Fl.key (tw s) = if Fl.sg s then -(Fl.rq (Fl.vl (Fl.rg s) * 2) 0 : Int) else Fl.rq (Fl.vl (Fl.rg s) * 2) 0 := Fl.key_wd _ _ (by have := Fl.rq_le (Fl.vl (Fl.rg s) * 2) 0; omega)
set_option maxHeartbeats 4000000 in
theorem next_any (s : Nat) (w : World) (hs : s < 18446744073709551616) (fs : Fl.rg s < 9218868437227405312) :
    Calls Try.prog 28 #[.float .f64 s, .float .f64 (tw s)] w fun e w' => e = .returned (.float .f64 (nx s)) ∧ w' = w := by
  have n1 := nan_rg fs
  have n2 := nan_tw s
  have k1 := key_tw s
  have k0 : Fl.key 0 = 0 := by decide
  have n0 : Fl.nan 0 = false := by decide
  have ks : Fl.key s = if Fl.sg s then -(Fl.rg s : Int) else Fl.rg s := rfl
  by_cases z : Fl.rg s = 0
  · have e1 : (FloatKind.f64.format.order s (tw s) == some .eq) = true := by
      rw [Fl.o_eq, Fl.eqF_of n1 n2, k1, ks, z]
      have : Fl.rq (Fl.vl 0 * 2) 0 = 0 := by decide
      rw [this]
      cases Fl.sg s <;> rfl
    have e2 : nx s = s := if_pos z
    rw [e2]
    generalize tw s = t at *
    clear k1 k0 ks z
    go_enter Try.func28, Try.ntmps28
    go_wp2_with (first
      | (go_at_call_of 48 s; refine (isNaN_any _ _).mono ?_; rintro e w' ⟨rfl, rfl⟩; rw [n1])
      | (go_at_call_of 48 t; refine (isNaN_any _ _).mono ?_; rintro e w' ⟨rfl, rfl⟩; rw [n2]))
    go_ret
    exact ⟨rfl, rfl⟩
  · have hu := Fl.two_up (Fl.rg s) fs z
    have e2 : nx s = s + 1 := if_neg z
    have e1 : (FloatKind.f64.format.order s (tw s) == some .eq) = false := by
      rw [Fl.o_eq, Fl.eqF_of n1 n2, k1, ks]
      apply decide_eq_false
      cases Fl.sg s <;> simp <;> omega
    have e3 : (FloatKind.f64.format.order s 0 == some .eq) = false := by
      rw [Fl.o_eq, Fl.eqF_of n1 n0, ks, k0]
      apply decide_eq_false
      cases Fl.sg s <;> simp <;> omega
    have e4 : (FloatKind.f64.format.order (tw s) s == some .gt) = !Fl.sg s := by
      rw [Fl.o_gt, Fl.ltF_of n1 n2, k1, ks]
      cases Fl.sg s
      · exact decide_eq_true (by simp; omega)
      · exact decide_eq_false (by simp; omega)
    have e5 : (FloatKind.f64.format.order s 0 == some .gt) = !Fl.sg s := by
      rw [Fl.o_gt, Fl.ltF_of n0 n1, k0, ks]
      cases Fl.sg s
      · exact decide_eq_true (by simp; omega)
      · exact decide_eq_false (by simp)
    have hlt : s + 1 < 18446744073709551616 := by
      have : Fl.rg s = s % 9223372036854775808 := rfl
      omega
    rw [e2]
    generalize tw s = t at *
    generalize hsg : Fl.sg s = b at *
    clear k1 k0 ks hsg hu e2
    go_enter Try.func28, Try.ntmps28
    go_wp2_with (first
      | (go_at_call_of 48 s; refine (isNaN_any _ _).mono ?_; rintro e w' ⟨rfl, rfl⟩; rw [n1])
      | (go_at_call_of 48 t; refine (isNaN_any _ _).mono ?_; rintro e w' ⟨rfl, rfl⟩; rw [n2]))
    go_ret
    exact ⟨rfl, rfl⟩
theorem rt_made (w : World) : Rt (w.alloc (.cells #[.bool false, .slice none 0 0, .slice none 0 0] 46)) w.heap.size false 0 0 := by
  refine ⟨⟨by simp, fun i x => ?_, fun i => World.frozen?_alloc_at _ _ _ _ rfl⟩, by simp, ⟨.slice none 0 0, by simp, nm_nil _⟩, ⟨.slice none 0 0, by simp, nm_nil _⟩⟩
  rw [World.cell?_alloc_at _ _ _ _ rfl]
  rcases i with _ | _ | _ | i <;> simp
theorem exact_rat (x c : Nat) (w : World) (hx : x < 18446744073709551616) (hf : Fl.rg x < 9218868437227405312) (hc : c = 1074) :
    Calls Try.prog 23 #[.float .f64 x] w fun e w' => ∃ B, e = .returned (.pointer (some ⟨B, 0, none⟩)) ∧ Rv w' B (Fl.val x) (2 ^ c) 2200 ∧ w.heap.size ≤ B ∧ Fr w w' := by
  have hm := rt_made w
  have hF : Fr w (w.alloc (.cells #[.bool false, .slice none 0 0, .slice none 0 0] 46)) := (Fr.refl w).alloc _ _
  obtain ⟨B, hB⟩ : ∃ B, B = w.heap.size := ⟨_, rfl⟩
  have HB : Hid (B = w.heap.size) := hB
  rw [← hB] at hm
  clear hB
  go_enter Try.func23, Try.ntmps23
  go_wp2_with fail
  rw [← HB.out]
  generalize w.alloc (.cells #[.bool false, .slice none 0 0, .slice none 0 0] 46) = w1 at *
  refine (setfloat_any B x c _ _ _ _ hm hx hf hc).mono ?_
  rintro e w2 ⟨rfl, hsv⟩
  have hfr := hsv.fr hF (by have := HB.out; omega)
  have hrv := hsv.2.1
  clear hsv
  go_wp2
  go_ret
  exact ⟨B, rfl, hrv, by have := HB.out; omega, hfr⟩
end Go.Proofs.Ythfdcembajhgcaa
