/-
  OWN TEXT: the law RootMirror, for every number.
-/
import Derived.Test.YtpfaaimfembhdaaJRoOToRoW
import Derived.Test.YtpfaaimfembhdaaJRmG
import Derived.Test.YtpfaaimfembhdaaJRpA
import Derived.Deep.RegionHeld
namespace Go.Proofs.Ytpfaaimfembhdaa
open Go.ChangeShapes Go.WideShapes Go.ChangeAt Go.RowKit
set_option linter.unusedVariables false
attribute [local go_sem] frombits_call tobits_call run_neg
set_option maxHeartbeats 1000000 in
theorem number6m_any (x y : Nat) (w : World) : Calls Try.prog 5 #[.agg #[.int .u64 (x : Int), .int .u64 (y : Int)]] w fun e w' => e = .returned (.complex .f64 x y) ∧ Bw w w' := by
  have g : Bw w (w.alloc (.cells #[.int .u64 (x : Int), .int .u64 (y : Int)] 24)) := Below.alloc (Bw.refl w) (Nat.le_refl _) _
  have c0 : (w.alloc (.cells #[.int .u64 (x : Int), .int .u64 (y : Int)] 24)).cell? ⟨w.heap.size, 0, none⟩ = some (.int .u64 (x : Int)) := by simp
  have c1 : (w.alloc (.cells #[.int .u64 (x : Int), .int .u64 (y : Int)] 24)).cell? ⟨w.heap.size, 1, none⟩ = some (.int .u64 (y : Int)) := by simp
  go_enter Try.func5, Try.ntmps5
  go_wp2
  generalize w.alloc (.cells #[.int .u64 (x : Int), .int .u64 (y : Int)] 24) = W at *
  generalize w.heap.size = B at c0 c1 ⊢
  go_region_held (fun w' => w'.cell? ⟨B, 0, none⟩ = some (.int .u64 (x : Int)) ∧ w'.cell? ⟨B, 1, none⟩ = some (.int .u64 (y : Int))) (go_keep) (go_in)
  go_wp2
  go_ret
  exact ⟨rfl, g.drew⟩
theorem key_rung {r : Nat} (h : r ≤ 9218868437227405312) : Fl.key r = (r : Int) := by
  obtain ⟨h1, h2⟩ := rg_rung h
  unfold Fl.key; rw [h2, if_neg (by decide), h1]
theorem le_rung {r s : Nat} (hr : r ≤ 9218868437227405312) (hs : s ≤ 9218868437227405312) : Fl.leF r s = decide (r ≤ s) := by
  rw [Fl.leF_of (nan_rung hr) (nan_rung hs), key_rung hr, key_rung hs]
  by_cases c : r ≤ s
  · rw [decide_eq_true c, decide_eq_true (by omega)]
  · rw [decide_eq_false c, decide_eq_false (by omega)]
theorem lt_rung {r s : Nat} (hr : r ≤ 9218868437227405312) (hs : s ≤ 9218868437227405312) : Fl.ltF r s = decide (r < s) := by
  rw [Fl.ltF_of (nan_rung hr) (nan_rung hs), key_rung hr, key_rung hs]
  by_cases c : r < s
  · rw [decide_eq_true c, decide_eq_true (by omega)]
  · rw [decide_eq_false c, decide_eq_false (by omega)]
theorem max_run {r s : Nat} (hr : r ≤ 9218868437227405312) (hs : s ≤ 9218868437227405312) (ts : Array TypeId) (t : TypeId) (w : World) : (Builtin.max_ ts t #[.float .f64 r, .float .f64 s]).run Try.prog w = .ok (.float .f64 (max r s)) w := by
  have g1 := Fl.o_lt r s
  have g2 := Fl.o_gt r s
  have g3 := Fl.o_eq r s
  rw [lt_rung hr hs] at g1
  rw [lt_rung hs hr] at g2
  rw [Fl.eqF_of (nan_rung hr) (nan_rung hs), key_rung hr, key_rung hs] at g3
  have hd : (FloatKind.f64.decode r).neg = false := by
    rcases Nat.lt_or_ge r 9218868437227405312 with g | g
    · obtain ⟨m, k, hm, _⟩ := Fl.read_fin (x := r) (by rw [(rg_rung hr).1]; exact g)
      show (Ieee.double.read r).neg = false
      rw [hm]
      exact (rg_rung hr).2
    · have e : r = 9218868437227405312 := by omega
      subst e
      decide
  have e : Builtin.max_ ts t #[.float .f64 r, .float .f64 s] = Builtin.max2 (.float .f64 r) (.float .f64 s) := by
    show List.foldlM Builtin.max2 (.float .f64 r) [.float .f64 s] = _
    simp [List.foldlM]
  rw [e]
  unfold Builtin.max2
  simp only []
  cases ho : FloatKind.f64.format.order r s with
  | none =>
    rw [ho] at g1 g2 g3
    have a1 := of_decide_eq_false g1.symm
    have a2 := of_decide_eq_false g2.symm
    have a3 := of_decide_eq_false g3.symm
    omega
  | some o =>
    rw [ho] at g1 g2 g3
    cases o with
    | lt =>
      have a1 := of_decide_eq_true g1.symm
      rw [show max r s = s by omega]; rfl
    | gt =>
      have a2 := of_decide_eq_true g2.symm
      rw [show max r s = r by omega]; rfl
    | eq =>
      have a3 := of_decide_eq_true g3.symm
      simp only [hd]
      rw [show max r s = r by omega]; rfl
theorem inf6_any (w : World) : Calls Try.prog 27 #[.int .i64 1] w fun e w' => e = .returned (.float .f64 9218868437227405312) ∧ w' = w := by
  go_enter Try.func27, Try.ntmps27
  go_wp2
  go_ret
  exact ⟨rfl, rfl⟩
theorem next_up_any {t : Nat} (ht : t < 9218868437227405312) (w : World) : Calls Try.prog 35 #[.float .f64 t, .float .f64 9218868437227405312] w fun e w' => e = .returned (.float .f64 (t + 1)) ∧ w' = w := by
  have N1 : Hid (∀ wz, Calls Try.prog 53 #[.float .f64 t] wz fun e w' => e = .returned (.bool false) ∧ w' = wz) := fun wz => by have k := isNaN_any t wz; rw [nan_rung (by omega)] at k; exact k
  have N2 : Hid (∀ wz, Calls Try.prog 53 #[.float .f64 9218868437227405312] wz fun e w' => e = .returned (.bool false) ∧ w' = wz) := fun wz => isNaN_any 9218868437227405312 wz
  have g1 := Fl.o_eq t 9218868437227405312
  have g2 := Fl.o_eq t 0
  have g3 := Fl.o_gt 9218868437227405312 t
  have g4 := Fl.o_gt t 0
  rw [Fl.eqF_of (nan_rung (by omega)) (by decide), key_rung (by omega), show Fl.key 9218868437227405312 = 9218868437227405312 by decide, decide_eq_false (by omega)] at g1
  rw [Fl.eqF_of (nan_rung (by omega)) (by decide), key_rung (by omega), show Fl.key 0 = 0 by decide] at g2
  rw [lt_rung (by omega) (by omega), decide_eq_true ht] at g3
  rw [lt_rung (by omega) (by omega)] at g4
  by_cases z : t = 0
  · subst z
    replace g2 : (FloatKind.f64.format.order 0 0 == some .eq) = true := by decide
    have C : Hid (∀ wz, Calls Try.prog 19 #[.float .f64 1, .float .f64 9218868437227405312] wz fun e w' => e = .returned (.float .f64 1) ∧ w' = wz) := fun wz => copysign_any 1 9218868437227405312 wz (by decide) (by decide)
    clear g3 g4
    go_enter Try.func35, Try.ntmps35
    go_wp2_with fail
    refine (N1.out _).mono ?_
    rintro e' w ⟨rfl, rfl⟩
    go_wp2_with fail
    refine (N2.out _).mono ?_
    rintro e' w ⟨rfl, rfl⟩
    go_wp2_with (go_at_call 19; refine (C.out _).mono ?_; rintro e w ⟨rfl, rfl⟩)
    go_ret
    exact ⟨rfl, rfl⟩
  · rw [decide_eq_false (by omega)] at g2
    rw [decide_eq_true (by omega)] at g4
    go_enter Try.func35, Try.ntmps35
    go_wp2_with fail
    refine (N1.out _).mono ?_
    rintro e' w ⟨rfl, rfl⟩
    go_wp2_with fail
    refine (N2.out _).mono ?_
    rintro e' w ⟨rfl, rfl⟩
    go_wp2
    go_ret
    exact ⟨rfl, rfl⟩
end Go.Proofs.Ytpfaaimfembhdaa
