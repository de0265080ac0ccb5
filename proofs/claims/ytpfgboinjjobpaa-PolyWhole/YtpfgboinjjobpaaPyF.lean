/-
  OWN TEXT: package poly: Check, copies, answers, of lists of whole complex numbers.
-/
import Derived.Test.YtpfgboinjjobpaaPyE
namespace Go.Proofs.Ytpfgboinjjobpaa
open Go.ChangeShapes Go.WideShapes Go.ChangeAt Go.RowKit
set_option linter.unusedVariables false
attribute [local go_sem] frombits_call tobits_call run_neg
theorem hide {p : Prop} (h : p) : Hid p := h
/-- a polynomial that may be, of the degree n -/
def May (n : Nat) (l : List Py.G) : Prop := l.length = n + 1 ∧ n ≤ 64 ∧ (n = 0 ∨ Py.co l n ≠ (0, 0)) ∧ ∀ i, i < n + 1 → Py.Le (Py.co l i) 1099511627776
theorem check8 {c : Nat} (hc : c = 1074) {w : World} {b o cap n : Nat} {l : List Py.G} (hm : May n l) (h : Gl c w b o l) : Calls Try.prog 23 #[.slice (some ⟨b, o, none⟩) (n + 1) cap] w fun e w' => e = .returned (.int .i64 0) ∧ Bw w w' := by
  obtain ⟨h1, h2, h3, h4⟩ := hm
  have A : Hid (∀ wz, Bw w wz → Calls Try.prog 36 #[.slice (some ⟨b, o, none⟩) (n + 1) cap] wz fun e w' => e = .returned (.bool true) ∧ Bw wz w') := fun wz hz => places8 hc (n + 1) h1 (by omega) (h.bw hz) h4
  by_cases z : n = 0
  · subst z
    clear h h1 h2 h3 h4
    go_enter Try.func23, Try.ntmps23
    go_wp2_with fail
    refine (A.out _ (Bw.refl _)).mono ?_
    rintro e' w1 ⟨rfl, hb⟩
    go_wp2
    go_ret
    exact ⟨rfl, hb⟩
  · obtain ⟨x, y, q, L⟩ := last8 (cap := cap) n h1 (by omega) h
    have HL := hide L
    have I : Hid (∀ wz, Calls Try.prog 28 #[.complex .f64 x y] wz fun e w' => e = .returned (.bool false) ∧ w' = wz) := fun wz => by
      have k := isnought8 q wz
      rw [decide_eq_false (h3.resolve_left z)] at k
      exact k
    have t1 : ((n : Int) + 1 == 0) = false := by rw [beq_eq_false_iff_ne]; omega
    have t2 : ¬ 65 < (n : Int) + 1 := by omega
    have t3 : 1 < (n : Int) + 1 := by omega
    clear L q h h1 h3 h4 z h2
    go_enter Try.func23, Try.ntmps23
    go_wp2_with fail
    refine HL.out.mono ?_
    rintro e' w ⟨rfl, rfl⟩
    go_wp2_with fail
    refine (I.out _).mono ?_
    rintro e' w ⟨rfl, rfl⟩
    go_wp2_with fail
    refine (A.out _ (Bw.refl _)).mono ?_
    rintro e' w1 ⟨rfl, hb⟩
    go_wp2
    go_ret
    exact ⟨rfl, hb⟩
theorem checkwith8 {c : Nat} (hc : c = 1074) {w : World} {b o cap n x y : Nat} {l : List Py.G} {g : Py.G} (hm : May n l) (h : Gl c w b o l) (hg : wC c x y g) (lg : Py.Le g 1099511627776) : Calls Try.prog 32 #[.slice (some ⟨b, o, none⟩) (n + 1) cap, .complex .f64 x y] w fun e w' => e = .returned (.int .i64 0) ∧ Bw w w' := by
  have A := hide (check8 (cap := cap) hc hm h)
  have I : Hid (∀ wz, Calls Try.prog 48 #[.complex .f64 x y] wz fun e w' => e = .returned (.bool true) ∧ w' = wz) := fun wz => pwithin8 hc hg lg wz
  clear hm h hg lg
  go_enter Try.func32, Try.ntmps32
  go_wp2_with fail
  refine A.out.mono ?_
  rintro e' w1 ⟨rfl, hb⟩
  clear A
  go_wp2_with fail
  refine (I.out _).mono ?_
  rintro e' w ⟨rfl, rfl⟩
  go_wp2
  go_ret
  exact ⟨rfl, hb⟩
theorem checktwo8 {c : Nat} (hc : c = 1074) {w : World} {b o cap n b' o' cap' n' : Nat} {l l' : List Py.G} (hm : May n l) (h : Gl c w b o l) (hm' : May n' l') (h' : Gl c w b' o' l') : Calls Try.prog 25 #[.slice (some ⟨b, o, none⟩) (n + 1) cap, .slice (some ⟨b', o', none⟩) (n' + 1) cap'] w fun e w' => e = .returned (.int .i64 0) ∧ Bw w w' := by
  have A := hide (check8 (cap := cap) hc hm h)
  have A2 : Hid (∀ wz, Bw w wz → Calls Try.prog 23 #[.slice (some ⟨b', o', none⟩) (n' + 1) cap'] wz fun e w' => e = .returned (.int .i64 0) ∧ Bw wz w') := fun wz hz => check8 (cap := cap') hc hm' (h'.bw hz)
  clear hm h hm' h'
  go_enter Try.func25, Try.ntmps25
  go_wp2_with fail
  refine A.out.mono ?_
  rintro e' w1 ⟨rfl, hb⟩
  clear A
  go_wp2_with fail
  refine (A2.out _ hb).mono ?_
  rintro e' w2 ⟨rfl, hb2⟩
  replace hb := bw_trans hb hb2
  clear A2 hb2
  go_wp2
  go_ret
  exact ⟨rfl, hb⟩
theorem bw_alloc (w : World) (x : Obj) : Bw w (w.alloc x) := Below.alloc (Bw.refl w) (Nat.le_refl _) _
theorem nought8 (c : Nat) (w : World) : Calls Try.prog 30 #[] w fun e w' => e = .returned (.slice (some ⟨w.heap.size, 0, none⟩) 1 1) ∧ Gl c w' w.heap.size 0 [(0, 0)] ∧ Bw w w' := by
  have g : Gl c (w.alloc (.cells #[.complex .f64 0 0] 26)) w.heap.size 0 [(0, 0)] := by
    refine ⟨by simp, fun i hi => ?_⟩
    match i, hi with
    | 0, _ => exact ⟨0, 0, by simp, wC.nought c⟩
  have hb := bw_alloc w (.cells #[.complex .f64 0 0] 26)
  go_enter Try.func30, Try.ntmps30
  go_wp2
  go_ret
  exact ⟨rfl, g, hb⟩
end Go.Proofs.Ytpfgboinjjobpaa
