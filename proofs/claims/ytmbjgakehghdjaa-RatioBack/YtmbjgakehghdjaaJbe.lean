/-
  OWN TEXT: package ratio: At; the reference's Same, of fractions with the same words.
-/
import Derived.Test.YtmbjgakehghdjaaJbd
import Derived.Deep.AppendSrc
import Derived.Test.YtmbjgakehghdjaaJaw
namespace Go.Proofs.Ytmbjgakehghdjaa
open Go.ChangeShapes Go.WideShapes Go.ChangeAt Go.RowKit
set_option linter.unusedVariables false
attribute [local go_sem] frombits_call tobits_call run_neg run_store_cx
theorem sameB_self (x : Nat) : Fl.sameB x x = true := by unfold Fl.sameB; simp
theorem psame10 (x y : Nat) (w : World) : Calls Try.prog 25 #[.complex .f64 x y, .complex .f64 x y] w fun e w' => e = .returned (.bool true) ∧ w' = w := by
  have A1 : Hid (∀ z wz, Calls Try.prog 55 #[.float .f64 z, .float .f64 z] wz fun e w' => e = .returned (.bool true) ∧ w' = wz) := fun z wz => by have q := same_any z z wz; rw [sameB_self] at q; exact q
  go_enter Try.func25, Try.ntmps25
  go_wp2_with fail
  refine (A1.out _ _).mono ?_
  rintro e' w ⟨rfl, rfl⟩
  go_wp2_with fail
  refine (A1.out _ _).mono ?_
  rintro e' w ⟨rfl, rfl⟩
  go_wp2
  go_ret
  exact ⟨rfl, rfl⟩
theorem rsame10 (x y : Nat) (w : World) : Calls Try.prog 70 #[.complex .f64 x y, .complex .f64 x y] w fun e w' => e = .returned (.bool true) ∧ w' = w := by
  have A1 : Hid (∀ z wz, Calls Try.prog 80 #[.float .f64 z, .float .f64 z] wz fun e w' => e = .returned (.bool true) ∧ w' = wz) := fun z wz => by have q := rsame_any z z wz; rw [sameB_self] at q; exact q
  go_enter Try.func70, Try.ntmps70
  go_wp2_with fail
  refine (A1.out _ _).mono ?_
  rintro e' w ⟨rfl, rfl⟩
  go_wp2_with fail
  refine (A1.out _ _).mono ?_
  rintro e' w ⟨rfl, rfl⟩
  go_wp2
  go_ret
  exact ⟨rfl, rfl⟩
theorem pfin10 {x y : Nat} (hx : x < 18446744073709551616 ∧ Fl.rg x < 9218868437227405312) (hy : y < 18446744073709551616 ∧ Fl.rg y < 9218868437227405312) (w : World) : Calls Try.prog 61 #[.complex .f64 x y] w fun e w' => e = .returned (.bool true) ∧ w' = w := by
  have fx : Fl.finB x = true := by unfold Fl.finB; exact decide_eq_true hx.2
  have fy : Fl.finB y = true := by unfold Fl.finB; exact decide_eq_true hy.2
  have A1 : Hid (∀ wz, Calls Try.prog 73 #[.float .f64 x] wz fun e w' => e = .returned (.bool true) ∧ w' = wz) := fun wz => by have q := finite_any x wz hx.1; rw [fx] at q; exact q
  have A2 : Hid (∀ wz, Calls Try.prog 73 #[.float .f64 y] wz fun e w' => e = .returned (.bool true) ∧ w' = wz) := fun wz => by have q := finite_any y wz hy.1; rw [fy] at q; exact q
  clear hx hy fx fy
  go_enter Try.func61, Try.ntmps61
  go_wp2_with fail
  refine (A1.out _).mono ?_
  rintro e' w ⟨rfl, rfl⟩
  go_wp2_with fail
  refine (A2.out _).mono ?_
  rintro e' w ⟨rfl, rfl⟩
  go_wp2
  go_ret
  exact ⟨rfl, rfl⟩
set_option maxHeartbeats 4000000 in
theorem samelist10 {w : World} {b o cap b' o' cap' n : Nat} {F : Nat → Nat × Nat} (hm : n ≤ 1000) (h : Wf w b o n F) (h' : Wf w b' o' n F) : Calls Try.prog 54 #[.slice (some ⟨b, o, none⟩) n cap, .slice (some ⟨b', o', none⟩) n cap'] w fun e w' => e = .returned (.bool true) ∧ Bw w w' := by
  have HG := hide h
  have HG' := hide h'
  clear h h'
  go_enter Try.func54, Try.ntmps54
  go_wp2
  go_loopw [5] (fun i wr => ∃ k : Nat, k ≤ n ∧ i = .int .i64 k ∧ Bw w wr) (fun i _ => n - (intOf i).toNat)
  case atStart => exact ⟨0, Nat.zero_le _, rfl, Bw.refl _⟩
  case round =>
    obtain ⟨k, hk, rfl, hbw⟩ := hrel
    by_cases hk1 : k < n
    · have e1 := (HG.out.bw hbw).2 k hk1
      have e2 := (HG'.out.bw hbw).2 k hk1
      generalize (F k).1 = x at e1 e2
      generalize (F k).2 = y at e1 e2
      have hk2 : (k : Int) < n := by omega
      go_wp2_with fail
      have S0 : wr.drew.cell? ⟨b, o + k, none⟩ = some (.complex .f64 x y) ∧ wr.drew.cell? ⟨b', o' + k, none⟩ = some (.complex .f64 x y) := ⟨e1, e2⟩
      refine wp_region_K (fun w' => w'.cell? ⟨b, o + k, none⟩ = some (.complex .f64 x y) ∧ w'.cell? ⟨b', o' + k, none⟩ = some (.complex .f64 x y)) 9 10 #[false, false, false, false, false, false, false, false, false, false] (by kernel_rfl) (by kernel_rfl) (by kernel_rfl) ?_
      refine wpAnyK_take 0 18 (v := ?v0) rfl (by kernel_rfl) (by kernel_rfl) (by kernel_rfl) (by kernel_rfl) (by kernel_rfl) (fun _ _ _ h => h) rfl (Or.inl ⟨by rfl, ?h0⟩) (by assumption) ?r0
      case h0 => (intro w hSw; go_simp; with_reducible rfl)
      simp only [Act.put, List.setIfInBounds_toArray, List.set_cons_zero, List.set_cons_succ]
      refine wpAnyK_take 1 19 (v := ?v1) rfl (by kernel_rfl) (by kernel_rfl) (by kernel_rfl) (by kernel_rfl) (by kernel_rfl) (fun _ _ _ h => h) rfl (Or.inl ⟨by rfl, ?h1⟩) (by assumption) ?r1
      case h1 => (intro w hSw; go_simp; with_reducible rfl)
      simp only [Act.put, List.setIfInBounds_toArray, List.set_cons_zero, List.set_cons_succ]
      refine wpAnyK_take 2 20 (v := ?v2) rfl (by kernel_rfl) (by kernel_rfl) (by kernel_rfl) (by kernel_rfl) (by kernel_rfl) (fun _ _ _ h => h) rfl (Or.inl ⟨by rfl, ?h2⟩) (by assumption) ?r2
      case h2 => (intro w hSw; go_simp; with_reducible rfl)
      simp only [Act.put, List.setIfInBounds_toArray, List.set_cons_zero, List.set_cons_succ]
      refine wpAnyK_take 3 21 (v := ?v3) rfl (by kernel_rfl) (by kernel_rfl) (by kernel_rfl) (by kernel_rfl) (by kernel_rfl) (fun _ _ _ h => h) rfl (Or.inl ⟨by rfl, ?h3⟩) (by assumption) ?r3
      case h3 => (intro w hSw; go_simp; with_reducible rfl)
      simp only [Act.put, List.setIfInBounds_toArray, List.set_cons_zero, List.set_cons_succ]
      refine wpAnyK_take 4 22 (v := ?v4) rfl (by kernel_rfl) (by kernel_rfl) (by kernel_rfl) (by kernel_rfl) (by kernel_rfl) (fun _ _ _ h => h) rfl (Or.inl ⟨by rfl, ?h4⟩) (by assumption) ?r4
      case h4 => (intro w hSw; go_simp; with_reducible rfl)
      simp only [Act.put, List.setIfInBounds_toArray, List.set_cons_zero, List.set_cons_succ]
      refine wpAnyK_take 5 23 (v := ?v5) rfl (by kernel_rfl) (by kernel_rfl) (by kernel_rfl) (by kernel_rfl) (by kernel_rfl) (fun _ _ _ h => h) rfl (Or.inl ⟨by rfl, ?h5⟩) (by assumption) ?r5
      case h5 => (intro w hSw; go_simp; with_reducible rfl)
      simp only [Act.put, List.setIfInBounds_toArray, List.set_cons_zero, List.set_cons_succ]
      refine wpAnyK_take 6 24 (v := ?v6) rfl (by kernel_rfl) (by kernel_rfl) (by kernel_rfl) (by kernel_rfl) (by kernel_rfl) (fun _ _ _ h => h) rfl (Or.inl ⟨by rfl, ?h6⟩) (by assumption) ?r6
      case h6 => (intro w hSw; go_simp; with_reducible rfl)
      simp only [Act.put, List.setIfInBounds_toArray, List.set_cons_zero, List.set_cons_succ]
      refine wpAnyK_take 7 25 (v := ?v7) rfl (by kernel_rfl) (by kernel_rfl) (by kernel_rfl) (by kernel_rfl) (by kernel_rfl) (fun _ _ _ h => h) rfl (Or.inl ⟨by rfl, ?h7⟩) (by assumption) ?r7
      case h7 => (intro w hSw; go_simp; with_reducible rfl)
      simp only [Act.put, List.setIfInBounds_toArray, List.set_cons_zero, List.set_cons_succ]
      refine wpAnyK_one 8 (by kernel_rfl) rfl (fun K hK => ?_)
      go_simp
      go_wp2_with (go_at_call 70; refine (rsame10 _ _ _).mono ?_; rintro e' w7 ⟨rfl, hw7⟩; subst hw7)
      refine hK.out _ _ (fun _ _ => S0) ?_
      clear hK K
      simp only [List.setIfInBounds_toArray, List.set_cons_zero, List.set_cons_succ]
      refine wpAnyK_one 9 (by kernel_rfl) rfl (fun K hK => ?_)
      go_simp
      refine hK.out _ _ (fun h => absurd rfl h) ?_
      clear hK K
      simp only [List.setIfInBounds_toArray, List.set_cons_zero, List.set_cons_succ]
      refine wpAnyK_done (by kernel_rfl) ?_ _
      clear S0 e1 e2
      go_wp2
      go_roundw
      case rel => exact ⟨k + 1, by omega, by simp, hbw.drew⟩
      case measure => simp [intOf]; omega
    · have hk3 : k = n := by omega
      subst hk3
      go_wp2
      go_ret
      exact ⟨rfl, hbw⟩
theorem fsame10 {w : World} {b1 o1 c1 n1 b2 o2 c2 n2 d1 p1 q1 d2 p2 q2 : Nat} {F G : Nat → Nat × Nat} (h1 : n1 ≤ 1000) (h2 : n2 ≤ 1000) (x1 : Wf w b1 o1 n1 F) (x2 : Wf w b2 o2 n2 G) (y1 : Wf w d1 p1 n1 F) (y2 : Wf w d2 p2 n2 G) :
    Calls Try.prog 24 #[.agg #[.slice (some ⟨b1, o1, none⟩) n1 c1, .slice (some ⟨b2, o2, none⟩) n2 c2], .agg #[.slice (some ⟨d1, p1, none⟩) n1 q1, .slice (some ⟨d2, p2, none⟩) n2 q2]] w fun e w' => e = .returned (.bool true) ∧ Bw w w' := by
  have bA := bw_alloc w (.cells #[.slice (some ⟨b1, o1, none⟩) n1 c1, .slice (some ⟨b2, o2, none⟩) n2 c2] 24)
  have bB := bw_trans bA (bw_alloc _ (.cells #[.slice (some ⟨d1, p1, none⟩) n1 q1, .slice (some ⟨d2, p2, none⟩) n2 q2] 24))
  have A1 : Hid (∀ wz, Bw w wz → Calls Try.prog 54 #[.slice (some ⟨b1, o1, none⟩) n1 c1, .slice (some ⟨d1, p1, none⟩) n1 q1] wz fun e w' => e = .returned (.bool true) ∧ Bw wz w') := fun wz hz => samelist10 h1 (x1.bw hz) (y1.bw hz)
  have A2 : Hid (∀ wz, Bw w wz → Calls Try.prog 54 #[.slice (some ⟨b2, o2, none⟩) n2 c2, .slice (some ⟨d2, p2, none⟩) n2 q2] wz fun e w' => e = .returned (.bool true) ∧ Bw wz w') := fun wz hz => samelist10 h2 (x2.bw hz) (y2.bw hz)
  have f1 := (Fc.made w (.slice (some ⟨b1, o1, none⟩) n1 c1) (.slice (some ⟨b2, o2, none⟩) n2 c2) 24).bw (bw_alloc _ (.cells #[.slice (some ⟨d1, p1, none⟩) n1 q1, .slice (some ⟨d2, p2, none⟩) n2 q2] 24))
  have f2 := Fc.made (w.alloc (.cells #[.slice (some ⟨b1, o1, none⟩) n1 c1, .slice (some ⟨b2, o2, none⟩) n2 c2] 24)) (.slice (some ⟨d1, p1, none⟩) n1 q1) (.slice (some ⟨d2, p2, none⟩) n2 q2) 24
  have hsz : (w.alloc (.cells #[.slice (some ⟨b1, o1, none⟩) n1 c1, .slice (some ⟨b2, o2, none⟩) n2 c2] 24)).heap.size = w.heap.size + 1 := by simp
  rw [hsz] at f2
  have HF := hide (And.intro f1 f2)
  clear x1 x2 y1 y2 bA f1 f2 hsz
  go_enter Try.func24, Try.ntmps24
  go_wp2_with fail
  refine (A1.out _ bB).mono ?_
  rintro e' w1 ⟨rfl, b1'⟩
  obtain ⟨_, _, u1⟩ := HF.out.1.bw b1'
  obtain ⟨_, _, u2⟩ := HF.out.2.bw b1'
  replace bB := bw_trans bB b1'
  clear HF A1 b1'
  go_wp2_with fail
  refine (A2.out _ bB).mono ?_
  rintro e' w2 ⟨rfl, b2'⟩
  replace bB := bw_trans bB b2'
  clear A2 b2' u1 u2
  go_wp2
  go_ret
  exact ⟨rfl, bB⟩
/-- a quotient of two values, words and all -/
theorem quot10 {c : Nat} (hc : c = 1074) {w : World} {b1 o1 c1 n1 b2 o2 c2 n2 x y : Nat} {F1 V1 F2 V2 : Nat → Nat × Nat} {l1 l2 : List Py.G} {g : Py.G} (m1 : May n1 l1) (m2 : May n2 l2) (x1 : Wf w b1 o1 (n1 + 1) F1) (x2 : Wf w b2 o2 (n2 + 1) F2) (y1 : Wl c (n1 + 1) F1 l1) (y2 : Wl c (n2 + 1) F2 l2) (hg : wC c x y g) (lg : Py.Le g 1099511627776) (h1 : Hv c n1 x y F1 V1 l1 g) (h2 : Hv c n2 x y F2 V2 l2 g) :
    (Py.ev l2 g = (0, 0) → Calls Try.prog 30 #[.slice (some ⟨b1, o1, none⟩) (n1 + 1) c1, .slice (some ⟨b2, o2, none⟩) (n2 + 1) c2, .complex .f64 x y] w fun e w' => e = .returned (.tuple #[.complex .f64 0 0, .int .i64 6]) ∧ Bw w w') ∧
    (Py.ev l2 g ≠ (0, 0) → ∀ u v, (u < 18446744073709551616 ∧ Fl.rg u < 9218868437227405312) → (v < 18446744073709551616 ∧ Fl.rg v < 9218868437227405312) → (∀ w, Calls Try.prog 26 #[.complex .f64 (V1 0).1 (V1 0).2, .complex .f64 (V2 0).1 (V2 0).2] w fun e w' => e = .returned (.complex .f64 u v) ∧ w' = w) →
      Calls Try.prog 30 #[.slice (some ⟨b1, o1, none⟩) (n1 + 1) c1, .slice (some ⟨b2, o2, none⟩) (n2 + 1) c2, .complex .f64 x y] w fun e w' => e = .returned (.tuple #[.complex .f64 u v, .int .i64 0]) ∧ Bw w w') := by
  have A1 : Hid (∀ wz, Bw w wz → Calls Try.prog 50 #[.slice (some ⟨b1, o1, none⟩) (n1 + 1) c1, .complex .f64 x y] wz fun e w' => e = .returned (.tuple #[.complex .f64 (V1 0).1 (V1 0).2, .int .i64 0]) ∧ Bw wz w') := fun wz hz => atw10 hc m1 (x1.bw hz) y1 hg lg h1
  have A2 : Hid (∀ wz, Bw w wz → Calls Try.prog 50 #[.slice (some ⟨b2, o2, none⟩) (n2 + 1) c2, .complex .f64 x y] wz fun e w' => e = .returned (.tuple #[.complex .f64 (V2 0).1 (V2 0).2, .int .i64 0]) ∧ Bw wz w') := fun wz hz => atw10 hc m2 (x2.bw hz) y2 hg lg h2
  have A3 : Hid (∀ wz, Calls Try.prog 60 #[.complex .f64 (V2 0).1 (V2 0).2] wz fun e w' => e = .returned (.bool (decide (Py.ev l2 g = (0, 0)))) ∧ w' = wz) := fun wz => by
    have k := h2.2.1 0 (Nat.zero_le _)
    rw [List.drop_zero] at k
    exact risnought10 k wz
  clear m1 m2 x1 x2 y1 y2 hg lg h1 h2
  constructor
  · intro z
    rw [decide_eq_true z] at A3
    clear z
    generalize (V1 0).1 = r1 at *
    generalize (V1 0).2 = s1 at *
    generalize (V2 0).1 = r2 at *
    generalize (V2 0).2 = s2 at *
    go_enter Try.func30, Try.ntmps30
    go_wp2_with fail
    refine (A1.out _ (Bw.refl _)).mono ?_
    rintro e' w1 ⟨rfl, b1'⟩
    clear A1
    go_wp2_with fail
    refine (A2.out _ b1').mono ?_
    rintro e' w2 ⟨rfl, b2'⟩
    replace b1' := bw_trans b1' b2'
    clear A2 b2'
    go_wp2_with fail
    refine (A3.out _).mono ?_
    rintro e' w3 ⟨rfl, rfl⟩
    clear A3
    go_wp2
    go_ret2
    exact ⟨rfl, b1'⟩
  · intro z u v hu hv D
    rw [decide_eq_false z] at A3
    have HD := hide D
    have FI : Hid (∀ wz, Calls Try.prog 61 #[.complex .f64 u v] wz fun e w' => e = .returned (.bool true) ∧ w' = wz) := fun wz => pfin10 hu hv wz
    clear z D hu hv
    generalize (V1 0).1 = r1 at *
    generalize (V1 0).2 = s1 at *
    generalize (V2 0).1 = r2 at *
    generalize (V2 0).2 = s2 at *
    go_enter Try.func30, Try.ntmps30
    go_wp2_with fail
    refine (A1.out _ (Bw.refl _)).mono ?_
    rintro e' w1 ⟨rfl, b1'⟩
    clear A1
    go_wp2_with fail
    refine (A2.out _ b1').mono ?_
    rintro e' w2 ⟨rfl, b2'⟩
    replace b1' := bw_trans b1' b2'
    clear A2 b2'
    go_wp2_with fail
    refine (A3.out _).mono ?_
    rintro e' w3 ⟨rfl, rfl⟩
    clear A3
    go_wp2_with fail
    refine (HD.out _).mono ?_
    rintro e' w3 ⟨rfl, rfl⟩
    clear HD
    go_wp2_with fail
    refine (FI.out _).mono ?_
    rintro e' w3 ⟨rfl, rfl⟩
    clear FI
    go_wp2
    go_ret2
    exact ⟨rfl, b1'⟩
/-- ratio.At, as its quotient -/
theorem rat10 {c : Nat} (hc : c = 1074) {w : World} {b1 o1 c1 n1 b2 o2 c2 n2 x y : Nat} {l1 l2 : List Py.G} {v : Value} {e : Int} (hv : ∃ p q, v = .complex .f64 p q) (m1 : May n1 l1) (m2 : May n2 l2) (x1 : Gl c w b1 o1 l1) (x2 : Gl c w b2 o2 l2) (z2 : Nz n2 l2)
    (Q : ∀ wz, Bw w wz → Calls Try.prog 30 #[.slice (some ⟨b1, o1, none⟩) (n1 + 1) c1, .slice (some ⟨b2, o2, none⟩) (n2 + 1) c2, .complex .f64 x y] wz fun e' w' => e' = .returned (.tuple #[v, .int .i64 e]) ∧ Bw wz w') :
    Calls Try.prog 9 #[.agg #[.slice (some ⟨b1, o1, none⟩) (n1 + 1) c1, .slice (some ⟨b2, o2, none⟩) (n2 + 1) c2], .complex .f64 x y] w fun e' w' => e' = .returned (.tuple #[v, .int .i64 e]) ∧ Bw w w' := by
  have f1 := Fc.made w (.slice (some ⟨b1, o1, none⟩) (n1 + 1) c1) (.slice (some ⟨b2, o2, none⟩) (n2 + 1) c2) 24
  have bA := bw_alloc w (.cells #[.slice (some ⟨b1, o1, none⟩) (n1 + 1) c1, .slice (some ⟨b2, o2, none⟩) (n2 + 1) c2] 24)
  have CK : Hid (∀ wz, Bw w wz → Calls Try.prog 8 #[.agg #[.slice (some ⟨b1, o1, none⟩) (n1 + 1) c1, .slice (some ⟨b2, o2, none⟩) (n2 + 1) c2]] wz fun e w' => e = .returned (.int .i64 0) ∧ Bw wz w') := fun wz hz => rcheck10 hc m1 (x1.bw hz) m2 (x2.bw hz) z2
  have HQ := hide Q
  have HF := hide f1
  obtain ⟨p, q, rfl⟩ := hv
  clear m1 m2 x1 x2 z2 Q f1 hc
  go_enter Try.func9, Try.ntmps9
  go_wp2_with fail
  refine (CK.out _ bA).mono ?_
  rintro e' w1 ⟨rfl, b1'⟩
  obtain ⟨_, u0, u1⟩ := HF.out.bw b1'
  replace bA := bw_trans bA b1'
  clear CK b1' HF
  go_wp2_with fail
  refine (HQ.out _ bA).mono ?_
  rintro e' w2 ⟨rfl, b2'⟩
  replace bA := bw_trans bA b2'
  clear HQ b2' u0 u1
  go_wp2
  go_ret2
  exact ⟨rfl, bA⟩
end Go.Proofs.Ytmbjgakehghdjaa
/-
  OWN TEXT: package ratio: places, without, of, over whole complex numbers.
-/
namespace Go.Proofs.Ytmbjgakehghdjaa
open Go.ChangeShapes Go.WideShapes Go.ChangeAt Go.RowKit
set_option linter.unusedVariables false
attribute [local go_sem] frombits_call tobits_call run_neg run_store_cx
theorem rplace10 {c x y : Nat} {g : Py.G} (hc : c = 1074) (hg : wC c x y g) (hl : Py.Le g 1099511627776) (w : World) : Calls Try.prog 65 #[.complex .f64 x y] w fun e w' => e = .returned (.bool true) ∧ w' = w := by
  have A1 : Hid (∀ wz, Calls Try.prog 82 #[.float .f64 x, .float .f64 4787326403894837248] wz fun e w' => e = .returned (.bool true) ∧ w' = wz) := fun wz => by have q := within_any x 4787326403894837248 wz hg.1.1; rw [hg.1.within hc hl.one.1] at q; exact q
  have A2 : Hid (∀ wz, Calls Try.prog 82 #[.float .f64 y, .float .f64 4787326403894837248] wz fun e w' => e = .returned (.bool true) ∧ w' = wz) := fun wz => by have q := within_any y 4787326403894837248 wz hg.2.1; rw [hg.2.within hc hl.one.2] at q; exact q
  clear hg hl
  have P : Hid (∀ wz, Calls Try.prog 78 #[.complex .f64 x y, .float .f64 4787326403894837248] wz fun e w' => e = .returned (.bool true) ∧ w' = wz) := by
    intro wz
    go_enter Try.func78, Try.ntmps78
    go_wp2_with fail
    refine (A1.out _).mono ?_
    rintro e' w ⟨rfl, rfl⟩
    go_wp2_with fail
    refine (A2.out _).mono ?_
    rintro e' w ⟨rfl, rfl⟩
    go_wp2
    go_ret
    exact ⟨rfl, rfl⟩
  clear A1 A2
  go_enter Try.func65, Try.ntmps65
  go_wp2_with fail
  refine (P.out _).mono ?_
  rintro e' w ⟨rfl, rfl⟩
  go_wp2
  go_ret
  exact ⟨rfl, rfl⟩
theorem wof10 {c : Nat} (hc : c = 1074) {w : World} {W b o cap m Z : Nat} {zs : List Py.G} (hW : Wk w W) (hn : zs.length = m) (h64 : m ≤ 64) (h : Gl c w b o zs) (hz : ∀ i, Py.Le (Py.co zs i) Z) (hZ : Z ≤ 1099511627776) (hA : (Z + 1) ^ m ≤ 1099511627776) :
    Calls Try.prog 46 #[.pointer (some ⟨W, 0, none⟩), .slice (some ⟨b, o, none⟩) m cap] w fun e w' => Ansr c w w' e (m + 1) (Py.co (Py.ofl [(1, 0)] zs)) := by
  have M := hide (of8 (cap := cap) hc hn h64 h hz hZ hA)
  have c0 := hW.2.1
  have HW := hide hW
  clear hn h64 h hz hZ hA hW hc
  go_enter Try.func46, Try.ntmps46
  go_wp2_with fail
  refine M.out.mono ?_
  intro e' w1 h1
  obtain ⟨B, m', L, rfl, q1, q2, q3, q4, q5, q6⟩ := h1.use
  obtain ⟨_, c1, c2⟩ := HW.out.bw q5
  have R : Hid (Ansr c w w1 (.returned (.slice (some ⟨B, 0, none⟩) (m' + 1) (m' + 1))) (m + 1) (Py.co (Py.ofl [(1, 0)] zs))) := ⟨B, m', L, rfl, q1, q2, q3, q4, q5, q6⟩
  have S := hide (set_self c1)
  clear q1 q2 q3 q4 q5 q6 h1 M c0 HW
  go_wp2
  rw [S.out]
  go_ret
  exact R.out
theorem make0_c (n : Nat) (h : n ≤ 1000000) (w : World) :
    (Instr.makeSlice 22 (.int .i64 0) (.int .i64 n)).run Try.prog w = .ok (.slice (some ⟨w.heap.size, 0, none⟩) 0 n) (w.alloc (.cells (zcC n) 27)) := by
  have k : (Try.prog.info? 27).map (fun i => (i.zero, i.size, i.bytes)) = some (some (.complex .f64 0 0), 1, 16) := by kernel_rfl
  obtain ⟨i, hi, he⟩ := Option.map_eq_some_iff.1 k
  simp only [Prod.mk.injEq] at he
  have hr := run_make (P := Try.prog) w 22 27 i (.complex .f64 0 0) (by kernel_rfl) hi he.1 .i64 .i64 0 n (by omega) (by omega) (by rw [he.2.2]; omega) (by omega)
  rw [he.2.1] at hr
  simp only [Int.toNat_natCast, Nat.mul_one] at hr
  exact hr
theorem without10_10 {w : World} {b o : Nat} {F : Nat → Nat × Nat} (h : Wf w b o 1 F) :
    Calls Try.prog 47 #[.slice (some ⟨b, o, none⟩) 1 1, .int .i64 0] w fun e w' => e = .returned (.slice (some ⟨w.heap.size, 0, none⟩) 0 1) ∧ Wf w' w.heap.size 0 0 (fun i => if i < 0 then F i else F (i + 1)) ∧ Bw w w' := by
  have hmk : ∀ w : World, (Instr.makeSlice 22 (.int .i64 0) (.int .i64 1)).run Try.prog w = .ok (.slice (some ⟨w.heap.size, 0, none⟩) 0 1) (w.alloc (.cells #[.complex .f64 0 0] 27)) := fun w => by
    have := make0_c 1 (by omega) w
    rw [show zcC 1 = #[.complex .f64 0 0] by kernel_rfl] at this
    exact this
  have hb := h.1
  have e0 := h.2 0 (by omega)
  rw [Nat.add_zero] at e0
  generalize h0x : (F 0).1 = x0 at e0
  generalize h0y : (F 0).2 = y0 at e0
  have R : Hid (Wf (w.alloc (.cells #[.complex .f64 0 0] 27)).drew w.heap.size 0 0 (fun i => if i < 0 then F i else F (i + 1)) ∧ Bw w (w.alloc (.cells #[.complex .f64 0 0] 27)).drew) := by
    refine ⟨⟨by simp, fun i hi => ?_⟩, bw_trans (bw_alloc _ _) (Bw.drw _)⟩
    have e := World.cell?_alloc_at (w := w) #[.complex .f64 0 0] 27 w.heap.size i rfl
    rw [Nat.zero_add]
    show World.cell? (w.alloc (.cells #[.complex .f64 0 0] 27)) _ = _
    rw [e]
    omega
  have S0 : True := trivial
  have wg : IntKind.i64.wrap 1 = 1 := by decide
  clear h h0x h0y
  go_enter Try.func47, Try.ntmps47
  go_wp2_with fail
  refine wp_region_K (fun _ => True) 10 11 #[false, false, false, false, false, false, false, false, false, false, false] (by kernel_rfl) (by kernel_rfl) (by kernel_rfl) ?_
  refine wpAnyK_take 0 9 (v := ?v0) rfl (by kernel_rfl) (by kernel_rfl) (by kernel_rfl) (by kernel_rfl) (by kernel_rfl) (fun _ _ _ h => h) rfl (Or.inl ⟨by rfl, ?h0⟩) (by assumption) ?r0
  case h0 => (intro w hSw; go_simp; with_reducible rfl)
  simp only [Act.put, List.setIfInBounds_toArray, List.set_cons_zero, List.set_cons_succ]
  refine wpAnyK_take 1 10 (v := ?v1) rfl (by kernel_rfl) (by kernel_rfl) (by kernel_rfl) (by kernel_rfl) (by kernel_rfl) (fun _ _ _ h => h) rfl (Or.inl ⟨by rfl, ?h1⟩) (by assumption) ?r1
  case h1 => (intro w hSw; go_simp; with_reducible rfl)
  simp only [Act.put, List.setIfInBounds_toArray, List.set_cons_zero, List.set_cons_succ]
  refine wpAnyK_take 2 11 (v := ?v2) rfl (by kernel_rfl) (by kernel_rfl) (by kernel_rfl) (by kernel_rfl) (by kernel_rfl) (fun _ _ _ h => h) rfl (Or.inl ⟨by rfl, ?h2⟩) (by assumption) ?r2
  case h2 => (intro w hSw; go_simp; with_reducible rfl)
  simp only [Act.put, List.setIfInBounds_toArray, List.set_cons_zero, List.set_cons_succ]
  refine wpAnyK_take 3 12 (v := ?v3) rfl (by kernel_rfl) (by kernel_rfl) (by kernel_rfl) (by kernel_rfl) (by kernel_rfl) (fun _ _ _ h => h) rfl (Or.inl ⟨by rfl, ?h3⟩) (by assumption) ?r3
  case h3 => (intro w hSw; go_simp; with_reducible rfl)
  simp only [Act.put, List.setIfInBounds_toArray, List.set_cons_zero, List.set_cons_succ]
  refine wpAnyK_take 5 14 (v := ?v5) rfl (by kernel_rfl) (by kernel_rfl) (by kernel_rfl) (by kernel_rfl) (by kernel_rfl) (fun _ _ _ h => h) rfl (Or.inl ⟨by rfl, ?h5⟩) (by assumption) ?r5
  case h5 => (intro w hSw; go_simp; with_reducible rfl)
  simp only [Act.put, List.setIfInBounds_toArray, List.set_cons_zero, List.set_cons_succ]
  refine wpAnyK_take 6 15 (v := ?v6) rfl (by kernel_rfl) (by kernel_rfl) (by kernel_rfl) (by kernel_rfl) (by kernel_rfl) (fun _ _ _ h => h) rfl (Or.inl ⟨by rfl, ?h6⟩) (by assumption) ?r6
  case h6 => (intro w hSw; go_simp; with_reducible rfl)
  simp only [Act.put, List.setIfInBounds_toArray, List.set_cons_zero, List.set_cons_succ]
  refine wpAnyK_take 7 16 (v := ?v7) rfl (by kernel_rfl) (by kernel_rfl) (by kernel_rfl) (by kernel_rfl) (by kernel_rfl) (fun _ _ _ h => h) rfl (Or.inl ⟨by rfl, ?h7⟩) (by assumption) ?r7
  case h7 => (intro w hSw; go_simp; with_reducible rfl)
  simp only [Act.put, List.setIfInBounds_toArray, List.set_cons_zero, List.set_cons_succ]
  refine wpAnyK_take 8 17 (v := ?v8) rfl (by kernel_rfl) (by kernel_rfl) (by kernel_rfl) (by kernel_rfl) (by kernel_rfl) (fun _ _ _ h => h) rfl (Or.inl ⟨by rfl, ?h8⟩) (by assumption) ?r8
  case h8 => (intro w hSw; go_simp; with_reducible rfl)
  simp only [Act.put, List.setIfInBounds_toArray, List.set_cons_zero, List.set_cons_succ]
  refine wpAnyK_one 4 (by kernel_rfl) rfl (fun K hK => ?_)
  go_simp
  refine hK.out _ _ (fun _ _ => trivial) ?_
  clear hK K
  simp only [List.setIfInBounds_toArray, List.set_cons_zero, List.set_cons_succ]
  refine wpAnyK_one 9 (by kernel_rfl) rfl (fun K hK => ?_)
  go_simp
  refine hK.out _ _ (fun _ _ => trivial) ?_
  clear hK K
  simp only [List.setIfInBounds_toArray, List.set_cons_zero, List.set_cons_succ]
  refine wpAnyK_one 10 (by kernel_rfl) rfl (fun K hK => ?_)
  go_simp
  refine hK.out _ _ (fun h => absurd rfl h) ?_
  clear hK K
  simp only [List.setIfInBounds_toArray, List.set_cons_zero, List.set_cons_succ]
  refine wpAnyK_done (by kernel_rfl) ?_ _
  go_wp2
  go_ret
  exact ⟨rfl, R.out.1, R.out.2⟩
theorem without10_20 {w : World} {b o : Nat} {F : Nat → Nat × Nat} (h : Wf w b o 2 F) :
    Calls Try.prog 47 #[.slice (some ⟨b, o, none⟩) 2 2, .int .i64 0] w fun e w' => e = .returned (.slice (some ⟨w.heap.size, 0, none⟩) 1 2) ∧ Wf w' w.heap.size 0 1 (fun i => if i < 0 then F i else F (i + 1)) ∧ Bw w w' := by
  have hmk : ∀ w : World, (Instr.makeSlice 22 (.int .i64 0) (.int .i64 2)).run Try.prog w = .ok (.slice (some ⟨w.heap.size, 0, none⟩) 0 2) (w.alloc (.cells #[.complex .f64 0 0, .complex .f64 0 0] 27)) := fun w => by
    have := make0_c 2 (by omega) w
    rw [show zcC 2 = #[.complex .f64 0 0, .complex .f64 0 0] by kernel_rfl] at this
    exact this
  have hb := h.1
  have e0 := h.2 0 (by omega)
  have e1 := h.2 1 (by omega)
  rw [Nat.add_zero] at e0
  generalize h0x : (F 0).1 = x0 at e0
  generalize h0y : (F 0).2 = y0 at e0
  generalize h1x : (F 1).1 = x1 at e1
  generalize h1y : (F 1).2 = y1 at e1
  have R : Hid (Wf (w.alloc (.cells #[.complex .f64 x1 y1, .complex .f64 0 0] 27)).drew w.heap.size 0 1 (fun i => if i < 0 then F i else F (i + 1)) ∧ Bw w (w.alloc (.cells #[.complex .f64 x1 y1, .complex .f64 0 0] 27)).drew) := by
    refine ⟨⟨by simp, fun i hi => ?_⟩, bw_trans (bw_alloc _ _) (Bw.drw _)⟩
    have e := World.cell?_alloc_at (w := w) #[.complex .f64 x1 y1, .complex .f64 0 0] 27 w.heap.size i rfl
    rw [Nat.zero_add]
    show World.cell? (w.alloc (.cells #[.complex .f64 x1 y1, .complex .f64 0 0] 27)) _ = _
    rw [e]
    match i, hi with
    | 0, _ => simp [h1x, h1y]
  have S0 : True := trivial
  have wg : IntKind.i64.wrap 1 = 1 := by decide
  clear h h0x h0y h1x h1y
  go_enter Try.func47, Try.ntmps47
  go_wp2_with fail
  refine wp_region_K (fun _ => True) 10 11 #[false, false, false, false, false, false, false, false, false, false, false] (by kernel_rfl) (by kernel_rfl) (by kernel_rfl) ?_
  refine wpAnyK_take 0 9 (v := ?v0) rfl (by kernel_rfl) (by kernel_rfl) (by kernel_rfl) (by kernel_rfl) (by kernel_rfl) (fun _ _ _ h => h) rfl (Or.inl ⟨by rfl, ?h0⟩) (by assumption) ?r0
  case h0 => (intro w hSw; go_simp; with_reducible rfl)
  simp only [Act.put, List.setIfInBounds_toArray, List.set_cons_zero, List.set_cons_succ]
  refine wpAnyK_take 1 10 (v := ?v1) rfl (by kernel_rfl) (by kernel_rfl) (by kernel_rfl) (by kernel_rfl) (by kernel_rfl) (fun _ _ _ h => h) rfl (Or.inl ⟨by rfl, ?h1⟩) (by assumption) ?r1
  case h1 => (intro w hSw; go_simp; with_reducible rfl)
  simp only [Act.put, List.setIfInBounds_toArray, List.set_cons_zero, List.set_cons_succ]
  refine wpAnyK_take 2 11 (v := ?v2) rfl (by kernel_rfl) (by kernel_rfl) (by kernel_rfl) (by kernel_rfl) (by kernel_rfl) (fun _ _ _ h => h) rfl (Or.inl ⟨by rfl, ?h2⟩) (by assumption) ?r2
  case h2 => (intro w hSw; go_simp; with_reducible rfl)
  simp only [Act.put, List.setIfInBounds_toArray, List.set_cons_zero, List.set_cons_succ]
  refine wpAnyK_take 3 12 (v := ?v3) rfl (by kernel_rfl) (by kernel_rfl) (by kernel_rfl) (by kernel_rfl) (by kernel_rfl) (fun _ _ _ h => h) rfl (Or.inl ⟨by rfl, ?h3⟩) (by assumption) ?r3
  case h3 => (intro w hSw; go_simp; with_reducible rfl)
  simp only [Act.put, List.setIfInBounds_toArray, List.set_cons_zero, List.set_cons_succ]
  refine wpAnyK_take 5 14 (v := ?v5) rfl (by kernel_rfl) (by kernel_rfl) (by kernel_rfl) (by kernel_rfl) (by kernel_rfl) (fun _ _ _ h => h) rfl (Or.inl ⟨by rfl, ?h5⟩) (by assumption) ?r5
  case h5 => (intro w hSw; go_simp; with_reducible rfl)
  simp only [Act.put, List.setIfInBounds_toArray, List.set_cons_zero, List.set_cons_succ]
  refine wpAnyK_take 6 15 (v := ?v6) rfl (by kernel_rfl) (by kernel_rfl) (by kernel_rfl) (by kernel_rfl) (by kernel_rfl) (fun _ _ _ h => h) rfl (Or.inl ⟨by rfl, ?h6⟩) (by assumption) ?r6
  case h6 => (intro w hSw; go_simp; with_reducible rfl)
  simp only [Act.put, List.setIfInBounds_toArray, List.set_cons_zero, List.set_cons_succ]
  refine wpAnyK_take 7 16 (v := ?v7) rfl (by kernel_rfl) (by kernel_rfl) (by kernel_rfl) (by kernel_rfl) (by kernel_rfl) (fun _ _ _ h => h) rfl (Or.inl ⟨by rfl, ?h7⟩) (by assumption) ?r7
  case h7 => (intro w hSw; go_simp; with_reducible rfl)
  simp only [Act.put, List.setIfInBounds_toArray, List.set_cons_zero, List.set_cons_succ]
  refine wpAnyK_take 8 17 (v := ?v8) rfl (by kernel_rfl) (by kernel_rfl) (by kernel_rfl) (by kernel_rfl) (by kernel_rfl) (fun _ _ _ h => h) rfl (Or.inl ⟨by rfl, ?h8⟩) (by assumption) ?r8
  case h8 => (intro w hSw; go_simp; with_reducible rfl)
  simp only [Act.put, List.setIfInBounds_toArray, List.set_cons_zero, List.set_cons_succ]
  refine wpAnyK_one 4 (by kernel_rfl) rfl (fun K hK => ?_)
  go_simp
  refine hK.out _ _ (fun _ _ => trivial) ?_
  clear hK K
  simp only [List.setIfInBounds_toArray, List.set_cons_zero, List.set_cons_succ]
  refine wpAnyK_one 9 (by kernel_rfl) rfl (fun K hK => ?_)
  go_simp
  refine hK.out _ _ (fun _ _ => trivial) ?_
  clear hK K
  simp only [List.setIfInBounds_toArray, List.set_cons_zero, List.set_cons_succ]
  refine wpAnyK_one 10 (by kernel_rfl) rfl (fun K hK => ?_)
  go_simp
  refine hK.out _ _ (fun h => absurd rfl h) ?_
  clear hK K
  simp only [List.setIfInBounds_toArray, List.set_cons_zero, List.set_cons_succ]
  refine wpAnyK_done (by kernel_rfl) ?_ _
  go_wp2
  go_ret
  exact ⟨rfl, R.out.1, R.out.2⟩
theorem without10_21 {w : World} {b o : Nat} {F : Nat → Nat × Nat} (h : Wf w b o 2 F) :
    Calls Try.prog 47 #[.slice (some ⟨b, o, none⟩) 2 2, .int .i64 1] w fun e w' => e = .returned (.slice (some ⟨w.heap.size, 0, none⟩) 1 2) ∧ Wf w' w.heap.size 0 1 (fun i => if i < 1 then F i else F (i + 1)) ∧ Bw w w' := by
  have hmk : ∀ w : World, (Instr.makeSlice 22 (.int .i64 0) (.int .i64 2)).run Try.prog w = .ok (.slice (some ⟨w.heap.size, 0, none⟩) 0 2) (w.alloc (.cells #[.complex .f64 0 0, .complex .f64 0 0] 27)) := fun w => by
    have := make0_c 2 (by omega) w
    rw [show zcC 2 = #[.complex .f64 0 0, .complex .f64 0 0] by kernel_rfl] at this
    exact this
  have hb := h.1
  have e0 := h.2 0 (by omega)
  have e1 := h.2 1 (by omega)
  rw [Nat.add_zero] at e0
  generalize h0x : (F 0).1 = x0 at e0
  generalize h0y : (F 0).2 = y0 at e0
  generalize h1x : (F 1).1 = x1 at e1
  generalize h1y : (F 1).2 = y1 at e1
  have R : Hid (Wf (w.alloc (.cells #[.complex .f64 x0 y0, .complex .f64 0 0] 27)).drew w.heap.size 0 1 (fun i => if i < 1 then F i else F (i + 1)) ∧ Bw w (w.alloc (.cells #[.complex .f64 x0 y0, .complex .f64 0 0] 27)).drew) := by
    refine ⟨⟨by simp, fun i hi => ?_⟩, bw_trans (bw_alloc _ _) (Bw.drw _)⟩
    have e := World.cell?_alloc_at (w := w) #[.complex .f64 x0 y0, .complex .f64 0 0] 27 w.heap.size i rfl
    rw [Nat.zero_add]
    show World.cell? (w.alloc (.cells #[.complex .f64 x0 y0, .complex .f64 0 0] 27)) _ = _
    rw [e]
    match i, hi with
    | 0, _ => simp [h0x, h0y]
  have S0 : True := trivial
  have wg : IntKind.i64.wrap 2 = 2 := by decide
  clear h h0x h0y h1x h1y
  go_enter Try.func47, Try.ntmps47
  go_wp2_with fail
  refine wp_region_K (fun _ => True) 10 11 #[false, false, false, false, false, false, false, false, false, false, false] (by kernel_rfl) (by kernel_rfl) (by kernel_rfl) ?_
  refine wpAnyK_take 0 9 (v := ?v0) rfl (by kernel_rfl) (by kernel_rfl) (by kernel_rfl) (by kernel_rfl) (by kernel_rfl) (fun _ _ _ h => h) rfl (Or.inl ⟨by rfl, ?h0⟩) (by assumption) ?r0
  case h0 => (intro w hSw; go_simp; with_reducible rfl)
  simp only [Act.put, List.setIfInBounds_toArray, List.set_cons_zero, List.set_cons_succ]
  refine wpAnyK_take 1 10 (v := ?v1) rfl (by kernel_rfl) (by kernel_rfl) (by kernel_rfl) (by kernel_rfl) (by kernel_rfl) (fun _ _ _ h => h) rfl (Or.inl ⟨by rfl, ?h1⟩) (by assumption) ?r1
  case h1 => (intro w hSw; go_simp; with_reducible rfl)
  simp only [Act.put, List.setIfInBounds_toArray, List.set_cons_zero, List.set_cons_succ]
  refine wpAnyK_take 2 11 (v := ?v2) rfl (by kernel_rfl) (by kernel_rfl) (by kernel_rfl) (by kernel_rfl) (by kernel_rfl) (fun _ _ _ h => h) rfl (Or.inl ⟨by rfl, ?h2⟩) (by assumption) ?r2
  case h2 => (intro w hSw; go_simp; with_reducible rfl)
  simp only [Act.put, List.setIfInBounds_toArray, List.set_cons_zero, List.set_cons_succ]
  refine wpAnyK_take 3 12 (v := ?v3) rfl (by kernel_rfl) (by kernel_rfl) (by kernel_rfl) (by kernel_rfl) (by kernel_rfl) (fun _ _ _ h => h) rfl (Or.inl ⟨by rfl, ?h3⟩) (by assumption) ?r3
  case h3 => (intro w hSw; go_simp; with_reducible rfl)
  simp only [Act.put, List.setIfInBounds_toArray, List.set_cons_zero, List.set_cons_succ]
  refine wpAnyK_take 5 14 (v := ?v5) rfl (by kernel_rfl) (by kernel_rfl) (by kernel_rfl) (by kernel_rfl) (by kernel_rfl) (fun _ _ _ h => h) rfl (Or.inl ⟨by rfl, ?h5⟩) (by assumption) ?r5
  case h5 => (intro w hSw; go_simp; with_reducible rfl)
  simp only [Act.put, List.setIfInBounds_toArray, List.set_cons_zero, List.set_cons_succ]
  refine wpAnyK_take 6 15 (v := ?v6) rfl (by kernel_rfl) (by kernel_rfl) (by kernel_rfl) (by kernel_rfl) (by kernel_rfl) (fun _ _ _ h => h) rfl (Or.inl ⟨by rfl, ?h6⟩) (by assumption) ?r6
  case h6 => (intro w hSw; go_simp; with_reducible rfl)
  simp only [Act.put, List.setIfInBounds_toArray, List.set_cons_zero, List.set_cons_succ]
  refine wpAnyK_take 7 16 (v := ?v7) rfl (by kernel_rfl) (by kernel_rfl) (by kernel_rfl) (by kernel_rfl) (by kernel_rfl) (fun _ _ _ h => h) rfl (Or.inl ⟨by rfl, ?h7⟩) (by assumption) ?r7
  case h7 => (intro w hSw; go_simp; with_reducible rfl)
  simp only [Act.put, List.setIfInBounds_toArray, List.set_cons_zero, List.set_cons_succ]
  refine wpAnyK_take 8 17 (v := ?v8) rfl (by kernel_rfl) (by kernel_rfl) (by kernel_rfl) (by kernel_rfl) (by kernel_rfl) (fun _ _ _ h => h) rfl (Or.inl ⟨by rfl, ?h8⟩) (by assumption) ?r8
  case h8 => (intro w hSw; go_simp; with_reducible rfl)
  simp only [Act.put, List.setIfInBounds_toArray, List.set_cons_zero, List.set_cons_succ]
  refine wpAnyK_one 4 (by kernel_rfl) rfl (fun K hK => ?_)
  go_simp
  refine hK.out _ _ (fun _ _ => trivial) ?_
  clear hK K
  simp only [List.setIfInBounds_toArray, List.set_cons_zero, List.set_cons_succ]
  refine wpAnyK_one 9 (by kernel_rfl) rfl (fun K hK => ?_)
  go_simp
  refine hK.out _ _ (fun _ _ => trivial) ?_
  clear hK K
  simp only [List.setIfInBounds_toArray, List.set_cons_zero, List.set_cons_succ]
  refine wpAnyK_one 10 (by kernel_rfl) rfl (fun K hK => ?_)
  go_simp
  refine hK.out _ _ (fun h => absurd rfl h) ?_
  clear hK K
  simp only [List.setIfInBounds_toArray, List.set_cons_zero, List.set_cons_succ]
  refine wpAnyK_done (by kernel_rfl) ?_ _
  go_wp2
  go_ret
  exact ⟨rfl, R.out.1, R.out.2⟩
theorem without10_30 {w : World} {b o : Nat} {F : Nat → Nat × Nat} (h : Wf w b o 3 F) :
    Calls Try.prog 47 #[.slice (some ⟨b, o, none⟩) 3 3, .int .i64 0] w fun e w' => e = .returned (.slice (some ⟨w.heap.size, 0, none⟩) 2 3) ∧ Wf w' w.heap.size 0 2 (fun i => if i < 0 then F i else F (i + 1)) ∧ Bw w w' := by
  have hmk : ∀ w : World, (Instr.makeSlice 22 (.int .i64 0) (.int .i64 3)).run Try.prog w = .ok (.slice (some ⟨w.heap.size, 0, none⟩) 0 3) (w.alloc (.cells #[.complex .f64 0 0, .complex .f64 0 0, .complex .f64 0 0] 27)) := fun w => by
    have := make0_c 3 (by omega) w
    rw [show zcC 3 = #[.complex .f64 0 0, .complex .f64 0 0, .complex .f64 0 0] by kernel_rfl] at this
    exact this
  have hb := h.1
  have e0 := h.2 0 (by omega)
  have e1 := h.2 1 (by omega)
  have e2 := h.2 2 (by omega)
  rw [Nat.add_zero] at e0
  generalize h0x : (F 0).1 = x0 at e0
  generalize h0y : (F 0).2 = y0 at e0
  generalize h1x : (F 1).1 = x1 at e1
  generalize h1y : (F 1).2 = y1 at e1
  generalize h2x : (F 2).1 = x2 at e2
  generalize h2y : (F 2).2 = y2 at e2
  have R : Hid (Wf (w.alloc (.cells #[.complex .f64 x1 y1, .complex .f64 x2 y2, .complex .f64 0 0] 27)).drew w.heap.size 0 2 (fun i => if i < 0 then F i else F (i + 1)) ∧ Bw w (w.alloc (.cells #[.complex .f64 x1 y1, .complex .f64 x2 y2, .complex .f64 0 0] 27)).drew) := by
    refine ⟨⟨by simp, fun i hi => ?_⟩, bw_trans (bw_alloc _ _) (Bw.drw _)⟩
    have e := World.cell?_alloc_at (w := w) #[.complex .f64 x1 y1, .complex .f64 x2 y2, .complex .f64 0 0] 27 w.heap.size i rfl
    rw [Nat.zero_add]
    show World.cell? (w.alloc (.cells #[.complex .f64 x1 y1, .complex .f64 x2 y2, .complex .f64 0 0] 27)) _ = _
    rw [e]
    match i, hi with
    | 0, _ => simp [h1x, h1y]
    | 1, _ => simp [h2x, h2y]
  have S0 : True := trivial
  have wg : IntKind.i64.wrap 1 = 1 := by decide
  clear h h0x h0y h1x h1y h2x h2y
  go_enter Try.func47, Try.ntmps47
  go_wp2_with fail
  refine wp_region_K (fun _ => True) 10 11 #[false, false, false, false, false, false, false, false, false, false, false] (by kernel_rfl) (by kernel_rfl) (by kernel_rfl) ?_
  refine wpAnyK_take 0 9 (v := ?v0) rfl (by kernel_rfl) (by kernel_rfl) (by kernel_rfl) (by kernel_rfl) (by kernel_rfl) (fun _ _ _ h => h) rfl (Or.inl ⟨by rfl, ?h0⟩) (by assumption) ?r0
  case h0 => (intro w hSw; go_simp; with_reducible rfl)
  simp only [Act.put, List.setIfInBounds_toArray, List.set_cons_zero, List.set_cons_succ]
  refine wpAnyK_take 1 10 (v := ?v1) rfl (by kernel_rfl) (by kernel_rfl) (by kernel_rfl) (by kernel_rfl) (by kernel_rfl) (fun _ _ _ h => h) rfl (Or.inl ⟨by rfl, ?h1⟩) (by assumption) ?r1
  case h1 => (intro w hSw; go_simp; with_reducible rfl)
  simp only [Act.put, List.setIfInBounds_toArray, List.set_cons_zero, List.set_cons_succ]
  refine wpAnyK_take 2 11 (v := ?v2) rfl (by kernel_rfl) (by kernel_rfl) (by kernel_rfl) (by kernel_rfl) (by kernel_rfl) (fun _ _ _ h => h) rfl (Or.inl ⟨by rfl, ?h2⟩) (by assumption) ?r2
  case h2 => (intro w hSw; go_simp; with_reducible rfl)
  simp only [Act.put, List.setIfInBounds_toArray, List.set_cons_zero, List.set_cons_succ]
  refine wpAnyK_take 3 12 (v := ?v3) rfl (by kernel_rfl) (by kernel_rfl) (by kernel_rfl) (by kernel_rfl) (by kernel_rfl) (fun _ _ _ h => h) rfl (Or.inl ⟨by rfl, ?h3⟩) (by assumption) ?r3
  case h3 => (intro w hSw; go_simp; with_reducible rfl)
  simp only [Act.put, List.setIfInBounds_toArray, List.set_cons_zero, List.set_cons_succ]
  refine wpAnyK_take 5 14 (v := ?v5) rfl (by kernel_rfl) (by kernel_rfl) (by kernel_rfl) (by kernel_rfl) (by kernel_rfl) (fun _ _ _ h => h) rfl (Or.inl ⟨by rfl, ?h5⟩) (by assumption) ?r5
  case h5 => (intro w hSw; go_simp; with_reducible rfl)
  simp only [Act.put, List.setIfInBounds_toArray, List.set_cons_zero, List.set_cons_succ]
  refine wpAnyK_take 6 15 (v := ?v6) rfl (by kernel_rfl) (by kernel_rfl) (by kernel_rfl) (by kernel_rfl) (by kernel_rfl) (fun _ _ _ h => h) rfl (Or.inl ⟨by rfl, ?h6⟩) (by assumption) ?r6
  case h6 => (intro w hSw; go_simp; with_reducible rfl)
  simp only [Act.put, List.setIfInBounds_toArray, List.set_cons_zero, List.set_cons_succ]
  refine wpAnyK_take 7 16 (v := ?v7) rfl (by kernel_rfl) (by kernel_rfl) (by kernel_rfl) (by kernel_rfl) (by kernel_rfl) (fun _ _ _ h => h) rfl (Or.inl ⟨by rfl, ?h7⟩) (by assumption) ?r7
  case h7 => (intro w hSw; go_simp; with_reducible rfl)
  simp only [Act.put, List.setIfInBounds_toArray, List.set_cons_zero, List.set_cons_succ]
  refine wpAnyK_take 8 17 (v := ?v8) rfl (by kernel_rfl) (by kernel_rfl) (by kernel_rfl) (by kernel_rfl) (by kernel_rfl) (fun _ _ _ h => h) rfl (Or.inl ⟨by rfl, ?h8⟩) (by assumption) ?r8
  case h8 => (intro w hSw; go_simp; with_reducible rfl)
  simp only [Act.put, List.setIfInBounds_toArray, List.set_cons_zero, List.set_cons_succ]
  refine wpAnyK_one 4 (by kernel_rfl) rfl (fun K hK => ?_)
  go_simp
  refine hK.out _ _ (fun _ _ => trivial) ?_
  clear hK K
  simp only [List.setIfInBounds_toArray, List.set_cons_zero, List.set_cons_succ]
  refine wpAnyK_one 9 (by kernel_rfl) rfl (fun K hK => ?_)
  go_simp
  refine hK.out _ _ (fun _ _ => trivial) ?_
  clear hK K
  simp only [List.setIfInBounds_toArray, List.set_cons_zero, List.set_cons_succ]
  refine wpAnyK_one 10 (by kernel_rfl) rfl (fun K hK => ?_)
  go_simp
  refine hK.out _ _ (fun h => absurd rfl h) ?_
  clear hK K
  simp only [List.setIfInBounds_toArray, List.set_cons_zero, List.set_cons_succ]
  refine wpAnyK_done (by kernel_rfl) ?_ _
  go_wp2
  go_ret
  exact ⟨rfl, R.out.1, R.out.2⟩
theorem without10_31 {w : World} {b o : Nat} {F : Nat → Nat × Nat} (h : Wf w b o 3 F) :
    Calls Try.prog 47 #[.slice (some ⟨b, o, none⟩) 3 3, .int .i64 1] w fun e w' => e = .returned (.slice (some ⟨w.heap.size, 0, none⟩) 2 3) ∧ Wf w' w.heap.size 0 2 (fun i => if i < 1 then F i else F (i + 1)) ∧ Bw w w' := by
  have hmk : ∀ w : World, (Instr.makeSlice 22 (.int .i64 0) (.int .i64 3)).run Try.prog w = .ok (.slice (some ⟨w.heap.size, 0, none⟩) 0 3) (w.alloc (.cells #[.complex .f64 0 0, .complex .f64 0 0, .complex .f64 0 0] 27)) := fun w => by
    have := make0_c 3 (by omega) w
    rw [show zcC 3 = #[.complex .f64 0 0, .complex .f64 0 0, .complex .f64 0 0] by kernel_rfl] at this
    exact this
  have hb := h.1
  have e0 := h.2 0 (by omega)
  have e1 := h.2 1 (by omega)
  have e2 := h.2 2 (by omega)
  rw [Nat.add_zero] at e0
  generalize h0x : (F 0).1 = x0 at e0
  generalize h0y : (F 0).2 = y0 at e0
  generalize h1x : (F 1).1 = x1 at e1
  generalize h1y : (F 1).2 = y1 at e1
  generalize h2x : (F 2).1 = x2 at e2
  generalize h2y : (F 2).2 = y2 at e2
  have R : Hid (Wf (w.alloc (.cells #[.complex .f64 x0 y0, .complex .f64 x2 y2, .complex .f64 0 0] 27)).drew w.heap.size 0 2 (fun i => if i < 1 then F i else F (i + 1)) ∧ Bw w (w.alloc (.cells #[.complex .f64 x0 y0, .complex .f64 x2 y2, .complex .f64 0 0] 27)).drew) := by
    refine ⟨⟨by simp, fun i hi => ?_⟩, bw_trans (bw_alloc _ _) (Bw.drw _)⟩
    have e := World.cell?_alloc_at (w := w) #[.complex .f64 x0 y0, .complex .f64 x2 y2, .complex .f64 0 0] 27 w.heap.size i rfl
    rw [Nat.zero_add]
    show World.cell? (w.alloc (.cells #[.complex .f64 x0 y0, .complex .f64 x2 y2, .complex .f64 0 0] 27)) _ = _
    rw [e]
    match i, hi with
    | 0, _ => simp [h0x, h0y]
    | 1, _ => simp [h2x, h2y]
  have S0 : True := trivial
  have wg : IntKind.i64.wrap 2 = 2 := by decide
  clear h h0x h0y h1x h1y h2x h2y
  go_enter Try.func47, Try.ntmps47
  go_wp2_with fail
  refine wp_region_K (fun _ => True) 10 11 #[false, false, false, false, false, false, false, false, false, false, false] (by kernel_rfl) (by kernel_rfl) (by kernel_rfl) ?_
  refine wpAnyK_take 0 9 (v := ?v0) rfl (by kernel_rfl) (by kernel_rfl) (by kernel_rfl) (by kernel_rfl) (by kernel_rfl) (fun _ _ _ h => h) rfl (Or.inl ⟨by rfl, ?h0⟩) (by assumption) ?r0
  case h0 => (intro w hSw; go_simp; with_reducible rfl)
  simp only [Act.put, List.setIfInBounds_toArray, List.set_cons_zero, List.set_cons_succ]
  refine wpAnyK_take 1 10 (v := ?v1) rfl (by kernel_rfl) (by kernel_rfl) (by kernel_rfl) (by kernel_rfl) (by kernel_rfl) (fun _ _ _ h => h) rfl (Or.inl ⟨by rfl, ?h1⟩) (by assumption) ?r1
  case h1 => (intro w hSw; go_simp; with_reducible rfl)
  simp only [Act.put, List.setIfInBounds_toArray, List.set_cons_zero, List.set_cons_succ]
  refine wpAnyK_take 2 11 (v := ?v2) rfl (by kernel_rfl) (by kernel_rfl) (by kernel_rfl) (by kernel_rfl) (by kernel_rfl) (fun _ _ _ h => h) rfl (Or.inl ⟨by rfl, ?h2⟩) (by assumption) ?r2
  case h2 => (intro w hSw; go_simp; with_reducible rfl)
  simp only [Act.put, List.setIfInBounds_toArray, List.set_cons_zero, List.set_cons_succ]
  refine wpAnyK_take 3 12 (v := ?v3) rfl (by kernel_rfl) (by kernel_rfl) (by kernel_rfl) (by kernel_rfl) (by kernel_rfl) (fun _ _ _ h => h) rfl (Or.inl ⟨by rfl, ?h3⟩) (by assumption) ?r3
  case h3 => (intro w hSw; go_simp; with_reducible rfl)
  simp only [Act.put, List.setIfInBounds_toArray, List.set_cons_zero, List.set_cons_succ]
  refine wpAnyK_take 5 14 (v := ?v5) rfl (by kernel_rfl) (by kernel_rfl) (by kernel_rfl) (by kernel_rfl) (by kernel_rfl) (fun _ _ _ h => h) rfl (Or.inl ⟨by rfl, ?h5⟩) (by assumption) ?r5
  case h5 => (intro w hSw; go_simp; with_reducible rfl)
  simp only [Act.put, List.setIfInBounds_toArray, List.set_cons_zero, List.set_cons_succ]
  refine wpAnyK_take 6 15 (v := ?v6) rfl (by kernel_rfl) (by kernel_rfl) (by kernel_rfl) (by kernel_rfl) (by kernel_rfl) (fun _ _ _ h => h) rfl (Or.inl ⟨by rfl, ?h6⟩) (by assumption) ?r6
  case h6 => (intro w hSw; go_simp; with_reducible rfl)
  simp only [Act.put, List.setIfInBounds_toArray, List.set_cons_zero, List.set_cons_succ]
  refine wpAnyK_take 7 16 (v := ?v7) rfl (by kernel_rfl) (by kernel_rfl) (by kernel_rfl) (by kernel_rfl) (by kernel_rfl) (fun _ _ _ h => h) rfl (Or.inl ⟨by rfl, ?h7⟩) (by assumption) ?r7
  case h7 => (intro w hSw; go_simp; with_reducible rfl)
  simp only [Act.put, List.setIfInBounds_toArray, List.set_cons_zero, List.set_cons_succ]
  refine wpAnyK_take 8 17 (v := ?v8) rfl (by kernel_rfl) (by kernel_rfl) (by kernel_rfl) (by kernel_rfl) (by kernel_rfl) (fun _ _ _ h => h) rfl (Or.inl ⟨by rfl, ?h8⟩) (by assumption) ?r8
  case h8 => (intro w hSw; go_simp; with_reducible rfl)
  simp only [Act.put, List.setIfInBounds_toArray, List.set_cons_zero, List.set_cons_succ]
  refine wpAnyK_one 4 (by kernel_rfl) rfl (fun K hK => ?_)
  go_simp
  refine hK.out _ _ (fun _ _ => trivial) ?_
  clear hK K
  simp only [List.setIfInBounds_toArray, List.set_cons_zero, List.set_cons_succ]
  refine wpAnyK_one 9 (by kernel_rfl) rfl (fun K hK => ?_)
  go_simp
  refine hK.out _ _ (fun _ _ => trivial) ?_
  clear hK K
  simp only [List.setIfInBounds_toArray, List.set_cons_zero, List.set_cons_succ]
  refine wpAnyK_one 10 (by kernel_rfl) rfl (fun K hK => ?_)
  go_simp
  refine hK.out _ _ (fun h => absurd rfl h) ?_
  clear hK K
  simp only [List.setIfInBounds_toArray, List.set_cons_zero, List.set_cons_succ]
  refine wpAnyK_done (by kernel_rfl) ?_ _
  go_wp2
  go_ret
  exact ⟨rfl, R.out.1, R.out.2⟩
theorem without10_32 {w : World} {b o : Nat} {F : Nat → Nat × Nat} (h : Wf w b o 3 F) :
    Calls Try.prog 47 #[.slice (some ⟨b, o, none⟩) 3 3, .int .i64 2] w fun e w' => e = .returned (.slice (some ⟨w.heap.size, 0, none⟩) 2 3) ∧ Wf w' w.heap.size 0 2 (fun i => if i < 2 then F i else F (i + 1)) ∧ Bw w w' := by
  have hmk : ∀ w : World, (Instr.makeSlice 22 (.int .i64 0) (.int .i64 3)).run Try.prog w = .ok (.slice (some ⟨w.heap.size, 0, none⟩) 0 3) (w.alloc (.cells #[.complex .f64 0 0, .complex .f64 0 0, .complex .f64 0 0] 27)) := fun w => by
    have := make0_c 3 (by omega) w
    rw [show zcC 3 = #[.complex .f64 0 0, .complex .f64 0 0, .complex .f64 0 0] by kernel_rfl] at this
    exact this
  have hb := h.1
  have e0 := h.2 0 (by omega)
  have e1 := h.2 1 (by omega)
  have e2 := h.2 2 (by omega)
  rw [Nat.add_zero] at e0
  generalize h0x : (F 0).1 = x0 at e0
  generalize h0y : (F 0).2 = y0 at e0
  generalize h1x : (F 1).1 = x1 at e1
  generalize h1y : (F 1).2 = y1 at e1
  generalize h2x : (F 2).1 = x2 at e2
  generalize h2y : (F 2).2 = y2 at e2
  have R : Hid (Wf (w.alloc (.cells #[.complex .f64 x0 y0, .complex .f64 x1 y1, .complex .f64 0 0] 27)).drew w.heap.size 0 2 (fun i => if i < 2 then F i else F (i + 1)) ∧ Bw w (w.alloc (.cells #[.complex .f64 x0 y0, .complex .f64 x1 y1, .complex .f64 0 0] 27)).drew) := by
    refine ⟨⟨by simp, fun i hi => ?_⟩, bw_trans (bw_alloc _ _) (Bw.drw _)⟩
    have e := World.cell?_alloc_at (w := w) #[.complex .f64 x0 y0, .complex .f64 x1 y1, .complex .f64 0 0] 27 w.heap.size i rfl
    rw [Nat.zero_add]
    show World.cell? (w.alloc (.cells #[.complex .f64 x0 y0, .complex .f64 x1 y1, .complex .f64 0 0] 27)) _ = _
    rw [e]
    match i, hi with
    | 0, _ => simp [h0x, h0y]
    | 1, _ => simp [h1x, h1y]
  have S0 : True := trivial
  have wg : IntKind.i64.wrap 3 = 3 := by decide
  clear h h0x h0y h1x h1y h2x h2y
  go_enter Try.func47, Try.ntmps47
  go_wp2_with fail
  refine wp_region_K (fun _ => True) 10 11 #[false, false, false, false, false, false, false, false, false, false, false] (by kernel_rfl) (by kernel_rfl) (by kernel_rfl) ?_
  refine wpAnyK_take 0 9 (v := ?v0) rfl (by kernel_rfl) (by kernel_rfl) (by kernel_rfl) (by kernel_rfl) (by kernel_rfl) (fun _ _ _ h => h) rfl (Or.inl ⟨by rfl, ?h0⟩) (by assumption) ?r0
  case h0 => (intro w hSw; go_simp; with_reducible rfl)
  simp only [Act.put, List.setIfInBounds_toArray, List.set_cons_zero, List.set_cons_succ]
  refine wpAnyK_take 1 10 (v := ?v1) rfl (by kernel_rfl) (by kernel_rfl) (by kernel_rfl) (by kernel_rfl) (by kernel_rfl) (fun _ _ _ h => h) rfl (Or.inl ⟨by rfl, ?h1⟩) (by assumption) ?r1
  case h1 => (intro w hSw; go_simp; with_reducible rfl)
  simp only [Act.put, List.setIfInBounds_toArray, List.set_cons_zero, List.set_cons_succ]
  refine wpAnyK_take 2 11 (v := ?v2) rfl (by kernel_rfl) (by kernel_rfl) (by kernel_rfl) (by kernel_rfl) (by kernel_rfl) (fun _ _ _ h => h) rfl (Or.inl ⟨by rfl, ?h2⟩) (by assumption) ?r2
  case h2 => (intro w hSw; go_simp; with_reducible rfl)
  simp only [Act.put, List.setIfInBounds_toArray, List.set_cons_zero, List.set_cons_succ]
  refine wpAnyK_take 3 12 (v := ?v3) rfl (by kernel_rfl) (by kernel_rfl) (by kernel_rfl) (by kernel_rfl) (by kernel_rfl) (fun _ _ _ h => h) rfl (Or.inl ⟨by rfl, ?h3⟩) (by assumption) ?r3
  case h3 => (intro w hSw; go_simp; with_reducible rfl)
  simp only [Act.put, List.setIfInBounds_toArray, List.set_cons_zero, List.set_cons_succ]
  refine wpAnyK_take 5 14 (v := ?v5) rfl (by kernel_rfl) (by kernel_rfl) (by kernel_rfl) (by kernel_rfl) (by kernel_rfl) (fun _ _ _ h => h) rfl (Or.inl ⟨by rfl, ?h5⟩) (by assumption) ?r5
  case h5 => (intro w hSw; go_simp; with_reducible rfl)
  simp only [Act.put, List.setIfInBounds_toArray, List.set_cons_zero, List.set_cons_succ]
  refine wpAnyK_take 6 15 (v := ?v6) rfl (by kernel_rfl) (by kernel_rfl) (by kernel_rfl) (by kernel_rfl) (by kernel_rfl) (fun _ _ _ h => h) rfl (Or.inl ⟨by rfl, ?h6⟩) (by assumption) ?r6
  case h6 => (intro w hSw; go_simp; with_reducible rfl)
  simp only [Act.put, List.setIfInBounds_toArray, List.set_cons_zero, List.set_cons_succ]
  refine wpAnyK_take 7 16 (v := ?v7) rfl (by kernel_rfl) (by kernel_rfl) (by kernel_rfl) (by kernel_rfl) (by kernel_rfl) (fun _ _ _ h => h) rfl (Or.inl ⟨by rfl, ?h7⟩) (by assumption) ?r7
  case h7 => (intro w hSw; go_simp; with_reducible rfl)
  simp only [Act.put, List.setIfInBounds_toArray, List.set_cons_zero, List.set_cons_succ]
  refine wpAnyK_take 8 17 (v := ?v8) rfl (by kernel_rfl) (by kernel_rfl) (by kernel_rfl) (by kernel_rfl) (by kernel_rfl) (fun _ _ _ h => h) rfl (Or.inl ⟨by rfl, ?h8⟩) (by assumption) ?r8
  case h8 => (intro w hSw; go_simp; with_reducible rfl)
  simp only [Act.put, List.setIfInBounds_toArray, List.set_cons_zero, List.set_cons_succ]
  refine wpAnyK_one 4 (by kernel_rfl) rfl (fun K hK => ?_)
  go_simp
  refine hK.out _ _ (fun _ _ => trivial) ?_
  clear hK K
  simp only [List.setIfInBounds_toArray, List.set_cons_zero, List.set_cons_succ]
  refine wpAnyK_one 9 (by kernel_rfl) rfl (fun K hK => ?_)
  go_simp
  refine hK.out _ _ (fun _ _ => trivial) ?_
  clear hK K
  simp only [List.setIfInBounds_toArray, List.set_cons_zero, List.set_cons_succ]
  refine wpAnyK_one 10 (by kernel_rfl) rfl (fun K hK => ?_)
  go_simp
  refine hK.out _ _ (fun h => absurd rfl h) ?_
  clear hK K
  simp only [List.setIfInBounds_toArray, List.set_cons_zero, List.set_cons_succ]
  refine wpAnyK_done (by kernel_rfl) ?_ _
  go_wp2
  go_ret
  exact ⟨rfl, R.out.1, R.out.2⟩
end Go.Proofs.Ytmbjgakehghdjaa
/-
  OWN TEXT: package ratio: checkPoles, checkPlaces, of whole complex numbers.
-/
namespace Go.Proofs.Ytmbjgakehghdjaa
open Go.ChangeShapes Go.WideShapes Go.ChangeAt Go.RowKit
set_option linter.unusedVariables false
attribute [local go_sem] frombits_call tobits_call run_neg run_store_cx
/-- poles as they lie: places zs, residues rs -/
def PL (c : Nat) (w : World) (a : Option Addr) (n : Nat) (zs rs : List Py.G) : Prop := zs.length = n ∧ rs.length = n ∧ (n = 0 ∨ ∃ b, a = some ⟨b, 0, none⟩ ∧ b < w.heap.size ∧ ∀ i, i < n → ∃ x y u v, w.cell? ⟨b, 2 * i, none⟩ = some (.complex .f64 x y) ∧ w.cell? ⟨b, 2 * i + 1, none⟩ = some (.complex .f64 u v) ∧ wC c x y (Py.co zs i) ∧ wC c u v (Py.co rs i))
theorem PL.bw {c : Nat} {w w' : World} {a : Option Addr} {n : Nat} {zs rs : List Py.G} (h : PL c w a n zs rs) (k : Bw w w') : PL c w' a n zs rs := by
  obtain ⟨h1, h2, h3⟩ := h
  refine ⟨h1, h2, ?_⟩
  rcases h3 with h3 | ⟨b, e, hb, h3⟩
  · exact Or.inl h3
  · refine Or.inr ⟨b, e, Nat.lt_of_lt_of_le hb (Below.size k), fun i hi => ?_⟩
    obtain ⟨x, y, u, v, e1, e2, q1, q2⟩ := h3 i hi
    exact ⟨x, y, u, v, (Below.cell k (p := ⟨b, 2 * i, none⟩) hb).trans e1, (Below.cell k (p := ⟨b, 2 * i + 1, none⟩) hb).trans e2, q1, q2⟩
/-- a list as it lies, or none -/
def GL (c : Nat) (w : World) (a : Option Addr) (n : Nat) (zs : List Py.G) : Prop := zs.length = n ∧ (n = 0 ∨ ∃ b o, a = some ⟨b, o, none⟩ ∧ Gl c w b o zs)
theorem GL.bw {c : Nat} {w w' : World} {a : Option Addr} {n : Nat} {zs : List Py.G} (h : GL c w a n zs) (k : Bw w w') : GL c w' a n zs := by
  obtain ⟨h1, h2⟩ := h
  refine ⟨h1, ?_⟩
  rcases h2 with h2 | ⟨b, o, e, g⟩
  · exact Or.inl h2
  · exact Or.inr ⟨b, o, e, g.bw k⟩
set_option maxHeartbeats 4000000 in
theorem cpoles10 {c : Nat} (hc : c = 1074) {w : World} {a : Option Addr} {n cap : Nat} {zs rs : List Py.G} (hn : n ≤ 3) (h : PL c w a n zs rs) (hz : ∀ i, Py.Le (Py.co zs i) 12) (hr : ∀ i, Py.Le (Py.co rs i) 12) :
    Calls Try.prog 44 #[.slice a n cap, .slice none 0 0] w fun e w' => e = .returned (.int .i64 0) ∧ Bw w w' := by
  have H := hide h
  have HC := hide hc
  have HZ := hide (And.intro hz hr)
  have t1 : ¬ 64 < (n : Int) := by omega
  clear h hc hz hr
  go_enter Try.func44, Try.ntmps44
  go_wp2
  go_loopw [12] (fun i wr => ∃ k : Nat, k ≤ n ∧ i = .int .i64 k ∧ Bw w wr) (fun i _ => n - (intOf i).toNat)
  case atStart => exact ⟨0, Nat.zero_le _, rfl, Bw.refl _⟩
  case round =>
    obtain ⟨k, hk, rfl, hbw⟩ := hrel
    by_cases hk1 : k < n
    · have hk2 : (k : Int) < n := by omega
      obtain ⟨b, rfl, hb, hcell⟩ := (H.out.bw hbw).2.2.resolve_left (by omega)
      obtain ⟨x, y, u, v, e1, e2, q1, q2⟩ := hcell k hk1
      have P1 : Hid (∀ wz, Calls Try.prog 65 #[.complex .f64 x y] wz fun e w' => e = .returned (.bool true) ∧ w' = wz) := fun wz => rplace10 HC.out q1 ((HZ.out.1 k).mono (by omega)) wz
      have P2 : Hid (∀ wz, Calls Try.prog 65 #[.complex .f64 u v] wz fun e w' => e = .returned (.bool true) ∧ w' = wz) := fun wz => rplace10 HC.out q2 ((HZ.out.2 k).mono (by omega)) wz
      have bA := bw_trans hbw (bw_alloc wr (.cells #[.complex .f64 x y, .complex .f64 u v] 42))
      clear q1 q2 hcell
      rcases (show k = 0 ∨ k = 1 ∨ k = 2 by omega) with rfl | rfl | rfl
      · go_wp2_with fail
        refine (P1.out _).mono ?_
        rintro e' w5 ⟨rfl, hw5⟩
        subst hw5
        go_wp2_with fail
        refine (P2.out _).mono ?_
        rintro e' w5 ⟨rfl, hw5⟩
        subst hw5
        clear P1 P2 e1 e2
        go_wp2
        go_roundw
        case rel => exact ⟨1, by omega, by simp, bA⟩
        case measure => simp [intOf]; omega
      · go_wp2_with fail
        refine (P1.out _).mono ?_
        rintro e' w5 ⟨rfl, hw5⟩
        subst hw5
        go_wp2_with fail
        refine (P2.out _).mono ?_
        rintro e' w5 ⟨rfl, hw5⟩
        subst hw5
        clear P1 P2 e1 e2
        go_wp2
        go_roundw
        case rel => exact ⟨2, by omega, by simp, bA⟩
        case measure => simp [intOf]; omega
      · go_wp2_with fail
        refine (P1.out _).mono ?_
        rintro e' w5 ⟨rfl, hw5⟩
        subst hw5
        go_wp2_with fail
        refine (P2.out _).mono ?_
        rintro e' w5 ⟨rfl, hw5⟩
        subst hw5
        clear P1 P2 e1 e2
        go_wp2
        go_roundw
        case rel => exact ⟨3, by omega, by simp, bA⟩
        case measure => simp [intOf]; omega
    · have hk3 : k = n := by omega
      subst hk3
      go_wp2
      go_ret
      exact ⟨rfl, hbw⟩
set_option maxHeartbeats 4000000 in
theorem cplaces10 {c : Nat} (hc : c = 1074) {w : World} {b1 o1 c1 n1 b2 o2 c2 n2 : Nat} {l1 l2 : List Py.G} {a : Option Addr} {cap : Nat} {zs : List Py.G} (m1 : May n1 l1) (m2 : May n2 l2) (x1 : Gl c w b1 o1 l1) (x2 : Gl c w b2 o2 l2) (z2 : Nz n2 l2) (hn : n2 ≤ 3) (h : GL c w a n2 zs) (hz : ∀ i, Py.Le (Py.co zs i) 12) :
    Calls Try.prog 43 #[.agg #[.slice (some ⟨b1, o1, none⟩) (n1 + 1) c1, .slice (some ⟨b2, o2, none⟩) (n2 + 1) c2], .slice a n2 cap] w fun e w' => e = .returned (.int .i64 0) ∧ Bw w w' := by
  have f1 := Fc.made w (.slice (some ⟨b1, o1, none⟩) (n1 + 1) c1) (.slice (some ⟨b2, o2, none⟩) (n2 + 1) c2) 24
  have bA := bw_alloc w (.cells #[.slice (some ⟨b1, o1, none⟩) (n1 + 1) c1, .slice (some ⟨b2, o2, none⟩) (n2 + 1) c2] 24)
  have CK : Hid (∀ wz, Bw w wz → Calls Try.prog 8 #[.agg #[.slice (some ⟨b1, o1, none⟩) (n1 + 1) c1, .slice (some ⟨b2, o2, none⟩) (n2 + 1) c2]] wz fun e w' => e = .returned (.int .i64 0) ∧ Bw wz w') := fun wz hz => rcheck10 hc m1 (x1.bw hz) m2 (x2.bw hz) z2
  have H := hide h
  have HC := hide hc
  have HZ := hide hz
  have HF := hide f1
  clear h hc hz f1 m1 m2 x1 x2 z2
  go_enter Try.func43, Try.ntmps43
  go_wp2_with fail
  refine (CK.out _ bA).mono ?_
  rintro e' w1 ⟨rfl, b1'⟩
  obtain ⟨_, u0, u1⟩ := HF.out.bw b1'
  replace bA := bw_trans bA b1'
  clear CK b1' HF
  go_wp2
  go_loopw [22] (fun i wr => ∃ k : Nat, k ≤ n2 ∧ i = .int .i64 k ∧ Bw w wr) (fun i _ => n2 - (intOf i).toNat)
  case atStart => exact ⟨0, Nat.zero_le _, rfl, bA⟩
  case round =>
    obtain ⟨k, hk, rfl, hbw⟩ := hrel
    clear bA u0 u1
    by_cases hk1 : k < n2
    · have hk2 : (k : Int) < n2 := by omega
      obtain ⟨b, o, rfl, hg⟩ := (H.out.bw hbw).2.resolve_left (by omega)
      obtain ⟨x, y, e1, q1⟩ := hg.2 k (by have := H.out.1; omega)
      have P1 : Hid (∀ wz, Calls Try.prog 65 #[.complex .f64 x y] wz fun e w' => e = .returned (.bool true) ∧ w' = wz) := fun wz => rplace10 HC.out q1 ((HZ.out k).mono (by omega)) wz
      clear q1 hg
      go_wp2_with fail
      refine (P1.out _).mono ?_
      rintro e' w5 ⟨rfl, hw5⟩
      subst hw5
      clear P1 e1
      go_wp2
      go_roundw
      case rel => exact ⟨k + 1, by omega, by simp, hbw⟩
      case measure => simp [intOf]; omega
    · have hk3 : k = n2 := by omega
      subst hk3
      go_wp2
      go_ret
      exact ⟨rfl, hbw⟩
set_option maxHeartbeats 4000000 in
theorem dof10 {c : Nat} {w : World} {W S E a n k b' o' n' cap' : Nat} {l' : List Py.G} (u : FrameMode) (hW : Wk w W) (hS : Fw w S E (.slice (some ⟨a, 0, none⟩) n k) (.slice (some ⟨b', o', none⟩) (n' + 1) cap') 0) (hm' : May n' l') (h' : Gl c w b' o' l') (hz : Nz n' l') :
    CallsD Try.prog 45 #[.pointer (some ⟨W, 0, none⟩), .pointer (some ⟨S, 0, none⟩), .pointer (some ⟨E, 0, none⟩)] u w fun e u' w' => u' = u ∧ (e = .returned (.tuple #[]) ∧ Bw w w') := by
  have A := hide (wanswered10 (cap' := cap') (s := .slice (some ⟨a, 0, none⟩) n k) ⟨_, _, _, rfl⟩ hW hm' h' hz)
  have HS := hide hS
  obtain ⟨⟨_, c0, c1⟩, _⟩ := hS
  clear hW hm' h' hz
  go_enter_d Try.func45, Try.ntmps45
  go_wp2_with fail
  refine A.out.mono ?_
  rintro e' w1 ⟨rfl, b1⟩
  obtain ⟨⟨_, d0, d1⟩, f0, f1, _, g0, g1⟩ := HS.out.bw b1
  have S0 := set_self d0
  have S1 := set_self d1
  have S2 := set_self g0
  clear A HS c0 c1
  go_wp2
  go_end0
  exact ⟨rfl, b1⟩
end Go.Proofs.Ytmbjgakehghdjaa
