/-
  OWN TEXT: package poly: At, of a list of whole complex numbers: its answer hangs on the words alone.
-/
import Derived.Test.YtmbjgakehghdjaaJap
import Derived.Test.YtmbjgakehghdjaaJbd
import Derived.Test.YtmbjgakehghdjaaJal
namespace Go.Proofs.Ytmbjgakehghdjaa
open Go.ChangeShapes Go.WideShapes Go.ChangeAt Go.RowKit
set_option linter.unusedVariables false
attribute [local go_sem] frombits_call tobits_call run_neg run_store_cx
/-- the words that Horner's steps come to -/
def Hv (c n x y : Nat) (F V : Nat → Nat × Nat) (l : List Py.G) (g : Py.G) : Prop := V n = F n ∧ (∀ k, k ≤ n → wC c (V k).1 (V k).2 (Py.ev (l.drop k) g)) ∧
  ∀ k, k < n → ∃ m1 m2, (∀ w, Calls Try.prog 23 #[.complex .f64 (V (k + 1)).1 (V (k + 1)).2, .complex .f64 x y] w fun e w' => e = .returned (.complex .f64 m1 m2) ∧ w' = w) ∧ ∀ (t : TypeId) (w : World), (binOp .add t (.complex .f64 m1 m2) (.complex .f64 (F k).1 (F k).2)).run Try.prog w = .ok (.complex .f64 (V k).1 (V k).2) w
theorem hv10 {c : Nat} (hc : c = 1074) {n x y Z : Nat} {F : Nat → Nat × Nat} {l : List Py.G} {g : Py.G} (U : Nat → Nat) (hF : Wl c (n + 1) F l) (hg : wC c x y g) (lg : Py.Le g Z) (hU : Steps l n Z U) : ∃ V, Hv c n x y F V l g := by
  have key : ∀ d, d ≤ n → ∃ V : Nat → Nat × Nat, V n = F n ∧ (∀ k, n ≤ k + d → k ≤ n → wC c (V k).1 (V k).2 (Py.ev (l.drop k) g) ∧ Py.Le (Py.ev (l.drop k) g) (U k)) ∧
      ∀ k, n ≤ k + d → k < n → ∃ m1 m2, (∀ w, Calls Try.prog 23 #[.complex .f64 (V (k + 1)).1 (V (k + 1)).2, .complex .f64 x y] w fun e w' => e = .returned (.complex .f64 m1 m2) ∧ w' = w) ∧ ∀ (t : TypeId) (w : World), (binOp .add t (.complex .f64 m1 m2) (.complex .f64 (F k).1 (F k).2)).run Try.prog w = .ok (.complex .f64 (V k).1 (V k).2) w := by
    intro d
    induction d with
    | zero =>
      intro _
      refine ⟨F, rfl, fun k h1 h2 => ?_, fun k h1 h2 => by omega⟩
      have hk : k = n := by omega
      subst hk
      have e : Py.ev (l.drop k) g = Py.co l k := by
        rw [Py.ev_drop _ _ (by rw [hF.1]; omega), List.drop_of_length_le (by rw [hF.1]; omega), Py.ev, Py.nought_gm, Py.nought_ga]
      rw [e]
      exact ⟨hF.2 k (by omega), hU.1⟩
    | succ d ih =>
      intro hd
      obtain ⟨V, v0, v1, v2⟩ := ih (by omega)
      obtain ⟨j, hj⟩ : ∃ j, n = j + 1 + d := ⟨n - 1 - d, by omega⟩
      obtain ⟨w1, w2⟩ := v1 (j + 1) (by omega) (by omega)
      have hj53 := hU.2.2 j (by omega)
      obtain ⟨D, hD, hD2⟩ := hU.2.1 j (by omega)
      obtain ⟨a1, a2, ha, MU⟩ := pmul8 hc w1 hg w2 lg (by omega)
      have hbound := w2.mul lg
      obtain ⟨d1, d2, hd', AD⟩ := c_add hc ha (hF.2 j (by omega)) hbound hD (by omega)
      have hR : wC c d1 d2 (Py.ev (l.drop j) g) ∧ Py.Le (Py.ev (l.drop j) g) (U j) := by
        rw [Py.ev_drop _ _ (by rw [hF.1]; omega)]
        exact ⟨hd', (hbound.add hD).mono hD2⟩
      refine ⟨fun k => if k = j then (d1, d2) else V k, ?_, fun k h1 h2 => ?_, fun k h1 h2 => ?_⟩
      · simp only; rw [if_neg (by omega)]; exact v0
      · simp only
        by_cases z : k = j
        · rw [if_pos z, z]; exact hR
        · rw [if_neg z]; exact v1 k (by omega) h2
      · simp only
        by_cases z : k = j
        · rw [if_pos z, if_neg (by omega), z]
          exact ⟨a1, a2, MU, AD⟩
        · rw [if_neg z, if_neg (by omega)]
          exact v2 k (by omega) h2
  obtain ⟨V, v0, v1, v2⟩ := key n (Nat.le_refl _)
  exact ⟨V, v0, fun k hk => (v1 k (by omega) hk).1, fun k hk => v2 k (by omega) hk⟩
set_option maxHeartbeats 4000000 in
theorem stepsw10 {c : Nat} {w : World} {b o cap n x y : Nat} {F V : Nat → Nat × Nat} {l : List Py.G} {g : Py.G} (hm : n < 1000) (h : Wf w b o (n + 1) F) (hV : Hv c n x y F V l g) : Calls Try.prog 69 #[.slice (some ⟨b, o, none⟩) (n + 1) cap, .complex .f64 x y] w fun e w' => ∃ p q, e = .returned (.tuple #[.complex .f64 (V 0).1 (V 0).2, .complex .f64 p q]) ∧ Bw w w' := by
  have L : Calls Try.prog 58 #[.slice (some ⟨b, o, none⟩) (n + 1) cap] w fun e w' => e = .returned (.complex .f64 (F n).1 (F n).2) ∧ w' = w := by
    have e := h.2 n (by omega)
    clear h hV
    go_enter Try.func58, Try.ntmps58
    go_wp2
    go_ret
    exact ⟨rfl, rfl⟩
  rw [← hV.1] at L
  have HL := hide L
  have HG := hide h
  have HV := hide hV
  clear L h hV
  go_enter Try.func69, Try.ntmps69
  go_wp2_with fail
  refine HL.out.mono ?_
  rintro e' w ⟨rfl, rfl⟩
  clear HL
  go_wp2
  go_loopw [4, 5, 6] (fun v t i wr => ∃ (k p q : Nat), k ≤ n ∧ i = .int .i64 ((k : Int) - 1) ∧ v = .complex .f64 (V k).1 (V k).2 ∧ t = .complex .f64 p q ∧ Bw w wr) (fun _ _ i _ => (intOf i + 1).toNat)
  case atStart => exact ⟨n, 0, 0, Nat.le_refl _, by simp; try omega, rfl, rfl, Bw.refl _⟩
  case round =>
    obtain ⟨k, p, q, hk, rfl, rfl, rfl, hbw⟩ := hrel
    cases k with
    | zero =>
      clear HV
      go_wp2
      go_ret2
      exact ⟨p, q, rfl, hbw⟩
    | succ j =>
      rw [show (((j + 1 : Nat) : Int) - 1) = (j : Int) by omega]
      obtain ⟨a1, a2, MU, AD⟩ := HV.out.2.2 j (by omega)
      have ec := (HG.out.bw hbw).2 j (by omega)
      have HM := hide MU
      clear MU
      have HR : Hid ((V j).1 = (V j).1 ∧ (V j).2 = (V j).2) := ⟨rfl, rfl⟩
      generalize e1 : (V (j + 1)).1 = r at HM ⊢
      generalize e2 : (V (j + 1)).2 = s at HM ⊢
      generalize e3 : (V j).1 = d1 at AD ⊢
      generalize e4 : (V j).2 = d2 at AD ⊢
      generalize e5 : (F j).1 = cx at AD ec
      generalize e6 : (F j).2 = cy at AD ec
      have H34 := hide (And.intro e3 e4)
      clear e1 e2 e3 e4 e5 e6 HR
      go_wp2_with fail
      refine (pmul_free p q x y _).mono ?_
      rintro e' w1 ⟨p1, q1, rfl, b1⟩
      obtain ⟨p2, q2, w2, EA, b2⟩ := cadd_free p1 q1 r s w1
      go_wp2_with fail
      refine (HM.out _).mono ?_
      rintro e' w3 ⟨rfl, rfl⟩
      have hb0 := hbw
      replace hbw := bw_trans (bw_trans hbw b1) b2
      have ec2 : w3.cell? ⟨b, o + j, none⟩ = some (.complex .f64 cx cy) := by
        have := (Below.cell (bw_trans b1 b2) (p := ⟨b, o + j, none⟩) (by have := HG.out.1; have := Below.size hb0; show b < _; omega)).trans ec
        exact this
      clear ec b1 b2 HM EA hb0
      have hj2 : (j : Int) < (n : Int) + 1 := by omega
      go_wp2
      go_roundw
      case rel => exact ⟨j, p2, q2, by omega, by simp, by rw [H34.out.1, H34.out.2], rfl, hbw⟩
      case measure => simp [intOf]; try omega
theorem atw10 {c : Nat} (hc : c = 1074) {w : World} {b o cap n x y : Nat} {F V : Nat → Nat × Nat} {l : List Py.G} {g : Py.G} (hm : May n l) (h : Wf w b o (n + 1) F) (hF : Wl c (n + 1) F l) (hg : wC c x y g) (lg : Py.Le g 1099511627776) (hV : Hv c n x y F V l g) : Calls Try.prog 50 #[.slice (some ⟨b, o, none⟩) (n + 1) cap, .complex .f64 x y] w fun e w' => e = .returned (.tuple #[.complex .f64 (V 0).1 (V 0).2, .int .i64 0]) ∧ Bw w w' := by
  have C := hide (checkwith8 (cap := cap) hc hm (h.gl hF) hg lg)
  have S : Hid (∀ wz, Bw w wz → Calls Try.prog 69 #[.slice (some ⟨b, o, none⟩) (n + 1) cap, .complex .f64 x y] wz fun e w' => ∃ p q, e = .returned (.tuple #[.complex .f64 (V 0).1 (V 0).2, .complex .f64 p q]) ∧ Bw wz w') := fun wz hz => stepsw10 (by have := hm.2.1; omega) (h.bw hz) hV
  have F1 : Hid (∀ wz, Calls Try.prog 61 #[.complex .f64 (V 0).1 (V 0).2] wz fun e w' => e = .returned (.bool true) ∧ w' = wz) := fun wz => pfinite8 (hV.2.1 0 (Nat.zero_le _)) wz
  clear hm h hg lg hF hV
  generalize (V 0).1 = r at *
  generalize (V 0).2 = s at *
  go_enter Try.func50, Try.ntmps50
  go_wp2_with fail
  refine C.out.mono ?_
  rintro e' w1 ⟨rfl, b1⟩
  clear C
  go_wp2_with fail
  refine (S.out _ b1).mono ?_
  rintro e' w2 ⟨p, q, rfl, b2⟩
  replace b1 := bw_trans b1 b2
  clear S b2
  go_wp2_with fail
  refine (F1.out _).mono ?_
  rintro e' w3 ⟨rfl, rfl⟩
  clear F1
  go_wp2
  go_ret2
  exact ⟨rfl, b1⟩
end Go.Proofs.Ytmbjgakehghdjaa
/-
  OWN TEXT: package ratio: At; the reference's Same, of fractions with the same words.
-/
namespace Go.Proofs.Ytmbjgakehghdjaa
open Go.ChangeShapes Go.WideShapes Go.ChangeAt Go.RowKit
set_option linter.unusedVariables false
attribute [local go_sem] frombits_call tobits_call run_neg run_store_cx
theorem sameB_self (x : Nat) : Fl.sameB x x = true := by unfold Fl.sameB; simp
theorem psame10 (x y : Nat) (w : World) : Calls Try.prog 25 #[.complex .f64 x y, .complex .f64 x y] w fun e w' => e = .returned (.bool true) ∧ w' = w := by
  have A1 : Hid (∀ z wz, Calls Try.prog 55 #[.float .f64 z, .float .f64 z] wz fun e w' => e = .returned (.bool true) ∧ w' = wz) := fun z wz => by have q := same_any z z wz; rw [sameB_self] at q; exact q
  go_enter Try.func25, Try.ntmps25
  go_wp2_with fail
  refine (A1.out _ _).mono ?_
  rintro e' w ⟨rfl, rfl⟩
  go_wp2_with fail
  refine (A1.out _ _).mono ?_
  rintro e' w ⟨rfl, rfl⟩
  go_wp2
  go_ret
  exact ⟨rfl, rfl⟩
theorem rsame10 (x y : Nat) (w : World) : Calls Try.prog 70 #[.complex .f64 x y, .complex .f64 x y] w fun e w' => e = .returned (.bool true) ∧ w' = w := by
  have A1 : Hid (∀ z wz, Calls Try.prog 80 #[.float .f64 z, .float .f64 z] wz fun e w' => e = .returned (.bool true) ∧ w' = wz) := fun z wz => by have q := rsame_any z z wz; rw [sameB_self] at q; exact q
  go_enter Try.func70, Try.ntmps70
  go_wp2_with fail
  refine (A1.out _ _).mono ?_
  rintro e' w ⟨rfl, rfl⟩
  go_wp2_with fail
  refine (A1.out _ _).mono ?_
  rintro e' w ⟨rfl, rfl⟩
  go_wp2
  go_ret
  exact ⟨rfl, rfl⟩
theorem pfin10 {x y : Nat} (hx : x < 18446744073709551616 ∧ Fl.rg x < 9218868437227405312) (hy : y < 18446744073709551616 ∧ Fl.rg y < 9218868437227405312) (w : World) : Calls Try.prog 61 #[.complex .f64 x y] w fun e w' => e = .returned (.bool true) ∧ w' = w := by
  have fx : Fl.finB x = true := by unfold Fl.finB; exact decide_eq_true hx.2
  have fy : Fl.finB y = true := by unfold Fl.finB; exact decide_eq_true hy.2
  have A1 : Hid (∀ wz, Calls Try.prog 73 #[.float .f64 x] wz fun e w' => e = .returned (.bool true) ∧ w' = wz) := fun wz => by have q := finite_any x wz hx.1; rw [fx] at q; exact q
  have A2 : Hid (∀ wz, Calls Try.prog 73 #[.float .f64 y] wz fun e w' => e = .returned (.bool true) ∧ w' = wz) := fun wz => by have q := finite_any y wz hy.1; rw [fy] at q; exact q
  clear hx hy fx fy
  go_enter Try.func61, Try.ntmps61
  go_wp2_with fail
  refine (A1.out _).mono ?_
  rintro e' w ⟨rfl, rfl⟩
  go_wp2_with fail
  refine (A2.out _).mono ?_
  rintro e' w ⟨rfl, rfl⟩
  go_wp2
  go_ret
  exact ⟨rfl, rfl⟩
set_option maxHeartbeats 4000000 in
theorem samelist10 {w : World} {b o cap b' o' cap' n : Nat} {F : Nat → Nat × Nat} (hm : n ≤ 1000) (h : Wf w b o n F) (h' : Wf w b' o' n F) : Calls Try.prog 54 #[.slice (some ⟨b, o, none⟩) n cap, .slice (some ⟨b', o', none⟩) n cap'] w fun e w' => e = .returned (.bool true) ∧ Bw w w' := by
  have HG := hide h
  have HG' := hide h'
  clear h h'
  go_enter Try.func54, Try.ntmps54
  go_wp2
  go_loopw [5] (fun i wr => ∃ k : Nat, k ≤ n ∧ i = .int .i64 k ∧ Bw w wr) (fun i _ => n - (intOf i).toNat)
  case atStart => exact ⟨0, Nat.zero_le _, rfl, Bw.refl _⟩
  case round =>
    obtain ⟨k, hk, rfl, hbw⟩ := hrel
    by_cases hk1 : k < n
    · have e1 := (HG.out.bw hbw).2 k hk1
      have e2 := (HG'.out.bw hbw).2 k hk1
      generalize (F k).1 = x at e1 e2
      generalize (F k).2 = y at e1 e2
      have hk2 : (k : Int) < n := by omega
      go_wp2_with fail
      have S0 : wr.drew.cell? ⟨b, o + k, none⟩ = some (.complex .f64 x y) ∧ wr.drew.cell? ⟨b', o' + k, none⟩ = some (.complex .f64 x y) := ⟨e1, e2⟩
      refine wp_region_K (fun w' => w'.cell? ⟨b, o + k, none⟩ = some (.complex .f64 x y) ∧ w'.cell? ⟨b', o' + k, none⟩ = some (.complex .f64 x y)) 9 10 #[false, false, false, false, false, false, false, false, false, false] (by kernel_rfl) (by kernel_rfl) (by kernel_rfl) ?_
      refine wpAnyK_take 0 18 (v := ?v0) rfl (by kernel_rfl) (by kernel_rfl) (by kernel_rfl) (by kernel_rfl) (by kernel_rfl) (fun _ _ _ h => h) rfl (Or.inl ⟨by rfl, ?h0⟩) (by assumption) ?r0
      case h0 => (intro w hSw; go_simp; with_reducible rfl)
      simp only [Act.put, List.setIfInBounds_toArray, List.set_cons_zero, List.set_cons_succ]
      refine wpAnyK_take 1 19 (v := ?v1) rfl (by kernel_rfl) (by kernel_rfl) (by kernel_rfl) (by kernel_rfl) (by kernel_rfl) (fun _ _ _ h => h) rfl (Or.inl ⟨by rfl, ?h1⟩) (by assumption) ?r1
      case h1 => (intro w hSw; go_simp; with_reducible rfl)
      simp only [Act.put, List.setIfInBounds_toArray, List.set_cons_zero, List.set_cons_succ]
      refine wpAnyK_take 2 20 (v := ?v2) rfl (by kernel_rfl) (by kernel_rfl) (by kernel_rfl) (by kernel_rfl) (by kernel_rfl) (fun _ _ _ h => h) rfl (Or.inl ⟨by rfl, ?h2⟩) (by assumption) ?r2
      case h2 => (intro w hSw; go_simp; with_reducible rfl)
      simp only [Act.put, List.setIfInBounds_toArray, List.set_cons_zero, List.set_cons_succ]
      refine wpAnyK_take 3 21 (v := ?v3) rfl (by kernel_rfl) (by kernel_rfl) (by kernel_rfl) (by kernel_rfl) (by kernel_rfl) (fun _ _ _ h => h) rfl (Or.inl ⟨by rfl, ?h3⟩) (by assumption) ?r3
      case h3 => (intro w hSw; go_simp; with_reducible rfl)
      simp only [Act.put, List.setIfInBounds_toArray, List.set_cons_zero, List.set_cons_succ]
      refine wpAnyK_take 4 22 (v := ?v4) rfl (by kernel_rfl) (by kernel_rfl) (by kernel_rfl) (by kernel_rfl) (by kernel_rfl) (fun _ _ _ h => h) rfl (Or.inl ⟨by rfl, ?h4⟩) (by assumption) ?r4
      case h4 => (intro w hSw; go_simp; with_reducible rfl)
      simp only [Act.put, List.setIfInBounds_toArray, List.set_cons_zero, List.set_cons_succ]
      refine wpAnyK_take 5 23 (v := ?v5) rfl (by kernel_rfl) (by kernel_rfl) (by kernel_rfl) (by kernel_rfl) (by kernel_rfl) (fun _ _ _ h => h) rfl (Or.inl ⟨by rfl, ?h5⟩) (by assumption) ?r5
      case h5 => (intro w hSw; go_simp; with_reducible rfl)
      simp only [Act.put, List.setIfInBounds_toArray, List.set_cons_zero, List.set_cons_succ]
      refine wpAnyK_take 6 24 (v := ?v6) rfl (by kernel_rfl) (by kernel_rfl) (by kernel_rfl) (by kernel_rfl) (by kernel_rfl) (fun _ _ _ h => h) rfl (Or.inl ⟨by rfl, ?h6⟩) (by assumption) ?r6
      case h6 => (intro w hSw; go_simp; with_reducible rfl)
      simp only [Act.put, List.setIfInBounds_toArray, List.set_cons_zero, List.set_cons_succ]
      refine wpAnyK_take 7 25 (v := ?v7) rfl (by kernel_rfl) (by kernel_rfl) (by kernel_rfl) (by kernel_rfl) (by kernel_rfl) (fun _ _ _ h => h) rfl (Or.inl ⟨by rfl, ?h7⟩) (by assumption) ?r7
      case h7 => (intro w hSw; go_simp; with_reducible rfl)
      simp only [Act.put, List.setIfInBounds_toArray, List.set_cons_zero, List.set_cons_succ]
      refine wpAnyK_one 8 (by kernel_rfl) rfl (fun K hK => ?_)
      go_simp
      go_wp2_with (go_at_call 70; refine (rsame10 _ _ _).mono ?_; rintro e' w7 ⟨rfl, hw7⟩; subst hw7)
      refine hK.out _ _ (fun _ _ => S0) ?_
      clear hK K
      simp only [List.setIfInBounds_toArray, List.set_cons_zero, List.set_cons_succ]
      refine wpAnyK_one 9 (by kernel_rfl) rfl (fun K hK => ?_)
      go_simp
      refine hK.out _ _ (fun h => absurd rfl h) ?_
      clear hK K
      simp only [List.setIfInBounds_toArray, List.set_cons_zero, List.set_cons_succ]
      refine wpAnyK_done (by kernel_rfl) ?_ _
      clear S0 e1 e2
      go_wp2
      go_roundw
      case rel => exact ⟨k + 1, by omega, by simp, hbw.drew⟩
      case measure => simp [intOf]; omega
    · have hk3 : k = n := by omega
      subst hk3
      go_wp2
      go_ret
      exact ⟨rfl, hbw⟩
theorem fsame10 {w : World} {b1 o1 c1 n1 b2 o2 c2 n2 d1 p1 q1 d2 p2 q2 : Nat} {F G : Nat → Nat × Nat} (h1 : n1 ≤ 1000) (h2 : n2 ≤ 1000) (x1 : Wf w b1 o1 n1 F) (x2 : Wf w b2 o2 n2 G) (y1 : Wf w d1 p1 n1 F) (y2 : Wf w d2 p2 n2 G) :
    Calls Try.prog 24 #[.agg #[.slice (some ⟨b1, o1, none⟩) n1 c1, .slice (some ⟨b2, o2, none⟩) n2 c2], .agg #[.slice (some ⟨d1, p1, none⟩) n1 q1, .slice (some ⟨d2, p2, none⟩) n2 q2]] w fun e w' => e = .returned (.bool true) ∧ Bw w w' := by
  have bA := bw_alloc w (.cells #[.slice (some ⟨b1, o1, none⟩) n1 c1, .slice (some ⟨b2, o2, none⟩) n2 c2] 24)
  have bB := bw_trans bA (bw_alloc _ (.cells #[.slice (some ⟨d1, p1, none⟩) n1 q1, .slice (some ⟨d2, p2, none⟩) n2 q2] 24))
  have A1 : Hid (∀ wz, Bw w wz → Calls Try.prog 54 #[.slice (some ⟨b1, o1, none⟩) n1 c1, .slice (some ⟨d1, p1, none⟩) n1 q1] wz fun e w' => e = .returned (.bool true) ∧ Bw wz w') := fun wz hz => samelist10 h1 (x1.bw hz) (y1.bw hz)
  have A2 : Hid (∀ wz, Bw w wz → Calls Try.prog 54 #[.slice (some ⟨b2, o2, none⟩) n2 c2, .slice (some ⟨d2, p2, none⟩) n2 q2] wz fun e w' => e = .returned (.bool true) ∧ Bw wz w') := fun wz hz => samelist10 h2 (x2.bw hz) (y2.bw hz)
  have f1 := (Fc.made w (.slice (some ⟨b1, o1, none⟩) n1 c1) (.slice (some ⟨b2, o2, none⟩) n2 c2) 24).bw (bw_alloc _ (.cells #[.slice (some ⟨d1, p1, none⟩) n1 q1, .slice (some ⟨d2, p2, none⟩) n2 q2] 24))
  have f2 := Fc.made (w.alloc (.cells #[.slice (some ⟨b1, o1, none⟩) n1 c1, .slice (some ⟨b2, o2, none⟩) n2 c2] 24)) (.slice (some ⟨d1, p1, none⟩) n1 q1) (.slice (some ⟨d2, p2, none⟩) n2 q2) 24
  have hsz : (w.alloc (.cells #[.slice (some ⟨b1, o1, none⟩) n1 c1, .slice (some ⟨b2, o2, none⟩) n2 c2] 24)).heap.size = w.heap.size + 1 := by simp
  rw [hsz] at f2
  have HF := hide (And.intro f1 f2)
  clear x1 x2 y1 y2 bA f1 f2 hsz
  go_enter Try.func24, Try.ntmps24
  go_wp2_with fail
  refine (A1.out _ bB).mono ?_
  rintro e' w1 ⟨rfl, b1'⟩
  obtain ⟨_, _, u1⟩ := HF.out.1.bw b1'
  obtain ⟨_, _, u2⟩ := HF.out.2.bw b1'
  replace bB := bw_trans bB b1'
  clear HF A1 b1'
  go_wp2_with fail
  refine (A2.out _ bB).mono ?_
  rintro e' w2 ⟨rfl, b2'⟩
  replace bB := bw_trans bB b2'
  clear A2 b2' u1 u2
  go_wp2
  go_ret
  exact ⟨rfl, bB⟩
/-- a quotient of two values, words and all -/
theorem quot10 {c : Nat} (hc : c = 1074) {w : World} {b1 o1 c1 n1 b2 o2 c2 n2 x y : Nat} {F1 V1 F2 V2 : Nat → Nat × Nat} {l1 l2 : List Py.G} {g : Py.G} (m1 : May n1 l1) (m2 : May n2 l2) (x1 : Wf w b1 o1 (n1 + 1) F1) (x2 : Wf w b2 o2 (n2 + 1) F2) (y1 : Wl c (n1 + 1) F1 l1) (y2 : Wl c (n2 + 1) F2 l2) (hg : wC c x y g) (lg : Py.Le g 1099511627776) (h1 : Hv c n1 x y F1 V1 l1 g) (h2 : Hv c n2 x y F2 V2 l2 g) :
    (Py.ev l2 g = (0, 0) → Calls Try.prog 30 #[.slice (some ⟨b1, o1, none⟩) (n1 + 1) c1, .slice (some ⟨b2, o2, none⟩) (n2 + 1) c2, .complex .f64 x y] w fun e w' => e = .returned (.tuple #[.complex .f64 0 0, .int .i64 6]) ∧ Bw w w') ∧
    (Py.ev l2 g ≠ (0, 0) → ∀ u v, (u < 18446744073709551616 ∧ Fl.rg u < 9218868437227405312) → (v < 18446744073709551616 ∧ Fl.rg v < 9218868437227405312) → (∀ w, Calls Try.prog 26 #[.complex .f64 (V1 0).1 (V1 0).2, .complex .f64 (V2 0).1 (V2 0).2] w fun e w' => e = .returned (.complex .f64 u v) ∧ w' = w) →
      Calls Try.prog 30 #[.slice (some ⟨b1, o1, none⟩) (n1 + 1) c1, .slice (some ⟨b2, o2, none⟩) (n2 + 1) c2, .complex .f64 x y] w fun e w' => e = .returned (.tuple #[.complex .f64 u v, .int .i64 0]) ∧ Bw w w') := by
  have A1 : Hid (∀ wz, Bw w wz → Calls Try.prog 50 #[.slice (some ⟨b1, o1, none⟩) (n1 + 1) c1, .complex .f64 x y] wz fun e w' => e = .returned (.tuple #[.complex .f64 (V1 0).1 (V1 0).2, .int .i64 0]) ∧ Bw wz w') := fun wz hz => atw10 hc m1 (x1.bw hz) y1 hg lg h1
  have A2 : Hid (∀ wz, Bw w wz → Calls Try.prog 50 #[.slice (some ⟨b2, o2, none⟩) (n2 + 1) c2, .complex .f64 x y] wz fun e w' => e = .returned (.tuple #[.complex .f64 (V2 0).1 (V2 0).2, .int .i64 0]) ∧ Bw wz w') := fun wz hz => atw10 hc m2 (x2.bw hz) y2 hg lg h2
  have A3 : Hid (∀ wz, Calls Try.prog 60 #[.complex .f64 (V2 0).1 (V2 0).2] wz fun e w' => e = .returned (.bool (decide (Py.ev l2 g = (0, 0)))) ∧ w' = wz) := fun wz => by
    have k := h2.2.1 0 (Nat.zero_le _)
    rw [List.drop_zero] at k
    exact risnought10 k wz
  clear m1 m2 x1 x2 y1 y2 hg lg h1 h2
  constructor
  · intro z
    rw [decide_eq_true z] at A3
    clear z
    generalize (V1 0).1 = r1 at *
    generalize (V1 0).2 = s1 at *
    generalize (V2 0).1 = r2 at *
    generalize (V2 0).2 = s2 at *
    go_enter Try.func30, Try.ntmps30
    go_wp2_with fail
    refine (A1.out _ (Bw.refl _)).mono ?_
    rintro e' w1 ⟨rfl, b1'⟩
    clear A1
    go_wp2_with fail
    refine (A2.out _ b1').mono ?_
    rintro e' w2 ⟨rfl, b2'⟩
    replace b1' := bw_trans b1' b2'
    clear A2 b2'
    go_wp2_with fail
    refine (A3.out _).mono ?_
    rintro e' w3 ⟨rfl, rfl⟩
    clear A3
    go_wp2
    go_ret2
    exact ⟨rfl, b1'⟩
  · intro z u v hu hv D
    rw [decide_eq_false z] at A3
    have HD := hide D
    have FI : Hid (∀ wz, Calls Try.prog 61 #[.complex .f64 u v] wz fun e w' => e = .returned (.bool true) ∧ w' = wz) := fun wz => pfin10 hu hv wz
    clear z D hu hv
    generalize (V1 0).1 = r1 at *
    generalize (V1 0).2 = s1 at *
    generalize (V2 0).1 = r2 at *
    generalize (V2 0).2 = s2 at *
    go_enter Try.func30, Try.ntmps30
    go_wp2_with fail
    refine (A1.out _ (Bw.refl _)).mono ?_
    rintro e' w1 ⟨rfl, b1'⟩
    clear A1
    go_wp2_with fail
    refine (A2.out _ b1').mono ?_
    rintro e' w2 ⟨rfl, b2'⟩
    replace b1' := bw_trans b1' b2'
    clear A2 b2'
    go_wp2_with fail
    refine (A3.out _).mono ?_
    rintro e' w3 ⟨rfl, rfl⟩
    clear A3
    go_wp2_with fail
    refine (HD.out _).mono ?_
    rintro e' w3 ⟨rfl, rfl⟩
    clear HD
    go_wp2_with fail
    refine (FI.out _).mono ?_
    rintro e' w3 ⟨rfl, rfl⟩
    clear FI
    go_wp2
    go_ret2
    exact ⟨rfl, b1'⟩
/-- ratio.At, as its quotient -/
theorem rat10 {c : Nat} (hc : c = 1074) {w : World} {b1 o1 c1 n1 b2 o2 c2 n2 x y : Nat} {l1 l2 : List Py.G} {v : Value} {e : Int} (hv : ∃ p q, v = .complex .f64 p q) (m1 : May n1 l1) (m2 : May n2 l2) (x1 : Gl c w b1 o1 l1) (x2 : Gl c w b2 o2 l2) (z2 : Nz n2 l2)
    (Q : ∀ wz, Bw w wz → Calls Try.prog 30 #[.slice (some ⟨b1, o1, none⟩) (n1 + 1) c1, .slice (some ⟨b2, o2, none⟩) (n2 + 1) c2, .complex .f64 x y] wz fun e' w' => e' = .returned (.tuple #[v, .int .i64 e]) ∧ Bw wz w') :
    Calls Try.prog 9 #[.agg #[.slice (some ⟨b1, o1, none⟩) (n1 + 1) c1, .slice (some ⟨b2, o2, none⟩) (n2 + 1) c2], .complex .f64 x y] w fun e' w' => e' = .returned (.tuple #[v, .int .i64 e]) ∧ Bw w w' := by
  have f1 := Fc.made w (.slice (some ⟨b1, o1, none⟩) (n1 + 1) c1) (.slice (some ⟨b2, o2, none⟩) (n2 + 1) c2) 24
  have bA := bw_alloc w (.cells #[.slice (some ⟨b1, o1, none⟩) (n1 + 1) c1, .slice (some ⟨b2, o2, none⟩) (n2 + 1) c2] 24)
  have CK : Hid (∀ wz, Bw w wz → Calls Try.prog 8 #[.agg #[.slice (some ⟨b1, o1, none⟩) (n1 + 1) c1, .slice (some ⟨b2, o2, none⟩) (n2 + 1) c2]] wz fun e w' => e = .returned (.int .i64 0) ∧ Bw wz w') := fun wz hz => rcheck10 hc m1 (x1.bw hz) m2 (x2.bw hz) z2
  have HQ := hide Q
  have HF := hide f1
  obtain ⟨p, q, rfl⟩ := hv
  clear m1 m2 x1 x2 z2 Q f1 hc
  go_enter Try.func9, Try.ntmps9
  go_wp2_with fail
  refine (CK.out _ bA).mono ?_
  rintro e' w1 ⟨rfl, b1'⟩
  obtain ⟨_, u0, u1⟩ := HF.out.bw b1'
  replace bA := bw_trans bA b1'
  clear CK b1' HF
  go_wp2_with fail
  refine (HQ.out _ bA).mono ?_
  rintro e' w2 ⟨rfl, b2'⟩
  replace bA := bw_trans bA b2'
  clear HQ b2' u0 u1
  go_wp2
  go_ret2
  exact ⟨rfl, bA⟩
end Go.Proofs.Ytmbjgakehghdjaa
/-
  OWN TEXT: comparisons of whole complex numbers; the law's small, of, l, at.
-/
namespace Go.Proofs.Ytmbjgakehghdjaa
open Go.ChangeShapes Go.WideShapes Go.ChangeAt Go.RowKit
set_option linter.unusedVariables false
attribute [local go_sem] frombits_call tobits_call run_neg run_store_cx
theorem ceq10 {c x y u v : Nat} {g h : Py.G} (hg : wC c x y g) (hh : wC c u v h) (t : TypeId) (w : World) : (binOp .eql t (.complex .f64 x y) (.complex .f64 u v)).run Try.prog w = .ok (.bool (decide (g = h))) w := by
  have o1 := Fl.o_eq x u
  have o2 := Fl.o_eq y v
  rw [hg.1.eq hh.1] at o1
  rw [hg.2.eq hh.2] at o2
  rw [g_eq, ← o1, ← o2]
  clear o1 o2 hg hh
  simp [binOp, Op.complexOp, Op.Complex.cmp, Op.floatCmp, asBool]
theorem small10 {c : Nat} (hc : c = 1074) (n : Int) : ∃ x m, wI c x m ∧ m.natAbs ≤ 8 ∧ ∀ w, Calls Try.prog 19 #[.int .i64 n] w fun e w' => e = .returned (.float .f64 x) ∧ w' = w := by
  have hb : -8 ≤ n.tmod 9 ∧ n.tmod 9 ≤ 8 := by
    have h1 := Int.tmod_lt_of_pos n (show (0 : Int) < 9 by decide)
    have h2 := Int.lt_tmod_of_pos n (show (0 : Int) < 9 by decide)
    omega
  refine ⟨_, _, w_small hc (n.tmod 9) hb.1 hb.2, by omega, fun w => ?_⟩
  go_enter Try.func19, Try.ntmps19
  go_wp2
  go_ret
  exact ⟨rfl, rfl⟩
theorem l10 (s : Value) (w : World) : Calls Try.prog 7 #[s] w fun e w' => e = .returned s ∧ w' = w := by
  go_enter Try.func7, Try.ntmps7
  go_wp2
  go_ret
  exact ⟨rfl, rfl⟩
theorem res_c1 {fn : Func} {p : Tmp} (hr : fn.results = #[.cell p 24]) (tmps : Array Value) (w : World) (F : Nat) (s t : Value) (hp : tmps.getD p undef = .pointer (some ⟨F, 0, none⟩)) (h : Fc w F s t) : (results fn tmps).run Try.prog w = .ok (.agg #[s, t]) w := by
  have hp' : tmps[p]?.getD undef = .pointer (some ⟨F, 0, none⟩) := by simpa using hp
  simp [results, hr, hp', asAddr, fc_load h]
theorem of10 (a1 a2 : Option Addr) (n1 c1 n2 c2 : Nat) (w : World) : Calls Try.prog 6 #[.slice a1 n1 c1, .slice a2 n2 c2] w fun e w' => e = .returned (.agg #[.slice a1 n1 c1, .slice a2 n2 c2]) ∧ Bw w w' := by
  go_enter Try.func6, Try.ntmps6
  go_wp2
  refine bodyPost_ret (res_c1 rfl _ _ _ _ _ rfl (Fc.made w _ _ _)) rfl ?_
  exact ⟨rfl, bw_alloc _ _⟩
theorem at10 {w : World} {b o cap n x y r s : Nat} (A : Calls Try.prog 50 #[.slice (some ⟨b, o, none⟩) n cap, .complex .f64 x y] w fun e w' => e = .returned (.tuple #[.complex .f64 r s, .int .i64 0]) ∧ Bw w w') : Calls Try.prog 21 #[.slice (some ⟨b, o, none⟩) n cap, .complex .f64 x y] w fun e w' => e = .returned (.tuple #[.complex .f64 r s, .bool true]) ∧ Bw w w' := by
  have HA := hide A
  clear A
  go_enter Try.func21, Try.ntmps21
  go_wp2_with fail
  refine HA.out.mono ?_
  rintro e' w1 ⟨rfl, b1⟩
  clear HA
  go_wp2
  go_ret2
  exact ⟨rfl, b1⟩
theorem at10e {c : Nat} (hc : c = 1074) {w : World} {b o cap n x y Z : Nat} {l : List Py.G} {g : Py.G} (U : Nat → Nat) (hm : May n l) (h : Gl c w b o l) (hg : wC c x y g) (lg : Py.Le g Z) (hZ : Z ≤ 1099511627776) (hU : Steps l n Z U) : Calls Try.prog 21 #[.slice (some ⟨b, o, none⟩) (n + 1) cap, .complex .f64 x y] w fun e w' => ∃ r s, e = .returned (.tuple #[.complex .f64 r s, .bool true]) ∧ wC c r s (Py.ev l g) ∧ Bw w w' := by
  have C := hide (at8 (cap := cap) hc U hm h hg lg hZ hU)
  clear hm h hg lg hZ hU
  go_enter Try.func21, Try.ntmps21
  go_wp2_with fail
  refine C.out.mono ?_
  rintro e' w1 ⟨r, s, rfl, hrs, b1⟩
  have HR := hide hrs
  clear C hrs
  go_wp2
  go_ret2
  exact ⟨r, s, rfl, HR.out, b1⟩
end Go.Proofs.Ytmbjgakehghdjaa
