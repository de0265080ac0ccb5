/-
  OWN TEXT: package power, as it landed: sines, cosines, their hyperbolic ones, logarithms, sheets, for every number.
-/
import Derived.Test.YtlbikopancleoaaGreatDoorJnAq
import Derived.Test.YtlbikopancleoaaGreatDoorJnAz
import Derived.Test.YtlbikopancleoaaGreatDoorJnBa
import Derived.Laws.Rows
import Derived.Test.YtlbikopancleoaaGreatDoorJnAm
import Derived.Test.YtlbikopancleoaaGreatDoorJnAe
namespace Go.Proofs.YtlbikopancleoaaGreatDoor
open Go.ChangeShapes Go.WideShapes Go.ChangeAt Go.RowKit
set_option linter.unusedVariables false
attribute [local go_sem] frombits_call tobits_call run_neg
theorem run_store_func {P : Program} {w : World} {a : Addr} {m : Mode} (f : Fn) (x y : Array Value) : (store a (.func f x y) m).run P w = stored P w a (.func f x y) m := run_store P w a _ m rfl
attribute [local go_sem] run_store_func
theorem nanN : Fl.nan 9221120237041090561 = true := by decide
theorem op_nan7 {op : BinOp} (ho : isOp op) {a b z : Nat} (h : Fl.nan a = true ∨ Fl.nan b = true) (hz : Fl.nan z = true) (hl : z < 18446744073709551616) : opR op a b z := by
  refine ⟨hl, Or.inr ⟨?_, hz⟩⟩
  rcases h with h | h
  · exact nan_left op ho h
  · exact nan_right op ho h
theorem sinQ_nan {z t : Nat} (hz : Fl.nan z = true) (ht : Fl.nan t = true) (hl : t < 18446744073709551616) (i : Nat) : sinQ z (i + 1) t := by
  have key : ∃ u, sinQ z i u := by
    induction i with
    | zero => exact ⟨_, rfl⟩
    | succ i ih =>
      obtain ⟨u, hu⟩ := ih
      exact ⟨9221120237041090561, u, 9221120237041090561, 9221120237041090561, hu, op_nan7 isQuo (Or.inl hz) nanN (by decide), op_nan7 isMul (Or.inl nanN) nanN (by decide), op_nan7 isSub (Or.inr nanN) nanN (by decide)⟩
  obtain ⟨u, hu⟩ := key
  exact ⟨u, 9221120237041090561, 9221120237041090561, hu, op_nan7 isQuo (Or.inl hz) nanN (by decide), op_nan7 isMul (Or.inl nanN) nanN (by decide), op_nan7 isSub (Or.inr nanN) ht hl⟩
theorem cosQ_nan {z t : Nat} (hz : Fl.nan z = true) (ht : Fl.nan t = true) (hl : t < 18446744073709551616) (i : Nat) : cosQ z (i + 1) t := by
  have key : ∃ u, cosQ z i u := by
    induction i with
    | zero => exact ⟨_, rfl⟩
    | succ i ih =>
      obtain ⟨u, hu⟩ := ih
      exact ⟨9221120237041090561, u, 9221120237041090561, 9221120237041090561, hu, op_nan7 isQuo (Or.inl hz) nanN (by decide), op_nan7 isMul (Or.inl nanN) nanN (by decide), op_nan7 isSub (Or.inr nanN) nanN (by decide)⟩
  obtain ⟨u, hu⟩ := key
  exact ⟨u, 9221120237041090561, 9221120237041090561, hu, op_nan7 isQuo (Or.inl hz) nanN (by decide), op_nan7 isMul (Or.inl nanN) nanN (by decide), op_nan7 isSub (Or.inr nanN) ht hl⟩
theorem sinR_lt {y s : Nat} (h : sinR y s) : s < 18446744073709551616 := by obtain ⟨z, t, _, _, h⟩ := h; exact h.1
theorem cosR_lt {y s : Nat} (h : cosR y s) : s < 18446744073709551616 := by obtain ⟨z, _, t, d, p, _, _, _, h⟩ := h; exact h.1
theorem sinR_turn {y y' s : Nat} (h : sinR y' s) (e : simR y y') : sinR y s := by
  rcases e with rfl | ⟨e1, e2⟩
  · exact h
  · exact ⟨9221120237041090561, 9221120237041090561, op_nan7 isMul (Or.inl e1) nanN (by decide), sinQ_nan nanN nanN (by decide) 8, op_nan7 isMul (Or.inl e1) (sinR_nan h e2) (sinR_lt h)⟩
theorem cosR_turn {y y' s : Nat} (h : cosR y' s) (e : simR y y') : cosR y s := by
  rcases e with rfl | ⟨e1, e2⟩
  · exact h
  · exact ⟨9221120237041090561, op_nan7 isMul (Or.inl e1) nanN (by decide), cosQ_nan nanN (cosR_nan h e2) (cosR_lt h) 8⟩
/-- the sine of one call, the cosine of another -/
theorem tur_mix {x s c s' c' : Nat} (hx : x < 18446744073709551616) (h : turR x s c') (k : turR x s' c) : turR x s c := by
  obtain ⟨h1, _, h⟩ := h
  obtain ⟨_, k2, k⟩ := k
  refine ⟨h1, k2, ?_⟩
  by_cases f : fitB x = true
  · rw [if_pos f] at h k ⊢
    obtain ⟨y, n, s0, c0, a1, a2, a3, a4⟩ := h
    obtain ⟨y', n', s1, c1, b1, b2, b3, b4⟩ := k
    obtain ⟨ey, en⟩ := a1.sim hx b1
    subst en
    have g2 := sinR_turn b2 ey
    have g3 := cosR_turn b3 ey
    rcases a4 with ⟨e, rfl, rfl⟩ | ⟨e, rfl, rfl⟩ | ⟨e, rfl, rfl⟩ | ⟨e, rfl, rfl⟩ <;> rcases b4 with ⟨e', d1, d2⟩ | ⟨e', d1, d2⟩ | ⟨e', d1, d2⟩ | ⟨e', d1, d2⟩ <;> first | (exfalso; omega) | skip
    · exact ⟨y, n, s, c1, a1, a2, g3, Or.inl ⟨e, rfl, d2⟩⟩
    · exact ⟨y, n, s1, s, a1, g2, a3, Or.inr (Or.inl ⟨e, rfl, d2⟩)⟩
    · exact ⟨y, n, s0, c1, a1, a2, g3, Or.inr (Or.inr (Or.inl ⟨e, rfl, d2⟩))⟩
    · exact ⟨y, n, s1, c0, a1, g2, a3, Or.inr (Or.inr (Or.inr ⟨e, rfl, d2⟩))⟩
  · rw [if_neg f] at h k ⊢
    exact ⟨h.1, k.2⟩
theorem lit1_any (x : Nat) (w : World) (hx : x < 18446744073709551616) : Calls Tryz.prog 114 #[.float .f64 x] w fun e w' => ∃ s, e = .returned (.float .f64 s) ∧ (∃ c, turR x s c) ∧ Bw w w' := by
  go_enter Tryz.func114, Tryz.ntmps114
  go_wp2_with fail
  refine (turn_any x _ hx).mono ?_
  rintro e' w1 ⟨s, c, rfl, ht, b1⟩
  have HF : Hid (turR x s c) := ht
  clear ht
  go_wp2
  go_ret
  exact ⟨s, rfl, ⟨c, HF.out⟩, b1⟩
theorem lit2_any (x : Nat) (w : World) (hx : x < 18446744073709551616) : Calls Tryz.prog 115 #[.float .f64 x] w fun e w' => ∃ c, e = .returned (.float .f64 c) ∧ (∃ s, turR x s c) ∧ Bw w w' := by
  go_enter Tryz.func115, Tryz.ntmps115
  go_wp2_with fail
  refine (turn_any x _ hx).mono ?_
  rintro e' w1 ⟨s, c, rfl, ht, b1⟩
  have HF : Hid (turR x s c) := ht
  clear ht
  go_wp2
  go_ret
  exact ⟨c, rfl, ⟨s, HF.out⟩, b1⟩
theorem basics_any (w : World) : Calls Tryz.prog 91 #[] w fun e w' => e = .returned (.agg #[.func (.func 114) #[] #[], .func (.func 115) #[] #[], .func (.func 116) #[] #[], .func (.func 117) #[] #[]]) ∧ Bw w w' := by
  go_enter Tryz.func91, Tryz.ntmps91
  go_wp2
  (try simp only [Exit.inBlock, Exit.then])
  refine bodyPost_ret (results_cell_row rfl _ _ w.heap.size _ _ _ _ rfl (heap_alloc_new _ _) Tryz.underlying56 rfl (by kernel_rfl)) rfl ?_
  exact ⟨rfl, Below.alloc (Bw.refl w) (Nat.le_refl _) _⟩
set_option maxHeartbeats 8000000 in
set_option maxRecDepth 100000 in
theorem prod03 (a b : Nat) (w : World) (ha : a < 18446744073709551616) (hb : b < 18446744073709551616) : Calls Tryz.prog 41 #[.complex .f64 a b, .int .i64 0, .int .i64 3] w fun e w' => ∃ r, e = .returned (.float .f64 r) ∧ (∃ p q, (∃ c, turR a p c) ∧ coshR b q ∧ opR .mul p q r) ∧ Bw w w' := by
  go_enter Tryz.func41, Tryz.ntmps41
  go_wp2_with fail
  refine (basics_any _).mono ?_
  rintro e' w2 ⟨rfl, b2⟩
  go_wp2_with fail
  have g0 : Bw w (w2.alloc (.cells #[.func (.func 114) #[] #[], .func (.func 115) #[] #[], .func (.func 116) #[] #[], .func (.func 117) #[] #[]] 56)) := bw_trans b2 (Below.alloc (Bw.refl w2) (Nat.le_refl _) _)
  have c0 : (w2.alloc (.cells #[.func (.func 114) #[] #[], .func (.func 115) #[] #[], .func (.func 116) #[] #[], .func (.func 117) #[] #[]] 56)).cell? ⟨w2.heap.size, 0, none⟩ = some (.func (.func 114) #[] #[]) ∧ (w2.alloc (.cells #[.func (.func 114) #[] #[], .func (.func 115) #[] #[], .func (.func 116) #[] #[], .func (.func 117) #[] #[]] 56)).cell? ⟨w2.heap.size, 3, none⟩ = some (.func (.func 117) #[] #[]) := by constructor <;> simp
  have hs : w2.heap.size < (w2.alloc (.cells #[.func (.func 114) #[] #[], .func (.func 115) #[] #[], .func (.func 116) #[] #[], .func (.func 117) #[] #[]] 56)).heap.size := by simp
  generalize w2.alloc (.cells #[.func (.func 114) #[] #[], .func (.func 115) #[] #[], .func (.func 116) #[] #[], .func (.func 117) #[] #[]] 56) = W at *
  obtain ⟨C, hC⟩ : ∃ C, C = w2.heap.size := ⟨_, rfl⟩
  rw [← hC] at hs c0
  rw [← hC]
  clear hC b2
  have S0 : W.drew.cell? ⟨C, 0, none⟩ = some (.func (.func 114) #[] #[]) ∧ W.drew.cell? ⟨C, 3, none⟩ = some (.func (.func 117) #[] #[]) := c0
  have g1 : Bw w W.drew := g0.drew
  have hs3 : C < W.drew.heap.size := hs
  clear g0 c0 hs
  refine wp_region_K (fun w' => w'.cell? ⟨C, 0, none⟩ = some (.func (.func 114) #[] #[]) ∧ w'.cell? ⟨C, 3, none⟩ = some (.func (.func 117) #[] #[])) 13 14 #[false, false, false, false, false, false, false, false, false, false, false, false, false, false] (by kernel_rfl) (by kernel_rfl) (by kernel_rfl) ?_
  generalize W.drew = W0 at *
  refine wpAnyK_take 0 9 (v := ?v0) rfl (by kernel_rfl) (by kernel_rfl) (by kernel_rfl) (by kernel_rfl) (by kernel_rfl) (fun _ _ _ h => h) rfl (Or.inl ⟨by rfl, ?h0⟩) (by assumption) ?r0
  case h0 => (intro w hSw; go_simp; with_reducible rfl)
  simp only [Act.put, List.setIfInBounds_toArray, List.set_cons_zero, List.set_cons_succ]
  refine wpAnyK_take 1 10 (v := ?v1) rfl (by kernel_rfl) (by kernel_rfl) (by kernel_rfl) (by kernel_rfl) (by kernel_rfl) (fun _ _ _ h => h) rfl (Or.inl ⟨by rfl, ?h1⟩) (by assumption) ?r1
  case h1 => (intro w hSw; go_simp; with_reducible rfl)
  simp only [Act.put, List.setIfInBounds_toArray, List.set_cons_zero, List.set_cons_succ]
  refine wpAnyK_take 2 11 (v := ?v2) rfl (by kernel_rfl) (by kernel_rfl) (by kernel_rfl) (by kernel_rfl) (by kernel_rfl) (fun _ _ _ h => h) rfl (Or.inl ⟨by rfl, ?h2⟩) (by assumption) ?r2
  case h2 => (intro w hSw; go_simp; with_reducible rfl)
  simp only [Act.put, List.setIfInBounds_toArray, List.set_cons_zero, List.set_cons_succ]
  refine wpAnyK_take 3 12 (v := ?v3) rfl (by kernel_rfl) (by kernel_rfl) (by kernel_rfl) (by kernel_rfl) (by kernel_rfl) (fun _ _ _ h => h) rfl (Or.inl ⟨by rfl, ?h3⟩) (by assumption) ?r3
  case h3 => (intro w hSw; go_simp; with_reducible rfl)
  simp only [Act.put, List.setIfInBounds_toArray, List.set_cons_zero, List.set_cons_succ]
  refine wpAnyK_take 4 13 (v := ?v4) rfl (by kernel_rfl) (by kernel_rfl) (by kernel_rfl) (by kernel_rfl) (by kernel_rfl) (fun _ _ _ h => h) rfl (Or.inl ⟨by rfl, ?h4⟩) (by assumption) ?r4
  case h4 => (intro w hSw; go_simp; with_reducible rfl)
  simp only [Act.put, List.setIfInBounds_toArray, List.set_cons_zero, List.set_cons_succ]
  refine wpAnyK_take 6 15 (v := ?v6) rfl (by kernel_rfl) (by kernel_rfl) (by kernel_rfl) (by kernel_rfl) (by kernel_rfl) (fun _ _ _ h => h) rfl (Or.inl ⟨by rfl, ?h6⟩) (by assumption) ?r6
  case h6 => (intro w hSw; go_simp; with_reducible rfl)
  simp only [Act.put, List.setIfInBounds_toArray, List.set_cons_zero, List.set_cons_succ]
  refine wpAnyK_take 7 16 (v := ?v7) rfl (by kernel_rfl) (by kernel_rfl) (by kernel_rfl) (by kernel_rfl) (by kernel_rfl) (fun _ _ _ h => h) rfl (Or.inl ⟨by rfl, ?h7⟩) (by assumption) ?r7
  case h7 => (intro w hSw; go_simp; with_reducible rfl)
  simp only [Act.put, List.setIfInBounds_toArray, List.set_cons_zero, List.set_cons_succ]
  refine wpAnyK_take 8 17 (v := ?v8) rfl (by kernel_rfl) (by kernel_rfl) (by kernel_rfl) (by kernel_rfl) (by kernel_rfl) (fun _ _ _ h => h) rfl (Or.inl ⟨by rfl, ?h8⟩) (by assumption) ?r8
  case h8 => (intro w hSw; go_simp; with_reducible rfl)
  simp only [Act.put, List.setIfInBounds_toArray, List.set_cons_zero, List.set_cons_succ]
  refine wpAnyK_take 9 18 (v := ?v9) rfl (by kernel_rfl) (by kernel_rfl) (by kernel_rfl) (by kernel_rfl) (by kernel_rfl) (fun _ _ _ h => h) rfl (Or.inl ⟨by rfl, ?h9⟩) (by assumption) ?r9
  case h9 => (intro w hSw; go_simp; with_reducible rfl)
  simp only [Act.put, List.setIfInBounds_toArray, List.set_cons_zero, List.set_cons_succ]
  refine wpAnyK_take 10 19 (v := ?v10) rfl (by kernel_rfl) (by kernel_rfl) (by kernel_rfl) (by kernel_rfl) (by kernel_rfl) (fun _ _ _ h => h) rfl (Or.inl ⟨by rfl, ?h10⟩) (by assumption) ?r10
  case h10 => (intro w hSw; go_simp; with_reducible rfl)
  simp only [Act.put, List.setIfInBounds_toArray, List.set_cons_zero, List.set_cons_succ]
  refine wpAnyK_one 5 (by kernel_rfl) rfl (fun K hK => ?_)
  go_simp
  refine (lit1_any a _ ha).mono ?_
  rintro e w3 ⟨p, rfl, hp, b3⟩
  have HP : Hid ((∃ c, turR a p c)) := hp
  have S1 : w3.cell? ⟨C, 0, none⟩ = some (.func (.func 114) #[] #[]) ∧ w3.cell? ⟨C, 3, none⟩ = some (.func (.func 117) #[] #[]) := ⟨(Below.cell b3 (p := ⟨C, 0, none⟩) hs3).trans S0.1, (Below.cell b3 (p := ⟨C, 3, none⟩) hs3).trans S0.2⟩
  have G := bw_trans g1 b3
  have sz := Below.size b3
  have hs4 : C < w3.heap.size := by omega
  clear S0 b3 g1 hs3 sz hp
  refine hK.out _ _ (fun _ _ => S1) ?_
  clear hK K
  simp only [List.setIfInBounds_toArray, List.set_cons_zero, List.set_cons_succ]
  refine wpAnyK_one 11 (by kernel_rfl) rfl (fun K hK => ?_)
  go_simp
  refine (cosh_any b _ hb).mono ?_
  rintro e w4 ⟨q, rfl, hq, b4⟩
  have HQ : Hid (coshR b q) := hq
  have S2 : w4.cell? ⟨C, 0, none⟩ = some (.func (.func 114) #[] #[]) ∧ w4.cell? ⟨C, 3, none⟩ = some (.func (.func 117) #[] #[]) := ⟨(Below.cell b4 (p := ⟨C, 0, none⟩) hs4).trans S1.1, (Below.cell b4 (p := ⟨C, 3, none⟩) hs4).trans S1.2⟩
  replace G := bw_trans G b4
  have sz := Below.size b4
  have hs5 : C < w4.heap.size := by omega
  clear S1 b4 hs4 sz hq
  refine hK.out _ _ (fun _ _ => S2) ?_
  clear hK K
  simp only [List.setIfInBounds_toArray, List.set_cons_zero, List.set_cons_succ]
  refine wpAnyK_one 12 (by kernel_rfl) rfl (fun K hK => ?_)
  obtain ⟨r, w5, hr, er, br⟩ := op_run .mul isMul p q w4
  go_simp
  have HR : Hid (opR .mul p q r) := hr
  have S3 : w5.cell? ⟨C, 0, none⟩ = some (.func (.func 114) #[] #[]) ∧ w5.cell? ⟨C, 3, none⟩ = some (.func (.func 117) #[] #[]) := ⟨(Below.cell br (p := ⟨C, 0, none⟩) hs5).trans S2.1, (Below.cell br (p := ⟨C, 3, none⟩) hs5).trans S2.2⟩
  replace G := bw_trans G br
  clear S2 br hs5 hr er
  refine hK.out _ _ (fun _ _ => S3) ?_
  clear hK K
  simp only [List.setIfInBounds_toArray, List.set_cons_zero, List.set_cons_succ]
  refine wpAnyK_one 13 (by kernel_rfl) rfl (fun K hK => ?_)
  go_simp
  refine hK.out _ _ (fun h => absurd rfl h) ?_
  clear hK K
  simp only [List.setIfInBounds_toArray, List.set_cons_zero, List.set_cons_succ]
  refine wpAnyK_done (by kernel_rfl) ?_ _
  have HF : Hid (∃ p q, (∃ c, turR a p c) ∧ coshR b q ∧ opR .mul p q r) := ⟨p, q, HP.out, HQ.out, HR.out⟩
  clear HP HQ HR S3
  go_wp2
  go_ret
  exact ⟨_, rfl, HF.out, G⟩
set_option maxHeartbeats 8000000 in
set_option maxRecDepth 100000 in
theorem prod12 (a b : Nat) (w : World) (ha : a < 18446744073709551616) (hb : b < 18446744073709551616) : Calls Tryz.prog 41 #[.complex .f64 a b, .int .i64 1, .int .i64 2] w fun e w' => ∃ r, e = .returned (.float .f64 r) ∧ (∃ p q, (∃ s, turR a s p) ∧ sinhR b q ∧ opR .mul p q r) ∧ Bw w w' := by
  go_enter Tryz.func41, Tryz.ntmps41
  go_wp2_with fail
  refine (basics_any _).mono ?_
  rintro e' w2 ⟨rfl, b2⟩
  go_wp2_with fail
  have g0 : Bw w (w2.alloc (.cells #[.func (.func 114) #[] #[], .func (.func 115) #[] #[], .func (.func 116) #[] #[], .func (.func 117) #[] #[]] 56)) := bw_trans b2 (Below.alloc (Bw.refl w2) (Nat.le_refl _) _)
  have c0 : (w2.alloc (.cells #[.func (.func 114) #[] #[], .func (.func 115) #[] #[], .func (.func 116) #[] #[], .func (.func 117) #[] #[]] 56)).cell? ⟨w2.heap.size, 1, none⟩ = some (.func (.func 115) #[] #[]) ∧ (w2.alloc (.cells #[.func (.func 114) #[] #[], .func (.func 115) #[] #[], .func (.func 116) #[] #[], .func (.func 117) #[] #[]] 56)).cell? ⟨w2.heap.size, 2, none⟩ = some (.func (.func 116) #[] #[]) := by constructor <;> simp
  have hs : w2.heap.size < (w2.alloc (.cells #[.func (.func 114) #[] #[], .func (.func 115) #[] #[], .func (.func 116) #[] #[], .func (.func 117) #[] #[]] 56)).heap.size := by simp
  generalize w2.alloc (.cells #[.func (.func 114) #[] #[], .func (.func 115) #[] #[], .func (.func 116) #[] #[], .func (.func 117) #[] #[]] 56) = W at *
  obtain ⟨C, hC⟩ : ∃ C, C = w2.heap.size := ⟨_, rfl⟩
  rw [← hC] at hs c0
  rw [← hC]
  clear hC b2
  have S0 : W.drew.cell? ⟨C, 1, none⟩ = some (.func (.func 115) #[] #[]) ∧ W.drew.cell? ⟨C, 2, none⟩ = some (.func (.func 116) #[] #[]) := c0
  have g1 : Bw w W.drew := g0.drew
  have hs3 : C < W.drew.heap.size := hs
  clear g0 c0 hs
  refine wp_region_K (fun w' => w'.cell? ⟨C, 1, none⟩ = some (.func (.func 115) #[] #[]) ∧ w'.cell? ⟨C, 2, none⟩ = some (.func (.func 116) #[] #[])) 13 14 #[false, false, false, false, false, false, false, false, false, false, false, false, false, false] (by kernel_rfl) (by kernel_rfl) (by kernel_rfl) ?_
  generalize W.drew = W0 at *
  refine wpAnyK_take 0 9 (v := ?v0) rfl (by kernel_rfl) (by kernel_rfl) (by kernel_rfl) (by kernel_rfl) (by kernel_rfl) (fun _ _ _ h => h) rfl (Or.inl ⟨by rfl, ?h0⟩) (by assumption) ?r0
  case h0 => (intro w hSw; go_simp; with_reducible rfl)
  simp only [Act.put, List.setIfInBounds_toArray, List.set_cons_zero, List.set_cons_succ]
  refine wpAnyK_take 1 10 (v := ?v1) rfl (by kernel_rfl) (by kernel_rfl) (by kernel_rfl) (by kernel_rfl) (by kernel_rfl) (fun _ _ _ h => h) rfl (Or.inl ⟨by rfl, ?h1⟩) (by assumption) ?r1
  case h1 => (intro w hSw; go_simp; with_reducible rfl)
  simp only [Act.put, List.setIfInBounds_toArray, List.set_cons_zero, List.set_cons_succ]
  refine wpAnyK_take 2 11 (v := ?v2) rfl (by kernel_rfl) (by kernel_rfl) (by kernel_rfl) (by kernel_rfl) (by kernel_rfl) (fun _ _ _ h => h) rfl (Or.inl ⟨by rfl, ?h2⟩) (by assumption) ?r2
  case h2 => (intro w hSw; go_simp; with_reducible rfl)
  simp only [Act.put, List.setIfInBounds_toArray, List.set_cons_zero, List.set_cons_succ]
  refine wpAnyK_take 3 12 (v := ?v3) rfl (by kernel_rfl) (by kernel_rfl) (by kernel_rfl) (by kernel_rfl) (by kernel_rfl) (fun _ _ _ h => h) rfl (Or.inl ⟨by rfl, ?h3⟩) (by assumption) ?r3
  case h3 => (intro w hSw; go_simp; with_reducible rfl)
  simp only [Act.put, List.setIfInBounds_toArray, List.set_cons_zero, List.set_cons_succ]
  refine wpAnyK_take 4 13 (v := ?v4) rfl (by kernel_rfl) (by kernel_rfl) (by kernel_rfl) (by kernel_rfl) (by kernel_rfl) (fun _ _ _ h => h) rfl (Or.inl ⟨by rfl, ?h4⟩) (by assumption) ?r4
  case h4 => (intro w hSw; go_simp; with_reducible rfl)
  simp only [Act.put, List.setIfInBounds_toArray, List.set_cons_zero, List.set_cons_succ]
  refine wpAnyK_take 6 15 (v := ?v6) rfl (by kernel_rfl) (by kernel_rfl) (by kernel_rfl) (by kernel_rfl) (by kernel_rfl) (fun _ _ _ h => h) rfl (Or.inl ⟨by rfl, ?h6⟩) (by assumption) ?r6
  case h6 => (intro w hSw; go_simp; with_reducible rfl)
  simp only [Act.put, List.setIfInBounds_toArray, List.set_cons_zero, List.set_cons_succ]
  refine wpAnyK_take 7 16 (v := ?v7) rfl (by kernel_rfl) (by kernel_rfl) (by kernel_rfl) (by kernel_rfl) (by kernel_rfl) (fun _ _ _ h => h) rfl (Or.inl ⟨by rfl, ?h7⟩) (by assumption) ?r7
  case h7 => (intro w hSw; go_simp; with_reducible rfl)
  simp only [Act.put, List.setIfInBounds_toArray, List.set_cons_zero, List.set_cons_succ]
  refine wpAnyK_take 8 17 (v := ?v8) rfl (by kernel_rfl) (by kernel_rfl) (by kernel_rfl) (by kernel_rfl) (by kernel_rfl) (fun _ _ _ h => h) rfl (Or.inl ⟨by rfl, ?h8⟩) (by assumption) ?r8
  case h8 => (intro w hSw; go_simp; with_reducible rfl)
  simp only [Act.put, List.setIfInBounds_toArray, List.set_cons_zero, List.set_cons_succ]
  refine wpAnyK_take 9 18 (v := ?v9) rfl (by kernel_rfl) (by kernel_rfl) (by kernel_rfl) (by kernel_rfl) (by kernel_rfl) (fun _ _ _ h => h) rfl (Or.inl ⟨by rfl, ?h9⟩) (by assumption) ?r9
  case h9 => (intro w hSw; go_simp; with_reducible rfl)
  simp only [Act.put, List.setIfInBounds_toArray, List.set_cons_zero, List.set_cons_succ]
  refine wpAnyK_take 10 19 (v := ?v10) rfl (by kernel_rfl) (by kernel_rfl) (by kernel_rfl) (by kernel_rfl) (by kernel_rfl) (fun _ _ _ h => h) rfl (Or.inl ⟨by rfl, ?h10⟩) (by assumption) ?r10
  case h10 => (intro w hSw; go_simp; with_reducible rfl)
  simp only [Act.put, List.setIfInBounds_toArray, List.set_cons_zero, List.set_cons_succ]
  refine wpAnyK_one 5 (by kernel_rfl) rfl (fun K hK => ?_)
  go_simp
  refine (lit2_any a _ ha).mono ?_
  rintro e w3 ⟨p, rfl, hp, b3⟩
  have HP : Hid ((∃ s, turR a s p)) := hp
  have S1 : w3.cell? ⟨C, 1, none⟩ = some (.func (.func 115) #[] #[]) ∧ w3.cell? ⟨C, 2, none⟩ = some (.func (.func 116) #[] #[]) := ⟨(Below.cell b3 (p := ⟨C, 1, none⟩) hs3).trans S0.1, (Below.cell b3 (p := ⟨C, 2, none⟩) hs3).trans S0.2⟩
  have G := bw_trans g1 b3
  have sz := Below.size b3
  have hs4 : C < w3.heap.size := by omega
  clear S0 b3 g1 hs3 sz hp
  refine hK.out _ _ (fun _ _ => S1) ?_
  clear hK K
  simp only [List.setIfInBounds_toArray, List.set_cons_zero, List.set_cons_succ]
  refine wpAnyK_one 11 (by kernel_rfl) rfl (fun K hK => ?_)
  go_simp
  refine (sinh_any b _ hb).mono ?_
  rintro e w4 ⟨q, rfl, hq, b4⟩
  have HQ : Hid (sinhR b q) := hq
  have S2 : w4.cell? ⟨C, 1, none⟩ = some (.func (.func 115) #[] #[]) ∧ w4.cell? ⟨C, 2, none⟩ = some (.func (.func 116) #[] #[]) := ⟨(Below.cell b4 (p := ⟨C, 1, none⟩) hs4).trans S1.1, (Below.cell b4 (p := ⟨C, 2, none⟩) hs4).trans S1.2⟩
  replace G := bw_trans G b4
  have sz := Below.size b4
  have hs5 : C < w4.heap.size := by omega
  clear S1 b4 hs4 sz hq
  refine hK.out _ _ (fun _ _ => S2) ?_
  clear hK K
  simp only [List.setIfInBounds_toArray, List.set_cons_zero, List.set_cons_succ]
  refine wpAnyK_one 12 (by kernel_rfl) rfl (fun K hK => ?_)
  obtain ⟨r, w5, hr, er, br⟩ := op_run .mul isMul p q w4
  go_simp
  have HR : Hid (opR .mul p q r) := hr
  have S3 : w5.cell? ⟨C, 1, none⟩ = some (.func (.func 115) #[] #[]) ∧ w5.cell? ⟨C, 2, none⟩ = some (.func (.func 116) #[] #[]) := ⟨(Below.cell br (p := ⟨C, 1, none⟩) hs5).trans S2.1, (Below.cell br (p := ⟨C, 2, none⟩) hs5).trans S2.2⟩
  replace G := bw_trans G br
  clear S2 br hs5 hr er
  refine hK.out _ _ (fun _ _ => S3) ?_
  clear hK K
  simp only [List.setIfInBounds_toArray, List.set_cons_zero, List.set_cons_succ]
  refine wpAnyK_one 13 (by kernel_rfl) rfl (fun K hK => ?_)
  go_simp
  refine hK.out _ _ (fun h => absurd rfl h) ?_
  clear hK K
  simp only [List.setIfInBounds_toArray, List.set_cons_zero, List.set_cons_succ]
  refine wpAnyK_done (by kernel_rfl) ?_ _
  have HF : Hid (∃ p q, (∃ s, turR a s p) ∧ sinhR b q ∧ opR .mul p q r) := ⟨p, q, HP.out, HQ.out, HR.out⟩
  clear HP HQ HR S3
  go_wp2
  go_ret
  exact ⟨_, rfl, HF.out, G⟩
set_option maxHeartbeats 8000000 in
set_option maxRecDepth 100000 in
theorem prod13 (a b : Nat) (w : World) (ha : a < 18446744073709551616) (hb : b < 18446744073709551616) : Calls Tryz.prog 41 #[.complex .f64 a b, .int .i64 1, .int .i64 3] w fun e w' => ∃ r, e = .returned (.float .f64 r) ∧ (∃ p q, (∃ s, turR a s p) ∧ coshR b q ∧ opR .mul p q r) ∧ Bw w w' := by
  go_enter Tryz.func41, Tryz.ntmps41
  go_wp2_with fail
  refine (basics_any _).mono ?_
  rintro e' w2 ⟨rfl, b2⟩
  go_wp2_with fail
  have g0 : Bw w (w2.alloc (.cells #[.func (.func 114) #[] #[], .func (.func 115) #[] #[], .func (.func 116) #[] #[], .func (.func 117) #[] #[]] 56)) := bw_trans b2 (Below.alloc (Bw.refl w2) (Nat.le_refl _) _)
  have c0 : (w2.alloc (.cells #[.func (.func 114) #[] #[], .func (.func 115) #[] #[], .func (.func 116) #[] #[], .func (.func 117) #[] #[]] 56)).cell? ⟨w2.heap.size, 1, none⟩ = some (.func (.func 115) #[] #[]) ∧ (w2.alloc (.cells #[.func (.func 114) #[] #[], .func (.func 115) #[] #[], .func (.func 116) #[] #[], .func (.func 117) #[] #[]] 56)).cell? ⟨w2.heap.size, 3, none⟩ = some (.func (.func 117) #[] #[]) := by constructor <;> simp
  have hs : w2.heap.size < (w2.alloc (.cells #[.func (.func 114) #[] #[], .func (.func 115) #[] #[], .func (.func 116) #[] #[], .func (.func 117) #[] #[]] 56)).heap.size := by simp
  generalize w2.alloc (.cells #[.func (.func 114) #[] #[], .func (.func 115) #[] #[], .func (.func 116) #[] #[], .func (.func 117) #[] #[]] 56) = W at *
  obtain ⟨C, hC⟩ : ∃ C, C = w2.heap.size := ⟨_, rfl⟩
  rw [← hC] at hs c0
  rw [← hC]
  clear hC b2
  have S0 : W.drew.cell? ⟨C, 1, none⟩ = some (.func (.func 115) #[] #[]) ∧ W.drew.cell? ⟨C, 3, none⟩ = some (.func (.func 117) #[] #[]) := c0
  have g1 : Bw w W.drew := g0.drew
  have hs3 : C < W.drew.heap.size := hs
  clear g0 c0 hs
  refine wp_region_K (fun w' => w'.cell? ⟨C, 1, none⟩ = some (.func (.func 115) #[] #[]) ∧ w'.cell? ⟨C, 3, none⟩ = some (.func (.func 117) #[] #[])) 13 14 #[false, false, false, false, false, false, false, false, false, false, false, false, false, false] (by kernel_rfl) (by kernel_rfl) (by kernel_rfl) ?_
  generalize W.drew = W0 at *
  refine wpAnyK_take 0 9 (v := ?v0) rfl (by kernel_rfl) (by kernel_rfl) (by kernel_rfl) (by kernel_rfl) (by kernel_rfl) (fun _ _ _ h => h) rfl (Or.inl ⟨by rfl, ?h0⟩) (by assumption) ?r0
  case h0 => (intro w hSw; go_simp; with_reducible rfl)
  simp only [Act.put, List.setIfInBounds_toArray, List.set_cons_zero, List.set_cons_succ]
  refine wpAnyK_take 1 10 (v := ?v1) rfl (by kernel_rfl) (by kernel_rfl) (by kernel_rfl) (by kernel_rfl) (by kernel_rfl) (fun _ _ _ h => h) rfl (Or.inl ⟨by rfl, ?h1⟩) (by assumption) ?r1
  case h1 => (intro w hSw; go_simp; with_reducible rfl)
  simp only [Act.put, List.setIfInBounds_toArray, List.set_cons_zero, List.set_cons_succ]
  refine wpAnyK_take 2 11 (v := ?v2) rfl (by kernel_rfl) (by kernel_rfl) (by kernel_rfl) (by kernel_rfl) (by kernel_rfl) (fun _ _ _ h => h) rfl (Or.inl ⟨by rfl, ?h2⟩) (by assumption) ?r2
  case h2 => (intro w hSw; go_simp; with_reducible rfl)
  simp only [Act.put, List.setIfInBounds_toArray, List.set_cons_zero, List.set_cons_succ]
  refine wpAnyK_take 3 12 (v := ?v3) rfl (by kernel_rfl) (by kernel_rfl) (by kernel_rfl) (by kernel_rfl) (by kernel_rfl) (fun _ _ _ h => h) rfl (Or.inl ⟨by rfl, ?h3⟩) (by assumption) ?r3
  case h3 => (intro w hSw; go_simp; with_reducible rfl)
  simp only [Act.put, List.setIfInBounds_toArray, List.set_cons_zero, List.set_cons_succ]
  refine wpAnyK_take 4 13 (v := ?v4) rfl (by kernel_rfl) (by kernel_rfl) (by kernel_rfl) (by kernel_rfl) (by kernel_rfl) (fun _ _ _ h => h) rfl (Or.inl ⟨by rfl, ?h4⟩) (by assumption) ?r4
  case h4 => (intro w hSw; go_simp; with_reducible rfl)
  simp only [Act.put, List.setIfInBounds_toArray, List.set_cons_zero, List.set_cons_succ]
  refine wpAnyK_take 6 15 (v := ?v6) rfl (by kernel_rfl) (by kernel_rfl) (by kernel_rfl) (by kernel_rfl) (by kernel_rfl) (fun _ _ _ h => h) rfl (Or.inl ⟨by rfl, ?h6⟩) (by assumption) ?r6
  case h6 => (intro w hSw; go_simp; with_reducible rfl)
  simp only [Act.put, List.setIfInBounds_toArray, List.set_cons_zero, List.set_cons_succ]
  refine wpAnyK_take 7 16 (v := ?v7) rfl (by kernel_rfl) (by kernel_rfl) (by kernel_rfl) (by kernel_rfl) (by kernel_rfl) (fun _ _ _ h => h) rfl (Or.inl ⟨by rfl, ?h7⟩) (by assumption) ?r7
  case h7 => (intro w hSw; go_simp; with_reducible rfl)
  simp only [Act.put, List.setIfInBounds_toArray, List.set_cons_zero, List.set_cons_succ]
  refine wpAnyK_take 8 17 (v := ?v8) rfl (by kernel_rfl) (by kernel_rfl) (by kernel_rfl) (by kernel_rfl) (by kernel_rfl) (fun _ _ _ h => h) rfl (Or.inl ⟨by rfl, ?h8⟩) (by assumption) ?r8
  case h8 => (intro w hSw; go_simp; with_reducible rfl)
  simp only [Act.put, List.setIfInBounds_toArray, List.set_cons_zero, List.set_cons_succ]
  refine wpAnyK_take 9 18 (v := ?v9) rfl (by kernel_rfl) (by kernel_rfl) (by kernel_rfl) (by kernel_rfl) (by kernel_rfl) (fun _ _ _ h => h) rfl (Or.inl ⟨by rfl, ?h9⟩) (by assumption) ?r9
  case h9 => (intro w hSw; go_simp; with_reducible rfl)
  simp only [Act.put, List.setIfInBounds_toArray, List.set_cons_zero, List.set_cons_succ]
  refine wpAnyK_take 10 19 (v := ?v10) rfl (by kernel_rfl) (by kernel_rfl) (by kernel_rfl) (by kernel_rfl) (by kernel_rfl) (fun _ _ _ h => h) rfl (Or.inl ⟨by rfl, ?h10⟩) (by assumption) ?r10
  case h10 => (intro w hSw; go_simp; with_reducible rfl)
  simp only [Act.put, List.setIfInBounds_toArray, List.set_cons_zero, List.set_cons_succ]
  refine wpAnyK_one 5 (by kernel_rfl) rfl (fun K hK => ?_)
  go_simp
  refine (lit2_any a _ ha).mono ?_
  rintro e w3 ⟨p, rfl, hp, b3⟩
  have HP : Hid ((∃ s, turR a s p)) := hp
  have S1 : w3.cell? ⟨C, 1, none⟩ = some (.func (.func 115) #[] #[]) ∧ w3.cell? ⟨C, 3, none⟩ = some (.func (.func 117) #[] #[]) := ⟨(Below.cell b3 (p := ⟨C, 1, none⟩) hs3).trans S0.1, (Below.cell b3 (p := ⟨C, 3, none⟩) hs3).trans S0.2⟩
  have G := bw_trans g1 b3
  have sz := Below.size b3
  have hs4 : C < w3.heap.size := by omega
  clear S0 b3 g1 hs3 sz hp
  refine hK.out _ _ (fun _ _ => S1) ?_
  clear hK K
  simp only [List.setIfInBounds_toArray, List.set_cons_zero, List.set_cons_succ]
  refine wpAnyK_one 11 (by kernel_rfl) rfl (fun K hK => ?_)
  go_simp
  refine (cosh_any b _ hb).mono ?_
  rintro e w4 ⟨q, rfl, hq, b4⟩
  have HQ : Hid (coshR b q) := hq
  have S2 : w4.cell? ⟨C, 1, none⟩ = some (.func (.func 115) #[] #[]) ∧ w4.cell? ⟨C, 3, none⟩ = some (.func (.func 117) #[] #[]) := ⟨(Below.cell b4 (p := ⟨C, 1, none⟩) hs4).trans S1.1, (Below.cell b4 (p := ⟨C, 3, none⟩) hs4).trans S1.2⟩
  replace G := bw_trans G b4
  have sz := Below.size b4
  have hs5 : C < w4.heap.size := by omega
  clear S1 b4 hs4 sz hq
  refine hK.out _ _ (fun _ _ => S2) ?_
  clear hK K
  simp only [List.setIfInBounds_toArray, List.set_cons_zero, List.set_cons_succ]
  refine wpAnyK_one 12 (by kernel_rfl) rfl (fun K hK => ?_)
  obtain ⟨r, w5, hr, er, br⟩ := op_run .mul isMul p q w4
  go_simp
  have HR : Hid (opR .mul p q r) := hr
  have S3 : w5.cell? ⟨C, 1, none⟩ = some (.func (.func 115) #[] #[]) ∧ w5.cell? ⟨C, 3, none⟩ = some (.func (.func 117) #[] #[]) := ⟨(Below.cell br (p := ⟨C, 1, none⟩) hs5).trans S2.1, (Below.cell br (p := ⟨C, 3, none⟩) hs5).trans S2.2⟩
  replace G := bw_trans G br
  clear S2 br hs5 hr er
  refine hK.out _ _ (fun _ _ => S3) ?_
  clear hK K
  simp only [List.setIfInBounds_toArray, List.set_cons_zero, List.set_cons_succ]
  refine wpAnyK_one 13 (by kernel_rfl) rfl (fun K hK => ?_)
  go_simp
  refine hK.out _ _ (fun h => absurd rfl h) ?_
  clear hK K
  simp only [List.setIfInBounds_toArray, List.set_cons_zero, List.set_cons_succ]
  refine wpAnyK_done (by kernel_rfl) ?_ _
  have HF : Hid (∃ p q, (∃ s, turR a s p) ∧ coshR b q ∧ opR .mul p q r) := ⟨p, q, HP.out, HQ.out, HR.out⟩
  clear HP HQ HR S3
  go_wp2
  go_ret
  exact ⟨_, rfl, HF.out, G⟩
set_option maxHeartbeats 8000000 in
set_option maxRecDepth 100000 in
theorem prod02 (a b : Nat) (w : World) (ha : a < 18446744073709551616) (hb : b < 18446744073709551616) : Calls Tryz.prog 41 #[.complex .f64 a b, .int .i64 0, .int .i64 2] w fun e w' => ∃ r, e = .returned (.float .f64 r) ∧ (∃ p q, (∃ c, turR a p c) ∧ sinhR b q ∧ opR .mul p q r) ∧ Bw w w' := by
  go_enter Tryz.func41, Tryz.ntmps41
  go_wp2_with fail
  refine (basics_any _).mono ?_
  rintro e' w2 ⟨rfl, b2⟩
  go_wp2_with fail
  have g0 : Bw w (w2.alloc (.cells #[.func (.func 114) #[] #[], .func (.func 115) #[] #[], .func (.func 116) #[] #[], .func (.func 117) #[] #[]] 56)) := bw_trans b2 (Below.alloc (Bw.refl w2) (Nat.le_refl _) _)
  have c0 : (w2.alloc (.cells #[.func (.func 114) #[] #[], .func (.func 115) #[] #[], .func (.func 116) #[] #[], .func (.func 117) #[] #[]] 56)).cell? ⟨w2.heap.size, 0, none⟩ = some (.func (.func 114) #[] #[]) ∧ (w2.alloc (.cells #[.func (.func 114) #[] #[], .func (.func 115) #[] #[], .func (.func 116) #[] #[], .func (.func 117) #[] #[]] 56)).cell? ⟨w2.heap.size, 2, none⟩ = some (.func (.func 116) #[] #[]) := by constructor <;> simp
  have hs : w2.heap.size < (w2.alloc (.cells #[.func (.func 114) #[] #[], .func (.func 115) #[] #[], .func (.func 116) #[] #[], .func (.func 117) #[] #[]] 56)).heap.size := by simp
  generalize w2.alloc (.cells #[.func (.func 114) #[] #[], .func (.func 115) #[] #[], .func (.func 116) #[] #[], .func (.func 117) #[] #[]] 56) = W at *
  obtain ⟨C, hC⟩ : ∃ C, C = w2.heap.size := ⟨_, rfl⟩
  rw [← hC] at hs c0
  rw [← hC]
  clear hC b2
  have S0 : W.drew.cell? ⟨C, 0, none⟩ = some (.func (.func 114) #[] #[]) ∧ W.drew.cell? ⟨C, 2, none⟩ = some (.func (.func 116) #[] #[]) := c0
  have g1 : Bw w W.drew := g0.drew
  have hs3 : C < W.drew.heap.size := hs
  clear g0 c0 hs
  refine wp_region_K (fun w' => w'.cell? ⟨C, 0, none⟩ = some (.func (.func 114) #[] #[]) ∧ w'.cell? ⟨C, 2, none⟩ = some (.func (.func 116) #[] #[])) 13 14 #[false, false, false, false, false, false, false, false, false, false, false, false, false, false] (by kernel_rfl) (by kernel_rfl) (by kernel_rfl) ?_
  generalize W.drew = W0 at *
  refine wpAnyK_take 0 9 (v := ?v0) rfl (by kernel_rfl) (by kernel_rfl) (by kernel_rfl) (by kernel_rfl) (by kernel_rfl) (fun _ _ _ h => h) rfl (Or.inl ⟨by rfl, ?h0⟩) (by assumption) ?r0
  case h0 => (intro w hSw; go_simp; with_reducible rfl)
  simp only [Act.put, List.setIfInBounds_toArray, List.set_cons_zero, List.set_cons_succ]
  refine wpAnyK_take 1 10 (v := ?v1) rfl (by kernel_rfl) (by kernel_rfl) (by kernel_rfl) (by kernel_rfl) (by kernel_rfl) (fun _ _ _ h => h) rfl (Or.inl ⟨by rfl, ?h1⟩) (by assumption) ?r1
  case h1 => (intro w hSw; go_simp; with_reducible rfl)
  simp only [Act.put, List.setIfInBounds_toArray, List.set_cons_zero, List.set_cons_succ]
  refine wpAnyK_take 2 11 (v := ?v2) rfl (by kernel_rfl) (by kernel_rfl) (by kernel_rfl) (by kernel_rfl) (by kernel_rfl) (fun _ _ _ h => h) rfl (Or.inl ⟨by rfl, ?h2⟩) (by assumption) ?r2
  case h2 => (intro w hSw; go_simp; with_reducible rfl)
  simp only [Act.put, List.setIfInBounds_toArray, List.set_cons_zero, List.set_cons_succ]
  refine wpAnyK_take 3 12 (v := ?v3) rfl (by kernel_rfl) (by kernel_rfl) (by kernel_rfl) (by kernel_rfl) (by kernel_rfl) (fun _ _ _ h => h) rfl (Or.inl ⟨by rfl, ?h3⟩) (by assumption) ?r3
  case h3 => (intro w hSw; go_simp; with_reducible rfl)
  simp only [Act.put, List.setIfInBounds_toArray, List.set_cons_zero, List.set_cons_succ]
  refine wpAnyK_take 4 13 (v := ?v4) rfl (by kernel_rfl) (by kernel_rfl) (by kernel_rfl) (by kernel_rfl) (by kernel_rfl) (fun _ _ _ h => h) rfl (Or.inl ⟨by rfl, ?h4⟩) (by assumption) ?r4
  case h4 => (intro w hSw; go_simp; with_reducible rfl)
  simp only [Act.put, List.setIfInBounds_toArray, List.set_cons_zero, List.set_cons_succ]
  refine wpAnyK_take 6 15 (v := ?v6) rfl (by kernel_rfl) (by kernel_rfl) (by kernel_rfl) (by kernel_rfl) (by kernel_rfl) (fun _ _ _ h => h) rfl (Or.inl ⟨by rfl, ?h6⟩) (by assumption) ?r6
  case h6 => (intro w hSw; go_simp; with_reducible rfl)
  simp only [Act.put, List.setIfInBounds_toArray, List.set_cons_zero, List.set_cons_succ]
  refine wpAnyK_take 7 16 (v := ?v7) rfl (by kernel_rfl) (by kernel_rfl) (by kernel_rfl) (by kernel_rfl) (by kernel_rfl) (fun _ _ _ h => h) rfl (Or.inl ⟨by rfl, ?h7⟩) (by assumption) ?r7
  case h7 => (intro w hSw; go_simp; with_reducible rfl)
  simp only [Act.put, List.setIfInBounds_toArray, List.set_cons_zero, List.set_cons_succ]
  refine wpAnyK_take 8 17 (v := ?v8) rfl (by kernel_rfl) (by kernel_rfl) (by kernel_rfl) (by kernel_rfl) (by kernel_rfl) (fun _ _ _ h => h) rfl (Or.inl ⟨by rfl, ?h8⟩) (by assumption) ?r8
  case h8 => (intro w hSw; go_simp; with_reducible rfl)
  simp only [Act.put, List.setIfInBounds_toArray, List.set_cons_zero, List.set_cons_succ]
  refine wpAnyK_take 9 18 (v := ?v9) rfl (by kernel_rfl) (by kernel_rfl) (by kernel_rfl) (by kernel_rfl) (by kernel_rfl) (fun _ _ _ h => h) rfl (Or.inl ⟨by rfl, ?h9⟩) (by assumption) ?r9
  case h9 => (intro w hSw; go_simp; with_reducible rfl)
  simp only [Act.put, List.setIfInBounds_toArray, List.set_cons_zero, List.set_cons_succ]
  refine wpAnyK_take 10 19 (v := ?v10) rfl (by kernel_rfl) (by kernel_rfl) (by kernel_rfl) (by kernel_rfl) (by kernel_rfl) (fun _ _ _ h => h) rfl (Or.inl ⟨by rfl, ?h10⟩) (by assumption) ?r10
  case h10 => (intro w hSw; go_simp; with_reducible rfl)
  simp only [Act.put, List.setIfInBounds_toArray, List.set_cons_zero, List.set_cons_succ]
  refine wpAnyK_one 5 (by kernel_rfl) rfl (fun K hK => ?_)
  go_simp
  refine (lit1_any a _ ha).mono ?_
  rintro e w3 ⟨p, rfl, hp, b3⟩
  have HP : Hid ((∃ c, turR a p c)) := hp
  have S1 : w3.cell? ⟨C, 0, none⟩ = some (.func (.func 114) #[] #[]) ∧ w3.cell? ⟨C, 2, none⟩ = some (.func (.func 116) #[] #[]) := ⟨(Below.cell b3 (p := ⟨C, 0, none⟩) hs3).trans S0.1, (Below.cell b3 (p := ⟨C, 2, none⟩) hs3).trans S0.2⟩
  have G := bw_trans g1 b3
  have sz := Below.size b3
  have hs4 : C < w3.heap.size := by omega
  clear S0 b3 g1 hs3 sz hp
  refine hK.out _ _ (fun _ _ => S1) ?_
  clear hK K
  simp only [List.setIfInBounds_toArray, List.set_cons_zero, List.set_cons_succ]
  refine wpAnyK_one 11 (by kernel_rfl) rfl (fun K hK => ?_)
  go_simp
  refine (sinh_any b _ hb).mono ?_
  rintro e w4 ⟨q, rfl, hq, b4⟩
  have HQ : Hid (sinhR b q) := hq
  have S2 : w4.cell? ⟨C, 0, none⟩ = some (.func (.func 114) #[] #[]) ∧ w4.cell? ⟨C, 2, none⟩ = some (.func (.func 116) #[] #[]) := ⟨(Below.cell b4 (p := ⟨C, 0, none⟩) hs4).trans S1.1, (Below.cell b4 (p := ⟨C, 2, none⟩) hs4).trans S1.2⟩
  replace G := bw_trans G b4
  have sz := Below.size b4
  have hs5 : C < w4.heap.size := by omega
  clear S1 b4 hs4 sz hq
  refine hK.out _ _ (fun _ _ => S2) ?_
  clear hK K
  simp only [List.setIfInBounds_toArray, List.set_cons_zero, List.set_cons_succ]
  refine wpAnyK_one 12 (by kernel_rfl) rfl (fun K hK => ?_)
  obtain ⟨r, w5, hr, er, br⟩ := op_run .mul isMul p q w4
  go_simp
  have HR : Hid (opR .mul p q r) := hr
  have S3 : w5.cell? ⟨C, 0, none⟩ = some (.func (.func 114) #[] #[]) ∧ w5.cell? ⟨C, 2, none⟩ = some (.func (.func 116) #[] #[]) := ⟨(Below.cell br (p := ⟨C, 0, none⟩) hs5).trans S2.1, (Below.cell br (p := ⟨C, 2, none⟩) hs5).trans S2.2⟩
  replace G := bw_trans G br
  clear S2 br hs5 hr er
  refine hK.out _ _ (fun _ _ => S3) ?_
  clear hK K
  simp only [List.setIfInBounds_toArray, List.set_cons_zero, List.set_cons_succ]
  refine wpAnyK_one 13 (by kernel_rfl) rfl (fun K hK => ?_)
  go_simp
  refine hK.out _ _ (fun h => absurd rfl h) ?_
  clear hK K
  simp only [List.setIfInBounds_toArray, List.set_cons_zero, List.set_cons_succ]
  refine wpAnyK_done (by kernel_rfl) ?_ _
  have HF : Hid (∃ p q, (∃ c, turR a p c) ∧ sinhR b q ∧ opR .mul p q r) := ⟨p, q, HP.out, HQ.out, HR.out⟩
  clear HP HQ HR S3
  go_wp2
  go_ret
  exact ⟨_, rfl, HF.out, G⟩
set_option maxHeartbeats 8000000 in
set_option maxRecDepth 100000 in
theorem prod21 (a b : Nat) (w : World) (ha : a < 18446744073709551616) (hb : b < 18446744073709551616) : Calls Tryz.prog 41 #[.complex .f64 a b, .int .i64 2, .int .i64 1] w fun e w' => ∃ r, e = .returned (.float .f64 r) ∧ (∃ p q, sinhR a p ∧ (∃ s, turR b s q) ∧ opR .mul p q r) ∧ Bw w w' := by
  go_enter Tryz.func41, Tryz.ntmps41
  go_wp2_with fail
  refine (basics_any _).mono ?_
  rintro e' w2 ⟨rfl, b2⟩
  go_wp2_with fail
  have g0 : Bw w (w2.alloc (.cells #[.func (.func 114) #[] #[], .func (.func 115) #[] #[], .func (.func 116) #[] #[], .func (.func 117) #[] #[]] 56)) := bw_trans b2 (Below.alloc (Bw.refl w2) (Nat.le_refl _) _)
  have c0 : (w2.alloc (.cells #[.func (.func 114) #[] #[], .func (.func 115) #[] #[], .func (.func 116) #[] #[], .func (.func 117) #[] #[]] 56)).cell? ⟨w2.heap.size, 2, none⟩ = some (.func (.func 116) #[] #[]) ∧ (w2.alloc (.cells #[.func (.func 114) #[] #[], .func (.func 115) #[] #[], .func (.func 116) #[] #[], .func (.func 117) #[] #[]] 56)).cell? ⟨w2.heap.size, 1, none⟩ = some (.func (.func 115) #[] #[]) := by constructor <;> simp
  have hs : w2.heap.size < (w2.alloc (.cells #[.func (.func 114) #[] #[], .func (.func 115) #[] #[], .func (.func 116) #[] #[], .func (.func 117) #[] #[]] 56)).heap.size := by simp
  generalize w2.alloc (.cells #[.func (.func 114) #[] #[], .func (.func 115) #[] #[], .func (.func 116) #[] #[], .func (.func 117) #[] #[]] 56) = W at *
  obtain ⟨C, hC⟩ : ∃ C, C = w2.heap.size := ⟨_, rfl⟩
  rw [← hC] at hs c0
  rw [← hC]
  clear hC b2
  have S0 : W.drew.cell? ⟨C, 2, none⟩ = some (.func (.func 116) #[] #[]) ∧ W.drew.cell? ⟨C, 1, none⟩ = some (.func (.func 115) #[] #[]) := c0
  have g1 : Bw w W.drew := g0.drew
  have hs3 : C < W.drew.heap.size := hs
  clear g0 c0 hs
  refine wp_region_K (fun w' => w'.cell? ⟨C, 2, none⟩ = some (.func (.func 116) #[] #[]) ∧ w'.cell? ⟨C, 1, none⟩ = some (.func (.func 115) #[] #[])) 13 14 #[false, false, false, false, false, false, false, false, false, false, false, false, false, false] (by kernel_rfl) (by kernel_rfl) (by kernel_rfl) ?_
  generalize W.drew = W0 at *
  refine wpAnyK_take 0 9 (v := ?v0) rfl (by kernel_rfl) (by kernel_rfl) (by kernel_rfl) (by kernel_rfl) (by kernel_rfl) (fun _ _ _ h => h) rfl (Or.inl ⟨by rfl, ?h0⟩) (by assumption) ?r0
  case h0 => (intro w hSw; go_simp; with_reducible rfl)
  simp only [Act.put, List.setIfInBounds_toArray, List.set_cons_zero, List.set_cons_succ]
  refine wpAnyK_take 1 10 (v := ?v1) rfl (by kernel_rfl) (by kernel_rfl) (by kernel_rfl) (by kernel_rfl) (by kernel_rfl) (fun _ _ _ h => h) rfl (Or.inl ⟨by rfl, ?h1⟩) (by assumption) ?r1
  case h1 => (intro w hSw; go_simp; with_reducible rfl)
  simp only [Act.put, List.setIfInBounds_toArray, List.set_cons_zero, List.set_cons_succ]
  refine wpAnyK_take 2 11 (v := ?v2) rfl (by kernel_rfl) (by kernel_rfl) (by kernel_rfl) (by kernel_rfl) (by kernel_rfl) (fun _ _ _ h => h) rfl (Or.inl ⟨by rfl, ?h2⟩) (by assumption) ?r2
  case h2 => (intro w hSw; go_simp; with_reducible rfl)
  simp only [Act.put, List.setIfInBounds_toArray, List.set_cons_zero, List.set_cons_succ]
  refine wpAnyK_take 3 12 (v := ?v3) rfl (by kernel_rfl) (by kernel_rfl) (by kernel_rfl) (by kernel_rfl) (by kernel_rfl) (fun _ _ _ h => h) rfl (Or.inl ⟨by rfl, ?h3⟩) (by assumption) ?r3
  case h3 => (intro w hSw; go_simp; with_reducible rfl)
  simp only [Act.put, List.setIfInBounds_toArray, List.set_cons_zero, List.set_cons_succ]
  refine wpAnyK_take 4 13 (v := ?v4) rfl (by kernel_rfl) (by kernel_rfl) (by kernel_rfl) (by kernel_rfl) (by kernel_rfl) (fun _ _ _ h => h) rfl (Or.inl ⟨by rfl, ?h4⟩) (by assumption) ?r4
  case h4 => (intro w hSw; go_simp; with_reducible rfl)
  simp only [Act.put, List.setIfInBounds_toArray, List.set_cons_zero, List.set_cons_succ]
  refine wpAnyK_take 6 15 (v := ?v6) rfl (by kernel_rfl) (by kernel_rfl) (by kernel_rfl) (by kernel_rfl) (by kernel_rfl) (fun _ _ _ h => h) rfl (Or.inl ⟨by rfl, ?h6⟩) (by assumption) ?r6
  case h6 => (intro w hSw; go_simp; with_reducible rfl)
  simp only [Act.put, List.setIfInBounds_toArray, List.set_cons_zero, List.set_cons_succ]
  refine wpAnyK_take 7 16 (v := ?v7) rfl (by kernel_rfl) (by kernel_rfl) (by kernel_rfl) (by kernel_rfl) (by kernel_rfl) (fun _ _ _ h => h) rfl (Or.inl ⟨by rfl, ?h7⟩) (by assumption) ?r7
  case h7 => (intro w hSw; go_simp; with_reducible rfl)
  simp only [Act.put, List.setIfInBounds_toArray, List.set_cons_zero, List.set_cons_succ]
  refine wpAnyK_take 8 17 (v := ?v8) rfl (by kernel_rfl) (by kernel_rfl) (by kernel_rfl) (by kernel_rfl) (by kernel_rfl) (fun _ _ _ h => h) rfl (Or.inl ⟨by rfl, ?h8⟩) (by assumption) ?r8
  case h8 => (intro w hSw; go_simp; with_reducible rfl)
  simp only [Act.put, List.setIfInBounds_toArray, List.set_cons_zero, List.set_cons_succ]
  refine wpAnyK_take 9 18 (v := ?v9) rfl (by kernel_rfl) (by kernel_rfl) (by kernel_rfl) (by kernel_rfl) (by kernel_rfl) (fun _ _ _ h => h) rfl (Or.inl ⟨by rfl, ?h9⟩) (by assumption) ?r9
  case h9 => (intro w hSw; go_simp; with_reducible rfl)
  simp only [Act.put, List.setIfInBounds_toArray, List.set_cons_zero, List.set_cons_succ]
  refine wpAnyK_take 10 19 (v := ?v10) rfl (by kernel_rfl) (by kernel_rfl) (by kernel_rfl) (by kernel_rfl) (by kernel_rfl) (fun _ _ _ h => h) rfl (Or.inl ⟨by rfl, ?h10⟩) (by assumption) ?r10
  case h10 => (intro w hSw; go_simp; with_reducible rfl)
  simp only [Act.put, List.setIfInBounds_toArray, List.set_cons_zero, List.set_cons_succ]
  refine wpAnyK_one 5 (by kernel_rfl) rfl (fun K hK => ?_)
  go_simp
  refine (sinh_any a _ ha).mono ?_
  rintro e w3 ⟨p, rfl, hp, b3⟩
  have HP : Hid (sinhR a p) := hp
  have S1 : w3.cell? ⟨C, 2, none⟩ = some (.func (.func 116) #[] #[]) ∧ w3.cell? ⟨C, 1, none⟩ = some (.func (.func 115) #[] #[]) := ⟨(Below.cell b3 (p := ⟨C, 2, none⟩) hs3).trans S0.1, (Below.cell b3 (p := ⟨C, 1, none⟩) hs3).trans S0.2⟩
  have G := bw_trans g1 b3
  have sz := Below.size b3
  have hs4 : C < w3.heap.size := by omega
  clear S0 b3 g1 hs3 sz hp
  refine hK.out _ _ (fun _ _ => S1) ?_
  clear hK K
  simp only [List.setIfInBounds_toArray, List.set_cons_zero, List.set_cons_succ]
  refine wpAnyK_one 11 (by kernel_rfl) rfl (fun K hK => ?_)
  go_simp
  refine (lit2_any b _ hb).mono ?_
  rintro e w4 ⟨q, rfl, hq, b4⟩
  have HQ : Hid ((∃ s, turR b s q)) := hq
  have S2 : w4.cell? ⟨C, 2, none⟩ = some (.func (.func 116) #[] #[]) ∧ w4.cell? ⟨C, 1, none⟩ = some (.func (.func 115) #[] #[]) := ⟨(Below.cell b4 (p := ⟨C, 2, none⟩) hs4).trans S1.1, (Below.cell b4 (p := ⟨C, 1, none⟩) hs4).trans S1.2⟩
  replace G := bw_trans G b4
  have sz := Below.size b4
  have hs5 : C < w4.heap.size := by omega
  clear S1 b4 hs4 sz hq
  refine hK.out _ _ (fun _ _ => S2) ?_
  clear hK K
  simp only [List.setIfInBounds_toArray, List.set_cons_zero, List.set_cons_succ]
  refine wpAnyK_one 12 (by kernel_rfl) rfl (fun K hK => ?_)
  obtain ⟨r, w5, hr, er, br⟩ := op_run .mul isMul p q w4
  go_simp
  have HR : Hid (opR .mul p q r) := hr
  have S3 : w5.cell? ⟨C, 2, none⟩ = some (.func (.func 116) #[] #[]) ∧ w5.cell? ⟨C, 1, none⟩ = some (.func (.func 115) #[] #[]) := ⟨(Below.cell br (p := ⟨C, 2, none⟩) hs5).trans S2.1, (Below.cell br (p := ⟨C, 1, none⟩) hs5).trans S2.2⟩
  replace G := bw_trans G br
  clear S2 br hs5 hr er
  refine hK.out _ _ (fun _ _ => S3) ?_
  clear hK K
  simp only [List.setIfInBounds_toArray, List.set_cons_zero, List.set_cons_succ]
  refine wpAnyK_one 13 (by kernel_rfl) rfl (fun K hK => ?_)
  go_simp
  refine hK.out _ _ (fun h => absurd rfl h) ?_
  clear hK K
  simp only [List.setIfInBounds_toArray, List.set_cons_zero, List.set_cons_succ]
  refine wpAnyK_done (by kernel_rfl) ?_ _
  have HF : Hid (∃ p q, sinhR a p ∧ (∃ s, turR b s q) ∧ opR .mul p q r) := ⟨p, q, HP.out, HQ.out, HR.out⟩
  clear HP HQ HR S3
  go_wp2
  go_ret
  exact ⟨_, rfl, HF.out, G⟩
set_option maxHeartbeats 8000000 in
set_option maxRecDepth 100000 in
theorem prod30 (a b : Nat) (w : World) (ha : a < 18446744073709551616) (hb : b < 18446744073709551616) : Calls Tryz.prog 41 #[.complex .f64 a b, .int .i64 3, .int .i64 0] w fun e w' => ∃ r, e = .returned (.float .f64 r) ∧ (∃ p q, coshR a p ∧ (∃ c, turR b q c) ∧ opR .mul p q r) ∧ Bw w w' := by
  go_enter Tryz.func41, Tryz.ntmps41
  go_wp2_with fail
  refine (basics_any _).mono ?_
  rintro e' w2 ⟨rfl, b2⟩
  go_wp2_with fail
  have g0 : Bw w (w2.alloc (.cells #[.func (.func 114) #[] #[], .func (.func 115) #[] #[], .func (.func 116) #[] #[], .func (.func 117) #[] #[]] 56)) := bw_trans b2 (Below.alloc (Bw.refl w2) (Nat.le_refl _) _)
  have c0 : (w2.alloc (.cells #[.func (.func 114) #[] #[], .func (.func 115) #[] #[], .func (.func 116) #[] #[], .func (.func 117) #[] #[]] 56)).cell? ⟨w2.heap.size, 3, none⟩ = some (.func (.func 117) #[] #[]) ∧ (w2.alloc (.cells #[.func (.func 114) #[] #[], .func (.func 115) #[] #[], .func (.func 116) #[] #[], .func (.func 117) #[] #[]] 56)).cell? ⟨w2.heap.size, 0, none⟩ = some (.func (.func 114) #[] #[]) := by constructor <;> simp
  have hs : w2.heap.size < (w2.alloc (.cells #[.func (.func 114) #[] #[], .func (.func 115) #[] #[], .func (.func 116) #[] #[], .func (.func 117) #[] #[]] 56)).heap.size := by simp
  generalize w2.alloc (.cells #[.func (.func 114) #[] #[], .func (.func 115) #[] #[], .func (.func 116) #[] #[], .func (.func 117) #[] #[]] 56) = W at *
  obtain ⟨C, hC⟩ : ∃ C, C = w2.heap.size := ⟨_, rfl⟩
  rw [← hC] at hs c0
  rw [← hC]
  clear hC b2
  have S0 : W.drew.cell? ⟨C, 3, none⟩ = some (.func (.func 117) #[] #[]) ∧ W.drew.cell? ⟨C, 0, none⟩ = some (.func (.func 114) #[] #[]) := c0
  have g1 : Bw w W.drew := g0.drew
  have hs3 : C < W.drew.heap.size := hs
  clear g0 c0 hs
  refine wp_region_K (fun w' => w'.cell? ⟨C, 3, none⟩ = some (.func (.func 117) #[] #[]) ∧ w'.cell? ⟨C, 0, none⟩ = some (.func (.func 114) #[] #[])) 13 14 #[false, false, false, false, false, false, false, false, false, false, false, false, false, false] (by kernel_rfl) (by kernel_rfl) (by kernel_rfl) ?_
  generalize W.drew = W0 at *
  refine wpAnyK_take 0 9 (v := ?v0) rfl (by kernel_rfl) (by kernel_rfl) (by kernel_rfl) (by kernel_rfl) (by kernel_rfl) (fun _ _ _ h => h) rfl (Or.inl ⟨by rfl, ?h0⟩) (by assumption) ?r0
  case h0 => (intro w hSw; go_simp; with_reducible rfl)
  simp only [Act.put, List.setIfInBounds_toArray, List.set_cons_zero, List.set_cons_succ]
  refine wpAnyK_take 1 10 (v := ?v1) rfl (by kernel_rfl) (by kernel_rfl) (by kernel_rfl) (by kernel_rfl) (by kernel_rfl) (fun _ _ _ h => h) rfl (Or.inl ⟨by rfl, ?h1⟩) (by assumption) ?r1
  case h1 => (intro w hSw; go_simp; with_reducible rfl)
  simp only [Act.put, List.setIfInBounds_toArray, List.set_cons_zero, List.set_cons_succ]
  refine wpAnyK_take 2 11 (v := ?v2) rfl (by kernel_rfl) (by kernel_rfl) (by kernel_rfl) (by kernel_rfl) (by kernel_rfl) (fun _ _ _ h => h) rfl (Or.inl ⟨by rfl, ?h2⟩) (by assumption) ?r2
  case h2 => (intro w hSw; go_simp; with_reducible rfl)
  simp only [Act.put, List.setIfInBounds_toArray, List.set_cons_zero, List.set_cons_succ]
  refine wpAnyK_take 3 12 (v := ?v3) rfl (by kernel_rfl) (by kernel_rfl) (by kernel_rfl) (by kernel_rfl) (by kernel_rfl) (fun _ _ _ h => h) rfl (Or.inl ⟨by rfl, ?h3⟩) (by assumption) ?r3
  case h3 => (intro w hSw; go_simp; with_reducible rfl)
  simp only [Act.put, List.setIfInBounds_toArray, List.set_cons_zero, List.set_cons_succ]
  refine wpAnyK_take 4 13 (v := ?v4) rfl (by kernel_rfl) (by kernel_rfl) (by kernel_rfl) (by kernel_rfl) (by kernel_rfl) (fun _ _ _ h => h) rfl (Or.inl ⟨by rfl, ?h4⟩) (by assumption) ?r4
  case h4 => (intro w hSw; go_simp; with_reducible rfl)
  simp only [Act.put, List.setIfInBounds_toArray, List.set_cons_zero, List.set_cons_succ]
  refine wpAnyK_take 6 15 (v := ?v6) rfl (by kernel_rfl) (by kernel_rfl) (by kernel_rfl) (by kernel_rfl) (by kernel_rfl) (fun _ _ _ h => h) rfl (Or.inl ⟨by rfl, ?h6⟩) (by assumption) ?r6
  case h6 => (intro w hSw; go_simp; with_reducible rfl)
  simp only [Act.put, List.setIfInBounds_toArray, List.set_cons_zero, List.set_cons_succ]
  refine wpAnyK_take 7 16 (v := ?v7) rfl (by kernel_rfl) (by kernel_rfl) (by kernel_rfl) (by kernel_rfl) (by kernel_rfl) (fun _ _ _ h => h) rfl (Or.inl ⟨by rfl, ?h7⟩) (by assumption) ?r7
  case h7 => (intro w hSw; go_simp; with_reducible rfl)
  simp only [Act.put, List.setIfInBounds_toArray, List.set_cons_zero, List.set_cons_succ]
  refine wpAnyK_take 8 17 (v := ?v8) rfl (by kernel_rfl) (by kernel_rfl) (by kernel_rfl) (by kernel_rfl) (by kernel_rfl) (fun _ _ _ h => h) rfl (Or.inl ⟨by rfl, ?h8⟩) (by assumption) ?r8
  case h8 => (intro w hSw; go_simp; with_reducible rfl)
  simp only [Act.put, List.setIfInBounds_toArray, List.set_cons_zero, List.set_cons_succ]
  refine wpAnyK_take 9 18 (v := ?v9) rfl (by kernel_rfl) (by kernel_rfl) (by kernel_rfl) (by kernel_rfl) (by kernel_rfl) (fun _ _ _ h => h) rfl (Or.inl ⟨by rfl, ?h9⟩) (by assumption) ?r9
  case h9 => (intro w hSw; go_simp; with_reducible rfl)
  simp only [Act.put, List.setIfInBounds_toArray, List.set_cons_zero, List.set_cons_succ]
  refine wpAnyK_take 10 19 (v := ?v10) rfl (by kernel_rfl) (by kernel_rfl) (by kernel_rfl) (by kernel_rfl) (by kernel_rfl) (fun _ _ _ h => h) rfl (Or.inl ⟨by rfl, ?h10⟩) (by assumption) ?r10
  case h10 => (intro w hSw; go_simp; with_reducible rfl)
  simp only [Act.put, List.setIfInBounds_toArray, List.set_cons_zero, List.set_cons_succ]
  refine wpAnyK_one 5 (by kernel_rfl) rfl (fun K hK => ?_)
  go_simp
  refine (cosh_any a _ ha).mono ?_
  rintro e w3 ⟨p, rfl, hp, b3⟩
  have HP : Hid (coshR a p) := hp
  have S1 : w3.cell? ⟨C, 3, none⟩ = some (.func (.func 117) #[] #[]) ∧ w3.cell? ⟨C, 0, none⟩ = some (.func (.func 114) #[] #[]) := ⟨(Below.cell b3 (p := ⟨C, 3, none⟩) hs3).trans S0.1, (Below.cell b3 (p := ⟨C, 0, none⟩) hs3).trans S0.2⟩
  have G := bw_trans g1 b3
  have sz := Below.size b3
  have hs4 : C < w3.heap.size := by omega
  clear S0 b3 g1 hs3 sz hp
  refine hK.out _ _ (fun _ _ => S1) ?_
  clear hK K
  simp only [List.setIfInBounds_toArray, List.set_cons_zero, List.set_cons_succ]
  refine wpAnyK_one 11 (by kernel_rfl) rfl (fun K hK => ?_)
  go_simp
  refine (lit1_any b _ hb).mono ?_
  rintro e w4 ⟨q, rfl, hq, b4⟩
  have HQ : Hid ((∃ c, turR b q c)) := hq
  have S2 : w4.cell? ⟨C, 3, none⟩ = some (.func (.func 117) #[] #[]) ∧ w4.cell? ⟨C, 0, none⟩ = some (.func (.func 114) #[] #[]) := ⟨(Below.cell b4 (p := ⟨C, 3, none⟩) hs4).trans S1.1, (Below.cell b4 (p := ⟨C, 0, none⟩) hs4).trans S1.2⟩
  replace G := bw_trans G b4
  have sz := Below.size b4
  have hs5 : C < w4.heap.size := by omega
  clear S1 b4 hs4 sz hq
  refine hK.out _ _ (fun _ _ => S2) ?_
  clear hK K
  simp only [List.setIfInBounds_toArray, List.set_cons_zero, List.set_cons_succ]
  refine wpAnyK_one 12 (by kernel_rfl) rfl (fun K hK => ?_)
  obtain ⟨r, w5, hr, er, br⟩ := op_run .mul isMul p q w4
  go_simp
  have HR : Hid (opR .mul p q r) := hr
  have S3 : w5.cell? ⟨C, 3, none⟩ = some (.func (.func 117) #[] #[]) ∧ w5.cell? ⟨C, 0, none⟩ = some (.func (.func 114) #[] #[]) := ⟨(Below.cell br (p := ⟨C, 3, none⟩) hs5).trans S2.1, (Below.cell br (p := ⟨C, 0, none⟩) hs5).trans S2.2⟩
  replace G := bw_trans G br
  clear S2 br hs5 hr er
  refine hK.out _ _ (fun _ _ => S3) ?_
  clear hK K
  simp only [List.setIfInBounds_toArray, List.set_cons_zero, List.set_cons_succ]
  refine wpAnyK_one 13 (by kernel_rfl) rfl (fun K hK => ?_)
  go_simp
  refine hK.out _ _ (fun h => absurd rfl h) ?_
  clear hK K
  simp only [List.setIfInBounds_toArray, List.set_cons_zero, List.set_cons_succ]
  refine wpAnyK_done (by kernel_rfl) ?_ _
  have HF : Hid (∃ p q, coshR a p ∧ (∃ c, turR b q c) ∧ opR .mul p q r) := ⟨p, q, HP.out, HQ.out, HR.out⟩
  clear HP HQ HR S3
  go_wp2
  go_ret
  exact ⟨_, rfl, HF.out, G⟩
set_option maxHeartbeats 8000000 in
set_option maxRecDepth 100000 in
theorem prod31 (a b : Nat) (w : World) (ha : a < 18446744073709551616) (hb : b < 18446744073709551616) : Calls Tryz.prog 41 #[.complex .f64 a b, .int .i64 3, .int .i64 1] w fun e w' => ∃ r, e = .returned (.float .f64 r) ∧ (∃ p q, coshR a p ∧ (∃ s, turR b s q) ∧ opR .mul p q r) ∧ Bw w w' := by
  go_enter Tryz.func41, Tryz.ntmps41
  go_wp2_with fail
  refine (basics_any _).mono ?_
  rintro e' w2 ⟨rfl, b2⟩
  go_wp2_with fail
  have g0 : Bw w (w2.alloc (.cells #[.func (.func 114) #[] #[], .func (.func 115) #[] #[], .func (.func 116) #[] #[], .func (.func 117) #[] #[]] 56)) := bw_trans b2 (Below.alloc (Bw.refl w2) (Nat.le_refl _) _)
  have c0 : (w2.alloc (.cells #[.func (.func 114) #[] #[], .func (.func 115) #[] #[], .func (.func 116) #[] #[], .func (.func 117) #[] #[]] 56)).cell? ⟨w2.heap.size, 3, none⟩ = some (.func (.func 117) #[] #[]) ∧ (w2.alloc (.cells #[.func (.func 114) #[] #[], .func (.func 115) #[] #[], .func (.func 116) #[] #[], .func (.func 117) #[] #[]] 56)).cell? ⟨w2.heap.size, 1, none⟩ = some (.func (.func 115) #[] #[]) := by constructor <;> simp
  have hs : w2.heap.size < (w2.alloc (.cells #[.func (.func 114) #[] #[], .func (.func 115) #[] #[], .func (.func 116) #[] #[], .func (.func 117) #[] #[]] 56)).heap.size := by simp
  generalize w2.alloc (.cells #[.func (.func 114) #[] #[], .func (.func 115) #[] #[], .func (.func 116) #[] #[], .func (.func 117) #[] #[]] 56) = W at *
  obtain ⟨C, hC⟩ : ∃ C, C = w2.heap.size := ⟨_, rfl⟩
  rw [← hC] at hs c0
  rw [← hC]
  clear hC b2
  have S0 : W.drew.cell? ⟨C, 3, none⟩ = some (.func (.func 117) #[] #[]) ∧ W.drew.cell? ⟨C, 1, none⟩ = some (.func (.func 115) #[] #[]) := c0
  have g1 : Bw w W.drew := g0.drew
  have hs3 : C < W.drew.heap.size := hs
  clear g0 c0 hs
  refine wp_region_K (fun w' => w'.cell? ⟨C, 3, none⟩ = some (.func (.func 117) #[] #[]) ∧ w'.cell? ⟨C, 1, none⟩ = some (.func (.func 115) #[] #[])) 13 14 #[false, false, false, false, false, false, false, false, false, false, false, false, false, false] (by kernel_rfl) (by kernel_rfl) (by kernel_rfl) ?_
  generalize W.drew = W0 at *
  refine wpAnyK_take 0 9 (v := ?v0) rfl (by kernel_rfl) (by kernel_rfl) (by kernel_rfl) (by kernel_rfl) (by kernel_rfl) (fun _ _ _ h => h) rfl (Or.inl ⟨by rfl, ?h0⟩) (by assumption) ?r0
  case h0 => (intro w hSw; go_simp; with_reducible rfl)
  simp only [Act.put, List.setIfInBounds_toArray, List.set_cons_zero, List.set_cons_succ]
  refine wpAnyK_take 1 10 (v := ?v1) rfl (by kernel_rfl) (by kernel_rfl) (by kernel_rfl) (by kernel_rfl) (by kernel_rfl) (fun _ _ _ h => h) rfl (Or.inl ⟨by rfl, ?h1⟩) (by assumption) ?r1
  case h1 => (intro w hSw; go_simp; with_reducible rfl)
  simp only [Act.put, List.setIfInBounds_toArray, List.set_cons_zero, List.set_cons_succ]
  refine wpAnyK_take 2 11 (v := ?v2) rfl (by kernel_rfl) (by kernel_rfl) (by kernel_rfl) (by kernel_rfl) (by kernel_rfl) (fun _ _ _ h => h) rfl (Or.inl ⟨by rfl, ?h2⟩) (by assumption) ?r2
  case h2 => (intro w hSw; go_simp; with_reducible rfl)
  simp only [Act.put, List.setIfInBounds_toArray, List.set_cons_zero, List.set_cons_succ]
  refine wpAnyK_take 3 12 (v := ?v3) rfl (by kernel_rfl) (by kernel_rfl) (by kernel_rfl) (by kernel_rfl) (by kernel_rfl) (fun _ _ _ h => h) rfl (Or.inl ⟨by rfl, ?h3⟩) (by assumption) ?r3
  case h3 => (intro w hSw; go_simp; with_reducible rfl)
  simp only [Act.put, List.setIfInBounds_toArray, List.set_cons_zero, List.set_cons_succ]
  refine wpAnyK_take 4 13 (v := ?v4) rfl (by kernel_rfl) (by kernel_rfl) (by kernel_rfl) (by kernel_rfl) (by kernel_rfl) (fun _ _ _ h => h) rfl (Or.inl ⟨by rfl, ?h4⟩) (by assumption) ?r4
  case h4 => (intro w hSw; go_simp; with_reducible rfl)
  simp only [Act.put, List.setIfInBounds_toArray, List.set_cons_zero, List.set_cons_succ]
  refine wpAnyK_take 6 15 (v := ?v6) rfl (by kernel_rfl) (by kernel_rfl) (by kernel_rfl) (by kernel_rfl) (by kernel_rfl) (fun _ _ _ h => h) rfl (Or.inl ⟨by rfl, ?h6⟩) (by assumption) ?r6
  case h6 => (intro w hSw; go_simp; with_reducible rfl)
  simp only [Act.put, List.setIfInBounds_toArray, List.set_cons_zero, List.set_cons_succ]
  refine wpAnyK_take 7 16 (v := ?v7) rfl (by kernel_rfl) (by kernel_rfl) (by kernel_rfl) (by kernel_rfl) (by kernel_rfl) (fun _ _ _ h => h) rfl (Or.inl ⟨by rfl, ?h7⟩) (by assumption) ?r7
  case h7 => (intro w hSw; go_simp; with_reducible rfl)
  simp only [Act.put, List.setIfInBounds_toArray, List.set_cons_zero, List.set_cons_succ]
  refine wpAnyK_take 8 17 (v := ?v8) rfl (by kernel_rfl) (by kernel_rfl) (by kernel_rfl) (by kernel_rfl) (by kernel_rfl) (fun _ _ _ h => h) rfl (Or.inl ⟨by rfl, ?h8⟩) (by assumption) ?r8
  case h8 => (intro w hSw; go_simp; with_reducible rfl)
  simp only [Act.put, List.setIfInBounds_toArray, List.set_cons_zero, List.set_cons_succ]
  refine wpAnyK_take 9 18 (v := ?v9) rfl (by kernel_rfl) (by kernel_rfl) (by kernel_rfl) (by kernel_rfl) (by kernel_rfl) (fun _ _ _ h => h) rfl (Or.inl ⟨by rfl, ?h9⟩) (by assumption) ?r9
  case h9 => (intro w hSw; go_simp; with_reducible rfl)
  simp only [Act.put, List.setIfInBounds_toArray, List.set_cons_zero, List.set_cons_succ]
  refine wpAnyK_take 10 19 (v := ?v10) rfl (by kernel_rfl) (by kernel_rfl) (by kernel_rfl) (by kernel_rfl) (by kernel_rfl) (fun _ _ _ h => h) rfl (Or.inl ⟨by rfl, ?h10⟩) (by assumption) ?r10
  case h10 => (intro w hSw; go_simp; with_reducible rfl)
  simp only [Act.put, List.setIfInBounds_toArray, List.set_cons_zero, List.set_cons_succ]
  refine wpAnyK_one 5 (by kernel_rfl) rfl (fun K hK => ?_)
  go_simp
  refine (cosh_any a _ ha).mono ?_
  rintro e w3 ⟨p, rfl, hp, b3⟩
  have HP : Hid (coshR a p) := hp
  have S1 : w3.cell? ⟨C, 3, none⟩ = some (.func (.func 117) #[] #[]) ∧ w3.cell? ⟨C, 1, none⟩ = some (.func (.func 115) #[] #[]) := ⟨(Below.cell b3 (p := ⟨C, 3, none⟩) hs3).trans S0.1, (Below.cell b3 (p := ⟨C, 1, none⟩) hs3).trans S0.2⟩
  have G := bw_trans g1 b3
  have sz := Below.size b3
  have hs4 : C < w3.heap.size := by omega
  clear S0 b3 g1 hs3 sz hp
  refine hK.out _ _ (fun _ _ => S1) ?_
  clear hK K
  simp only [List.setIfInBounds_toArray, List.set_cons_zero, List.set_cons_succ]
  refine wpAnyK_one 11 (by kernel_rfl) rfl (fun K hK => ?_)
  go_simp
  refine (lit2_any b _ hb).mono ?_
  rintro e w4 ⟨q, rfl, hq, b4⟩
  have HQ : Hid ((∃ s, turR b s q)) := hq
  have S2 : w4.cell? ⟨C, 3, none⟩ = some (.func (.func 117) #[] #[]) ∧ w4.cell? ⟨C, 1, none⟩ = some (.func (.func 115) #[] #[]) := ⟨(Below.cell b4 (p := ⟨C, 3, none⟩) hs4).trans S1.1, (Below.cell b4 (p := ⟨C, 1, none⟩) hs4).trans S1.2⟩
  replace G := bw_trans G b4
  have sz := Below.size b4
  have hs5 : C < w4.heap.size := by omega
  clear S1 b4 hs4 sz hq
  refine hK.out _ _ (fun _ _ => S2) ?_
  clear hK K
  simp only [List.setIfInBounds_toArray, List.set_cons_zero, List.set_cons_succ]
  refine wpAnyK_one 12 (by kernel_rfl) rfl (fun K hK => ?_)
  obtain ⟨r, w5, hr, er, br⟩ := op_run .mul isMul p q w4
  go_simp
  have HR : Hid (opR .mul p q r) := hr
  have S3 : w5.cell? ⟨C, 3, none⟩ = some (.func (.func 117) #[] #[]) ∧ w5.cell? ⟨C, 1, none⟩ = some (.func (.func 115) #[] #[]) := ⟨(Below.cell br (p := ⟨C, 3, none⟩) hs5).trans S2.1, (Below.cell br (p := ⟨C, 1, none⟩) hs5).trans S2.2⟩
  replace G := bw_trans G br
  clear S2 br hs5 hr er
  refine hK.out _ _ (fun _ _ => S3) ?_
  clear hK K
  simp only [List.setIfInBounds_toArray, List.set_cons_zero, List.set_cons_succ]
  refine wpAnyK_one 13 (by kernel_rfl) rfl (fun K hK => ?_)
  go_simp
  refine hK.out _ _ (fun h => absurd rfl h) ?_
  clear hK K
  simp only [List.setIfInBounds_toArray, List.set_cons_zero, List.set_cons_succ]
  refine wpAnyK_done (by kernel_rfl) ?_ _
  have HF : Hid (∃ p q, coshR a p ∧ (∃ s, turR b s q) ∧ opR .mul p q r) := ⟨p, q, HP.out, HQ.out, HR.out⟩
  clear HP HQ HR S3
  go_wp2
  go_ret
  exact ⟨_, rfl, HF.out, G⟩
set_option maxHeartbeats 8000000 in
set_option maxRecDepth 100000 in
theorem prod20 (a b : Nat) (w : World) (ha : a < 18446744073709551616) (hb : b < 18446744073709551616) : Calls Tryz.prog 41 #[.complex .f64 a b, .int .i64 2, .int .i64 0] w fun e w' => ∃ r, e = .returned (.float .f64 r) ∧ (∃ p q, sinhR a p ∧ (∃ c, turR b q c) ∧ opR .mul p q r) ∧ Bw w w' := by
  go_enter Tryz.func41, Tryz.ntmps41
  go_wp2_with fail
  refine (basics_any _).mono ?_
  rintro e' w2 ⟨rfl, b2⟩
  go_wp2_with fail
  have g0 : Bw w (w2.alloc (.cells #[.func (.func 114) #[] #[], .func (.func 115) #[] #[], .func (.func 116) #[] #[], .func (.func 117) #[] #[]] 56)) := bw_trans b2 (Below.alloc (Bw.refl w2) (Nat.le_refl _) _)
  have c0 : (w2.alloc (.cells #[.func (.func 114) #[] #[], .func (.func 115) #[] #[], .func (.func 116) #[] #[], .func (.func 117) #[] #[]] 56)).cell? ⟨w2.heap.size, 2, none⟩ = some (.func (.func 116) #[] #[]) ∧ (w2.alloc (.cells #[.func (.func 114) #[] #[], .func (.func 115) #[] #[], .func (.func 116) #[] #[], .func (.func 117) #[] #[]] 56)).cell? ⟨w2.heap.size, 0, none⟩ = some (.func (.func 114) #[] #[]) := by constructor <;> simp
  have hs : w2.heap.size < (w2.alloc (.cells #[.func (.func 114) #[] #[], .func (.func 115) #[] #[], .func (.func 116) #[] #[], .func (.func 117) #[] #[]] 56)).heap.size := by simp
  generalize w2.alloc (.cells #[.func (.func 114) #[] #[], .func (.func 115) #[] #[], .func (.func 116) #[] #[], .func (.func 117) #[] #[]] 56) = W at *
  obtain ⟨C, hC⟩ : ∃ C, C = w2.heap.size := ⟨_, rfl⟩
  rw [← hC] at hs c0
  rw [← hC]
  clear hC b2
  have S0 : W.drew.cell? ⟨C, 2, none⟩ = some (.func (.func 116) #[] #[]) ∧ W.drew.cell? ⟨C, 0, none⟩ = some (.func (.func 114) #[] #[]) := c0
  have g1 : Bw w W.drew := g0.drew
  have hs3 : C < W.drew.heap.size := hs
  clear g0 c0 hs
  refine wp_region_K (fun w' => w'.cell? ⟨C, 2, none⟩ = some (.func (.func 116) #[] #[]) ∧ w'.cell? ⟨C, 0, none⟩ = some (.func (.func 114) #[] #[])) 13 14 #[false, false, false, false, false, false, false, false, false, false, false, false, false, false] (by kernel_rfl) (by kernel_rfl) (by kernel_rfl) ?_
  generalize W.drew = W0 at *
  refine wpAnyK_take 0 9 (v := ?v0) rfl (by kernel_rfl) (by kernel_rfl) (by kernel_rfl) (by kernel_rfl) (by kernel_rfl) (fun _ _ _ h => h) rfl (Or.inl ⟨by rfl, ?h0⟩) (by assumption) ?r0
  case h0 => (intro w hSw; go_simp; with_reducible rfl)
  simp only [Act.put, List.setIfInBounds_toArray, List.set_cons_zero, List.set_cons_succ]
  refine wpAnyK_take 1 10 (v := ?v1) rfl (by kernel_rfl) (by kernel_rfl) (by kernel_rfl) (by kernel_rfl) (by kernel_rfl) (fun _ _ _ h => h) rfl (Or.inl ⟨by rfl, ?h1⟩) (by assumption) ?r1
  case h1 => (intro w hSw; go_simp; with_reducible rfl)
  simp only [Act.put, List.setIfInBounds_toArray, List.set_cons_zero, List.set_cons_succ]
  refine wpAnyK_take 2 11 (v := ?v2) rfl (by kernel_rfl) (by kernel_rfl) (by kernel_rfl) (by kernel_rfl) (by kernel_rfl) (fun _ _ _ h => h) rfl (Or.inl ⟨by rfl, ?h2⟩) (by assumption) ?r2
  case h2 => (intro w hSw; go_simp; with_reducible rfl)
  simp only [Act.put, List.setIfInBounds_toArray, List.set_cons_zero, List.set_cons_succ]
  refine wpAnyK_take 3 12 (v := ?v3) rfl (by kernel_rfl) (by kernel_rfl) (by kernel_rfl) (by kernel_rfl) (by kernel_rfl) (fun _ _ _ h => h) rfl (Or.inl ⟨by rfl, ?h3⟩) (by assumption) ?r3
  case h3 => (intro w hSw; go_simp; with_reducible rfl)
  simp only [Act.put, List.setIfInBounds_toArray, List.set_cons_zero, List.set_cons_succ]
  refine wpAnyK_take 4 13 (v := ?v4) rfl (by kernel_rfl) (by kernel_rfl) (by kernel_rfl) (by kernel_rfl) (by kernel_rfl) (fun _ _ _ h => h) rfl (Or.inl ⟨by rfl, ?h4⟩) (by assumption) ?r4
  case h4 => (intro w hSw; go_simp; with_reducible rfl)
  simp only [Act.put, List.setIfInBounds_toArray, List.set_cons_zero, List.set_cons_succ]
  refine wpAnyK_take 6 15 (v := ?v6) rfl (by kernel_rfl) (by kernel_rfl) (by kernel_rfl) (by kernel_rfl) (by kernel_rfl) (fun _ _ _ h => h) rfl (Or.inl ⟨by rfl, ?h6⟩) (by assumption) ?r6
  case h6 => (intro w hSw; go_simp; with_reducible rfl)
  simp only [Act.put, List.setIfInBounds_toArray, List.set_cons_zero, List.set_cons_succ]
  refine wpAnyK_take 7 16 (v := ?v7) rfl (by kernel_rfl) (by kernel_rfl) (by kernel_rfl) (by kernel_rfl) (by kernel_rfl) (fun _ _ _ h => h) rfl (Or.inl ⟨by rfl, ?h7⟩) (by assumption) ?r7
  case h7 => (intro w hSw; go_simp; with_reducible rfl)
  simp only [Act.put, List.setIfInBounds_toArray, List.set_cons_zero, List.set_cons_succ]
  refine wpAnyK_take 8 17 (v := ?v8) rfl (by kernel_rfl) (by kernel_rfl) (by kernel_rfl) (by kernel_rfl) (by kernel_rfl) (fun _ _ _ h => h) rfl (Or.inl ⟨by rfl, ?h8⟩) (by assumption) ?r8
  case h8 => (intro w hSw; go_simp; with_reducible rfl)
  simp only [Act.put, List.setIfInBounds_toArray, List.set_cons_zero, List.set_cons_succ]
  refine wpAnyK_take 9 18 (v := ?v9) rfl (by kernel_rfl) (by kernel_rfl) (by kernel_rfl) (by kernel_rfl) (by kernel_rfl) (fun _ _ _ h => h) rfl (Or.inl ⟨by rfl, ?h9⟩) (by assumption) ?r9
  case h9 => (intro w hSw; go_simp; with_reducible rfl)
  simp only [Act.put, List.setIfInBounds_toArray, List.set_cons_zero, List.set_cons_succ]
  refine wpAnyK_take 10 19 (v := ?v10) rfl (by kernel_rfl) (by kernel_rfl) (by kernel_rfl) (by kernel_rfl) (by kernel_rfl) (fun _ _ _ h => h) rfl (Or.inl ⟨by rfl, ?h10⟩) (by assumption) ?r10
  case h10 => (intro w hSw; go_simp; with_reducible rfl)
  simp only [Act.put, List.setIfInBounds_toArray, List.set_cons_zero, List.set_cons_succ]
  refine wpAnyK_one 5 (by kernel_rfl) rfl (fun K hK => ?_)
  go_simp
  refine (sinh_any a _ ha).mono ?_
  rintro e w3 ⟨p, rfl, hp, b3⟩
  have HP : Hid (sinhR a p) := hp
  have S1 : w3.cell? ⟨C, 2, none⟩ = some (.func (.func 116) #[] #[]) ∧ w3.cell? ⟨C, 0, none⟩ = some (.func (.func 114) #[] #[]) := ⟨(Below.cell b3 (p := ⟨C, 2, none⟩) hs3).trans S0.1, (Below.cell b3 (p := ⟨C, 0, none⟩) hs3).trans S0.2⟩
  have G := bw_trans g1 b3
  have sz := Below.size b3
  have hs4 : C < w3.heap.size := by omega
  clear S0 b3 g1 hs3 sz hp
  refine hK.out _ _ (fun _ _ => S1) ?_
  clear hK K
  simp only [List.setIfInBounds_toArray, List.set_cons_zero, List.set_cons_succ]
  refine wpAnyK_one 11 (by kernel_rfl) rfl (fun K hK => ?_)
  go_simp
  refine (lit1_any b _ hb).mono ?_
  rintro e w4 ⟨q, rfl, hq, b4⟩
  have HQ : Hid ((∃ c, turR b q c)) := hq
  have S2 : w4.cell? ⟨C, 2, none⟩ = some (.func (.func 116) #[] #[]) ∧ w4.cell? ⟨C, 0, none⟩ = some (.func (.func 114) #[] #[]) := ⟨(Below.cell b4 (p := ⟨C, 2, none⟩) hs4).trans S1.1, (Below.cell b4 (p := ⟨C, 0, none⟩) hs4).trans S1.2⟩
  replace G := bw_trans G b4
  have sz := Below.size b4
  have hs5 : C < w4.heap.size := by omega
  clear S1 b4 hs4 sz hq
  refine hK.out _ _ (fun _ _ => S2) ?_
  clear hK K
  simp only [List.setIfInBounds_toArray, List.set_cons_zero, List.set_cons_succ]
  refine wpAnyK_one 12 (by kernel_rfl) rfl (fun K hK => ?_)
  obtain ⟨r, w5, hr, er, br⟩ := op_run .mul isMul p q w4
  go_simp
  have HR : Hid (opR .mul p q r) := hr
  have S3 : w5.cell? ⟨C, 2, none⟩ = some (.func (.func 116) #[] #[]) ∧ w5.cell? ⟨C, 0, none⟩ = some (.func (.func 114) #[] #[]) := ⟨(Below.cell br (p := ⟨C, 2, none⟩) hs5).trans S2.1, (Below.cell br (p := ⟨C, 0, none⟩) hs5).trans S2.2⟩
  replace G := bw_trans G br
  clear S2 br hs5 hr er
  refine hK.out _ _ (fun _ _ => S3) ?_
  clear hK K
  simp only [List.setIfInBounds_toArray, List.set_cons_zero, List.set_cons_succ]
  refine wpAnyK_one 13 (by kernel_rfl) rfl (fun K hK => ?_)
  go_simp
  refine hK.out _ _ (fun h => absurd rfl h) ?_
  clear hK K
  simp only [List.setIfInBounds_toArray, List.set_cons_zero, List.set_cons_succ]
  refine wpAnyK_done (by kernel_rfl) ?_ _
  have HF : Hid (∃ p q, sinhR a p ∧ (∃ c, turR b q c) ∧ opR .mul p q r) := ⟨p, q, HP.out, HQ.out, HR.out⟩
  clear HP HQ HR S3
  go_wp2
  go_ret
  exact ⟨_, rfl, HF.out, G⟩
end Go.Proofs.YtlbikopancleoaaGreatDoor
/-
  OWN TEXT: package parts: signs turned (parts.turned, Conj, Neg, Mirror, Times), for every number.
-/
namespace Go.Proofs.YtlbikopancleoaaGreatDoor
open Go.ChangeShapes Go.WideShapes Go.ChangeAt Go.RowKit
set_option linter.unusedVariables false
attribute [local go_sem] frombits_call tobits_call run_neg
theorem xor_sign {x : Nat} (h : x < 18446744073709551616) : bits .xor .u64 (x : Int) 9223372036854775808 = ((Fl.ng x : Nat) : Int) := by
  have e := u64_xor_nat x 9223372036854775808 h (by omega)
  rw [show ((9223372036854775808 : Nat) : Int) = 9223372036854775808 from rfl] at e
  rw [e, ← Fl.neg_eq h]
  rfl
theorem turned_any (x : Nat) (w : World) (hx : x < 18446744073709551616) : Calls Tryz.prog 95 #[.float .f64 x] w fun e w' => e = .returned (.float .f64 (Fl.ng x)) ∧ w' = w := by
  have k := xor_sign hx
  go_enter Tryz.func95, Tryz.ntmps95
  go_wp2
  go_ret
  exact ⟨rfl, rfl⟩
theorem conj_any (x y : Nat) (w : World) (hy : y < 18446744073709551616) : Calls Tryz.prog 44 #[.complex .f64 x y] w fun e w' => e = .returned (.complex .f64 x (Fl.ng y)) ∧ w' = w := by
  have T : Hid (∀ wz, Calls Tryz.prog 95 #[.float .f64 y] wz fun e w' => e = .returned (.float .f64 (Fl.ng y)) ∧ w' = wz) := fun wz => turned_any y wz hy
  generalize Fl.ng y = z at *
  go_enter Tryz.func44, Tryz.ntmps44
  go_wp2_with (go_at_call 95; refine (T.out _).mono ?_; rintro e' w ⟨rfl, rfl⟩)
  go_ret
  exact ⟨rfl, rfl⟩
end Go.Proofs.YtlbikopancleoaaGreatDoor
