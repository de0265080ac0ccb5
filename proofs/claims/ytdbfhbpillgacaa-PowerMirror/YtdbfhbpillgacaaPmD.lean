/-
  OWN TEXT: the law PowerMirror, for every two numbers.
-/
import Derived.Test.YtdbfhbpillgacaaPmC
import Derived.Test.YtdbfhbpillgacaaBhL
namespace Go.Proofs.Ytdbfhbpillgacaa
open Go.ChangeShapes Go.WideShapes Go.ChangeAt Go.RowKit
set_option linter.unusedVariables false
attribute [local go_sem] frombits_call tobits_call run_neg
theorem clo_im {a b re im : Nat} (h : cloR a b re im) : im < 18446744073709551616 := by obtain ⟨_, _, _, _, h⟩ := h; exact h
theorem alike_yes {a b : Nat} (h : simR a b ∨ Fl.eqF a b = true) (w : World) : Calls Try.prog 49 #[.float .f64 a, .float .f64 b] w fun e w' => e = .returned (.bool true) ∧ w' = w := by
  have g := Fl.o_eq a b
  cases c : Fl.eqF a b
  · rw [c] at g
    have hs : simR a b := by
      rcases h with h | h
      · exact h
      · rw [c] at h; cases h
    have S : Hid (∀ wz, Calls Try.prog 69 #[.float .f64 a, .float .f64 b] wz fun e w' => e = .returned (.bool true) ∧ w' = wz) := fun wz => by have m := same_any a b wz; rw [hs.same] at m; exact m
    clear c h hs
    go_enter Try.func49, Try.ntmps49
    go_wp2_with (go_at_call 69; refine (S.out _).mono ?_; rintro e w ⟨rfl, rfl⟩)
    go_ret
    exact ⟨rfl, rfl⟩
  · rw [c] at g
    clear c h
    go_enter Try.func49, Try.ntmps49
    go_wp2
    go_ret
    exact ⟨rfl, rfl⟩
theorem plike_yes {a b c d : Nat} (h : simR a c ∨ Fl.eqF a c = true) (k : simR b d ∨ Fl.eqF b d = true) (w : World) : Calls Try.prog 26 #[.complex .f64 a b, .complex .f64 c d] w fun e w' => e = .returned (.bool true) ∧ w' = w := by
  have R1 : Hid (∀ wz, Calls Try.prog 49 #[.float .f64 a, .float .f64 c] wz fun e w' => e = .returned (.bool true) ∧ w' = wz) := fun wz => alike_yes h wz
  have R2 : Hid (∀ wz, Calls Try.prog 49 #[.float .f64 b, .float .f64 d] wz fun e w' => e = .returned (.bool true) ∧ w' = wz) := fun wz => alike_yes k wz
  clear h k
  go_enter Try.func26, Try.ntmps26
  go_wp2_with fail
  refine (R1.out _).mono ?_
  rintro e' w ⟨rfl, rfl⟩
  go_wp2_with fail
  refine (R2.out _).mono ?_
  rintro e' w ⟨rfl, rfl⟩
  go_wp2
  go_ret
  exact ⟨rfl, rfl⟩
theorem simZ_like {a b : Nat} (ha : a < 18446744073709551616) (h : simZ a b) : simR b (Fl.ng a) ∨ Fl.eqF b (Fl.ng a) = true := by
  rcases h with h | ⟨h1, h2⟩
  · exact Or.inl h.sim
  · right
    have na : Fl.nan a = false := by
      cases c : Fl.nan a
      · rfl
      · unfold Fl.eqF at h1; rw [c] at h1; cases h1
    have nb : Fl.nan b = false := by
      cases c : Fl.nan b
      · rfl
      · unfold Fl.eqF at h2; rw [c] at h2; cases h2
    rw [Fl.eqF_of na (by decide), show Fl.key 0 = 0 by decide] at h1
    rw [Fl.eqF_of nb (by decide), show Fl.key 0 = 0 by decide] at h2
    rw [Fl.eqF_of nb (by rw [Fl.nan_ng]; exact na), Fl.key_ng ha]
    have a1 := of_decide_eq_true h1
    have a2 := of_decide_eq_true h2
    exact decide_eq_true (by omega)
set_option maxHeartbeats 8000000 in
set_option maxRecDepth 100000 in
theorem powermirror_any (x y u v : Nat) (w : World) (hx : x < 18446744073709551616) (hy : y < 18446744073709551616) (hu : u < 18446744073709551616) (hv : v < 18446744073709551616) : Calls Try.prog 4 #[.agg #[.int .u64 (x : Int), .int .u64 (y : Int)], .agg #[.int .u64 (u : Int), .int .u64 (v : Int)]] w fun e w' => e = .returned (.bool true) ∧ Below w.heap.size w w' := by
  have nx := Fl.ng_lt hx
  have ny := Fl.ng_lt hy
  go_enter Try.func4, Try.ntmps4
  go_wp2_with fail
  have g0 : Bw w ((w.alloc (.cells #[.int .u64 (x : Int), .int .u64 (y : Int)] 39)).alloc (.cells #[.int .u64 (u : Int), .int .u64 (v : Int)] 39)) := Below.alloc (Below.alloc (Bw.refl w) (Nat.le_refl _) _) (by simp) _
  have c0 : ((w.alloc (.cells #[.int .u64 (x : Int), .int .u64 (y : Int)] 39)).alloc (.cells #[.int .u64 (u : Int), .int .u64 (v : Int)] 39)).cell? ⟨w.heap.size, 0, none⟩ = some (.int .u64 (x : Int)) ∧ ((w.alloc (.cells #[.int .u64 (x : Int), .int .u64 (y : Int)] 39)).alloc (.cells #[.int .u64 (u : Int), .int .u64 (v : Int)] 39)).cell? ⟨w.heap.size, 1, none⟩ = some (.int .u64 (y : Int)) ∧ ((w.alloc (.cells #[.int .u64 (x : Int), .int .u64 (y : Int)] 39)).alloc (.cells #[.int .u64 (u : Int), .int .u64 (v : Int)] 39)).cell? ⟨w.heap.size + 1, 0, none⟩ = some (.int .u64 (u : Int)) ∧ ((w.alloc (.cells #[.int .u64 (x : Int), .int .u64 (y : Int)] 39)).alloc (.cells #[.int .u64 (u : Int), .int .u64 (v : Int)] 39)).cell? ⟨w.heap.size + 1, 1, none⟩ = some (.int .u64 (v : Int)) := by simp
  have hs : w.heap.size + 1 < ((w.alloc (.cells #[.int .u64 (x : Int), .int .u64 (y : Int)] 39)).alloc (.cells #[.int .u64 (u : Int), .int .u64 (v : Int)] 39)).heap.size := by simp
  generalize (w.alloc (.cells #[.int .u64 (x : Int), .int .u64 (y : Int)] 39)).alloc (.cells #[.int .u64 (u : Int), .int .u64 (v : Int)] 39) = W at *
  obtain ⟨B, hB⟩ : ∃ B, B = w.heap.size := ⟨_, rfl⟩
  obtain ⟨C, hC⟩ : ∃ C, C = w.heap.size + 1 := ⟨_, rfl⟩
  rw [← hC] at hs
  rw [← hC, ← hB] at c0
  rw [← hC, ← hB]
  have hs2 : B < W.heap.size := by omega
  have HBC : Hid (B = w.heap.size ∧ C = w.heap.size + 1) := ⟨hB, hC⟩
  clear hB hC
  have S0 : W.drew.cell? ⟨B, 0, none⟩ = some (.int .u64 (x : Int)) ∧ W.drew.cell? ⟨B, 1, none⟩ = some (.int .u64 (y : Int)) ∧ W.drew.cell? ⟨C, 0, none⟩ = some (.int .u64 (u : Int)) ∧ W.drew.cell? ⟨C, 1, none⟩ = some (.int .u64 (v : Int)) := c0
  have g1 : Bw w W.drew := g0.drew
  have hs3 : B < W.drew.heap.size := hs2
  have hs4 : C < W.drew.heap.size := hs
  clear g0 c0 hs hs2
  refine wp_region_K (fun w' => w'.cell? ⟨B, 0, none⟩ = some (.int .u64 (x : Int)) ∧ w'.cell? ⟨B, 1, none⟩ = some (.int .u64 (y : Int)) ∧ w'.cell? ⟨C, 0, none⟩ = some (.int .u64 (u : Int)) ∧ w'.cell? ⟨C, 1, none⟩ = some (.int .u64 (v : Int))) 5 6 #[false, false, false, false, false, false] (by kernel_rfl) (by kernel_rfl) (by kernel_rfl) ?_
  generalize W.drew = W0 at *
  refine wpAnyK_take 0 11 (v := ?v0) rfl (by kernel_rfl) (by kernel_rfl) (by kernel_rfl) (by kernel_rfl) (by kernel_rfl) (fun _ _ _ h => h) rfl (Or.inl ⟨by rfl, ?h0⟩) (by assumption) ?r0
  case h0 => (intro w hSw; go_simp; with_reducible rfl)
  simp only [Act.put, List.setIfInBounds_toArray, List.set_cons_zero, List.set_cons_succ]
  refine wpAnyK_take 2 13 (v := ?v2) rfl (by kernel_rfl) (by kernel_rfl) (by kernel_rfl) (by kernel_rfl) (by kernel_rfl) (fun _ _ _ h => h) rfl (Or.inl ⟨by rfl, ?h2⟩) (by assumption) ?r2
  case h2 => (intro w hSw; go_simp; with_reducible rfl)
  simp only [Act.put, List.setIfInBounds_toArray, List.set_cons_zero, List.set_cons_succ]
  refine wpAnyK_one 1 (by kernel_rfl) rfl (fun K hK => ?_)
  go_simp
  refine (number7m_any x y _).mono ?_
  rintro e w1 ⟨rfl, b⟩
  have S1 : w1.cell? ⟨B, 0, none⟩ = some (.int .u64 (x : Int)) ∧ w1.cell? ⟨B, 1, none⟩ = some (.int .u64 (y : Int)) ∧ w1.cell? ⟨C, 0, none⟩ = some (.int .u64 (u : Int)) ∧ w1.cell? ⟨C, 1, none⟩ = some (.int .u64 (v : Int)) := ⟨(Below.cell b (p := ⟨B, 0, none⟩) hs3).trans S0.1, (Below.cell b (p := ⟨B, 1, none⟩) hs3).trans S0.2.1, (Below.cell b (p := ⟨C, 0, none⟩) hs4).trans S0.2.2.1, (Below.cell b (p := ⟨C, 1, none⟩) hs4).trans S0.2.2.2⟩
  have G := bw_trans g1 b
  have sz := Below.size b
  have hs5 : B < w1.heap.size := by omega
  have hs6 : C < w1.heap.size := by omega
  clear S0 b g1 hs3 hs4 sz
  refine hK.out _ _ (fun _ _ => S1) ?_
  clear hK K
  simp only [List.setIfInBounds_toArray, List.set_cons_zero, List.set_cons_succ]
  refine wpAnyK_one 3 (by kernel_rfl) rfl (fun K hK => ?_)
  go_simp
  refine (number7m_any u v _).mono ?_
  rintro e w2 ⟨rfl, b⟩
  have S2 : w2.cell? ⟨B, 0, none⟩ = some (.int .u64 (x : Int)) ∧ w2.cell? ⟨B, 1, none⟩ = some (.int .u64 (y : Int)) ∧ w2.cell? ⟨C, 0, none⟩ = some (.int .u64 (u : Int)) ∧ w2.cell? ⟨C, 1, none⟩ = some (.int .u64 (v : Int)) := ⟨(Below.cell b (p := ⟨B, 0, none⟩) hs5).trans S1.1, (Below.cell b (p := ⟨B, 1, none⟩) hs5).trans S1.2.1, (Below.cell b (p := ⟨C, 0, none⟩) hs6).trans S1.2.2.1, (Below.cell b (p := ⟨C, 1, none⟩) hs6).trans S1.2.2.2⟩
  replace G := bw_trans G b
  clear S1 b hs5 hs6
  refine hK.out _ _ (fun _ _ => S2) ?_
  clear hK K
  simp only [List.setIfInBounds_toArray, List.set_cons_zero, List.set_cons_succ]
  refine wpAnyK_one 4 (by kernel_rfl) rfl (fun K hK => ?_)
  go_simp
  refine hK.out _ _ (fun _ _ => S2) ?_
  clear hK K S2
  simp only [List.setIfInBounds_toArray, List.set_cons_zero, List.set_cons_succ]
  refine wpAnyK_one 5 (by kernel_rfl) rfl (fun K hK => ?_)
  go_simp
  refine hK.out _ _ (fun h => absurd rfl h) ?_
  clear hK K
  simp only [List.setIfInBounds_toArray, List.set_cons_zero, List.set_cons_succ]
  refine wpAnyK_done (by kernel_rfl) ?_ _
  go_wp2_with fail
  refine (conj_any x y _ hy).mono ?_
  rintro e w2 ⟨rfl, rfl⟩
  go_wp2_with fail
  refine (conj_any u v _ hv).mono ?_
  rintro e w2 ⟨rfl, rfl⟩
  go_wp2_with fail
  refine (cexp_any x (Fl.ng y) _ hx ny).mono ?_
  rintro e w3 ⟨p, q, rfl, h1, _, _, b⟩
  have H1 : Hid (cexR x (Fl.ng y) p q) := h1
  replace G := bw_trans G b
  clear b h1
  go_wp2_with fail
  refine (cexp_any x y _ hx hy).mono ?_
  rintro e w4 ⟨r, s, rfl, h1, _, _, b⟩
  have S : Hid (simR p r ∧ simR q (Fl.ng s)) := ⟨sim_sym (cex_mir hx hy h1 H1.out (simR.refl _) (Or.inl rfl)).1, simN_conj (cex_mir hx hy h1 H1.out (simR.refl _) (Or.inl rfl)).2⟩
  have hs := cex_im hy h1
  replace G := bw_trans G b
  clear b h1 H1
  go_wp2_with fail
  refine (conj_any r s _ hs).mono ?_
  rintro e w4 ⟨rfl, rfl⟩
  go_wp2_with fail
  refine (psame_yes S.out.1 S.out.2 _).mono ?_
  rintro e w4 ⟨rfl, rfl⟩
  clear S hs
  go_wp2_with fail
  refine (clog_any x (Fl.ng y) _ hx ny).mono ?_
  rintro e w3 ⟨p, q, rfl, h1, _, b⟩
  have H1 : Hid (cloR x (Fl.ng y) p q) := h1
  replace G := bw_trans G b
  clear b h1
  go_wp2_with fail
  refine (clog_any x y _ hx hy).mono ?_
  rintro e w4 ⟨r, s, rfl, h1, _, b⟩
  have S : Hid (simR p r ∧ simR q (Fl.ng s)) := ⟨sim_sym (clo_mir hy h1 H1.out).1, simN_conj (clo_mir hy h1 H1.out).2⟩
  have hs := clo_im h1
  replace G := bw_trans G b
  clear b h1 H1
  go_wp2_with fail
  refine (conj_any r s _ hs).mono ?_
  rintro e w4 ⟨rfl, rfl⟩
  go_wp2_with fail
  refine (psame_yes S.out.1 S.out.2 _).mono ?_
  rintro e w4 ⟨rfl, rfl⟩
  clear S hs
  have o := Fl.o_eq u 0
  cases c : Fl.eqF u 0
  · rw [c] at o
    have HU : Hid (Fl.eqF u 0 = false) := c
    clear c
    go_wp2_with fail
    refine (creal_any x (Fl.ng y) u _ hx ny).mono ?_
    rintro e w3 ⟨p, q, rfl, h1, b⟩
    have H1 : Hid (creR x (Fl.ng y) u p q) := h1
    replace G := bw_trans G b
    clear b h1
    go_wp2_with fail
    refine (creal_any x y u _ hx hy).mono ?_
    rintro e w4 ⟨r, s, rfl, h1, b⟩
    have S : Hid (simR p r ∧ simR q (Fl.ng s)) := ⟨sim_sym (cre_mir hy HU.out h1 H1.out).1, simN_conj (cre_mir hy HU.out h1 H1.out).2⟩
    have hs := cre_im h1
    replace G := bw_trans G b
    clear b h1 H1
    go_wp2_with fail
    refine (conj_any r s _ hs).mono ?_
    rintro e w4 ⟨rfl, rfl⟩
    go_wp2_with fail
    refine (psame_yes S.out.1 S.out.2 _).mono ?_
    rintro e w4 ⟨rfl, rfl⟩
    clear S hs
    go_wp2_with fail
    refine (csin_any x (Fl.ng y) _ hx ny).mono ?_
    rintro e w3 ⟨p, q, rfl, h1, b⟩
    have H1 : Hid (csiR x (Fl.ng y) p q) := h1
    replace G := bw_trans G b
    clear b h1
    go_wp2_with fail
    refine (csin_any x y _ hx hy).mono ?_
    rintro e w4 ⟨r, s, rfl, h1, b⟩
    have S : Hid (simR p r ∧ simR q (Fl.ng s)) := ⟨sim_sym (csi_mir hx hy h1 H1.out).1, simN_conj (csi_mir hx hy h1 H1.out).2⟩
    have hs := csi_im h1
    replace G := bw_trans G b
    clear b h1 H1
    go_wp2_with fail
    refine (conj_any r s _ hs).mono ?_
    rintro e w4 ⟨rfl, rfl⟩
    go_wp2_with fail
    refine (psame_yes S.out.1 S.out.2 _).mono ?_
    rintro e w4 ⟨rfl, rfl⟩
    clear S hs
    go_wp2_with fail
    refine (ccos_any x (Fl.ng y) _ hx ny).mono ?_
    rintro e w3 ⟨p, q, rfl, h1, b⟩
    have H1 : Hid (ccoR x (Fl.ng y) p q) := h1
    replace G := bw_trans G b
    clear b h1
    go_wp2_with fail
    refine (ccos_any x y _ hx hy).mono ?_
    rintro e w4 ⟨r, s, rfl, h1, b⟩
    have S : Hid (simR p r ∧ simR q (Fl.ng s)) := ⟨sim_sym (cco_mir hx hy h1 H1.out).1, simN_conj (cco_mir hx hy h1 H1.out).2⟩
    have hs := cco_im h1
    replace G := bw_trans G b
    clear b h1 H1
    go_wp2_with fail
    refine (conj_any r s _ hs).mono ?_
    rintro e w4 ⟨rfl, rfl⟩
    go_wp2_with fail
    refine (psame_yes S.out.1 S.out.2 _).mono ?_
    rintro e w4 ⟨rfl, rfl⟩
    clear S hs
    go_wp2_with fail
    refine (csinh_any x (Fl.ng y) _ hx ny).mono ?_
    rintro e w3 ⟨p, q, rfl, h1, b⟩
    have H1 : Hid (cshR x (Fl.ng y) p q) := h1
    replace G := bw_trans G b
    clear b h1
    go_wp2_with fail
    refine (csinh_any x y _ hx hy).mono ?_
    rintro e w4 ⟨r, s, rfl, h1, b⟩
    have S : Hid (simR p r ∧ simR q (Fl.ng s)) := ⟨sim_sym (csh_mir hx hy h1 H1.out).1, simN_conj (csh_mir hx hy h1 H1.out).2⟩
    have hs := csh_im h1
    replace G := bw_trans G b
    clear b h1 H1
    go_wp2_with fail
    refine (conj_any r s _ hs).mono ?_
    rintro e w4 ⟨rfl, rfl⟩
    go_wp2_with fail
    refine (psame_yes S.out.1 S.out.2 _).mono ?_
    rintro e w4 ⟨rfl, rfl⟩
    clear S hs
    go_wp2_with fail
    refine (ccosh_any x (Fl.ng y) _ hx ny).mono ?_
    rintro e w3 ⟨p, q, rfl, h1, b⟩
    have H1 : Hid (cchR x (Fl.ng y) p q) := h1
    replace G := bw_trans G b
    clear b h1
    go_wp2_with fail
    refine (ccosh_any x y _ hx hy).mono ?_
    rintro e w4 ⟨r, s, rfl, h1, b⟩
    have S : Hid (simR p r ∧ simR q (Fl.ng s)) := ⟨sim_sym (cch_mir hx hy h1 H1.out).1, simN_conj (cch_mir hx hy h1 H1.out).2⟩
    have hs := cch_im h1
    replace G := bw_trans G b
    clear b h1 H1
    go_wp2_with fail
    refine (conj_any r s _ hs).mono ?_
    rintro e w4 ⟨rfl, rfl⟩
    go_wp2_with fail
    refine (psame_yes S.out.1 S.out.2 _).mono ?_
    rintro e w4 ⟨rfl, rfl⟩
    clear S hs
    go_wp2_with fail
    refine (alive7_any _).mono ?_
    rintro e w5 ⟨rfl, b⟩
    replace G := bw_trans G b
    clear b
    go_wp2_with fail
    refine (cpower_any x (Fl.ng y) u (Fl.ng v) _ hx ny).mono ?_
    rintro e w6 ⟨p, q, rfl, h1, b⟩
    have H1 : Hid (cpoR x (Fl.ng y) u (Fl.ng v) p q) := h1
    replace G := bw_trans G b
    clear b h1
    go_wp2_with fail
    refine (cpower_any x y u v _ hx hy).mono ?_
    rintro e w7 ⟨r, s, rfl, h1, b⟩
    have hs := cpo_im h1
    have S : Hid ((simR p r ∨ Fl.eqF p r = true) ∧ (simR q (Fl.ng s) ∨ Fl.eqF q (Fl.ng s) = true)) := ⟨Or.inl (sim_sym (cpo_mir w hy hv h1 H1.out).1), simZ_like hs (cpo_mir w hy hv h1 H1.out).2⟩
    replace G := bw_trans G b
    clear b h1 H1
    go_wp2_with fail
    refine (conj_any r s _ hs).mono ?_
    rintro e w7 ⟨rfl, rfl⟩
    go_wp2_with fail
    refine (plike_yes S.out.1 S.out.2 _).mono ?_
    rintro e w7 ⟨rfl, rfl⟩
    clear S hs
    go_wp2
    go_ret
    exact ⟨rfl, G⟩
  · rw [c] at o
    clear c
    go_wp2_with fail
    refine (csin_any x (Fl.ng y) _ hx ny).mono ?_
    rintro e w3 ⟨p, q, rfl, h1, b⟩
    have H1 : Hid (csiR x (Fl.ng y) p q) := h1
    replace G := bw_trans G b
    clear b h1
    go_wp2_with fail
    refine (csin_any x y _ hx hy).mono ?_
    rintro e w4 ⟨r, s, rfl, h1, b⟩
    have S : Hid (simR p r ∧ simR q (Fl.ng s)) := ⟨sim_sym (csi_mir hx hy h1 H1.out).1, simN_conj (csi_mir hx hy h1 H1.out).2⟩
    have hs := csi_im h1
    replace G := bw_trans G b
    clear b h1 H1
    go_wp2_with fail
    refine (conj_any r s _ hs).mono ?_
    rintro e w4 ⟨rfl, rfl⟩
    go_wp2_with fail
    refine (psame_yes S.out.1 S.out.2 _).mono ?_
    rintro e w4 ⟨rfl, rfl⟩
    clear S hs
    go_wp2_with fail
    refine (ccos_any x (Fl.ng y) _ hx ny).mono ?_
    rintro e w3 ⟨p, q, rfl, h1, b⟩
    have H1 : Hid (ccoR x (Fl.ng y) p q) := h1
    replace G := bw_trans G b
    clear b h1
    go_wp2_with fail
    refine (ccos_any x y _ hx hy).mono ?_
    rintro e w4 ⟨r, s, rfl, h1, b⟩
    have S : Hid (simR p r ∧ simR q (Fl.ng s)) := ⟨sim_sym (cco_mir hx hy h1 H1.out).1, simN_conj (cco_mir hx hy h1 H1.out).2⟩
    have hs := cco_im h1
    replace G := bw_trans G b
    clear b h1 H1
    go_wp2_with fail
    refine (conj_any r s _ hs).mono ?_
    rintro e w4 ⟨rfl, rfl⟩
    go_wp2_with fail
    refine (psame_yes S.out.1 S.out.2 _).mono ?_
    rintro e w4 ⟨rfl, rfl⟩
    clear S hs
    go_wp2_with fail
    refine (csinh_any x (Fl.ng y) _ hx ny).mono ?_
    rintro e w3 ⟨p, q, rfl, h1, b⟩
    have H1 : Hid (cshR x (Fl.ng y) p q) := h1
    replace G := bw_trans G b
    clear b h1
    go_wp2_with fail
    refine (csinh_any x y _ hx hy).mono ?_
    rintro e w4 ⟨r, s, rfl, h1, b⟩
    have S : Hid (simR p r ∧ simR q (Fl.ng s)) := ⟨sim_sym (csh_mir hx hy h1 H1.out).1, simN_conj (csh_mir hx hy h1 H1.out).2⟩
    have hs := csh_im h1
    replace G := bw_trans G b
    clear b h1 H1
    go_wp2_with fail
    refine (conj_any r s _ hs).mono ?_
    rintro e w4 ⟨rfl, rfl⟩
    go_wp2_with fail
    refine (psame_yes S.out.1 S.out.2 _).mono ?_
    rintro e w4 ⟨rfl, rfl⟩
    clear S hs
    go_wp2_with fail
    refine (ccosh_any x (Fl.ng y) _ hx ny).mono ?_
    rintro e w3 ⟨p, q, rfl, h1, b⟩
    have H1 : Hid (cchR x (Fl.ng y) p q) := h1
    replace G := bw_trans G b
    clear b h1
    go_wp2_with fail
    refine (ccosh_any x y _ hx hy).mono ?_
    rintro e w4 ⟨r, s, rfl, h1, b⟩
    have S : Hid (simR p r ∧ simR q (Fl.ng s)) := ⟨sim_sym (cch_mir hx hy h1 H1.out).1, simN_conj (cch_mir hx hy h1 H1.out).2⟩
    have hs := cch_im h1
    replace G := bw_trans G b
    clear b h1 H1
    go_wp2_with fail
    refine (conj_any r s _ hs).mono ?_
    rintro e w4 ⟨rfl, rfl⟩
    go_wp2_with fail
    refine (psame_yes S.out.1 S.out.2 _).mono ?_
    rintro e w4 ⟨rfl, rfl⟩
    clear S hs
    go_wp2_with fail
    refine (alive7_any _).mono ?_
    rintro e w5 ⟨rfl, b⟩
    replace G := bw_trans G b
    clear b
    go_wp2_with fail
    refine (cpower_any x (Fl.ng y) u (Fl.ng v) _ hx ny).mono ?_
    rintro e w6 ⟨p, q, rfl, h1, b⟩
    have H1 : Hid (cpoR x (Fl.ng y) u (Fl.ng v) p q) := h1
    replace G := bw_trans G b
    clear b h1
    go_wp2_with fail
    refine (cpower_any x y u v _ hx hy).mono ?_
    rintro e w7 ⟨r, s, rfl, h1, b⟩
    have hs := cpo_im h1
    have S : Hid ((simR p r ∨ Fl.eqF p r = true) ∧ (simR q (Fl.ng s) ∨ Fl.eqF q (Fl.ng s) = true)) := ⟨Or.inl (sim_sym (cpo_mir w hy hv h1 H1.out).1), simZ_like hs (cpo_mir w hy hv h1 H1.out).2⟩
    replace G := bw_trans G b
    clear b h1 H1
    go_wp2_with fail
    refine (conj_any r s _ hs).mono ?_
    rintro e w7 ⟨rfl, rfl⟩
    go_wp2_with fail
    refine (plike_yes S.out.1 S.out.2 _).mono ?_
    rintro e w7 ⟨rfl, rfl⟩
    clear S hs
    go_wp2
    go_ret
    exact ⟨rfl, G⟩
end Go.Proofs.Ytdbfhbpillgacaa
