/-
  OWN TEXT: the law PowerTurned, for every number.
-/
import Derived.Test.YtdbfhbpillgacaaPnA
import Derived.Test.YtdbfhbpillgacaaPmB
import Derived.Test.YtdbfhbpillgacaaRpA
import Derived.Deep.RegionHeld
namespace Go.Proofs.Ytdbfhbpillgacaa
open Go.ChangeShapes Go.WideShapes Go.ChangeAt Go.RowKit
set_option linter.unusedVariables false
attribute [local go_sem] frombits_call tobits_call run_neg
set_option maxHeartbeats 1000000 in
theorem number7m_any (x y : Nat) (w : World) : Calls Try.prog 23 #[.agg #[.int .u64 (x : Int), .int .u64 (y : Int)]] w fun e w' => e = .returned (.complex .f64 x y) ∧ Bw w w' := by
  have g : Bw w (w.alloc (.cells #[.int .u64 (x : Int), .int .u64 (y : Int)] 39)) := Below.alloc (Bw.refl w) (Nat.le_refl _) _
  have c0 : (w.alloc (.cells #[.int .u64 (x : Int), .int .u64 (y : Int)] 39)).cell? ⟨w.heap.size, 0, none⟩ = some (.int .u64 (x : Int)) := by simp
  have c1 : (w.alloc (.cells #[.int .u64 (x : Int), .int .u64 (y : Int)] 39)).cell? ⟨w.heap.size, 1, none⟩ = some (.int .u64 (y : Int)) := by simp
  go_enter Try.func23, Try.ntmps23
  go_wp2
  generalize w.alloc (.cells #[.int .u64 (x : Int), .int .u64 (y : Int)] 39) = W at *
  generalize w.heap.size = B at c0 c1 ⊢
  go_region_held (fun w' => w'.cell? ⟨B, 0, none⟩ = some (.int .u64 (x : Int)) ∧ w'.cell? ⟨B, 1, none⟩ = some (.int .u64 (y : Int))) (go_keep) (go_in)
  go_wp2
  go_ret
  exact ⟨rfl, g.drew⟩
theorem psame_yes {a b c d : Nat} (h : simR a c) (k : simR b d) (w : World) : Calls Try.prog 25 #[.complex .f64 a b, .complex .f64 c d] w fun e w' => e = .returned (.bool true) ∧ w' = w := by
  have R1 : Hid (∀ wz, Calls Try.prog 69 #[.float .f64 a, .float .f64 c] wz fun e w' => e = .returned (.bool true) ∧ w' = wz) := fun wz => by have m := same_any a c wz; rw [h.same] at m; exact m
  have R2 : Hid (∀ wz, Calls Try.prog 69 #[.float .f64 b, .float .f64 d] wz fun e w' => e = .returned (.bool true) ∧ w' = wz) := fun wz => by have m := same_any b d wz; rw [k.same] at m; exact m
  clear h k
  have S : Hid (∀ wz, Calls Try.prog 48 #[.complex .f64 a b, .complex .f64 c d] wz fun e w' => e = .returned (.bool true) ∧ w' = wz) := by
    intro wz
    go_enter Try.func48, Try.ntmps48
    go_wp2_with fail
    refine (R1.out _).mono ?_
    rintro e' w ⟨rfl, rfl⟩
    go_wp2_with fail
    refine (R2.out _).mono ?_
    rintro e' w ⟨rfl, rfl⟩
    go_wp2
    go_ret
    exact ⟨rfl, rfl⟩
  clear R1 R2
  go_enter Try.func25, Try.ntmps25
  go_wp2_with (go_at_call 48; refine (S.out _).mono ?_; rintro e w ⟨rfl, rfl⟩)
  go_ret
  exact ⟨rfl, rfl⟩
theorem csi_im {a b re im : Nat} (h : csiR a b re im) : im < 18446744073709551616 := by obtain ⟨_, _, _, _, _, _, h⟩ := h; exact h.1
theorem cco_im {a b re im : Nat} (h : ccoR a b re im) : im < 18446744073709551616 := by obtain ⟨_, _, _, _, m, _, _, h, e⟩ := h; rw [e]; exact Fl.ng_lt h.1
theorem csh_im {a b re im : Nat} (h : cshR a b re im) : im < 18446744073709551616 := by obtain ⟨_, _, _, _, _, _, h⟩ := h; exact h.1
theorem cch_im {a b re im : Nat} (h : cchR a b re im) : im < 18446744073709551616 := by obtain ⟨_, _, _, _, _, _, h⟩ := h; exact h.1
theorem cex_im {a b re im : Nat} (hb : b < 18446744073709551616) (h : cexR a b re im) : im < 18446744073709551616 := by
  obtain ⟨e, _, h⟩ := h
  by_cases c : Fl.eqF b 0 = true
  · rw [if_pos c] at h; rw [h.2]; exact hb
  · rw [if_neg c] at h; obtain ⟨_, _, _, _, h⟩ := h; exact h.1
theorem cre_im {a b p re im : Nat} (h : creR a b p re im) : im < 18446744073709551616 := by
  unfold creR at h
  by_cases c : Fl.eqF p 0 = true
  · rw [if_pos c] at h; rw [h.2]; decide
  · rw [if_neg c] at h; obtain ⟨_, _, _, _, _, _, h3, h4⟩ := h; exact cex_im h3.1 h4
theorem cpo_im {a b p q re im : Nat} (h : cpoR a b p q re im) : im < 18446744073709551616 := by
  unfold cpoR at h
  by_cases c : (Fl.eqF p 0 && Fl.eqF q 0) = true
  · rw [if_pos c] at h; rw [h.2]; decide
  · rw [if_neg c] at h; obtain ⟨_, _, _, _, _, h3, h4⟩ := h; exact cex_im (cmu_lt h3).2 h4
theorem simN_conj {a b : Nat} (h : simN a b) : simR b (Fl.ng a) := h.sim
set_option maxHeartbeats 8000000 in
set_option maxRecDepth 100000 in
theorem powerturned_any (x y : Nat) (w : World) (hx : x < 18446744073709551616) (hy : y < 18446744073709551616) : Calls Try.prog 5 #[.agg #[.int .u64 (x : Int), .int .u64 (y : Int)]] w fun e w' => e = .returned (.bool true) ∧ Below w.heap.size w w' := by
  have nx := Fl.ng_lt hx
  have ny := Fl.ng_lt hy
  go_enter Try.func5, Try.ntmps5
  go_wp2_with fail
  have g0 : Bw w (w.alloc (.cells #[.int .u64 (x : Int), .int .u64 (y : Int)] 39)) := Below.alloc (Bw.refl w) (Nat.le_refl _) _
  generalize w.alloc (.cells #[.int .u64 (x : Int), .int .u64 (y : Int)] 39) = W at *
  refine (number7m_any x y _).mono ?_
  rintro e w1 ⟨rfl, b⟩
  have G := bw_trans g0 b
  clear b g0
  go_wp2_with fail
  refine (times_any x y _ hy).mono ?_
  rintro e w1 ⟨rfl, rfl⟩
  go_wp2_with fail
  refine (alive7_any _).mono ?_
  rintro e w2 ⟨rfl, b⟩
  replace G := bw_trans G b
  clear b
  go_wp2_with fail
  refine (csin_any (Fl.ng y) x _ ny hx).mono ?_
  rintro e w3 ⟨p, q, rfl, h1, b⟩
  have H1 : Hid (csiR (Fl.ng y) x p q) := h1
  replace G := bw_trans G b
  clear b h1
  go_wp2_with fail
  refine (csinh_any x y _ hx hy).mono ?_
  rintro e w4 ⟨r, s, rfl, h1, b⟩
  have S : Hid (simR p (Fl.ng s) ∧ simR q r) := ⟨simN_conj (sin_tur hx hy h1 H1.out).1, (sin_tur hx hy h1 H1.out).2⟩
  have hs := csh_im h1
  replace G := bw_trans G b
  clear b h1 H1
  go_wp2_with fail
  refine (times_any r s _ hs).mono ?_
  rintro e w4 ⟨rfl, rfl⟩
  go_wp2_with fail
  refine (psame_yes S.out.1 S.out.2 _).mono ?_
  rintro e w4 ⟨rfl, rfl⟩
  clear S hs
  go_wp2_with fail
  refine (ccos_any (Fl.ng y) x _ ny hx).mono ?_
  rintro e w5 ⟨p, q, rfl, h1, b⟩
  have H1 : Hid (ccoR (Fl.ng y) x p q) := h1
  replace G := bw_trans G b
  clear b h1
  go_wp2_with fail
  refine (ccosh_any x y _ hx hy).mono ?_
  rintro e w6 ⟨r, s, rfl, h1, b⟩
  have S : Hid (simR p r ∧ simR q s) := cos_tur hx hy h1 H1.out
  replace G := bw_trans G b
  clear b h1 H1
  go_wp2_with fail
  refine (psame_yes S.out.1 S.out.2 _).mono ?_
  rintro e w6 ⟨rfl, rfl⟩
  clear S
  go_wp2_with fail
  refine (creal_any x y 4607182418800017408 _ hx hy).mono ?_
  rintro e w7 ⟨p, q, rfl, h1, b⟩
  have H1 : Hid (creR x y 4607182418800017408 p q) := h1
  replace G := bw_trans G b
  clear b h1
  go_wp2_with fail
  refine (clog_any x y _ hx hy).mono ?_
  rintro e w8 ⟨r, s, rfl, h1, hr, b⟩
  have H2 : Hid (cloR x y r s) := h1
  have hs : s < 18446744073709551616 := by obtain ⟨_, _, _, _, h⟩ := h1; exact h
  replace G := bw_trans G b
  clear b h1
  go_wp2_with fail
  refine (cexp_any r s _ hr hs).mono ?_
  rintro e w9 ⟨u, v, rfl, h1, _, _, b⟩
  have S : Hid (simR p u ∧ simR q v) := cre_one H1.out H2.out h1 (Or.inl hr)
  replace G := bw_trans G b
  clear b h1 H1 H2
  go_wp2_with fail
  refine (psame_yes S.out.1 S.out.2 _).mono ?_
  rintro e w9 ⟨rfl, rfl⟩
  clear S
  go_wp2
  go_ret
  exact ⟨rfl, G⟩
end Go.Proofs.Ytdbfhbpillgacaa
