/-
  OWN TEXT: what the law of layer 14 holds lists against each other with.
-/
import Derived.Test.YtjfkdmddfeeheaaJSrEToSrG
import Derived.Deep.Slices
import Derived.Laws.AppendOwnNone
namespace Go.Proofs.Ytjfkdmddfeeheaa
open Go.ChangeShapes Go.WideShapes Go.ChangeAt Go.RowKit
set_option linter.unusedVariables false
attribute [local go_sem] frombits_call tobits_call run_neg

attribute [local go_sem] stof14
namespace Sv
theorem same_c {x y : Nat} (h : Fl.bitsF x = Fl.bitsF y) : Fl.sameB x y = true := by
  unfold Fl.sameB
  cases h1 : Fl.nan x <;> cases h2 : Fl.nan y
  · rw [c_num h1, c_num h2] at h
    simp [h]
  · rw [c_num h1, c_nan h2] at h
    rw [h] at h1
    exact absurd h1 (by decide)
  · rw [c_nan h1, c_num h2] at h
    rw [← h] at h2
    exact absurd h2 (by decide)
  · rfl
/-- v is a slice of n numbers -/
def Li (w : World) (v : Value) (n : Nat) (X : Nat → Nat) : Prop := (emp v ∧ n = 0) ∨ ∃ b o c, v = .slice (some ⟨b, o, none⟩) n c ∧ n ≤ c ∧ b < w.heap.size ∧ ∀ j, j < n → w.cell? ⟨b, o + j, none⟩ = some (.int .i64 (X j))
theorem Li.bw {w w' : World} {v : Value} {n : Nat} {X : Nat → Nat} (h : Li w v n X) (k : Bw w w') : Li w' v n X := by
  rcases h with h | ⟨b, o, c, e, l, hb, h⟩
  · exact Or.inl h
  · exact Or.inr ⟨b, o, c, e, l, by have := k.size; omega, fun j hj => (Below.cell k (p := ⟨b, o + j, none⟩) hb).trans (h j hj)⟩
/-- all that w holds is kept, but for the blocks that T names -/
structure Ex (w w' : World) (T : Nat → Prop) : Prop where
  os : w'.os = w.os
  tape : w'.tape = w.tape
  output : w'.output = w.output
  size : w.heap.size ≤ w'.heap.size
  block : ∀ k, k < w.heap.size → ¬ T k → w'.heap[k]? = w.heap[k]?
theorem Ex.refl (w : World) (T : Nat → Prop) : Ex w w T := ⟨rfl, rfl, rfl, Nat.le_refl _, fun _ _ _ => rfl⟩
theorem Ex.gb {w w' w'' : World} {T : Nat → Prop} {r : Option Nat} (h : Ex w w' T) (k : w'.grownBy w'' r) (hr : ∀ x, r = some x → T x ∨ w.heap.size ≤ x) : Ex w w'' T :=
  ⟨k.os.trans h.os, k.tape.trans h.tape, k.output.trans h.output, Nat.le_trans h.size k.size, fun b hb hT => by
    have h1 := h.block b hb hT
    have := h.size
    rw [k.block b (by omega) (fun e => by rcases hr b e.symm with q | q; exact hT q; omega), h1]⟩
theorem Ex.bw {w w' w'' : World} {T : Nat → Prop} (h : Ex w w' T) (k : Bw w' w'') : Ex w w'' T := h.gb (gb_bw k none) (fun _ e => by cases e)
theorem Ls.ex {w w' : World} {T : Nat → Prop} {v : Value} {n : Nat} {F : Nat → Nat} (h : Ls w v n F) (k : Ex w w' T) (hT : ∀ b, v.ownBlock = some b → ¬ T b) : Ls w' v n F := by
  rcases h with h | ⟨b, o, c, e, l, h⟩
  · exact Or.inl h
  · exact Or.inr ⟨b, o, c, e, l, h.block k.size (k.block b h.1 (hT b (by rw [e]; rfl)))⟩
theorem Li.ex {w w' : World} {T : Nat → Prop} {v : Value} {n : Nat} {X : Nat → Nat} (h : Li w v n X) (k : Ex w w' T) (hT : ∀ b, v.ownBlock = some b → ¬ T b) : Li w' v n X := by
  rcases h with h | ⟨b, o, c, e, l, hb, h⟩
  · exact Or.inl h
  · exact Or.inr ⟨b, o, c, e, l, by have := k.size; omega, fun j hj => (World.cell?_of_block (w := w) (a := ⟨b, o + j, none⟩) (k.block b hb (hT b (by rw [e]; rfl)))).trans (h j hj)⟩
theorem Ex.below {w0 w w' : World} {T : Nat → Prop} {K : Nat} (b : Below K w0 w) (k : Ex w w' T) (hK : K ≤ w.heap.size) (hT : ∀ x, T x → K ≤ x) : Below K w0 w' := by
  refine ⟨k.os.trans b.os, k.tape.trans b.tape, k.output.trans b.output, Nat.le_trans b.size k.size, fun x hx => ?_⟩
  rw [k.block x (by omega) (fun q => by have := hT x q; omega)]
  exact b.block x hx
end Sv
set_option maxHeartbeats 8000000 in
theorem rsamef14 {w : World} {v1 v2 : Value} {n : Nat} {F : Nat → Nat} (h1 : Sv.Ls w v1 n F) (h2 : Sv.Ls w v2 n F) (hn : n < 1000000) :
    Calls Try.prog 21 #[v1, v2] w fun e w' => e = .returned (.bool true) ∧ Bw w w' := by
  obtain ⟨p1, k1, c1, rfl⟩ : ∃ p k c, v1 = .slice p k c := by rcases h1 with ⟨⟨_, _, rfl, _⟩, _⟩ | ⟨_, _, _, rfl, _⟩ <;> exact ⟨_, _, _, rfl⟩
  obtain ⟨p2, k2, c2, rfl⟩ : ∃ p k c, v2 = .slice p k c := by rcases h2 with ⟨⟨_, _, rfl, _⟩, _⟩ | ⟨_, _, _, rfl, _⟩ <;> exact ⟨_, _, _, rfl⟩
  have e1 : k1 = n := by rcases h1 with ⟨⟨_, _, q, _⟩, z⟩ | ⟨_, _, _, q, _⟩ <;> (simp only [Value.slice.injEq] at q; omega)
  have e2 : k2 = n := by rcases h2 with ⟨⟨_, _, q, _⟩, z⟩ | ⟨_, _, _, q, _⟩ <;> (simp only [Value.slice.injEq] at q; omega)
  subst e1
  subst e2
  have H1 := Sv.hid h1
  have H2 := Sv.hid h2
  clear h1 h2
  go_enter Try.func21, Try.ntmps21
  go_wp2
  go_loopw [5] (fun v wr => ∃ j : Nat, j ≤ k2 ∧ v = .int .i64 j ∧ Bw w wr) (fun v _ => k2 - (intOf v).toNat)
  case atStart => exact ⟨0, Nat.zero_le _, rfl, Bw.refl _⟩
  case round =>
    obtain ⟨j, hj, rfl, hbw⟩ := hrel
    by_cases hj1 : j < k2
    · have hj2 : (j : Int) < k2 := by omega
      have hbw2 := bw_trans hbw (Bw.refl wr).drew
      obtain ⟨xb, xo, xc, hx, _, hrx⟩ := (H1.out.bw hbw2).resolve_left (fun h => by omega)
      obtain ⟨yb, yo, yc, hy, _, hry⟩ := (H2.out.bw hbw2).resolve_left (fun h => by omega)
      simp only [Value.slice.injEq] at hx hy
      obtain ⟨rfl, _, rfl⟩ := hx
      obtain ⟨rfl, _, rfl⟩ := hy
      obtain ⟨x, q1, lx, b1⟩ := hrx.2 j hj1
      obtain ⟨y, q2, ly, b2⟩ := hry.2 j hj1
      have S0 : wr.drew.cell? ⟨xb, xo + j, none⟩ = some (.float .f64 x) ∧ wr.drew.cell? ⟨yb, yo + j, none⟩ = some (.float .f64 y) := ⟨q1, q2⟩
      have SM : Hid (∀ wz, Calls Try.prog 23 #[.float .f64 x, .float .f64 y] wz fun e w' => e = .returned (.bool true) ∧ w' = wz) := fun wz => by
        have k := rsame_any x y wz
        rw [Sv.same_c (b1.trans b2.symm)] at k
        exact k
      have KX := Sv.hid hbw2
      clear hbw hbw2 hrx hry q1 q2 b1 b2
      go_wp2_with fail
      refine wp_region_K (fun w' => w'.cell? ⟨xb, xo + j, none⟩ = some (.float .f64 x) ∧ w'.cell? ⟨yb, yo + j, none⟩ = some (.float .f64 y)) 9 10 #[false, false, false, false, false, false, false, false, false, false] (by kernel_rfl) (by kernel_rfl) (by kernel_rfl) ?_
      generalize wr.drew = W at *
      refine wpAnyK_take 0 18 (v := ?v0) rfl (by kernel_rfl) (by kernel_rfl) (by kernel_rfl) (by kernel_rfl) (by kernel_rfl) (fun _ _ _ h => h) rfl (Or.inl ⟨by rfl, ?h0⟩) (by assumption) ?r0
      case h0 => (intro w hSw; go_simp; with_reducible rfl)
      simp only [Act.put, List.setIfInBounds_toArray, List.set_cons_zero, List.set_cons_succ]
      refine wpAnyK_take 1 19 (v := ?v1) rfl (by kernel_rfl) (by kernel_rfl) (by kernel_rfl) (by kernel_rfl) (by kernel_rfl) (fun _ _ _ h => h) rfl (Or.inl ⟨by rfl, ?h1⟩) (by assumption) ?r1
      case h1 => (intro w hSw; go_simp; with_reducible rfl)
      simp only [Act.put, List.setIfInBounds_toArray, List.set_cons_zero, List.set_cons_succ]
      refine wpAnyK_take 2 20 (v := ?v2) rfl (by kernel_rfl) (by kernel_rfl) (by kernel_rfl) (by kernel_rfl) (by kernel_rfl) (fun _ _ _ h => h) rfl (Or.inl ⟨by rfl, ?h2⟩) (by assumption) ?r2
      case h2 => (intro w hSw; go_simp; with_reducible rfl)
      simp only [Act.put, List.setIfInBounds_toArray, List.set_cons_zero, List.set_cons_succ]
      refine wpAnyK_take 3 21 (v := ?v3) rfl (by kernel_rfl) (by kernel_rfl) (by kernel_rfl) (by kernel_rfl) (by kernel_rfl) (fun _ _ _ h => h) rfl (Or.inl ⟨by rfl, ?h3⟩) (by assumption) ?r3
      case h3 => (intro w hSw; go_simp; with_reducible rfl)
      simp only [Act.put, List.setIfInBounds_toArray, List.set_cons_zero, List.set_cons_succ]
      refine wpAnyK_take 4 22 (v := ?v4) rfl (by kernel_rfl) (by kernel_rfl) (by kernel_rfl) (by kernel_rfl) (by kernel_rfl) (fun _ _ _ h => h) rfl (Or.inl ⟨by rfl, ?h4⟩) (by assumption) ?r4
      case h4 => (intro w hSw; go_simp; with_reducible rfl)
      simp only [Act.put, List.setIfInBounds_toArray, List.set_cons_zero, List.set_cons_succ]
      refine wpAnyK_take 5 23 (v := ?v5) rfl (by kernel_rfl) (by kernel_rfl) (by kernel_rfl) (by kernel_rfl) (by kernel_rfl) (fun _ _ _ h => h) rfl (Or.inl ⟨by rfl, ?h5⟩) (by assumption) ?r5
      case h5 => (intro w hSw; go_simp; with_reducible rfl)
      simp only [Act.put, List.setIfInBounds_toArray, List.set_cons_zero, List.set_cons_succ]
      refine wpAnyK_take 6 24 (v := ?v6) rfl (by kernel_rfl) (by kernel_rfl) (by kernel_rfl) (by kernel_rfl) (by kernel_rfl) (fun _ _ _ h => h) rfl (Or.inl ⟨by rfl, ?h6⟩) (by assumption) ?r6
      case h6 => (intro w hSw; go_simp; with_reducible rfl)
      simp only [Act.put, List.setIfInBounds_toArray, List.set_cons_zero, List.set_cons_succ]
      refine wpAnyK_take 7 25 (v := ?v7) rfl (by kernel_rfl) (by kernel_rfl) (by kernel_rfl) (by kernel_rfl) (by kernel_rfl) (fun _ _ _ h => h) rfl (Or.inl ⟨by rfl, ?h7⟩) (by assumption) ?r7
      case h7 => (intro w hSw; go_simp; with_reducible rfl)
      simp only [Act.put, List.setIfInBounds_toArray, List.set_cons_zero, List.set_cons_succ]
      refine wpAnyK_one 8 (by kernel_rfl) rfl (fun K hK => ?_)
      go_simp
      go_wp2_with (go_at_call 23; refine (SM.out _).mono ?_; rintro e' w7 ⟨rfl, hw7⟩; subst hw7)
      refine hK.out _ _ (fun _ _ => S0) ?_
      clear hK K
      simp only [List.setIfInBounds_toArray, List.set_cons_zero, List.set_cons_succ]
      refine wpAnyK_one 9 (by kernel_rfl) rfl (fun K hK => ?_)
      go_simp
      refine hK.out _ _ (fun h => absurd rfl h) ?_
      clear hK K
      simp only [List.setIfInBounds_toArray, List.set_cons_zero, List.set_cons_succ]
      refine wpAnyK_done (by kernel_rfl) ?_ _
      clear S0
      go_wp2
      go_roundw
      case rel => exact ⟨j + 1, by omega, by simp, KX.out⟩
      case measure => simp [intOf]; omega
    · have hj3 : ¬ (j : Int) < k2 := by omega
      have KX := Sv.hid hbw
      clear hbw
      go_wp2
      go_ret
      exact ⟨rfl, KX.out⟩
set_option maxHeartbeats 8000000 in
theorem rints14 {w : World} {v1 v2 : Value} {n : Nat} {X : Nat → Nat} (h1 : Sv.Li w v1 n X) (h2 : Sv.Li w v2 n X) (hn : n < 1000000) :
    Calls Try.prog 22 #[v1, v2] w fun e w' => e = .returned (.bool true) ∧ Bw w w' := by
  obtain ⟨p1, k1, c1, rfl⟩ : ∃ p k c, v1 = .slice p k c := by rcases h1 with ⟨⟨_, _, rfl, _⟩, _⟩ | ⟨_, _, _, rfl, _⟩ <;> exact ⟨_, _, _, rfl⟩
  obtain ⟨p2, k2, c2, rfl⟩ : ∃ p k c, v2 = .slice p k c := by rcases h2 with ⟨⟨_, _, rfl, _⟩, _⟩ | ⟨_, _, _, rfl, _⟩ <;> exact ⟨_, _, _, rfl⟩
  have e1 : k1 = n := by rcases h1 with ⟨⟨_, _, q, _⟩, z⟩ | ⟨_, _, _, q, _⟩ <;> (simp only [Value.slice.injEq] at q; omega)
  have e2 : k2 = n := by rcases h2 with ⟨⟨_, _, q, _⟩, z⟩ | ⟨_, _, _, q, _⟩ <;> (simp only [Value.slice.injEq] at q; omega)
  subst e1
  subst e2
  have H1 := Sv.hid h1
  have H2 := Sv.hid h2
  clear h1 h2
  go_enter Try.func22, Try.ntmps22
  go_wp2
  go_loopw [5] (fun v wr => ∃ j : Nat, j ≤ k2 ∧ v = .int .i64 j ∧ Bw w wr) (fun v _ => k2 - (intOf v).toNat)
  case atStart => exact ⟨0, Nat.zero_le _, rfl, Bw.refl _⟩
  case round =>
    obtain ⟨j, hj, rfl, hbw⟩ := hrel
    by_cases hj1 : j < k2
    · have hj2 : (j : Int) < k2 := by omega
      have hbw2 := bw_trans hbw (Bw.refl wr).drew
      obtain ⟨xb, xo, xc, hx, _, _, hrx⟩ := (H1.out.bw hbw2).resolve_left (fun h => by omega)
      obtain ⟨yb, yo, yc, hy, _, _, hry⟩ := (H2.out.bw hbw2).resolve_left (fun h => by omega)
      simp only [Value.slice.injEq] at hx hy
      obtain ⟨rfl, _, rfl⟩ := hx
      obtain ⟨rfl, _, rfl⟩ := hy
      have S0 : wr.drew.cell? ⟨xb, xo + j, none⟩ = some (.int .i64 (X j)) ∧ wr.drew.cell? ⟨yb, yo + j, none⟩ = some (.int .i64 (X j)) := ⟨hrx j hj1, hry j hj1⟩
      have KX := Sv.hid hbw2
      clear hbw hbw2 hrx hry
      go_wp2_with fail
      refine wp_region_K (fun w' => w'.cell? ⟨xb, xo + j, none⟩ = some (.int .i64 (X j)) ∧ w'.cell? ⟨yb, yo + j, none⟩ = some (.int .i64 (X j))) 8 9 #[false, false, false, false, false, false, false, false, false] (by kernel_rfl) (by kernel_rfl) (by kernel_rfl) ?_
      generalize wr.drew = W at *
      refine wpAnyK_take 0 17 (v := ?v0) rfl (by kernel_rfl) (by kernel_rfl) (by kernel_rfl) (by kernel_rfl) (by kernel_rfl) (fun _ _ _ h => h) rfl (Or.inl ⟨by rfl, ?h0⟩) (by assumption) ?r0
      case h0 => (intro w hSw; go_simp; with_reducible rfl)
      simp only [Act.put, List.setIfInBounds_toArray, List.set_cons_zero, List.set_cons_succ]
      refine wpAnyK_take 1 18 (v := ?v1) rfl (by kernel_rfl) (by kernel_rfl) (by kernel_rfl) (by kernel_rfl) (by kernel_rfl) (fun _ _ _ h => h) rfl (Or.inl ⟨by rfl, ?h1⟩) (by assumption) ?r1
      case h1 => (intro w hSw; go_simp; with_reducible rfl)
      simp only [Act.put, List.setIfInBounds_toArray, List.set_cons_zero, List.set_cons_succ]
      refine wpAnyK_take 2 19 (v := ?v2) rfl (by kernel_rfl) (by kernel_rfl) (by kernel_rfl) (by kernel_rfl) (by kernel_rfl) (fun _ _ _ h => h) rfl (Or.inl ⟨by rfl, ?h2⟩) (by assumption) ?r2
      case h2 => (intro w hSw; go_simp; with_reducible rfl)
      simp only [Act.put, List.setIfInBounds_toArray, List.set_cons_zero, List.set_cons_succ]
      refine wpAnyK_take 3 20 (v := ?v3) rfl (by kernel_rfl) (by kernel_rfl) (by kernel_rfl) (by kernel_rfl) (by kernel_rfl) (fun _ _ _ h => h) rfl (Or.inl ⟨by rfl, ?h3⟩) (by assumption) ?r3
      case h3 => (intro w hSw; go_simp; with_reducible rfl)
      simp only [Act.put, List.setIfInBounds_toArray, List.set_cons_zero, List.set_cons_succ]
      refine wpAnyK_take 4 21 (v := ?v4) rfl (by kernel_rfl) (by kernel_rfl) (by kernel_rfl) (by kernel_rfl) (by kernel_rfl) (fun _ _ _ h => h) rfl (Or.inl ⟨by rfl, ?h4⟩) (by assumption) ?r4
      case h4 => (intro w hSw; go_simp; with_reducible rfl)
      simp only [Act.put, List.setIfInBounds_toArray, List.set_cons_zero, List.set_cons_succ]
      refine wpAnyK_take 5 22 (v := ?v5) rfl (by kernel_rfl) (by kernel_rfl) (by kernel_rfl) (by kernel_rfl) (by kernel_rfl) (fun _ _ _ h => h) rfl (Or.inl ⟨by rfl, ?h5⟩) (by assumption) ?r5
      case h5 => (intro w hSw; go_simp; with_reducible rfl)
      simp only [Act.put, List.setIfInBounds_toArray, List.set_cons_zero, List.set_cons_succ]
      refine wpAnyK_take 6 23 (v := ?v6) rfl (by kernel_rfl) (by kernel_rfl) (by kernel_rfl) (by kernel_rfl) (by kernel_rfl) (fun _ _ _ h => h) rfl (Or.inl ⟨by rfl, ?h6⟩) (by assumption) ?r6
      case h6 => (intro w hSw; go_simp; with_reducible rfl)
      simp only [Act.put, List.setIfInBounds_toArray, List.set_cons_zero, List.set_cons_succ]
      refine wpAnyK_take 7 24 (v := ?v7) rfl (by kernel_rfl) (by kernel_rfl) (by kernel_rfl) (by kernel_rfl) (by kernel_rfl) (fun _ _ _ h => h) rfl (Or.inl ⟨by rfl, ?h7⟩) (by assumption) ?r7
      case h7 => (intro w hSw; go_simp; with_reducible rfl)
      simp only [Act.put, List.setIfInBounds_toArray, List.set_cons_zero, List.set_cons_succ]
      refine wpAnyK_one 8 (by kernel_rfl) rfl (fun K hK => ?_)
      go_simp
      refine hK.out _ _ (fun h => absurd rfl h) ?_
      clear hK K
      simp only [List.setIfInBounds_toArray, List.set_cons_zero, List.set_cons_succ]
      refine wpAnyK_done (by kernel_rfl) ?_ _
      clear S0
      go_wp2
      go_roundw
      case rel => exact ⟨j + 1, by omega, by simp, KX.out⟩
      case measure => simp [intOf]; omega
    · have hj3 : ¬ (j : Int) < k2 := by omega
      have KX := Sv.hid hbw
      clear hbw
      go_wp2
      go_ret
      exact ⟨rfl, KX.out⟩
set_option maxHeartbeats 8000000 in
theorem rkept14 {w : World} {v1 v2 : Value} {n : Nat} {l : Nat → Nat} {A : Sv.M} (h1 : Sv.Lm w v1 n l A) (h2 : Sv.Lm w v2 n l A) (hn : n < 1000000) (hl : ∀ i, i < n → l i < 1000000) :
    Calls Try.prog 24 #[v1, v2] w fun e w' => e = .returned (.bool true) ∧ Bw w w' := by
  obtain ⟨p1, k1, c1, rfl⟩ : ∃ p k c, v1 = .slice p k c := by rcases h1 with ⟨⟨_, _, rfl, _⟩, _⟩ | ⟨_, _, _, rfl, _⟩ <;> exact ⟨_, _, _, rfl⟩
  obtain ⟨p2, k2, c2, rfl⟩ : ∃ p k c, v2 = .slice p k c := by rcases h2 with ⟨⟨_, _, rfl, _⟩, _⟩ | ⟨_, _, _, rfl, _⟩ <;> exact ⟨_, _, _, rfl⟩
  have e1 : k1 = n := by rcases h1 with ⟨⟨_, _, q, _⟩, z⟩ | ⟨_, _, _, q, _⟩ <;> (simp only [Value.slice.injEq] at q; omega)
  have e2 : k2 = n := by rcases h2 with ⟨⟨_, _, q, _⟩, z⟩ | ⟨_, _, _, q, _⟩ <;> (simp only [Value.slice.injEq] at q; omega)
  subst e1
  subst e2
  have H1 := Sv.hid h1
  have H2 := Sv.hid h2
  clear h1 h2
  go_enter Try.func24, Try.ntmps24
  go_wp2
  go_loopw [5] (fun v wr => ∃ j : Nat, j ≤ k2 ∧ v = .int .i64 j ∧ Bw w wr) (fun v _ => k2 - (intOf v).toNat)
  case atStart => exact ⟨0, Nat.zero_le _, rfl, Bw.refl _⟩
  case round =>
    obtain ⟨j, hj, rfl, hbw⟩ := hrel
    by_cases hj1 : j < k2
    · have hj2 : (j : Int) < k2 := by omega
      have hbw2 := bw_trans hbw (Bw.refl wr).drew
      obtain ⟨xb, xo, xc, hx, _, lx, hrx⟩ := (H1.out.bw hbw2).resolve_left (fun h => by omega)
      obtain ⟨yb, yo, yc, hy, _, ly, hry⟩ := (H2.out.bw hbw2).resolve_left (fun h => by omega)
      simp only [Value.slice.injEq] at hx hy
      obtain ⟨rfl, _, rfl⟩ := hx
      obtain ⟨rfl, _, rfl⟩ := hy
      obtain ⟨r1, q1, g1⟩ := hrx j hj1
      obtain ⟨r2, q2, g2⟩ := hry j hj1
      obtain ⟨p1, c1, rfl⟩ : ∃ p c, r1 = .slice p (l j) c := by rcases g1 with ⟨⟨_, _, rfl, _⟩, z⟩ | ⟨_, _, _, rfl, _⟩; exact ⟨_, _, by rw [z]⟩; exact ⟨_, _, rfl⟩
      obtain ⟨p2, c2, rfl⟩ : ∃ p c, r2 = .slice p (l j) c := by rcases g2 with ⟨⟨_, _, rfl, _⟩, z⟩ | ⟨_, _, _, rfl, _⟩; exact ⟨_, _, by rw [z]⟩; exact ⟨_, _, rfl⟩
      have S0 : wr.drew.cell? ⟨xb, xo + j, none⟩ = some (.slice p1 (l j) c1) ∧ wr.drew.cell? ⟨yb, yo + j, none⟩ = some (.slice p2 (l j) c2) := ⟨q1, q2⟩
      have SF := Sv.hid (rsamef14 g1 g2 (hl j hj1))
      have LT : Hid (xb < wr.drew.heap.size ∧ yb < wr.drew.heap.size) := ⟨lx, ly⟩
      have KX := Sv.hid hbw2
      clear hbw hbw2 hrx hry q1 q2 g1 g2 lx ly
      go_wp2_with fail
      refine wp_region_K (fun w' => w'.cell? ⟨xb, xo + j, none⟩ = some (.slice p1 (l j) c1) ∧ w'.cell? ⟨yb, yo + j, none⟩ = some (.slice p2 (l j) c2)) 9 10 #[false, false, false, false, false, false, false, false, false, false] (by kernel_rfl) (by kernel_rfl) (by kernel_rfl) ?_
      generalize wr.drew = W at *
      refine wpAnyK_take 0 13 (v := ?v0) rfl (by kernel_rfl) (by kernel_rfl) (by kernel_rfl) (by kernel_rfl) (by kernel_rfl) (fun _ _ _ h => h) rfl (Or.inl ⟨by rfl, ?h0⟩) (by assumption) ?r0
      case h0 => (intro w hSw; go_simp; with_reducible rfl)
      simp only [Act.put, List.setIfInBounds_toArray, List.set_cons_zero, List.set_cons_succ]
      refine wpAnyK_take 1 14 (v := ?v1) rfl (by kernel_rfl) (by kernel_rfl) (by kernel_rfl) (by kernel_rfl) (by kernel_rfl) (fun _ _ _ h => h) rfl (Or.inl ⟨by rfl, ?h1⟩) (by assumption) ?r1
      case h1 => (intro w hSw; go_simp; with_reducible rfl)
      simp only [Act.put, List.setIfInBounds_toArray, List.set_cons_zero, List.set_cons_succ]
      refine wpAnyK_take 2 15 (v := ?v2) rfl (by kernel_rfl) (by kernel_rfl) (by kernel_rfl) (by kernel_rfl) (by kernel_rfl) (fun _ _ _ h => h) rfl (Or.inl ⟨by rfl, ?h2⟩) (by assumption) ?r2
      case h2 => (intro w hSw; go_simp; with_reducible rfl)
      simp only [Act.put, List.setIfInBounds_toArray, List.set_cons_zero, List.set_cons_succ]
      refine wpAnyK_take 3 16 (v := ?v3) rfl (by kernel_rfl) (by kernel_rfl) (by kernel_rfl) (by kernel_rfl) (by kernel_rfl) (fun _ _ _ h => h) rfl (Or.inl ⟨by rfl, ?h3⟩) (by assumption) ?r3
      case h3 => (intro w hSw; go_simp; with_reducible rfl)
      simp only [Act.put, List.setIfInBounds_toArray, List.set_cons_zero, List.set_cons_succ]
      refine wpAnyK_take 4 17 (v := ?v4) rfl (by kernel_rfl) (by kernel_rfl) (by kernel_rfl) (by kernel_rfl) (by kernel_rfl) (fun _ _ _ h => h) rfl (Or.inl ⟨by rfl, ?h4⟩) (by assumption) ?r4
      case h4 => (intro w hSw; go_simp; with_reducible rfl)
      simp only [Act.put, List.setIfInBounds_toArray, List.set_cons_zero, List.set_cons_succ]
      refine wpAnyK_take 5 18 (v := ?v5) rfl (by kernel_rfl) (by kernel_rfl) (by kernel_rfl) (by kernel_rfl) (by kernel_rfl) (fun _ _ _ h => h) rfl (Or.inl ⟨by rfl, ?h5⟩) (by assumption) ?r5
      case h5 => (intro w hSw; go_simp; with_reducible rfl)
      simp only [Act.put, List.setIfInBounds_toArray, List.set_cons_zero, List.set_cons_succ]
      refine wpAnyK_take 6 19 (v := ?v6) rfl (by kernel_rfl) (by kernel_rfl) (by kernel_rfl) (by kernel_rfl) (by kernel_rfl) (fun _ _ _ h => h) rfl (Or.inl ⟨by rfl, ?h6⟩) (by assumption) ?r6
      case h6 => (intro w hSw; go_simp; with_reducible rfl)
      simp only [Act.put, List.setIfInBounds_toArray, List.set_cons_zero, List.set_cons_succ]
      refine wpAnyK_take 7 20 (v := ?v7) rfl (by kernel_rfl) (by kernel_rfl) (by kernel_rfl) (by kernel_rfl) (by kernel_rfl) (fun _ _ _ h => h) rfl (Or.inl ⟨by rfl, ?h7⟩) (by assumption) ?r7
      case h7 => (intro w hSw; go_simp; with_reducible rfl)
      simp only [Act.put, List.setIfInBounds_toArray, List.set_cons_zero, List.set_cons_succ]
      refine wpAnyK_one 8 (by kernel_rfl) rfl (fun K hK => ?_)
      go_simp
      go_wp2_with (go_at_call 21; refine SF.out.mono ?_; rintro e' w7 ⟨rfl, b7⟩)
      have S7 : w7.cell? ⟨xb, xo + j, none⟩ = some (.slice p1 (l j) c1) ∧ w7.cell? ⟨yb, yo + j, none⟩ = some (.slice p2 (l j) c2) := ⟨(Below.cell b7 (p := ⟨xb, xo + j, none⟩) LT.out.1).trans S0.1, (Below.cell b7 (p := ⟨yb, yo + j, none⟩) LT.out.2).trans S0.2⟩
      refine hK.out _ _ (fun _ _ => S7) ?_
      clear hK K
      simp only [List.setIfInBounds_toArray, List.set_cons_zero, List.set_cons_succ]
      refine wpAnyK_one 9 (by kernel_rfl) rfl (fun K hK => ?_)
      go_simp
      refine hK.out _ _ (fun h => absurd rfl h) ?_
      clear hK K
      simp only [List.setIfInBounds_toArray, List.set_cons_zero, List.set_cons_succ]
      refine wpAnyK_done (by kernel_rfl) ?_ _
      have KN := Sv.hid (bw_trans KX.out b7)
      clear S0 S7 LT SF b7 KX
      go_wp2
      go_roundw
      case rel => exact ⟨j + 1, by omega, by simp, KN.out⟩
      case measure => simp [intOf]; omega
    · have hj3 : ¬ (j : Int) < k2 := by omega
      have KX := Sv.hid hbw
      clear hbw
      go_wp2
      go_ret
      exact ⟨rfl, KX.out⟩
end Go.Proofs.Ytjfkdmddfeeheaa
/-
  OWN TEXT: what the law of layer 14 lays out: few, lent, own.
-/
namespace Go.Proofs.Ytjfkdmddfeeheaa
open Go.ChangeShapes Go.WideShapes Go.ChangeAt Go.RowKit
set_option linter.unusedVariables false
attribute [local go_sem] frombits_call tobits_call run_neg

attribute [local go_sem] stof14
theorem wpList_append_eq {P : Program} {ops : Array Oper} {rest : List Oper} {o : Oper} {a : Act} {w : World} {Q : Exit → Act → World → Prop} (hgd : o.guard = none) (s x : Operand) (t : TypeId)
    (ho : o.op = Op.call { callee := Callee.builtin Builtin.append, args := #[s, x], argTypes := #[t, t] }) (v1 v2 v' : Value) (hs : a.eval s = v1) (hx : a.eval x = v2) (w' : World)
    (hrun : (Builtin.append_ #[t, t] o.type #[v1, v2]).run P w = .ok v' w') (h : wpList P ops Q rest (a.put o.dst v') w') : wpList P ops Q (o :: rest) a w := by
  refine wpList_plain hgd fun K hK => ?_
  unfold Oper.wp
  simp [execOp, ho, resolve, invoke, builtin, hs, hx, hrun, Result.andThen]
  exact hK _ _ h
namespace Sv
def app (F : Nat → Nat) (n : Nat) (G : Nat → Nat) : Nat → Nat := fun j => if j < n then F j else G (j - n)
theorem fv_app (X Y : Nat → Nat) (n m : Nat) : fv X n ++ fv Y m = fv (app X n Y) (n + m) := by
  apply List.ext_getElem?
  intro j
  by_cases h1 : j < n
  · rw [List.getElem?_append_left (by rw [fv_len]; exact h1), fv_get _ _ _ h1, fv_get _ _ _ (by omega)]
    unfold app; rw [if_pos h1]
  · rw [List.getElem?_append_right (by rw [fv_len]; omega), fv_len]
    by_cases h2 : j < n + m
    · rw [fv_get _ _ _ (by omega), fv_get _ _ _ h2]
      unfold app; rw [if_neg h1]
    · rw [List.getElem?_eq_none (by rw [fv_len]; omega), List.getElem?_eq_none (by rw [fv_len]; omega)]
/-- append(d, s...) onto a list of the call's own -/
theorem appended {w : World} {base n m : Nat} {vD vS : Value} {F G : Nat → Nat} (ty : TypeId) (hD : Rv w base vD n F) (hS : Ls w vS m G) (hnm : n + m ≤ 4000000) (hb : base ≤ w.heap.size) :
    ∃ v' w', (Builtin.append_ #[24, 24] ty #[vD, vS]).run Try.prog w = .ok v' w' ∧ Rv w' base v' (n + m) (app F n G) ∧ w.grownBy w' vD.ownBlock ∧ (v'.ownBlock = vD.ownBlock ∨ v'.ownBlock = some w.heap.size) := by
  obtain ⟨i0, hi0, ha0, ha1, ha2⟩ := info14 _ _ _ _ Sv.info_f
  obtain ⟨X, ho, hX⟩ := hD
  rcases hS with ⟨⟨p0, c0, rfl, hp0⟩, rfl⟩ | ⟨b, o, c, rfl, hc, hr⟩
  · cases p0 with
    | none =>
      cases hp0 rfl
      refine ⟨vD, w, run_append_owned_none (w := w) base 24 ty 25 i0 1 Sv.und_f hi0 vD n _ ho, ⟨X, ho, fun j hj => ?_⟩, World.grownBy.refl _ _, Or.inl rfl⟩
      unfold app; rw [if_pos (show j < n from hj)]; exact hX j hj
    | some a =>
      obtain ⟨v', w', h1, h2, h3, _, h5⟩ := run_append_own_at (P := Try.prog) w base 24 ty 25 i0 (.float .f64 0) 1 8 Sv.und_f hi0 ha0 ha1 ha2 rfl (by decide) vD n (fv X n) ho a 0 c0 [] rfl (fun j u hu => by cases hu) (fun u hu => by cases hu) (by unfold maxLen; omega) (by omega) hb
      rw [List.append_nil] at h2
      refine ⟨v', w', h1, ⟨X, h2, fun j hj => ?_⟩, h3, h5⟩
      unfold app; rw [if_pos (show j < n from hj)]; exact hX j hj
  · obtain ⟨Y, hY⟩ := Go.Deep.choose_lt (α := Nat) hr.2
    obtain ⟨v', w', h1, h2, h3, _, h5⟩ := run_append_own_at (P := Try.prog) w base 24 ty 25 i0 (.float .f64 0) 1 8 Sv.und_f hi0 ha0 ha1 ha2 rfl (by decide) vD n (fv X n) ho ⟨b, o, none⟩ m c (fv Y m) (by rw [fv_len, Nat.mul_one])
      (fun j u hu => by
        have hj : j < m := by
          rcases Nat.lt_or_ge j m with q | q
          · exact q
          · rw [List.getElem?_eq_none (by rw [fv_len]; exact q)] at hu; cases hu
        rw [fv_get _ _ _ hj] at hu
        cases hu
        rw [add_plain]
        exact (hY j hj).1) (fv_one Y m) (by unfold maxLen; omega) (by omega) hb
    refine ⟨v', w', h1, ⟨app X n Y, by rw [← fv_app]; exact h2, fun j hj => ?_⟩, h3, h5⟩
    unfold app
    by_cases q : j < n
    · rw [if_pos q, if_pos q]; exact hX j q
    · rw [if_neg q, if_neg q]; exact ⟨(hY (j - n) (by omega)).2.1, (hY (j - n) (by omega)).2.2⟩
/-- how many rows and cells -/
def sm (l : Nat → Nat) : Nat → Nat
  | 0 => 0
  | k + 1 => sm l k + (1 + l k)
theorem sm_mono (l : Nat → Nat) {i k : Nat} (h : i ≤ k) : sm l i ≤ sm l k := by
  induction k with
  | zero => cases Nat.le_zero.1 h; exact Nat.le_refl _
  | succ k ih =>
    rcases Nat.lt_or_ge i (k + 1) with q | q
    · have := ih (by omega); show sm l i ≤ sm l k + (1 + l k); omega
    · have : i = k + 1 := by omega
      subst this; exact Nat.le_refl _
theorem sm_ge (l : Nat → Nat) (k : Nat) : k ≤ sm l k := by
  induction k with
  | zero => exact Nat.zero_le _
  | succ k ih => show k + 1 ≤ sm l k + (1 + l k); omega
theorem sm_one (l : Nat → Nat) {i n : Nat} (h : i < n) : l i ≤ sm l n := by
  have h1 : sm l i + (1 + l i) ≤ sm l n := sm_mono l (show i + 1 ≤ n by omega)
  omega
/-- how many cells -/
def sc (l : Nat → Nat) : Nat → Nat
  | 0 => 0
  | k + 1 => sc l k + l k
theorem sc_le (l : Nat → Nat) (k : Nat) : sc l k ≤ sm l k := by
  induction k with
  | zero => exact Nat.le_refl _
  | succ k ih => show sc l k + l k ≤ sm l k + (1 + l k); omega
theorem sc_mono (l : Nat → Nat) {i k : Nat} (h : i ≤ k) : sc l i ≤ sc l k := by
  induction k with
  | zero => cases Nat.le_zero.1 h; exact Nat.le_refl _
  | succ k ih =>
    rcases Nat.lt_or_ge i (k + 1) with q | q
    · have := ih (by omega); show sc l i ≤ sc l k + l k; omega
    · have : i = k + 1 := by omega
      subst this; exact Nat.le_refl _
end Sv
set_option maxHeartbeats 4000000 in
theorem own14 {w : World} {v : Value} {n : Nat} {F : Nat → Nat} (h : Sv.Ls w v n F) (hn : n ≤ 4000000) :
    Calls Try.prog 16 #[v] w fun e w' => ∃ v', e = .returned v' ∧ Sv.Ls w' v' n F ∧ Bw w w' := by
  obtain ⟨v', w', hr, hv, hg, hk⟩ := Sv.appended 24 (Sv.Rv.nil w w.heap.size F) h (by omega) (Nat.le_refl _)
  have KX : Hid (Sv.Ls w' v' n F ∧ Bw w w') := by
    refine ⟨?_, Below.grown (Bw.refl w) hg (Nat.le_refl _) (fun x e => by cases e)⟩
    rw [Nat.zero_add] at hv
    rcases Nat.eq_zero_or_pos n with z | z
    · subst z
      obtain ⟨X, ho, _⟩ := hv
      rcases ho.2 with ⟨rfl, _⟩ | ⟨g, cap, cur, rfl, hb, hc, hl, _⟩
      · exact Or.inl ⟨Sv.emp.nil, rfl⟩
      · refine Or.inr ⟨g, 0, cap, rfl, Nat.zero_le _, ?_, fun j hj => absurd hj (by omega)⟩
        rcases Nat.lt_or_ge g w'.heap.size with q | q
        · exact q
        · rw [Array.getElem?_eq_none q] at hc; cases hc
    · obtain ⟨B, c, rfl, _, _⟩ := hv.form z
      exact Or.inr ⟨B, 0, c, rfl, hv.rw.mle, (hv.rw.rd).ext (fun j hj => by unfold Sv.app; rw [if_neg (by omega), Nat.sub_zero])⟩
  have ER := Sv.hid hr
  clear hr hv hg hk h
  go_enter Try.func16, Try.ntmps16
  go_wp2_with (at_builtin; refine wpList_append_eq rfl _ _ 24 rfl _ _ _ rfl rfl _ ER.out ?_)
  go_ret
  exact ⟨_, rfl, KX.out⟩
set_option maxHeartbeats 4000000 in
theorem few14 {w : World} {va : Value} {n : Nat} {l : Nat → Nat} {A : Sv.M} (h : Sv.Lm w va n l A) (hn : Sv.sm l n ≤ 4000000) :
    Calls Try.prog 14 #[va] w fun e w' => e = .returned (.bool (decide (Sv.sm l n ≤ 20000))) ∧ w' = w := by
  obtain ⟨p, k, c, rfl⟩ : ∃ p k c, va = .slice p k c := by rcases h with ⟨⟨_, _, rfl, _⟩, _⟩ | ⟨_, _, _, rfl, _⟩ <;> exact ⟨_, _, _, rfl⟩
  have e1 : k = n := by rcases h with ⟨⟨_, _, q, _⟩, z⟩ | ⟨_, _, _, q, _⟩ <;> (simp only [Value.slice.injEq] at q; omega)
  subst e1
  have HH := Sv.hid h
  have hkk := Sv.sm_ge l k
  clear h
  go_enter Try.func14, Try.ntmps14
  go_wp2
  go_loopw [3, 4] (fun s v wr => ∃ j : Nat, j ≤ k ∧ v = .int .i64 j ∧ s = .int .i64 (Sv.sm l j : Nat) ∧ wr = w) (fun _ v _ => k - (intOf v).toNat)
  case atStart => exact ⟨0, Nat.zero_le _, rfl, rfl, rfl⟩
  case round =>
    obtain ⟨j, hj, rfl, rfl, hw⟩ := hrel
    subst hw
    by_cases hj1 : j < k
    · have hj2 : (j : Int) < k := by omega
      obtain ⟨b, o, c', hb, _, lb, hr⟩ := HH.out.resolve_left (fun h => by omega)
      simp only [Value.slice.injEq] at hb
      obtain ⟨rfl, _, rfl⟩ := hb
      obtain ⟨r, q1, g1⟩ := hr j hj1
      obtain ⟨p1, c1, rfl⟩ : ∃ p c, r = .slice p (l j) c := by rcases g1 with ⟨⟨_, _, rfl, _⟩, z⟩ | ⟨_, _, _, rfl, _⟩; exact ⟨_, _, by rw [z]⟩; exact ⟨_, _, rfl⟩
      have b1 := Sv.sm_mono l (show j + 1 ≤ k by omega)
      have b2 : Sv.sm l (j + 1) = Sv.sm l j + (1 + l j) := rfl
      have HB := Sv.hid b2
      have z1 : Sv.sm l j ≤ 4000000 := by omega
      have z2 : l j ≤ 4000000 := by omega
      clear hr g1 lb b1 b2
      generalize Sv.sm l j = S at HB z1 ⊢
      generalize l j = L at HB z2 q1 ⊢
      go_wp2
      go_roundw
      case rel => exact ⟨j + 1, by omega, by simp, by rw [HB.out]; simp, by first | rfl | trivial⟩
      case measure => simp [intOf]; omega
    · have hj3 : j = k := by omega
      have hj4 : ¬ (j : Int) < k := by omega
      have HQ := Sv.hid hj3
      clear hj3 hkk
      by_cases hs : Sv.sm l j ≤ 20000
      · have hs2 : ((Sv.sm l j : Nat) : Int) ≤ 20000 := by omega
        have HS : Hid (decide (Sv.sm l k ≤ 20000) = true) := by show _ = _; rw [← HQ.out]; exact decide_eq_true hs
        go_wp2
        go_ret
        exact ⟨by rw [HS.out]; rfl, rfl⟩
      · have hs2 : ¬ ((Sv.sm l j : Nat) : Int) ≤ 20000 := by omega
        have HS : Hid (decide (Sv.sm l k ≤ 20000) = false) := by show _ = _; rw [← HQ.out]; exact decide_eq_false hs
        go_wp2
        go_ret
        exact ⟨by rw [HS.out]; rfl, rfl⟩
end Go.Proofs.Ytjfkdmddfeeheaa
/-
  OWN TEXT: what the law of layer 14 lays out: lent.
-/
namespace Go.Proofs.Ytjfkdmddfeeheaa
open Go.ChangeShapes Go.WideShapes Go.ChangeAt Go.RowKit
set_option linter.unusedVariables false
attribute [local go_sem] frombits_call tobits_call run_neg

attribute [local go_sem] stof14
namespace Sv
theorem own_cap2 {w : World} {base : Nat} {e : TypeId} {size R n cap : Nat} {xs : List Value} (h : w.ownsRow base e size (.slice (some ⟨R, 0, none⟩) n cap) n xs) : n ≤ cap := by
  rcases h.2 with ⟨q, _⟩ | ⟨g', cap', cur, q, _, _, l, _⟩
  · simp at q
  · simp only [Value.slice.injEq, true_and] at q
    omega
/-- all[a:a+m] -/
def rowv (p : Option Addr) (c a m : Nat) : Value := sliced p a (a + m) c 1
theorem rowv_slice (p : Option Addr) (c a m : Nat) : ∃ q d, rowv p c a m = .slice q m d := ⟨_, _, by unfold rowv sliced; rw [Nat.add_sub_cancel_left]⟩
theorem rowv_ls {w : World} {base N c : Nat} {p : Option Addr} {F : Nat → Nat} (h : Rv w base (.slice p N c) N F) {a m : Nat} (hm : a + m ≤ N) : Ls w (rowv p c a m) m (fun j => F (a + j)) := by
  unfold rowv sliced
  rw [Nat.add_sub_cancel_left]
  have hh := h
  obtain ⟨X, ho, _⟩ := h
  rcases ho.2 with ⟨e, _⟩ | ⟨g, cap, cur, e, hb, hc, hl, _⟩
  · simp only [Value.slice.injEq] at e
    obtain ⟨rfl, rfl, rfl⟩ := e
    obtain ⟨rfl, rfl⟩ : a = 0 ∧ m = 0 := by omega
    exact Or.inl ⟨⟨none, 0, by simp, fun _ => rfl⟩, rfl⟩
  · simp only [Value.slice.injEq] at e
    obtain ⟨rfl, _, rfl⟩ := e
    have hr := hh.rw
    have hle := hr.mle
    by_cases z : c = a
    · rw [if_pos z]
      have : m = 0 := by omega
      subst this
      exact Or.inr ⟨g, 0, c - a, rfl, by omega, hr.lt.2, fun j hj => absurd hj (by omega)⟩
    · rw [if_neg z]
      refine Or.inr ⟨g, a, c - a, by rw [Option.map_some, Nat.mul_one, add_off, Nat.zero_add], by omega, hr.lt.2, fun j hj => ?_⟩
      obtain ⟨x, q1, q2, q3⟩ := hr.cell (j := a + j) (by omega)
      exact ⟨x, q1, q2, q3⟩
theorem slice14 (p : Option Addr) (N c a m : Nat) (h : a + m ≤ c) (w : World) : (Instr.slice 24 (.slice p N c) (some (.int .i64 (a : Int))) (some (.int .i64 ((a : Int) + (m : Int)))) none).run Try.prog w = .ok (rowv p c a m) w := by
  rw [run_slice_lh w _ p N c (by kernel_rfl) .i64 .i64 (a : Int) ((a : Int) + (m : Int)) (by omega) (by omega) (by omega)]
  have e : (sizeOf (Program.elem Try.prog 24)).run Try.prog w = .ok 1 w := by kernel_rfl
  rw [e]
  have e1 : ((a : Int) + (m : Int)).toNat = a + m := by omega
  simp only [Result.andThen, Int.toNat_natCast, e1]
  rfl
/-- k rows one behind the other -/
def cat (l : Nat → Nat) (A : M) : Nat → Nat → Nat
  | 0 => fun _ => 0
  | k + 1 => app (cat l A k) (sc l k) (A k)
theorem cat_at (l : Nat → Nat) (A : M) {i j : Nat} (hj : j < l i) : ∀ {k : Nat}, i < k → cat l A k (sc l i + j) = A i j
  | 0, h => absurd h (by omega)
  | k + 1, h => by
    show app (cat l A k) (sc l k) (A k) (sc l i + j) = A i j
    unfold app
    by_cases e : i = k
    · subst e
      rw [if_neg (by omega), Nat.add_sub_cancel_left]
    · have h1 : i < k := by omega
      have h2 := sc_mono l (show i + 1 ≤ k by omega)
      have h3 : sc l (i + 1) = sc l i + l i := rfl
      rw [if_pos (by omega)]
      exact cat_at l A hj h1
end Sv
set_option maxHeartbeats 8000000 in
theorem lent14 {w : World} {va : Value} {n : Nat} {l : Nat → Nat} {A : Sv.M} (h : Sv.Lm w va n l A) (hn : Sv.sm l n ≤ 20000) :
    Calls Try.prog 15 #[va] w fun e w' => ∃ vr vq, e = .returned (.tuple #[vr, vq]) ∧ Sv.Lm w' vr n l A ∧ Bw w w' := by
  obtain ⟨j0, hj0, hb0, hb1, hb2⟩ := info14 _ _ _ _ Sv.info_r
  obtain ⟨p, k, c, rfl⟩ : ∃ p k c, va = .slice p k c := by rcases h with ⟨⟨_, _, rfl, _⟩, _⟩ | ⟨_, _, _, rfl, _⟩ <;> exact ⟨_, _, _, rfl⟩
  have e1 : k = n := by rcases h with ⟨⟨_, _, q, _⟩, z⟩ | ⟨_, _, _, q, _⟩ <;> (simp only [Value.slice.injEq] at q; omega)
  subst e1
  have HH := Sv.hid h
  have hkk := Sv.sm_ge l k
  have hk4 : k ≤ 20000 := by omega
  have HL : Hid (∀ i, i ≤ k → Sv.sc l i ≤ 20000) := fun i hi => by
    have := Sv.sc_mono l hi
    have := Sv.sc_le l k
    omega
  clear h hkk
  go_enter Try.func15, Try.ntmps15
  go_wp2
  go_loopw [4, 5] (fun v i wr => ∃ j : Nat, j ≤ k ∧ i = .int .i64 j ∧ Sv.Rv wr w.heap.size v (Sv.sc l j) (Sv.cat l A j) ∧ Bw w wr) (fun _ v _ => k - (intOf v).toNat)
  case atStart => exact ⟨0, Nat.zero_le _, rfl, Sv.Rv.nil _ _ _, Bw.refl _⟩
  case round =>
    obtain ⟨j, hj, rfl, hR, hbw⟩ := hrel
    by_cases hj1 : j < k
    · have hj2 : (j : Int) < k := by omega
      obtain ⟨b, o, c', hb, _, lb, hr⟩ := HH.out.resolve_left (fun h => by omega)
      simp only [Value.slice.injEq] at hb
      obtain ⟨rfl, _, rfl⟩ := hb
      obtain ⟨r, q1, g1⟩ := hr j hj1
      replace q1 := (Below.cell hbw (p := ⟨b, o + j, none⟩) lb).trans q1
      obtain ⟨p1, c1, rfl⟩ : ∃ p c, r = .slice p (l j) c := by rcases g1 with ⟨⟨_, _, rfl, _⟩, z⟩ | ⟨_, _, _, rfl, _⟩; exact ⟨_, _, by rw [z]⟩; exact ⟨_, _, rfl⟩
      have hs : Sv.sc l j + l j ≤ 20000 := HL.out (j + 1) (by omega)
      obtain ⟨v', w', hrun, hv, hg, hat⟩ := Sv.appended 24 hR (g1.bw hbw) (by omega) hbw.size
      have KN := Sv.hid (And.intro (show Sv.Rv w' w.heap.size v' (Sv.sc l (j + 1)) (Sv.cat l A (j + 1)) from hv) (Below.grown hbw hg hbw.size (fun x e => by obtain ⟨X, ho, _⟩ := hR; exact (ho.lt x e).1)))
      have ER := Sv.hid hrun
      clear hrun hv hg hat hR hbw hr g1 lb hs
      generalize l j = L at q1 ER ⊢
      go_wp2_with (first
        | (at_builtin; refine wpList_append_eq rfl _ _ 24 rfl _ _ _ rfl rfl _ ER.out ?_)
        | go_in)
      go_roundw
      case rel => exact ⟨j + 1, by omega, by simp, KN.out.1, KN.out.2⟩
      case measure => simp [intOf]; omega
    · have hj3 : j = k := by omega
      have hj4 : ¬ (j : Int) < k := by omega
      subst hj3
      obtain ⟨pv, cv, rfl⟩ : ∃ p c, u4 = .slice p (Sv.sc l j) c := by
        obtain ⟨X, ho, _⟩ := hR
        rcases ho.2 with ⟨e, e2⟩ | ⟨g, cap, cur, e, _⟩
        · exact ⟨none, 0, by rw [e, e2]⟩
        · exact ⟨_, _, e⟩
      have hcv : Sv.sc l j ≤ cv := by
        have hR2 := hR
        obtain ⟨X, ho, _⟩ := hR
        rcases ho.2 with ⟨e, e2⟩ | ⟨g, cap, cur, e, _⟩
        · omega
        · simp only [Value.slice.injEq] at e
          obtain ⟨rfl, _, rfl⟩ := e
          exact Sv.Rw.mle (B := g) (F := Sv.cat l A j) hR2
      have KR := Sv.hid (And.intro hR hbw)
      generalize hNN : Sv.sc l j = NN at *
      have HN := Sv.hid hNN
      clear hR hbw hNN
      go_wp2
      go_loopw [6, 7, 8] (fun v a i wz => ∃ t : Nat, t ≤ j ∧ i = .int .i64 t ∧ a = .int .i64 (Sv.sc l t : Nat) ∧ wz.ownsRow w.heap.size 24 1 v t ((List.range t).map fun i => Sv.rowv pv cv (Sv.sc l i) (l i)) ∧ Sv.Rv wz w.heap.size (.slice pv NN cv) NN (Sv.cat l A j) ∧ (∀ x, v.ownBlock = some x → (Value.slice pv NN cv).ownBlock ≠ some x) ∧ Bw w wz) (fun _ _ v _ => j - (intOf v).toNat)
      case atStart => exact ⟨0, Nat.zero_le _, rfl, rfl, World.ownsRow_nil _ _ _ _, KR.out.1, (fun x e => by cases e), KR.out.2⟩
      case round =>
        clear KR
        obtain ⟨t, ht, rfl, rfl, hO, hR, hD, hbw⟩ := hrel
        by_cases ht1 : t < j
        · have ht2 : (t : Int) < j := by omega
          obtain ⟨b, o, c', hb, _, lb, hr⟩ := HH.out.resolve_left (fun h => by omega)
          simp only [Value.slice.injEq] at hb
          obtain ⟨rfl, _, rfl⟩ := hb
          obtain ⟨r, q1, g1⟩ := hr t ht1
          replace q1 := (Below.cell hbw (p := ⟨b, o + t, none⟩) lb).trans q1
          have lb2 : b < wr.heap.size := by have := hbw.size; omega
          obtain ⟨p1, c1, rfl⟩ : ∃ p c, r = .slice p (l t) c := by rcases g1 with ⟨⟨_, _, rfl, _⟩, z⟩ | ⟨_, _, _, rfl, _⟩; exact ⟨_, _, by rw [z]⟩; exact ⟨_, _, rfl⟩
          have hs : Sv.sc l (t + 1) ≤ NN := by rw [← HN.out]; exact Sv.sc_mono l (by omega)
          have hs1 : Sv.sc l (t + 1) = Sv.sc l t + l t := rfl
          have hsl := Sv.slice14 pv NN cv (Sv.sc l t) (l t) (by omega)
          have y1 : Sv.sc l t ≤ 20000 := HL.out t (by omega)
          have y2 : l t ≤ 20000 := by have := HL.out (t + 1) (by omega); omega
          have hgl : ∀ x, u6.ownBlock = some x → x < wr.heap.size := fun x hx => (hO.lt x hx).2
          obtain ⟨rq, rd, hrv⟩ := Sv.rowv_slice pv cv (Sv.sc l t) (l t)
          rw [hrv] at hsl
          have b5 := Sv.bw_new wr (.cells #[.slice rq (l t) rd] 24)
          have q1' := (Below.cell b5 (p := ⟨b, o + t, none⟩) lb2).trans q1
          have KA := Sv.hid (And.intro (hO.kept (Sv.gb_bw b5 none) (by cases u6.ownBlock <;> simp)) (And.intro (hR.gb (Sv.gb_bw b5 none) (by cases (Value.slice pv NN cv).ownBlock <;> simp)) (And.intro hD (And.intro (bw_trans hbw b5) (And.intro hgl (And.intro hrv hs1))))))
          have HSZ : Hid (w.heap.size ≤ (wr.alloc (.cells #[.slice rq (l t) rd] 24)).heap.size ∧ (wr.alloc (.cells #[.slice rq (l t) rd] 24)).heap.size = wr.heap.size + 1) := by
            refine ⟨?_, by simp⟩
            have := hbw.size; have := b5.size
            omega
          have HB := Sv.hid (And.intro lb q1')
          clear hO hR hD hbw hr g1 hgl b5 hs hs1 lb hrv q1'
          generalize hS : Sv.sc l t = S at *
          generalize hLt : l t = L at *
          have HSL := Sv.hid (And.intro hS hLt)
          clear hS hLt
          go_wp2_with (first
            | (at_builtin; refine wpList_append_lies _ (by rfl) _ _ 23 (by rfl) w.heap.size 24 j0 (.slice none 0 0) 1 24 Sv.und_r hj0 hb0 hb1 hb2 rfl (by decide) _ t _ (by rfl) KA.out.1 ⟨wr.heap.size, 0, none⟩ 1 1 [.slice rq L rd] (by rfl) rfl (cell_one_new _ _ _) (fun u hu => by simp only [List.mem_singleton] at hu; subst hu; rfl) (by decide) (by unfold maxLen; omega) (by omega) HSZ.out.1 (wr.heap.size + 1) HSZ.out.2 ?_)
            | go_in)
          intro R cR w3 hown hgrow hat hlt2
          obtain ⟨hO, hR, hD, hb, hgl, hrv, hs1⟩ := KA.out
          have hbl := HB.out.1
          have hq3 : w3.cell? ⟨b, o + t, none⟩ = some (.slice p1 L c1) := by
            refine (World.cell?_of_block (w := wr.alloc (.cells #[.slice rq L rd] 24)) (a := ⟨b, o + t, none⟩) (hgrow.block b (by rw [HSZ.out.2]; omega) (fun e => ?_))).trans HB.out.2
            have := (hO.lt b e.symm).1
            omega
          have KN : Hid (w3.ownsRow w.heap.size 24 1 (.slice (some ⟨R, 0, none⟩) (t + 1) cR) (t + 1) ((List.range (t + 1)).map fun i => Sv.rowv pv cv (Sv.sc l i) (l i)) ∧ Sv.Rv w3 w.heap.size (.slice pv NN cv) NN (Sv.cat l A j) ∧ (∀ x, (Value.slice (some ⟨R, 0, none⟩) (t + 1) cR).ownBlock = some x → (Value.slice pv NN cv).ownBlock ≠ some x) ∧ Bw w w3) := by
            refine ⟨?_, ?_, ?_, Below.grown hb hgrow HSZ.out.1 (fun x e => (hO.lt x e).1)⟩
            · rw [List.range_succ, List.map_append]
              simp only [List.map_cons, List.map_nil]
              rw [HSL.out.1, HSL.out.2, hrv]
              exact hown
            · refine hR.gb hgrow ?_
              cases hz : (Value.slice pv NN cv).ownBlock with
              | none => exact Or.inl rfl
              | some y => exact Or.inr (fun e => hD y e.symm hz)
            · intro x hx
              rcases hat with z | z
              · exact hD x (z.trans hx)
              · intro hz
                have h1 : R = x := by simpa [Value.ownBlock] using hx
                obtain ⟨X, ho, _⟩ := hR
                have h2 := (ho.lt x hz).2
                rw [HSZ.out.2] at h2
                omega
          have HS1 := Sv.hid hs1
          clear hO hR hD hb hgl hrv hs1 hown hgrow hat hlt2 KA HSZ HB hbl q1 hsl
          go_wp2
          go_roundw
          case rel => exact ⟨t + 1, by omega, by simp, by rw [HS1.out]; simp, KN.out.1, KN.out.2.1, KN.out.2.2.1, KN.out.2.2.2⟩
          case measure => simp [intOf]; omega
        · have ht3 : t = j := by omega
          have ht4 : ¬ (t : Int) < j := by omega
          subst ht3
          have KF : Hid (Sv.Lm wr u6 t l A ∧ Bw w wr) := by
            refine ⟨?_, hbw⟩
            rcases Nat.eq_zero_or_pos t with z | z
            · subst z
              rcases hO.2 with ⟨e, _⟩ | ⟨g, cap, cur, e, hb, hc, hl, _⟩
              · exact Or.inl ⟨by rw [e]; exact Sv.emp.nil, rfl⟩
              · exact Or.inr ⟨g, 0, cap, e, Nat.zero_le _, (hO.lt g (by rw [e]; rfl)).2, fun j hj => absurd hj (by omega)⟩
            · obtain ⟨R, cR, hv, _, _⟩ := hO.form z
              subst hv
              refine Or.inr ⟨R, 0, cR, rfl, Sv.own_cap2 hO, (hO.lt R rfl).2, fun i hi => ⟨Sv.rowv pv cv (Sv.sc l i) (l i), ?_, ?_⟩⟩
              · rw [Nat.zero_add, hO.cellAt i (by omega)]
                simp [hi]
              · have hs : Sv.sc l (i + 1) ≤ NN := by rw [← HN.out]; exact Sv.sc_mono l (by omega)
                refine (Sv.rowv_ls hR (a := Sv.sc l i) (m := l i) hs).ext (fun x hx => Sv.cat_at l A hx hi)
          clear hO hR hD hbw
          go_wp2
          go_ret2

          exact ⟨_, ⟨_, rfl⟩, KF.out.1, KF.out.2⟩
end Go.Proofs.Ytjfkdmddfeeheaa
