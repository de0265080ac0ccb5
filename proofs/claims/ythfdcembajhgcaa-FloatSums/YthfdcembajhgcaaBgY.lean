/-
  OWN TEXT: sums, differences and the order of package eddybig's fractions, in the worth of fractions; a float's fraction.
-/
import Derived.Test.YthfdcembajhgcaaBgX
import Derived.Test.YthfdcembajhgcaaFlG
import Derived.Test.YthfdcembajhgcaaFn
namespace Go.Proofs.Ythfdcembajhgcaa
open Go.ChangeShapes Go.WideShapes Go.ChangeAt Go.RowKit
open Bg
set_option linter.unusedVariables false
theorem grown_cell {w w' : World} (h : Grown w w') {b o : Nat} (hb : b < w.heap.size) : w'.cell? ⟨b, o, none⟩ = w.cell? ⟨b, o, none⟩ :=
  h.1.cell hb (fun f => f)
theorem Hs.grown {w w' : World} {a : Option Addr} {l : List Nat} (h : Hs w a l) (f : Grown w w') : Hs w' a l := by
  rcases h with h | ⟨b, o, h1, h2, h3⟩
  · exact Or.inl h
  · exact Or.inr ⟨b, o, h1, Nat.lt_of_lt_of_le h2 f.2.2, fun i hi => (grown_cell f h2).trans (h3 i hi)⟩
theorem Nm.grown {w w' : World} {v : Value} {N : Nat} (h : Nm w v N) (f : Grown w w') : Nm w' v N := by
  obtain ⟨a, l, cap, h1, h2, h3, h4, h5⟩ := h
  exact ⟨a, l, cap, h1, h2, h3, h4.grown f, h5⟩
theorem Rt.grown {w w' : World} {B : Nat} {s : Bool} {A D : Nat} (h : Rt w B s A D) (f : Grown w w') : Rt w' B s A D := by
  have g : ∀ i, w'.cell? ⟨B, i, none⟩ = w.cell? ⟨B, i, none⟩ := fun i => grown_cell f h.nw.1
  obtain ⟨v, h1, h2⟩ := h.c1
  obtain ⟨u, h3, h4⟩ := h.c2
  exact ⟨⟨Nat.lt_of_lt_of_le h.nw.1 f.2.2, fun i x => by rw [g]; exact h.nw.2.1 i x, fun i => (f.2.1 _).trans (h.nw.2.2 i)⟩, (g 0).trans h.c0, ⟨v, (g 1).trans h1, h2.grown f⟩, ⟨u, (g 2).trans h3, h4.grown f⟩⟩
theorem Rv.grown {w w' : World} {B : Nat} {p : Int} {q k : Nat} (h : Rv w B p q k) (f : Grown w w') : Rv w' B p q k := by
  obtain ⟨s, A, D, h1, h2⟩ := h
  exact ⟨s, A, D, h1.grown f, h2⟩
theorem Rv.conv {w : World} {B : Nat} {P p : Int} {Q q k : Nat} (h : Rv w B P Q k) (hQ : 0 < Q) (e : P * q = p * Q) : Rv w B p q k := by
  obtain ⟨s, A, D, h1, h2, h3⟩ := h
  refine ⟨s, A, D, h1, ?_, h3⟩
  have : (sv s A * q) * Q = (p * den D) * Q := by
    have e1 : (sv s A * q) * Q = (sv s A * Q) * q := by grind
    have e2 : (P * den D) * q = (P * q) * den D := by grind
    have e3 : (p * Q) * den D = (p * den D) * Q := by grind
    rw [e1, h2, e2, e, e3]
  exact Int.eq_of_mul_eq_mul_right (by omega) this
theorem Sv.conv {w : World} {B : Nat} {P p : Int} {Q q k : Nat} {e : Ending} {w' : World} (h : Sv w B P Q k e w') (hQ : 0 < Q) (he : P * q = p * Q) : Sv w B p q k e w' :=
  ⟨h.1, h.2.1.conv hQ he, h.2.2⟩
theorem radd_any (B C E : Nat) (p p' : Int) (q q' k k' : Nat) (w : World) (s0 : Bool) (A0 D0 : Nat) (hz : Rt w B s0 A0 D0) (hx : Rv w C p q k) (hy : Rv w E p' q' k') (hk : k + k' + 2 < 32000000) :
    Calls Try.prog 27 #[.pointer (some ⟨B, 0, none⟩), .pointer (some ⟨C, 0, none⟩), .pointer (some ⟨E, 0, none⟩)] w fun e w' => Sv w B (p * q' + p' * q) (q * q') (k + k' + 2) e w' := by
  obtain ⟨s, A, D, h1, h2, h3, h4⟩ := hx
  obtain ⟨t, X, F, k1, k2, k3, k4⟩ := hy
  go_enter Try.func27, Try.ntmps27
  go_wp2_with fail
  refine (radded_any B C E s t s0 false A D X F A0 D0 k k' w hz h1 k1 h3 h4 k3 k4 hk).mono ?_
  intro e w1 hs
  have hs2 : Sv w B (p * q' + p' * q) (q * q') (k + k' + 2) e w1 := hs.conv (Nat.mul_pos (den_pos _) (den_pos _)) (by
    rw [show (t != false) = t by cases t <;> rfl]
    rw [Int.natCast_mul, Int.natCast_mul]
    have e1 : (sv s A * den F + sv t X * den D) * ((q : Int) * q') = (sv s A * q) * den F * q' + (sv t X * q') * den D * q := by grind
    rw [e1, h2, k2]; grind)
  obtain ⟨rfl, r2⟩ := hs2
  go_wp2
  go_ret
  exact ⟨rfl, r2⟩
theorem rsub_any (B C E : Nat) (p p' : Int) (q q' k k' : Nat) (w : World) (s0 : Bool) (A0 D0 : Nat) (hz : Rt w B s0 A0 D0) (hx : Rv w C p q k) (hy : Rv w E p' q' k') (hk : k + k' + 2 < 32000000) :
    Calls Try.prog 33 #[.pointer (some ⟨B, 0, none⟩), .pointer (some ⟨C, 0, none⟩), .pointer (some ⟨E, 0, none⟩)] w fun e w' => Sv w B (p * q' - p' * q) (q * q') (k + k' + 2) e w' := by
  obtain ⟨s, A, D, h1, h2, h3, h4⟩ := hx
  obtain ⟨t, X, F, k1, k2, k3, k4⟩ := hy
  go_enter Try.func33, Try.ntmps33
  go_wp2_with fail
  refine (radded_any B C E s t s0 true A D X F A0 D0 k k' w hz h1 k1 h3 h4 k3 k4 hk).mono ?_
  intro e w1 hs
  have hs2 : Sv w B (p * q' - p' * q) (q * q') (k + k' + 2) e w1 := hs.conv (Nat.mul_pos (den_pos _) (den_pos _)) (by
    rw [show sv (t != true) X = - sv t X by cases t <;> simp [sv]]
    rw [Int.natCast_mul, Int.natCast_mul]
    have e1 : (sv s A * den F + -sv t X * den D) * ((q : Int) * q') = (sv s A * q) * den F * q' - (sv t X * q') * den D * q := by grind
    rw [e1, h2, k2]; grind)
  obtain ⟨rfl, r2⟩ := hs2
  go_wp2
  go_ret
  exact ⟨rfl, r2⟩
theorem crI_scale (x y c : Int) (h : 0 < c) : crI (x * c) (y * c) = crI x y := by
  unfold crI
  have e1 : x * c < y * c ↔ x < y := ⟨fun k => Int.lt_of_mul_lt_mul_right k (by omega), fun k => Int.mul_lt_mul_of_pos_right k h⟩
  have e2 : x * c = y * c ↔ x = y := ⟨fun k => Int.eq_of_mul_eq_mul_right (by omega) k, fun k => by rw [k]⟩
  simp only [e1, e2]
theorem rcmp_any (B C : Nat) (p p' : Int) (q q' k : Nat) (w : World) (hx : Rv w B p q k) (hy : Rv w C p' q' k) (hq : 0 < q) (hq' : 0 < q') (hk : k ≤ 32000000) :
    Calls Try.prog 26 #[.pointer (some ⟨B, 0, none⟩), .pointer (some ⟨C, 0, none⟩)] w fun e w' => e = .returned (.int .i64 (crI (p * q') (p' * q))) ∧ Fr w w' := by
  obtain ⟨s, A, D, h1, h2, h3, h4⟩ := hx
  obtain ⟨t, X, F, k1, k2, k3, k4⟩ := hy
  have e : crI (sv s A * den F) (sv t X * den D) = crI (p * q') (p' * q) := by
    have c1 : (0 : Int) < (q : Int) * q' := Int.mul_pos (by omega) (by omega)
    have c2 : (0 : Int) < (den D : Int) * den F := Int.mul_pos (by have := den_pos D; omega) (by have := den_pos F; omega)
    rw [← crI_scale (sv s A * den F) (sv t X * den D) _ c1, ← crI_scale (p * q') (p' * q) _ c2]
    have e1 : sv s A * den F * ((q : Int) * q') = (sv s A * q) * den F * q' := by grind
    have e2 : sv t X * den D * ((q : Int) * q') = (sv t X * q') * den D * q := by grind
    rw [e1, e2, h2, k2]
    congr 1
    · grind
    · grind
  rw [← e]
  exact cmp_any B C s t A D X F w h1 k1 (by omega) (by omega) (by omega) (by omega)
end Go.Proofs.Ythfdcembajhgcaa
