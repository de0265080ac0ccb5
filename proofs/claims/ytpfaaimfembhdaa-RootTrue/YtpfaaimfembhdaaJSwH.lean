/-
  OWN TEXT: package eddybig's fractions as Lean's: what Add, Sub, Mul, Cmp, SetFloat64 do, in fractions.
-/
import Derived.Test.YtpfaaimfembhdaaJSwAToSwB
import Derived.Test.YtpfaaimfembhdaaJBgUToBgY
import Derived.Test.YtpfaaimfembhdaaJBgZ
namespace Go.Proofs.Ytpfaaimfembhdaa
open Go.ChangeShapes Go.WideShapes Go.ChangeAt Go.RowKit
open Bg
set_option linter.unusedVariables false
theorem rt_mk (w : World) : Rt (w.alloc (.cells #[.bool false, .slice none 0 0, .slice none 0 0] 43)) w.heap.size false 0 0 := by
  refine ⟨⟨by simp, fun i x => ?_, fun i => World.frozen?_alloc_at _ _ _ _ rfl⟩, by simp, ⟨.slice none 0 0, by simp, nm_nil _⟩, ⟨.slice none 0 0, by simp, nm_nil _⟩⟩
  rw [World.cell?_alloc_at _ _ _ _ rfl]
  rcases i with _ | _ | _ | i <;> simp
/-- the fraction at B is worth r; k bounds its bits -/
def Rf (w : World) (B : Nat) (r : Rat) (k : Nat) : Prop := ∃ (p : Int) (q : Nat), 0 < q ∧ r * (q : Rat) = (p : Rat) ∧ Rv w B p q k
theorem Rf.mono {w w' : World} {B k : Nat} {r : Rat} (h : Rf w B r k) (f : Fr w w') : Rf w' B r k := by
  obtain ⟨p, q, h1, h2, h3⟩ := h
  exact ⟨p, q, h1, h2, h3.mono f⟩
theorem Rf.up {w : World} {B k k' : Nat} {r : Rat} (h : Rf w B r k) (hk : k ≤ k') : Rf w B r k' := by
  obtain ⟨p, q, h1, h2, s, A, D, h3, h4, h5, h6⟩ := h
  exact ⟨p, q, h1, h2, s, A, D, h3, h4, by omega, by omega⟩
theorem Rf.rt {w : World} {B k : Nat} {r : Rat} (h : Rf w B r k) : ∃ s A D, Rt w B s A D := by
  obtain ⟨p, q, h1, h2, s, A, D, h3, h4⟩ := h
  exact ⟨s, A, D, h3⟩
theorem Rf.lt {w : World} {B k : Nat} {r : Rat} (h : Rf w B r k) : B < w.heap.size := by
  obtain ⟨s, A, D, h3⟩ := h.rt
  exact h3.nw.1
theorem Rf.zero {w : World} {B : Nat} (h : Rt w B false 0 0) : Rf w B 0 1 := ⟨0, 1, by decide, by grind, false, 0, 0, h, by decide, by decide, by decide⟩
/-- what a call leaves that has set the fraction at B -/
def Sf (w : World) (B : Nat) (r : Rat) (k : Nat) (e : Ending) (w' : World) : Prop :=
  e = .returned (.pointer (some ⟨B, 0, none⟩)) ∧ Rf w' B r k ∧ ∃ w1 s x d, Fr w w1 ∧ w' = st w1 B s x d
theorem Sv.sf {w : World} {B : Nat} {p : Int} {q k : Nat} {e : Ending} {w' : World} {r : Rat} (h : Sv w B p q k e w') (hq : 0 < q) (hr : r * (q : Rat) = (p : Rat)) : Sf w B r k e w' :=
  ⟨h.1, ⟨p, q, hq, hr, h.2.1⟩, h.2.2⟩
theorem Sf.fr {w w0 : World} {B : Nat} {r : Rat} {k : Nat} {e : Ending} {w' : World} (h : Sf w B r k e w') (f : Fr w0 w) (hB : w0.heap.size ≤ B) : Fr w0 w' := by
  obtain ⟨_, _, w1, s, x, d, h1, rfl⟩ := h
  exact (f.trans h1).st hB _ _ _
theorem Sf.pre {w w0 : World} {B : Nat} {r : Rat} {k : Nat} {e : Ending} {w' : World} (h : Sf w B r k e w') (f : Fr w0 w) : Sf w0 B r k e w' := by
  obtain ⟨h1, h2, w1, s, x, d, h3, h4⟩ := h
  exact ⟨h1, h2, w1, s, x, d, f.trans h3, h4⟩
theorem st_size (w : World) (B : Nat) (s : Bool) (x d : Value) : (st w B s x d).heap.size = w.heap.size := by unfold st; simp
theorem Sf.size {w : World} {B : Nat} {r : Rat} {k : Nat} {e : Ending} {w' : World} (h : Sf w B r k e w') : w.heap.size ≤ w'.heap.size := by
  obtain ⟨_, _, w1, s, x, d, h1, rfl⟩ := h
  rw [st_size]
  exact h1.1.size
/-- another fraction stays -/
theorem Nw.ne_nm {w : World} {B C : Nat} {s : Bool} {A D : Nat} (h : Rt w B s A D) : True := trivial
theorem q_ne {q : Nat} (h : 0 < q) : (q : Rat) ≠ 0 := by
  intro e
  have h2 : ((q : Nat) : Rat) = ((0 : Nat) : Rat) := e
  have := Rat.natCast_inj.1 h2
  omega
theorem qadd_any (B C E k k' : Nat) (r r' : Rat) (w : World) (s0 : Bool) (A0 D0 : Nat) (hz : Rt w B s0 A0 D0) (hx : Rf w C r k) (hy : Rf w E r' k') (hk : k + k' + 2 < 32000000) :
    Calls Try.prog 18 #[.pointer (some ⟨B, 0, none⟩), .pointer (some ⟨C, 0, none⟩), .pointer (some ⟨E, 0, none⟩)] w fun e w' => Sf w B (r + r') (k + k' + 2) e w' := by
  obtain ⟨p, q, h1, h2, h3⟩ := hx
  obtain ⟨p', q', g1, g2, g3⟩ := hy
  refine (radd_any B C E p p' q q' k k' w s0 A0 D0 hz h3 g3 hk).mono fun e w' h => ?_
  refine h.sf (Nat.mul_pos h1 g1) ?_
  rw [Rat.natCast_mul, Rat.intCast_add, Rat.intCast_mul, Rat.intCast_mul, ← h2, ← g2, Rat.intCast_natCast, Rat.intCast_natCast]
  grind
theorem qsub_any (B C E k k' : Nat) (r r' : Rat) (w : World) (s0 : Bool) (A0 D0 : Nat) (hz : Rt w B s0 A0 D0) (hx : Rf w C r k) (hy : Rf w E r' k') (hk : k + k' + 2 < 32000000) :
    Calls Try.prog 16 #[.pointer (some ⟨B, 0, none⟩), .pointer (some ⟨C, 0, none⟩), .pointer (some ⟨E, 0, none⟩)] w fun e w' => Sf w B (r - r') (k + k' + 2) e w' := by
  obtain ⟨p, q, h1, h2, h3⟩ := hx
  obtain ⟨p', q', g1, g2, g3⟩ := hy
  refine (rsub_any B C E p p' q q' k k' w s0 A0 D0 hz h3 g3 hk).mono fun e w' h => ?_
  refine h.sf (Nat.mul_pos h1 g1) ?_
  rw [Rat.natCast_mul, Rat.intCast_sub, Rat.intCast_mul, Rat.intCast_mul, ← h2, ← g2, Rat.intCast_natCast, Rat.intCast_natCast]
  grind
theorem qcmp_any (B C k k' : Nat) (r r' : Rat) (w : World) (hx : Rf w B r k) (hy : Rf w C r' k') (hk : k ≤ 32000000) (hk' : k' ≤ 32000000) (hr : r ≤ r') :
    Calls Try.prog 12 #[.pointer (some ⟨B, 0, none⟩), .pointer (some ⟨C, 0, none⟩)] w fun e w' => ∃ c : Int, e = .returned (.int .i64 c) ∧ c ≤ 0 ∧ Fr w w' := by
  obtain ⟨p, q, h1, h2, h3⟩ := hx.up (Nat.le_max_left k k')
  obtain ⟨p', q', g1, g2, g3⟩ := hy.up (Nat.le_max_right k k')
  refine (rcmp_any B C p p' q q' (max k k') w h3 g3 h1 g1 (by omega)).mono ?_
  rintro e w' ⟨rfl, hf⟩
  refine ⟨_, rfl, ?_, hf⟩
  have hq : 0 ≤ (q : Rat) := Rat.natCast_nonneg
  have hq' : 0 ≤ (q' : Rat) := Rat.natCast_nonneg
  have k1 := Rat.mul_le_mul_of_nonneg_right (Rat.mul_le_mul_of_nonneg_right hr hq) hq'
  rw [h2, show r' * (q : Rat) * (q' : Rat) = r' * (q' : Rat) * (q : Rat) by grind, g2] at k1
  have k2 : ((p * (q' : Int) : Int) : Rat) ≤ ((p' * (q : Int) : Int) : Rat) := by
    rw [Rat.intCast_mul, Rat.intCast_mul, Rat.intCast_natCast, Rat.intCast_natCast]; exact k1
  have k3 := Rat.intCast_le_intCast.1 k2
  unfold crI
  split
  · decide
  · split
    · decide
    · omega
theorem qset_any (B x : Nat) (w : World) (s0 : Bool) (A0 D0 : Nat) (hz : Rt w B s0 A0 D0) (hx : Sv.Fi x) :
    Calls Try.prog 25 #[.pointer (some ⟨B, 0, none⟩), .float .f64 x] w fun e w' => Sf w B (Sv.rv x) 2200 e w' := by
  obtain ⟨c, hc⟩ : ∃ c, c = 1074 := ⟨_, rfl⟩
  refine (setfloat_any B x c w s0 A0 D0 hz hx.1 hx.2 hc).mono ?_
  rintro e w' ⟨rfl, h⟩
  refine h.sf (Nat.two_pow_pos c) ?_
  have h1 := Sv.unit_of c
  unfold Sv.rv Sv.en
  rw [← hc]
  generalize ((2 ^ c : Nat) : Rat) = W at *
  rw [show ∀ a b : Rat, a * b * W = a * (W * b) by intro a b; grind, h1]
  grind
end Go.Proofs.Ytpfaaimfembhdaa
