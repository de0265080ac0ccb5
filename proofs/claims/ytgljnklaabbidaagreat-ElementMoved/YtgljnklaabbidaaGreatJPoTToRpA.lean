/-
  OWN TEXT: package power, as it landed: sines, cosines, their hyperbolic ones, logarithms, sheets, for every number.
-/
import Derived.Test.YtgljnklaabbidaaGreatJPoA
import Derived.Test.YtgljnklaabbidaaGreatJRoOToRoP
import Derived.Test.YtgljnklaabbidaaGreatJEpBToEpL
import Derived.Laws.Rows
import Derived.Test.YtgljnklaabbidaaGreatJBhL
import Derived.Test.YtgljnklaabbidaaGreatJFnEqToEqE
import Derived.Test.YtgljnklaabbidaaGreatJFlCToFlG
namespace Go.Proofs.YtgljnklaabbidaaGreat
open Go.ChangeShapes Go.WideShapes Go.ChangeAt Go.RowKit
set_option linter.unusedVariables false
attribute [local go_sem] frombits_call tobits_call run_neg
theorem run_store_func {P : Program} {w : World} {a : Addr} {m : Mode} (f : Fn) (x y : Array Value) : (store a (.func f x y) m).run P w = stored P w a (.func f x y) m := run_store P w a _ m rfl
attribute [local go_sem] run_store_func
theorem nanN : Fl.nan 9221120237041090561 = true := by decide
theorem op_nan7 {op : BinOp} (ho : isOp op) {a b z : Nat} (h : Fl.nan a = true ∨ Fl.nan b = true) (hz : Fl.nan z = true) (hl : z < 18446744073709551616) : opR op a b z := by
  refine ⟨hl, Or.inr ⟨?_, hz⟩⟩
  rcases h with h | h
  · exact nan_left op ho h
  · exact nan_right op ho h
theorem sinQ_nan {z t : Nat} (hz : Fl.nan z = true) (ht : Fl.nan t = true) (hl : t < 18446744073709551616) (i : Nat) : sinQ z (i + 1) t := by
  have key : ∃ u, sinQ z i u := by
    induction i with
    | zero => exact ⟨_, rfl⟩
    | succ i ih =>
      obtain ⟨u, hu⟩ := ih
      exact ⟨9221120237041090561, u, 9221120237041090561, 9221120237041090561, hu, op_nan7 isQuo (Or.inl hz) nanN (by decide), op_nan7 isMul (Or.inl nanN) nanN (by decide), op_nan7 isSub (Or.inr nanN) nanN (by decide)⟩
  obtain ⟨u, hu⟩ := key
  exact ⟨u, 9221120237041090561, 9221120237041090561, hu, op_nan7 isQuo (Or.inl hz) nanN (by decide), op_nan7 isMul (Or.inl nanN) nanN (by decide), op_nan7 isSub (Or.inr nanN) ht hl⟩
theorem cosQ_nan {z t : Nat} (hz : Fl.nan z = true) (ht : Fl.nan t = true) (hl : t < 18446744073709551616) (i : Nat) : cosQ z (i + 1) t := by
  have key : ∃ u, cosQ z i u := by
    induction i with
    | zero => exact ⟨_, rfl⟩
    | succ i ih =>
      obtain ⟨u, hu⟩ := ih
      exact ⟨9221120237041090561, u, 9221120237041090561, 9221120237041090561, hu, op_nan7 isQuo (Or.inl hz) nanN (by decide), op_nan7 isMul (Or.inl nanN) nanN (by decide), op_nan7 isSub (Or.inr nanN) nanN (by decide)⟩
  obtain ⟨u, hu⟩ := key
  exact ⟨u, 9221120237041090561, 9221120237041090561, hu, op_nan7 isQuo (Or.inl hz) nanN (by decide), op_nan7 isMul (Or.inl nanN) nanN (by decide), op_nan7 isSub (Or.inr nanN) ht hl⟩
theorem sinR_lt {y s : Nat} (h : sinR y s) : s < 18446744073709551616 := by obtain ⟨z, t, _, _, h⟩ := h; exact h.1
theorem cosR_lt {y s : Nat} (h : cosR y s) : s < 18446744073709551616 := by obtain ⟨z, _, t, d, p, _, _, _, h⟩ := h; exact h.1
theorem sinR_turn {y y' s : Nat} (h : sinR y' s) (e : simR y y') : sinR y s := by
  rcases e with rfl | ⟨e1, e2⟩
  · exact h
  · exact ⟨9221120237041090561, 9221120237041090561, op_nan7 isMul (Or.inl e1) nanN (by decide), sinQ_nan nanN nanN (by decide) 8, op_nan7 isMul (Or.inl e1) (sinR_nan h e2) (sinR_lt h)⟩
theorem cosR_turn {y y' s : Nat} (h : cosR y' s) (e : simR y y') : cosR y s := by
  rcases e with rfl | ⟨e1, e2⟩
  · exact h
  · exact ⟨9221120237041090561, op_nan7 isMul (Or.inl e1) nanN (by decide), cosQ_nan nanN (cosR_nan h e2) (cosR_lt h) 8⟩
/-- the sine of one call, the cosine of another -/
theorem tur_mix {x s c s' c' : Nat} (hx : x < 18446744073709551616) (h : turR x s c') (k : turR x s' c) : turR x s c := by
  obtain ⟨h1, _, h⟩ := h
  obtain ⟨_, k2, k⟩ := k
  refine ⟨h1, k2, ?_⟩
  by_cases f : fitB x = true
  · rw [if_pos f] at h k ⊢
    obtain ⟨y, n, s0, c0, a1, a2, a3, a4⟩ := h
    obtain ⟨y', n', s1, c1, b1, b2, b3, b4⟩ := k
    obtain ⟨ey, en⟩ := a1.sim hx b1
    subst en
    have g2 := sinR_turn b2 ey
    have g3 := cosR_turn b3 ey
    rcases a4 with ⟨e, rfl, rfl⟩ | ⟨e, rfl, rfl⟩ | ⟨e, rfl, rfl⟩ | ⟨e, rfl, rfl⟩ <;> rcases b4 with ⟨e', d1, d2⟩ | ⟨e', d1, d2⟩ | ⟨e', d1, d2⟩ | ⟨e', d1, d2⟩ <;> first | (exfalso; omega) | skip
    · exact ⟨y, n, s, c1, a1, a2, g3, Or.inl ⟨e, rfl, d2⟩⟩
    · exact ⟨y, n, s1, s, a1, g2, a3, Or.inr (Or.inl ⟨e, rfl, d2⟩)⟩
    · exact ⟨y, n, s0, c1, a1, a2, g3, Or.inr (Or.inr (Or.inl ⟨e, rfl, d2⟩))⟩
    · exact ⟨y, n, s1, c0, a1, g2, a3, Or.inr (Or.inr (Or.inr ⟨e, rfl, d2⟩))⟩
  · rw [if_neg f] at h k ⊢
    exact ⟨h.1, k.2⟩
end Go.Proofs.YtgljnklaabbidaaGreat
/-
  OWN TEXT: package parts: signs turned (parts.turned, Conj, Neg, Mirror, Times), for every number.
-/
namespace Go.Proofs.YtgljnklaabbidaaGreat
open Go.ChangeShapes Go.WideShapes Go.ChangeAt Go.RowKit
set_option linter.unusedVariables false
attribute [local go_sem] frombits_call tobits_call run_neg
theorem xor_sign {x : Nat} (h : x < 18446744073709551616) : bits .xor .u64 (x : Int) 9223372036854775808 = ((Fl.ng x : Nat) : Int) := by
  have e := u64_xor_nat x 9223372036854775808 h (by omega)
  rw [show ((9223372036854775808 : Nat) : Int) = 9223372036854775808 from rfl] at e
  rw [e, ← Fl.neg_eq h]
  rfl
theorem turned_any (x : Nat) (w : World) (hx : x < 18446744073709551616) : Calls Tryz.prog 33 #[.float .f64 x] w fun e w' => e = .returned (.float .f64 (Fl.ng x)) ∧ w' = w := by
  have k := xor_sign hx
  go_enter Tryz.func33, Tryz.ntmps33
  go_wp2
  go_ret
  exact ⟨rfl, rfl⟩
theorem conj_any (x y : Nat) (w : World) (hy : y < 18446744073709551616) : Calls Tryz.prog 27 #[.complex .f64 x y] w fun e w' => e = .returned (.complex .f64 x (Fl.ng y)) ∧ w' = w := by
  have T : Hid (∀ wz, Calls Tryz.prog 33 #[.float .f64 y] wz fun e w' => e = .returned (.float .f64 (Fl.ng y)) ∧ w' = wz) := fun wz => turned_any y wz hy
  generalize Fl.ng y = z at *
  go_enter Tryz.func27, Tryz.ntmps27
  go_wp2_with (go_at_call 33; refine (T.out _).mono ?_; rintro e' w ⟨rfl, rfl⟩)
  go_ret
  exact ⟨rfl, rfl⟩
theorem neg2_any (x y : Nat) (w : World) (hx : x < 18446744073709551616) (hy : y < 18446744073709551616) : Calls Tryz.prog 125 #[.complex .f64 x y] w fun e w' => e = .returned (.complex .f64 (Fl.ng x) (Fl.ng y)) ∧ w' = w := by
  have T : Hid (∀ wz, Calls Tryz.prog 33 #[.float .f64 x] wz fun e w' => e = .returned (.float .f64 (Fl.ng x)) ∧ w' = wz) := fun wz => turned_any x wz hx
  have U : Hid (∀ wz, Calls Tryz.prog 33 #[.float .f64 y] wz fun e w' => e = .returned (.float .f64 (Fl.ng y)) ∧ w' = wz) := fun wz => turned_any y wz hy
  generalize Fl.ng x = z at *
  generalize Fl.ng y = v at *
  go_enter Tryz.func125, Tryz.ntmps125
  go_wp2_with fail
  refine (T.out _).mono ?_
  rintro e' w ⟨rfl, rfl⟩
  go_wp2_with fail
  refine (U.out _).mono ?_
  rintro e' w ⟨rfl, rfl⟩
  go_wp2
  go_ret
  exact ⟨rfl, rfl⟩
end Go.Proofs.YtgljnklaabbidaaGreat
