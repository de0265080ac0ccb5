/-
  OWN TEXT: what Whole of package float returns, for every float.
-/
import Derived.Test.YtgljnklaabbidaaGreatJFnToFnStairs
import Derived.Test.YtgljnklaabbidaaGreatJFlCToFlG
namespace Go.Proofs.YtgljnklaabbidaaGreat
open Go.ChangeShapes Go.WideShapes Go.ChangeAt Go.RowKit
theorem even_call (x : Nat) (w : World) : (callFunc 75 #[.float .f64 x]).run Tryz.prog w = ((Extern.MathFloor.toIntegral "math.RoundToEven" .even #[.float .f64 x]).run Tryz.prog w).andThen fun v w' => .ok (.value v) w' := by
  rw [run_callFunc_extern Tryz.func75 (by kernel_rfl) (by kernel_rfl) (by kernel_rfl) (show Extern.find Tryz.f75 = some (Extern.MathFloor.toIntegral "math.RoundToEven" .even) by kernel_rfl)]
theorem even_of (x : Nat) (d : Ieee.Datum) (h : FloatKind.f64.decode x = d) (hn : d.isNaN = false) : Extern.MathFloor.toIntegral "math.RoundToEven" .even #[.float .f64 x] = pure (.float .f64 (FloatKind.f64.encode (d.integral .even))) := by
  change (Extern.MathFloor.toIntegral.match_1 _ (FloatKind.f64.decode x) _ _) = _
  rw [h]
  cases d with
  | number s m i => rfl
  | infinity s => rfl
  | nan s t => cases hn
theorem even_none (x : Nat) (s : Bool) (t : Nat) (h : FloatKind.f64.decode x = .nan s t) : ∃ q, q.forced = false ∧ Extern.MathFloor.toIntegral "math.RoundToEven" .even #[.float .f64 x] = if FloatKind.f64.format.quiet t = t then pure (.float .f64 x) else (choose q).bind fun kept => pure (.float .f64 (if kept == 1 then x else FloatKind.f64.encode (.nan s (FloatKind.f64.format.quiet t)))) := by
  refine ⟨?q, ?_, ?_⟩
  rotate_left 2
  · change (Extern.MathFloor.toIntegral.match_1 _ (FloatKind.f64.decode x) _ _) = _
    rw [h]
    rfl
  · rfl
theorem even_num (x : Nat) (w : World) (hn : Fl.nan x = false) : (callFunc 75 #[.float .f64 x]).run Tryz.prog w = .ok (.value (.float .f64 (Fl.whF x))) w := by
  have hl := Fl.nan_le hn
  rw [even_call, even_of x (Ieee.double.read x) rfl ?_]
  · rfl
  · by_cases c : Fl.rg x = 9218868437227405312
    · rw [Fl.read_inf c]; rfl
    · obtain ⟨m, k, hm, _⟩ := Fl.read_fin (x := x) (by omega)
      rw [hm]; rfl
theorem quiet_nan (s : Bool) (t : Nat) (ht : t < 4503599627370496) : Fl.nan (FloatKind.f64.encode (.nan s (FloatKind.f64.format.quiet t))) = true ∧ FloatKind.f64.encode (.nan s (FloatKind.f64.format.quiet t)) < 18446744073709551616 := by
  have e : FloatKind.f64.encode (.nan s (FloatKind.f64.format.quiet t)) = Fl.wd s (9218868437227405312 + (t ||| 2 ^ 51) % 4503599627370496) := by cases s <;> rfl
  have h1 : (t ||| 2 ^ 51) < 2 ^ 52 := Nat.or_lt_two_pow (by omega) (by omega)
  have h2 : 2 ^ 51 ≤ t ||| 2 ^ 51 := Nat.right_le_or
  rw [e, Nat.mod_eq_of_lt (by omega)]
  generalize (t ||| 2 ^ 51) = a at *
  refine ⟨?_, Fl.wd_lt _ _ (by omega)⟩
  unfold Fl.nan
  rw [Fl.rg_wd _ _ (by omega)]
  exact decide_eq_true (by omega)
theorem even_nan (x : Nat) (w : World) (hx : x < 18446744073709551616) (hn : Fl.nan x = true) : ∃ z w', (callFunc 75 #[.float .f64 x]).run Tryz.prog w = .ok (.value (.float .f64 z)) w' ∧ Fl.nan z = true ∧ z < 18446744073709551616 ∧ Grown w w' := by
  have hl := Fl.nan_lt hn
  have hr := Fl.rg_lt x
  obtain ⟨q, hq, e⟩ := even_none x (Fl.sg x) (Fl.rg x - 9218868437227405312) (Fl.read_nan hl)
  have hz := quiet_nan (Fl.sg x) (Fl.rg x - 9218868437227405312) (by omega)
  rw [even_call, e]
  by_cases c : FloatKind.f64.format.quiet (Fl.rg x - 9218868437227405312) = Fl.rg x - 9218868437227405312
  · rw [if_pos c]; exact ⟨x, w, rfl, hn, hx, Grown.refl _⟩
  · rw [if_neg c]
    generalize FloatKind.f64.encode (.nan (Fl.sg x) (FloatKind.f64.format.quiet (Fl.rg x - 9218868437227405312))) = z at *
    by_cases k : (q.cut (w.tape w.drawn q) == 1) = true
    · refine ⟨x, w.drew, ?_, hn, hx, (Grown.refl _).drew⟩
      have : ((choose q).bind fun kept => pure (Value.float .f64 (if kept == 1 then x else z))).run Tryz.prog w = .ok (.float .f64 x) w.drew := by
        show Sem.run Tryz.prog (Sem.choose q fun kept => _) w = _
        simp only [Sem.run, hq, Bool.false_eq_true, if_false]
        change Result.ok (Value.float .f64 (if (q.cut (w.tape w.drawn q) == 1) = true then x else z)) w.drew = _
        rw [if_pos k]
      rw [this]; rfl
    · refine ⟨z, w.drew, ?_, hz.1, hz.2, (Grown.refl _).drew⟩
      have : ((choose q).bind fun kept => pure (Value.float .f64 (if kept == 1 then x else z))).run Tryz.prog w = .ok (.float .f64 z) w.drew := by
        show Sem.run Tryz.prog (Sem.choose q fun kept => _) w = _
        simp only [Sem.run, hq, Bool.false_eq_true, if_false]
        change Result.ok (Value.float .f64 (if (q.cut (w.tape w.drawn q) == 1) = true then x else z)) w.drew = _
        rw [if_neg k]
      rw [this]; rfl
theorem whole_num (x : Nat) (w : World) (hn : Fl.nan x = false) : Calls Tryz.prog 70 #[.float .f64 x] w fun e w' => e = .returned (.float .f64 (Fl.whF x)) ∧ w' = w := by
  have c := fun w => even_num x w hn
  go_enter Tryz.func70, Tryz.ntmps70
  go_wp2
  go_ret
  exact ⟨rfl, rfl⟩
theorem whole_nan (x : Nat) (w : World) (hx : x < 18446744073709551616) (hn : Fl.nan x = true) : Calls Tryz.prog 70 #[.float .f64 x] w fun e w' => ∃ z, e = .returned (.float .f64 z) ∧ Fl.nan z = true ∧ z < 18446744073709551616 ∧ Grown w w' := by
  obtain ⟨z, w1, c, hz, hl, hg⟩ := even_nan x w hx hn
  have HZ : Hid (Fl.nan z = true) := hz
  clear hz hn
  go_enter Tryz.func70, Tryz.ntmps70
  go_wp2
  go_ret
  exact ⟨z, rfl, HZ.out, hl, hg⟩
end Go.Proofs.YtgljnklaabbidaaGreat
