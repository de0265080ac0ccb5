/-
  OWN TEXT: the law AngleMirror, for every two floats.
-/
import Derived.Test.YtdpkhcijkepdiaaAnW
import Derived.Test.YtdpkhcijkepdiaaAnN
namespace Go.Proofs.Ytdpkhcijkepdiaa
open Go.ChangeShapes Go.WideShapes Go.ChangeAt Go.RowKit
set_option linter.unusedVariables false
attribute [local go_sem] frombits_call tobits_call run_neg
set_option maxHeartbeats 8000000 in
set_option maxRecDepth 100000 in
theorem anglemirror_any (y x : Nat) (w : World) (hy : y < 18446744073709551616) (hx : x < 18446744073709551616) : Calls Try.prog 5 #[.float .f64 y, .float .f64 x] w fun e w' => e = .returned (.bool true) ∧ Below w.heap.size w w' := by
  have hn := Fl.neg_eq hy
  have hny := Fl.ng_lt hy
  have o1 := Fl.o_ne y y
  have o2 := Fl.o_ne x x
  rw [Fl.eqF_self, Bool.not_not] at o1 o2
  go_enter Try.func5, Try.ntmps5
  go_wp2_with fail
  refine (alive5_any _).mono ?_
  rintro e w1 ⟨rfl, G⟩
  go_wp2_with fail
  refine (turn_any y _ hy).mono ?_
  rintro e w2 ⟨s, c, rfl, h1, b⟩
  have H1 : Hid (turR y s c) := h1
  have hs := Fl.neg_eq h1.1
  replace G := bw_trans G b
  clear b h1
  go_wp2_with fail
  refine (turn_any (Fl.ng y) _ hny).mono ?_
  rintro e w3 ⟨t, d, rfl, h2, b⟩
  have S1 : Hid (simR t (Fl.ng s) ∧ simR d c) := tur_mir hy H1.out h2
  replace G := bw_trans G b
  clear b h2 H1
  go_wp2_with fail
  refine (quarter_any y _ hy).mono ?_
  rintro e w4 ⟨q, n, rfl, h3, b⟩
  have H3 : Hid (quaR y q n) := h3
  have hq := Fl.neg_eq h3.1
  have r1 := h3.range
  replace G := bw_trans G b
  clear b h3
  go_wp2_with fail
  refine (quarter_any (Fl.ng y) _ hny).mono ?_
  rintro e w5 ⟨r, m, rfl, h4, b⟩
  have r2 := h4.range
  have S2 : Hid (simR r (Fl.ng q)) := (qua_mir hy H3.out h4).1.sim
  have S3 := (qua_mir hy H3.out h4).2
  have S4 : (n + m).tmod 4 = 0 := by rw [Int.tmod_eq_emod_of_nonneg (by omega)]; exact S3
  replace G := bw_trans G b
  clear b h4 H3 S3
  go_wp2_with fail
  refine (is5_yes S1.out.1 _).mono ?_
  rintro e w5 ⟨rfl, rfl⟩
  go_wp2_with fail
  refine (is5_yes S1.out.2 _).mono ?_
  rintro e w5 ⟨rfl, rfl⟩
  go_wp2_with fail
  refine (is5_yes S2.out _).mono ?_
  rintro e w5 ⟨rfl, rfl⟩
  clear S1 S2
  cases c1 : Fl.nan y
  · rw [c1] at o1
    cases c2 : Fl.nan x
    · rw [c2] at o2
      go_wp2_with fail
      refine (of_any (Fl.ng y) x _ hny hx).mono ?_
      rintro e w6 ⟨a, rfl, h5, _, b⟩
      have H5 : Hid (offR (Fl.ng y) x a) := h5
      replace G := bw_trans G b
      clear b h5
      go_wp2_with fail
      refine (of_any y x _ hy hx).mono ?_
      rintro e w7 ⟨a', rfl, h6, l6, b⟩
      have S5 : Hid (simR a (Fl.ng a')) := off_mir hy l6 h6 H5.out
      have ha := Fl.neg_eq l6
      replace G := bw_trans G b
      clear b h6 H5
      go_wp2_with fail
      refine (is5_yes S5.out _).mono ?_
      rintro e w7 ⟨rfl, rfl⟩
      clear S5
      go_wp2_with fail
      refine (tan_any (Fl.ng y) _ hny).mono ?_
      rintro e w8 ⟨u, rfl, h7, _, b⟩
      have H7 : Hid (offR (Fl.ng y) 4607182418800017408 u) := h7
      replace G := bw_trans G b
      clear b h7
      go_wp2_with fail
      refine (tan_any y _ hy).mono ?_
      rintro e w9 ⟨u', rfl, h8, l8, b⟩
      have S6 : Hid (simR u (Fl.ng u')) := off_mir hy l8 h8 H7.out
      have hu := Fl.neg_eq l8
      replace G := bw_trans G b
      clear b h8 H7
      go_wp2_with fail
      refine (is5_yes S6.out _).mono ?_
      rintro e w9 ⟨rfl, rfl⟩
      clear S6
      go_wp2
      go_ret
      exact ⟨rfl, G⟩
    · rw [c2] at o2
      go_wp2
      go_ret
      exact ⟨rfl, G⟩
  · rw [c1] at o1
    go_wp2
    go_ret
    exact ⟨rfl, G⟩
end Go.Proofs.Ytdpkhcijkepdiaa
