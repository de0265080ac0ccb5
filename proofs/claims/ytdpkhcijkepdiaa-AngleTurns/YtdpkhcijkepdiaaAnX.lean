/-
  OWN TEXT: the laws AngleTurns and AnglePlaces, for every float.
-/
import Derived.Test.YtdpkhcijkepdiaaAnW
import Derived.Test.YtdpkhcijkepdiaaAnE
import Derived.Test.YtdpkhcijkepdiaaAnF
namespace Go.Proofs.Ytdpkhcijkepdiaa
open Go.ChangeShapes Go.WideShapes Go.ChangeAt Go.RowKit
set_option linter.unusedVariables false
attribute [local go_sem] frombits_call tobits_call run_neg
set_option maxHeartbeats 8000000 in
set_option maxRecDepth 100000 in
theorem angleturns_any (x : Nat) (w : World) (hx : x < 18446744073709551616) : Calls Try.prog 3 #[.float .f64 x] w fun e w' => e = .returned (.bool true) ∧ Below w.heap.size w w' := by
  go_enter Try.func3, Try.ntmps3
  go_wp2_with fail
  refine (alive5_any _).mono ?_
  rintro e w1 ⟨rfl, G⟩
  go_wp2_with fail
  refine (turn_any x _ hx).mono ?_
  rintro e w2 ⟨s, c, rfl, h1, b⟩
  have H1 : Hid (turR x s c) := h1
  replace G := bw_trans G b
  clear b h1
  go_wp2_with fail
  refine (rturn_any x _ hx).mono ?_
  rintro e w3 ⟨t, d, rfl, h2, b⟩
  have S1 : Hid (simR s t ∧ simR c d) := H1.out.sim hx h2
  replace G := bw_trans G b
  clear b h2 H1
  go_wp2_with fail
  refine (quarter_any x _ hx).mono ?_
  rintro e w4 ⟨y, n, rfl, h3, b⟩
  have H3 : Hid (quaR x y n) := h3
  replace G := bw_trans G b
  clear b h3
  go_wp2_with fail
  refine (rquarter_any x _ hx).mono ?_
  rintro e w5 ⟨z, m, rfl, h4, b⟩
  have S2 : Hid (simR y z ∧ n = m) := H3.out.sim hx h4
  have em := S2.out.2
  subst em
  replace G := bw_trans G b
  clear b h4 H3
  go_wp2_with fail
  refine (pi_any _).mono ?_
  rintro e w5 ⟨rfl, rfl⟩
  go_wp2_with fail
  refine (is5_yes S1.out.1 _).mono ?_
  rintro e w5 ⟨rfl, rfl⟩
  go_wp2_with fail
  refine (is5_yes S1.out.2 _).mono ?_
  rintro e w5 ⟨rfl, rfl⟩
  go_wp2_with fail
  refine (is5_yes S2.out.1 _).mono ?_
  rintro e w5 ⟨rfl, rfl⟩
  clear S1 S2
  go_wp2_with fail
  refine (wrap_any x _ hx).mono ?_
  rintro e w6 ⟨u, rfl, h5, b⟩
  have H5 : Hid (wraR x u) := h5
  replace G := bw_trans G b
  clear b h5
  go_wp2_with fail
  refine (rwrap_any x _ hx).mono ?_
  rintro e w7 ⟨v, rfl, h6, b⟩
  have S3 : Hid (simR u v) := H5.out.sim h6
  replace G := bw_trans G b
  clear b h6 H5
  go_wp2_with fail
  refine (is5_yes S3.out _).mono ?_
  rintro e w7 ⟨rfl, rfl⟩
  clear S3
  go_wp2_with fail
  refine (rhigh_any _).mono ?_
  rintro e w7 ⟨rfl, rfl⟩
  go_wp2_with fail
  refine (is5_yes (simR.refl 4614256656552045848) _).mono ?_
  rintro e w7 ⟨rfl, rfl⟩
  go_wp2_with fail
  refine (rlow_any _).mono ?_
  rintro e w7 ⟨rfl, rfl⟩
  go_wp2_with fail
  refine (is5_yes (simR.refl 4368955796522032135) _).mono ?_
  rintro e w7 ⟨rfl, rfl⟩
  go_wp2
  go_ret
  exact ⟨rfl, G⟩
set_option maxHeartbeats 8000000 in
set_option maxRecDepth 100000 in
theorem angleplaces_any (y x : Nat) (w : World) (hy : y < 18446744073709551616) (hx : x < 18446744073709551616) : Calls Try.prog 4 #[.float .f64 y, .float .f64 x] w fun e w' => e = .returned (.bool true) ∧ Below w.heap.size w w' := by
  go_enter Try.func4, Try.ntmps4
  go_wp2_with fail
  refine (alive5_any _).mono ?_
  rintro e w1 ⟨rfl, G⟩
  go_wp2_with fail
  refine (of_any y x _ hy hx).mono ?_
  rintro e w2 ⟨a, rfl, h1, _, b⟩
  have H1 : Hid (offR y x a) := h1
  replace G := bw_trans G b
  clear b h1
  go_wp2_with fail
  refine (rof_any y x _ hy hx).mono ?_
  rintro e w3 ⟨c, rfl, h2, _, b⟩
  have S : Hid (simR a c) := H1.out.sim h2
  replace G := bw_trans G b
  clear b h2 H1
  go_wp2_with fail
  refine (is5_yes S.out _).mono ?_
  rintro e w3 ⟨rfl, rfl⟩
  clear S
  go_wp2_with fail
  refine (of_any x y _ hx hy).mono ?_
  rintro e w4 ⟨a, rfl, h1, _, b⟩
  have H1 : Hid (offR x y a) := h1
  replace G := bw_trans G b
  clear b h1
  go_wp2_with fail
  refine (rof_any x y _ hx hy).mono ?_
  rintro e w5 ⟨c, rfl, h2, _, b⟩
  have S : Hid (simR a c) := H1.out.sim h2
  replace G := bw_trans G b
  clear b h2 H1
  go_wp2_with fail
  refine (is5_yes S.out _).mono ?_
  rintro e w5 ⟨rfl, rfl⟩
  clear S
  go_wp2_with fail
  refine (tan_any y _ hy).mono ?_
  rintro e w6 ⟨a, rfl, h1, _, b⟩
  have H1 : Hid (offR y 4607182418800017408 a) := h1
  replace G := bw_trans G b
  clear b h1
  go_wp2_with fail
  refine (rtan_any y _ hy).mono ?_
  rintro e w7 ⟨c, rfl, h2, _, b⟩
  have S : Hid (simR a c) := H1.out.sim h2
  replace G := bw_trans G b
  clear b h2 H1
  go_wp2_with fail
  refine (is5_yes S.out _).mono ?_
  rintro e w7 ⟨rfl, rfl⟩
  clear S
  go_wp2
  go_ret
  exact ⟨rfl, G⟩
end Go.Proofs.Ytdpkhcijkepdiaa
