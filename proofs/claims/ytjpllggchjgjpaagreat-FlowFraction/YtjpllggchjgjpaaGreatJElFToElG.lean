/-
 OWN TEXT: package element: what may be, by its kind.
-/
import Derived.Test.YtjpllggchjgjpaaGreatJElBToElE
namespace Go.Proofs.YtjpllggchjgjpaaGreat
open Go.ChangeShapes Go.WideShapes Go.ChangeAt Go.RowKit
set_option linter.unusedVariables false
attribute [local go_sem] frombits_call tobits_call run_neg El.run_store_cx El.run_store_fl
set_option maxHeartbeats 16000000 in
theorem known1_q (a b s t p : Nat) (q1 q2 q3 q4 : Bool) (w : World)
  (A1 : Hid (∀ wz, Calls Tryz.prog 77 #[.complex .f64 a b] wz fun e w' => e = .returned (.bool q1) ∧ w' = wz))
  (A2 : Hid (∀ wz, Calls Tryz.prog 77 #[.complex .f64 s t] wz fun e w' => e = .returned (.bool q2) ∧ w' = wz))
  (A3 : Hid (∀ wz, Calls Tryz.prog 80 #[.float .f64 p, .float .f64 4787326403894837248] wz fun e w' => e = .returned (.bool q3) ∧ w' = wz))
  (A4 : Hid (q1 = true → q3 = true → ∀ wz, Calls Tryz.prog 118 #[El.E 1 a b s t p] wz fun e w' => e = .returned (.bool q4) ∧ Bw wz w')) :
  Calls Tryz.prog 53 #[El.E 1 a b s t p] w fun e w' => e = .returned (.tuple #[if q1 && q2 && q3 && q4 then .iface 117 (El.E 1 a b s t p) else .nilIface, .int .i64 (if q1 && q2 && q3 then (if q4 then 0 else 150) else 5)]) ∧ Bw w w' := by
 have S0 := El.St.new w 1 a b s t p 29
 have G := El.bw_new w (.cells #[.int .u8 1, .complex .f64 a b, .complex .f64 s t, .float .f64 p] 29)
 have KO := El.hid (fun wz => kindof1 a b s t p wz)
 have HM : ∀ w, (method 264 117 (.agg #[.int .u8 1, .complex .f64 a b, .complex .f64 s t, .float .f64 p]) "eddy/element.may").run Tryz.prog w = .ok (118, .agg #[.int .u8 1, .complex .f64 a b, .complex .f64 s t, .float .f64 p]) w := fun _ => by kernel_rfl
 unfold El.E at *
 cases q1 <;> cases q2 <;> cases q3 <;> cases q4
 ·
  go_enter Tryz.func53, Tryz.ntmps53
  go_wp2_with fail
  refine (KO.out _).mono ?_
  rintro e' w1 ⟨rfl, b1⟩
  replace G := bw_trans G b1
  obtain ⟨_, c0, c1, c2, c3⟩ := S0.bw b1
  clear S0 b1
  go_wp2_with fail
  refine (A1.out _).mono ?_
  rintro e' w9 ⟨rfl, hw9⟩
  subst hw9
  go_wp2
  go_ret2
  exact ⟨rfl, G⟩
 ·
  go_enter Tryz.func53, Tryz.ntmps53
  go_wp2_with fail
  refine (KO.out _).mono ?_
  rintro e' w1 ⟨rfl, b1⟩
  replace G := bw_trans G b1
  obtain ⟨_, c0, c1, c2, c3⟩ := S0.bw b1
  clear S0 b1
  go_wp2_with fail
  refine (A1.out _).mono ?_
  rintro e' w9 ⟨rfl, hw9⟩
  subst hw9
  go_wp2
  go_ret2
  exact ⟨rfl, G⟩
 ·
  go_enter Tryz.func53, Tryz.ntmps53
  go_wp2_with fail
  refine (KO.out _).mono ?_
  rintro e' w1 ⟨rfl, b1⟩
  replace G := bw_trans G b1
  obtain ⟨_, c0, c1, c2, c3⟩ := S0.bw b1
  clear S0 b1
  go_wp2_with fail
  refine (A1.out _).mono ?_
  rintro e' w9 ⟨rfl, hw9⟩
  subst hw9
  go_wp2
  go_ret2
  exact ⟨rfl, G⟩
 ·
  go_enter Tryz.func53, Tryz.ntmps53
  go_wp2_with fail
  refine (KO.out _).mono ?_
  rintro e' w1 ⟨rfl, b1⟩
  replace G := bw_trans G b1
  obtain ⟨_, c0, c1, c2, c3⟩ := S0.bw b1
  clear S0 b1
  go_wp2_with fail
  refine (A1.out _).mono ?_
  rintro e' w9 ⟨rfl, hw9⟩
  subst hw9
  go_wp2
  go_ret2
  exact ⟨rfl, G⟩
 ·
  go_enter Tryz.func53, Tryz.ntmps53
  go_wp2_with fail
  refine (KO.out _).mono ?_
  rintro e' w1 ⟨rfl, b1⟩
  replace G := bw_trans G b1
  obtain ⟨_, c0, c1, c2, c3⟩ := S0.bw b1
  clear S0 b1
  go_wp2_with fail
  refine (A1.out _).mono ?_
  rintro e' w9 ⟨rfl, hw9⟩
  subst hw9
  go_wp2
  go_ret2
  exact ⟨rfl, G⟩
 ·
  go_enter Tryz.func53, Tryz.ntmps53
  go_wp2_with fail
  refine (KO.out _).mono ?_
  rintro e' w1 ⟨rfl, b1⟩
  replace G := bw_trans G b1
  obtain ⟨_, c0, c1, c2, c3⟩ := S0.bw b1
  clear S0 b1
  go_wp2_with fail
  refine (A1.out _).mono ?_
  rintro e' w9 ⟨rfl, hw9⟩
  subst hw9
  go_wp2
  go_ret2
  exact ⟨rfl, G⟩
 ·
  go_enter Tryz.func53, Tryz.ntmps53
  go_wp2_with fail
  refine (KO.out _).mono ?_
  rintro e' w1 ⟨rfl, b1⟩
  replace G := bw_trans G b1
  obtain ⟨_, c0, c1, c2, c3⟩ := S0.bw b1
  clear S0 b1
  go_wp2_with fail
  refine (A1.out _).mono ?_
  rintro e' w9 ⟨rfl, hw9⟩
  subst hw9
  go_wp2
  go_ret2
  exact ⟨rfl, G⟩
 ·
  go_enter Tryz.func53, Tryz.ntmps53
  go_wp2_with fail
  refine (KO.out _).mono ?_
  rintro e' w1 ⟨rfl, b1⟩
  replace G := bw_trans G b1
  obtain ⟨_, c0, c1, c2, c3⟩ := S0.bw b1
  clear S0 b1
  go_wp2_with fail
  refine (A1.out _).mono ?_
  rintro e' w9 ⟨rfl, hw9⟩
  subst hw9
  go_wp2
  go_ret2
  exact ⟨rfl, G⟩
 ·
  go_enter Tryz.func53, Tryz.ntmps53
  go_wp2_with fail
  refine (KO.out _).mono ?_
  rintro e' w1 ⟨rfl, b1⟩
  replace G := bw_trans G b1
  obtain ⟨_, c0, c1, c2, c3⟩ := S0.bw b1
  clear S0 b1
  go_wp2_with fail
  refine (A1.out _).mono ?_
  rintro e' w9 ⟨rfl, hw9⟩
  subst hw9
  go_wp2_with fail
  refine (A2.out _).mono ?_
  rintro e' w9 ⟨rfl, hw9⟩
  subst hw9
  go_wp2
  go_ret2
  exact ⟨rfl, G⟩
 ·
  go_enter Tryz.func53, Tryz.ntmps53
  go_wp2_with fail
  refine (KO.out _).mono ?_
  rintro e' w1 ⟨rfl, b1⟩
  replace G := bw_trans G b1
  obtain ⟨_, c0, c1, c2, c3⟩ := S0.bw b1
  clear S0 b1
  go_wp2_with fail
  refine (A1.out _).mono ?_
  rintro e' w9 ⟨rfl, hw9⟩
  subst hw9
  go_wp2_with fail
  refine (A2.out _).mono ?_
  rintro e' w9 ⟨rfl, hw9⟩
  subst hw9
  go_wp2
  go_ret2
  exact ⟨rfl, G⟩
 ·
  go_enter Tryz.func53, Tryz.ntmps53
  go_wp2_with fail
  refine (KO.out _).mono ?_
  rintro e' w1 ⟨rfl, b1⟩
  replace G := bw_trans G b1
  obtain ⟨_, c0, c1, c2, c3⟩ := S0.bw b1
  clear S0 b1
  go_wp2_with fail
  refine (A1.out _).mono ?_
  rintro e' w9 ⟨rfl, hw9⟩
  subst hw9
  go_wp2_with fail
  refine (A2.out _).mono ?_
  rintro e' w9 ⟨rfl, hw9⟩
  subst hw9
  go_wp2
  go_ret2
  exact ⟨rfl, G⟩
 ·
  go_enter Tryz.func53, Tryz.ntmps53
  go_wp2_with fail
  refine (KO.out _).mono ?_
  rintro e' w1 ⟨rfl, b1⟩
  replace G := bw_trans G b1
  obtain ⟨_, c0, c1, c2, c3⟩ := S0.bw b1
  clear S0 b1
  go_wp2_with fail
  refine (A1.out _).mono ?_
  rintro e' w9 ⟨rfl, hw9⟩
  subst hw9
  go_wp2_with fail
  refine (A2.out _).mono ?_
  rintro e' w9 ⟨rfl, hw9⟩
  subst hw9
  go_wp2
  go_ret2
  exact ⟨rfl, G⟩
 ·
  go_enter Tryz.func53, Tryz.ntmps53
  go_wp2_with fail
  refine (KO.out _).mono ?_
  rintro e' w1 ⟨rfl, b1⟩
  replace G := bw_trans G b1
  obtain ⟨_, c0, c1, c2, c3⟩ := S0.bw b1
  clear S0 b1
  go_wp2_with fail
  refine (A1.out _).mono ?_
  rintro e' w9 ⟨rfl, hw9⟩
  subst hw9
  go_wp2_with fail
  refine (A2.out _).mono ?_
  rintro e' w9 ⟨rfl, hw9⟩
  subst hw9
  go_wp2_with fail
  refine (A3.out _).mono ?_
  rintro e' w9 ⟨rfl, hw9⟩
  subst hw9
  go_wp2
  go_ret2
  exact ⟨rfl, G⟩
 ·
  go_enter Tryz.func53, Tryz.ntmps53
  go_wp2_with fail
  refine (KO.out _).mono ?_
  rintro e' w1 ⟨rfl, b1⟩
  replace G := bw_trans G b1
  obtain ⟨_, c0, c1, c2, c3⟩ := S0.bw b1
  clear S0 b1
  go_wp2_with fail
  refine (A1.out _).mono ?_
  rintro e' w9 ⟨rfl, hw9⟩
  subst hw9
  go_wp2_with fail
  refine (A2.out _).mono ?_
  rintro e' w9 ⟨rfl, hw9⟩
  subst hw9
  go_wp2_with fail
  refine (A3.out _).mono ?_
  rintro e' w9 ⟨rfl, hw9⟩
  subst hw9
  go_wp2
  go_ret2
  exact ⟨rfl, G⟩
 ·
  go_enter Tryz.func53, Tryz.ntmps53
  go_wp2_with fail
  refine (KO.out _).mono ?_
  rintro e' w1 ⟨rfl, b1⟩
  replace G := bw_trans G b1
  obtain ⟨_, c0, c1, c2, c3⟩ := S0.bw b1
  clear S0 b1
  go_wp2_with fail
  refine (A1.out _).mono ?_
  rintro e' w9 ⟨rfl, hw9⟩
  subst hw9
  go_wp2_with fail
  refine (A2.out _).mono ?_
  rintro e' w9 ⟨rfl, hw9⟩
  subst hw9
  go_wp2_with fail
  refine (A3.out _).mono ?_
  rintro e' w9 ⟨rfl, hw9⟩
  subst hw9
  go_wp2_with fail
  refine (A4.out (by trivial) (by trivial) _).mono ?_
  rintro e' w2 ⟨rfl, b2⟩
  replace G := bw_trans G b2
  clear b2
  go_wp2
  go_ret2
  exact ⟨rfl, G⟩
 ·
  go_enter Tryz.func53, Tryz.ntmps53
  go_wp2_with fail
  refine (KO.out _).mono ?_
  rintro e' w1 ⟨rfl, b1⟩
  replace G := bw_trans G b1
  obtain ⟨_, c0, c1, c2, c3⟩ := S0.bw b1
  clear S0 b1
  go_wp2_with fail
  refine (A1.out _).mono ?_
  rintro e' w9 ⟨rfl, hw9⟩
  subst hw9
  go_wp2_with fail
  refine (A2.out _).mono ?_
  rintro e' w9 ⟨rfl, hw9⟩
  subst hw9
  go_wp2_with fail
  refine (A3.out _).mono ?_
  rintro e' w9 ⟨rfl, hw9⟩
  subst hw9
  go_wp2_with fail
  refine (A4.out (by trivial) (by trivial) _).mono ?_
  rintro e' w2 ⟨rfl, b2⟩
  replace G := bw_trans G b2
  clear b2
  go_wp2
  go_ret2
  exact ⟨rfl, G⟩
set_option maxHeartbeats 16000000 in
theorem known3_q (a b s t p : Nat) (q1 q2 q3 q4 : Bool) (w : World)
  (A1 : Hid (∀ wz, Calls Tryz.prog 77 #[.complex .f64 a b] wz fun e w' => e = .returned (.bool q1) ∧ w' = wz))
  (A2 : Hid (∀ wz, Calls Tryz.prog 77 #[.complex .f64 s t] wz fun e w' => e = .returned (.bool q2) ∧ w' = wz))
  (A3 : Hid (∀ wz, Calls Tryz.prog 80 #[.float .f64 p, .float .f64 4787326403894837248] wz fun e w' => e = .returned (.bool q3) ∧ w' = wz))
  (A4 : Hid (q1 = true → q3 = true → ∀ wz, Calls Tryz.prog 183 #[El.E 3 a b s t p] wz fun e w' => e = .returned (.bool q4) ∧ Bw wz w')) :
  Calls Tryz.prog 53 #[El.E 3 a b s t p] w fun e w' => e = .returned (.tuple #[if q1 && q2 && q3 && q4 then .iface 129 (El.E 3 a b s t p) else .nilIface, .int .i64 (if q1 && q2 && q3 then (if q4 then 0 else 150) else 5)]) ∧ Bw w w' := by
 have S0 := El.St.new w 3 a b s t p 29
 have G := El.bw_new w (.cells #[.int .u8 3, .complex .f64 a b, .complex .f64 s t, .float .f64 p] 29)
 have KO := El.hid (fun wz => kindof3 a b s t p wz)
 have HM : ∀ w, (method 264 129 (.agg #[.int .u8 3, .complex .f64 a b, .complex .f64 s t, .float .f64 p]) "eddy/element.may").run Tryz.prog w = .ok (183, .agg #[.int .u8 3, .complex .f64 a b, .complex .f64 s t, .float .f64 p]) w := fun _ => by kernel_rfl
 unfold El.E at *
 cases q1 <;> cases q2 <;> cases q3 <;> cases q4
 ·
  go_enter Tryz.func53, Tryz.ntmps53
  go_wp2_with fail
  refine (KO.out _).mono ?_
  rintro e' w1 ⟨rfl, b1⟩
  replace G := bw_trans G b1
  obtain ⟨_, c0, c1, c2, c3⟩ := S0.bw b1
  clear S0 b1
  go_wp2_with fail
  refine (A1.out _).mono ?_
  rintro e' w9 ⟨rfl, hw9⟩
  subst hw9
  go_wp2
  go_ret2
  exact ⟨rfl, G⟩
 ·
  go_enter Tryz.func53, Tryz.ntmps53
  go_wp2_with fail
  refine (KO.out _).mono ?_
  rintro e' w1 ⟨rfl, b1⟩
  replace G := bw_trans G b1
  obtain ⟨_, c0, c1, c2, c3⟩ := S0.bw b1
  clear S0 b1
  go_wp2_with fail
  refine (A1.out _).mono ?_
  rintro e' w9 ⟨rfl, hw9⟩
  subst hw9
  go_wp2
  go_ret2
  exact ⟨rfl, G⟩
 ·
  go_enter Tryz.func53, Tryz.ntmps53
  go_wp2_with fail
  refine (KO.out _).mono ?_
  rintro e' w1 ⟨rfl, b1⟩
  replace G := bw_trans G b1
  obtain ⟨_, c0, c1, c2, c3⟩ := S0.bw b1
  clear S0 b1
  go_wp2_with fail
  refine (A1.out _).mono ?_
  rintro e' w9 ⟨rfl, hw9⟩
  subst hw9
  go_wp2
  go_ret2
  exact ⟨rfl, G⟩
 ·
  go_enter Tryz.func53, Tryz.ntmps53
  go_wp2_with fail
  refine (KO.out _).mono ?_
  rintro e' w1 ⟨rfl, b1⟩
  replace G := bw_trans G b1
  obtain ⟨_, c0, c1, c2, c3⟩ := S0.bw b1
  clear S0 b1
  go_wp2_with fail
  refine (A1.out _).mono ?_
  rintro e' w9 ⟨rfl, hw9⟩
  subst hw9
  go_wp2
  go_ret2
  exact ⟨rfl, G⟩
 ·
  go_enter Tryz.func53, Tryz.ntmps53
  go_wp2_with fail
  refine (KO.out _).mono ?_
  rintro e' w1 ⟨rfl, b1⟩
  replace G := bw_trans G b1
  obtain ⟨_, c0, c1, c2, c3⟩ := S0.bw b1
  clear S0 b1
  go_wp2_with fail
  refine (A1.out _).mono ?_
  rintro e' w9 ⟨rfl, hw9⟩
  subst hw9
  go_wp2
  go_ret2
  exact ⟨rfl, G⟩
 ·
  go_enter Tryz.func53, Tryz.ntmps53
  go_wp2_with fail
  refine (KO.out _).mono ?_
  rintro e' w1 ⟨rfl, b1⟩
  replace G := bw_trans G b1
  obtain ⟨_, c0, c1, c2, c3⟩ := S0.bw b1
  clear S0 b1
  go_wp2_with fail
  refine (A1.out _).mono ?_
  rintro e' w9 ⟨rfl, hw9⟩
  subst hw9
  go_wp2
  go_ret2
  exact ⟨rfl, G⟩
 ·
  go_enter Tryz.func53, Tryz.ntmps53
  go_wp2_with fail
  refine (KO.out _).mono ?_
  rintro e' w1 ⟨rfl, b1⟩
  replace G := bw_trans G b1
  obtain ⟨_, c0, c1, c2, c3⟩ := S0.bw b1
  clear S0 b1
  go_wp2_with fail
  refine (A1.out _).mono ?_
  rintro e' w9 ⟨rfl, hw9⟩
  subst hw9
  go_wp2
  go_ret2
  exact ⟨rfl, G⟩
 ·
  go_enter Tryz.func53, Tryz.ntmps53
  go_wp2_with fail
  refine (KO.out _).mono ?_
  rintro e' w1 ⟨rfl, b1⟩
  replace G := bw_trans G b1
  obtain ⟨_, c0, c1, c2, c3⟩ := S0.bw b1
  clear S0 b1
  go_wp2_with fail
  refine (A1.out _).mono ?_
  rintro e' w9 ⟨rfl, hw9⟩
  subst hw9
  go_wp2
  go_ret2
  exact ⟨rfl, G⟩
 ·
  go_enter Tryz.func53, Tryz.ntmps53
  go_wp2_with fail
  refine (KO.out _).mono ?_
  rintro e' w1 ⟨rfl, b1⟩
  replace G := bw_trans G b1
  obtain ⟨_, c0, c1, c2, c3⟩ := S0.bw b1
  clear S0 b1
  go_wp2_with fail
  refine (A1.out _).mono ?_
  rintro e' w9 ⟨rfl, hw9⟩
  subst hw9
  go_wp2_with fail
  refine (A2.out _).mono ?_
  rintro e' w9 ⟨rfl, hw9⟩
  subst hw9
  go_wp2
  go_ret2
  exact ⟨rfl, G⟩
 ·
  go_enter Tryz.func53, Tryz.ntmps53
  go_wp2_with fail
  refine (KO.out _).mono ?_
  rintro e' w1 ⟨rfl, b1⟩
  replace G := bw_trans G b1
  obtain ⟨_, c0, c1, c2, c3⟩ := S0.bw b1
  clear S0 b1
  go_wp2_with fail
  refine (A1.out _).mono ?_
  rintro e' w9 ⟨rfl, hw9⟩
  subst hw9
  go_wp2_with fail
  refine (A2.out _).mono ?_
  rintro e' w9 ⟨rfl, hw9⟩
  subst hw9
  go_wp2
  go_ret2
  exact ⟨rfl, G⟩
 ·
  go_enter Tryz.func53, Tryz.ntmps53
  go_wp2_with fail
  refine (KO.out _).mono ?_
  rintro e' w1 ⟨rfl, b1⟩
  replace G := bw_trans G b1
  obtain ⟨_, c0, c1, c2, c3⟩ := S0.bw b1
  clear S0 b1
  go_wp2_with fail
  refine (A1.out _).mono ?_
  rintro e' w9 ⟨rfl, hw9⟩
  subst hw9
  go_wp2_with fail
  refine (A2.out _).mono ?_
  rintro e' w9 ⟨rfl, hw9⟩
  subst hw9
  go_wp2
  go_ret2
  exact ⟨rfl, G⟩
 ·
  go_enter Tryz.func53, Tryz.ntmps53
  go_wp2_with fail
  refine (KO.out _).mono ?_
  rintro e' w1 ⟨rfl, b1⟩
  replace G := bw_trans G b1
  obtain ⟨_, c0, c1, c2, c3⟩ := S0.bw b1
  clear S0 b1
  go_wp2_with fail
  refine (A1.out _).mono ?_
  rintro e' w9 ⟨rfl, hw9⟩
  subst hw9
  go_wp2_with fail
  refine (A2.out _).mono ?_
  rintro e' w9 ⟨rfl, hw9⟩
  subst hw9
  go_wp2
  go_ret2
  exact ⟨rfl, G⟩
 ·
  go_enter Tryz.func53, Tryz.ntmps53
  go_wp2_with fail
  refine (KO.out _).mono ?_
  rintro e' w1 ⟨rfl, b1⟩
  replace G := bw_trans G b1
  obtain ⟨_, c0, c1, c2, c3⟩ := S0.bw b1
  clear S0 b1
  go_wp2_with fail
  refine (A1.out _).mono ?_
  rintro e' w9 ⟨rfl, hw9⟩
  subst hw9
  go_wp2_with fail
  refine (A2.out _).mono ?_
  rintro e' w9 ⟨rfl, hw9⟩
  subst hw9
  go_wp2_with fail
  refine (A3.out _).mono ?_
  rintro e' w9 ⟨rfl, hw9⟩
  subst hw9
  go_wp2
  go_ret2
  exact ⟨rfl, G⟩
 ·
  go_enter Tryz.func53, Tryz.ntmps53
  go_wp2_with fail
  refine (KO.out _).mono ?_
  rintro e' w1 ⟨rfl, b1⟩
  replace G := bw_trans G b1
  obtain ⟨_, c0, c1, c2, c3⟩ := S0.bw b1
  clear S0 b1
  go_wp2_with fail
  refine (A1.out _).mono ?_
  rintro e' w9 ⟨rfl, hw9⟩
  subst hw9
  go_wp2_with fail
  refine (A2.out _).mono ?_
  rintro e' w9 ⟨rfl, hw9⟩
  subst hw9
  go_wp2_with fail
  refine (A3.out _).mono ?_
  rintro e' w9 ⟨rfl, hw9⟩
  subst hw9
  go_wp2
  go_ret2
  exact ⟨rfl, G⟩
 ·
  go_enter Tryz.func53, Tryz.ntmps53
  go_wp2_with fail
  refine (KO.out _).mono ?_
  rintro e' w1 ⟨rfl, b1⟩
  replace G := bw_trans G b1
  obtain ⟨_, c0, c1, c2, c3⟩ := S0.bw b1
  clear S0 b1
  go_wp2_with fail
  refine (A1.out _).mono ?_
  rintro e' w9 ⟨rfl, hw9⟩
  subst hw9
  go_wp2_with fail
  refine (A2.out _).mono ?_
  rintro e' w9 ⟨rfl, hw9⟩
  subst hw9
  go_wp2_with fail
  refine (A3.out _).mono ?_
  rintro e' w9 ⟨rfl, hw9⟩
  subst hw9
  go_wp2_with fail
  refine (A4.out (by trivial) (by trivial) _).mono ?_
  rintro e' w2 ⟨rfl, b2⟩
  replace G := bw_trans G b2
  clear b2
  go_wp2
  go_ret2
  exact ⟨rfl, G⟩
 ·
  go_enter Tryz.func53, Tryz.ntmps53
  go_wp2_with fail
  refine (KO.out _).mono ?_
  rintro e' w1 ⟨rfl, b1⟩
  replace G := bw_trans G b1
  obtain ⟨_, c0, c1, c2, c3⟩ := S0.bw b1
  clear S0 b1
  go_wp2_with fail
  refine (A1.out _).mono ?_
  rintro e' w9 ⟨rfl, hw9⟩
  subst hw9
  go_wp2_with fail
  refine (A2.out _).mono ?_
  rintro e' w9 ⟨rfl, hw9⟩
  subst hw9
  go_wp2_with fail
  refine (A3.out _).mono ?_
  rintro e' w9 ⟨rfl, hw9⟩
  subst hw9
  go_wp2_with fail
  refine (A4.out (by trivial) (by trivial) _).mono ?_
  rintro e' w2 ⟨rfl, b2⟩
  replace G := bw_trans G b2
  clear b2
  go_wp2
  go_ret2
  exact ⟨rfl, G⟩
set_option maxHeartbeats 16000000 in
theorem known4_q (a b s t p : Nat) (q1 q2 q3 q4 : Bool) (w : World)
  (A1 : Hid (∀ wz, Calls Tryz.prog 77 #[.complex .f64 a b] wz fun e w' => e = .returned (.bool q1) ∧ w' = wz))
  (A2 : Hid (∀ wz, Calls Tryz.prog 77 #[.complex .f64 s t] wz fun e w' => e = .returned (.bool q2) ∧ w' = wz))
  (A3 : Hid (∀ wz, Calls Tryz.prog 80 #[.float .f64 p, .float .f64 4787326403894837248] wz fun e w' => e = .returned (.bool q3) ∧ w' = wz))
  (A4 : Hid (q1 = true → q3 = true → ∀ wz, Calls Tryz.prog 123 #[El.E 4 a b s t p] wz fun e w' => e = .returned (.bool q4) ∧ Bw wz w')) :
  Calls Tryz.prog 53 #[El.E 4 a b s t p] w fun e w' => e = .returned (.tuple #[if q1 && q2 && q3 && q4 then .iface 118 (El.E 4 a b s t p) else .nilIface, .int .i64 (if q1 && q2 && q3 then (if q4 then 0 else 150) else 5)]) ∧ Bw w w' := by
 have S0 := El.St.new w 4 a b s t p 29
 have G := El.bw_new w (.cells #[.int .u8 4, .complex .f64 a b, .complex .f64 s t, .float .f64 p] 29)
 have KO := El.hid (fun wz => kindof4 a b s t p wz)
 have HM : ∀ w, (method 264 118 (.agg #[.int .u8 4, .complex .f64 a b, .complex .f64 s t, .float .f64 p]) "eddy/element.may").run Tryz.prog w = .ok (123, .agg #[.int .u8 4, .complex .f64 a b, .complex .f64 s t, .float .f64 p]) w := fun _ => by kernel_rfl
 unfold El.E at *
 cases q1 <;> cases q2 <;> cases q3 <;> cases q4
 ·
  go_enter Tryz.func53, Tryz.ntmps53
  go_wp2_with fail
  refine (KO.out _).mono ?_
  rintro e' w1 ⟨rfl, b1⟩
  replace G := bw_trans G b1
  obtain ⟨_, c0, c1, c2, c3⟩ := S0.bw b1
  clear S0 b1
  go_wp2_with fail
  refine (A1.out _).mono ?_
  rintro e' w9 ⟨rfl, hw9⟩
  subst hw9
  go_wp2
  go_ret2
  exact ⟨rfl, G⟩
 ·
  go_enter Tryz.func53, Tryz.ntmps53
  go_wp2_with fail
  refine (KO.out _).mono ?_
  rintro e' w1 ⟨rfl, b1⟩
  replace G := bw_trans G b1
  obtain ⟨_, c0, c1, c2, c3⟩ := S0.bw b1
  clear S0 b1
  go_wp2_with fail
  refine (A1.out _).mono ?_
  rintro e' w9 ⟨rfl, hw9⟩
  subst hw9
  go_wp2
  go_ret2
  exact ⟨rfl, G⟩
 ·
  go_enter Tryz.func53, Tryz.ntmps53
  go_wp2_with fail
  refine (KO.out _).mono ?_
  rintro e' w1 ⟨rfl, b1⟩
  replace G := bw_trans G b1
  obtain ⟨_, c0, c1, c2, c3⟩ := S0.bw b1
  clear S0 b1
  go_wp2_with fail
  refine (A1.out _).mono ?_
  rintro e' w9 ⟨rfl, hw9⟩
  subst hw9
  go_wp2
  go_ret2
  exact ⟨rfl, G⟩
 ·
  go_enter Tryz.func53, Tryz.ntmps53
  go_wp2_with fail
  refine (KO.out _).mono ?_
  rintro e' w1 ⟨rfl, b1⟩
  replace G := bw_trans G b1
  obtain ⟨_, c0, c1, c2, c3⟩ := S0.bw b1
  clear S0 b1
  go_wp2_with fail
  refine (A1.out _).mono ?_
  rintro e' w9 ⟨rfl, hw9⟩
  subst hw9
  go_wp2
  go_ret2
  exact ⟨rfl, G⟩
 ·
  go_enter Tryz.func53, Tryz.ntmps53
  go_wp2_with fail
  refine (KO.out _).mono ?_
  rintro e' w1 ⟨rfl, b1⟩
  replace G := bw_trans G b1
  obtain ⟨_, c0, c1, c2, c3⟩ := S0.bw b1
  clear S0 b1
  go_wp2_with fail
  refine (A1.out _).mono ?_
  rintro e' w9 ⟨rfl, hw9⟩
  subst hw9
  go_wp2
  go_ret2
  exact ⟨rfl, G⟩
 ·
  go_enter Tryz.func53, Tryz.ntmps53
  go_wp2_with fail
  refine (KO.out _).mono ?_
  rintro e' w1 ⟨rfl, b1⟩
  replace G := bw_trans G b1
  obtain ⟨_, c0, c1, c2, c3⟩ := S0.bw b1
  clear S0 b1
  go_wp2_with fail
  refine (A1.out _).mono ?_
  rintro e' w9 ⟨rfl, hw9⟩
  subst hw9
  go_wp2
  go_ret2
  exact ⟨rfl, G⟩
 ·
  go_enter Tryz.func53, Tryz.ntmps53
  go_wp2_with fail
  refine (KO.out _).mono ?_
  rintro e' w1 ⟨rfl, b1⟩
  replace G := bw_trans G b1
  obtain ⟨_, c0, c1, c2, c3⟩ := S0.bw b1
  clear S0 b1
  go_wp2_with fail
  refine (A1.out _).mono ?_
  rintro e' w9 ⟨rfl, hw9⟩
  subst hw9
  go_wp2
  go_ret2
  exact ⟨rfl, G⟩
 ·
  go_enter Tryz.func53, Tryz.ntmps53
  go_wp2_with fail
  refine (KO.out _).mono ?_
  rintro e' w1 ⟨rfl, b1⟩
  replace G := bw_trans G b1
  obtain ⟨_, c0, c1, c2, c3⟩ := S0.bw b1
  clear S0 b1
  go_wp2_with fail
  refine (A1.out _).mono ?_
  rintro e' w9 ⟨rfl, hw9⟩
  subst hw9
  go_wp2
  go_ret2
  exact ⟨rfl, G⟩
 ·
  go_enter Tryz.func53, Tryz.ntmps53
  go_wp2_with fail
  refine (KO.out _).mono ?_
  rintro e' w1 ⟨rfl, b1⟩
  replace G := bw_trans G b1
  obtain ⟨_, c0, c1, c2, c3⟩ := S0.bw b1
  clear S0 b1
  go_wp2_with fail
  refine (A1.out _).mono ?_
  rintro e' w9 ⟨rfl, hw9⟩
  subst hw9
  go_wp2_with fail
  refine (A2.out _).mono ?_
  rintro e' w9 ⟨rfl, hw9⟩
  subst hw9
  go_wp2
  go_ret2
  exact ⟨rfl, G⟩
 ·
  go_enter Tryz.func53, Tryz.ntmps53
  go_wp2_with fail
  refine (KO.out _).mono ?_
  rintro e' w1 ⟨rfl, b1⟩
  replace G := bw_trans G b1
  obtain ⟨_, c0, c1, c2, c3⟩ := S0.bw b1
  clear S0 b1
  go_wp2_with fail
  refine (A1.out _).mono ?_
  rintro e' w9 ⟨rfl, hw9⟩
  subst hw9
  go_wp2_with fail
  refine (A2.out _).mono ?_
  rintro e' w9 ⟨rfl, hw9⟩
  subst hw9
  go_wp2
  go_ret2
  exact ⟨rfl, G⟩
 ·
  go_enter Tryz.func53, Tryz.ntmps53
  go_wp2_with fail
  refine (KO.out _).mono ?_
  rintro e' w1 ⟨rfl, b1⟩
  replace G := bw_trans G b1
  obtain ⟨_, c0, c1, c2, c3⟩ := S0.bw b1
  clear S0 b1
  go_wp2_with fail
  refine (A1.out _).mono ?_
  rintro e' w9 ⟨rfl, hw9⟩
  subst hw9
  go_wp2_with fail
  refine (A2.out _).mono ?_
  rintro e' w9 ⟨rfl, hw9⟩
  subst hw9
  go_wp2
  go_ret2
  exact ⟨rfl, G⟩
 ·
  go_enter Tryz.func53, Tryz.ntmps53
  go_wp2_with fail
  refine (KO.out _).mono ?_
  rintro e' w1 ⟨rfl, b1⟩
  replace G := bw_trans G b1
  obtain ⟨_, c0, c1, c2, c3⟩ := S0.bw b1
  clear S0 b1
  go_wp2_with fail
  refine (A1.out _).mono ?_
  rintro e' w9 ⟨rfl, hw9⟩
  subst hw9
  go_wp2_with fail
  refine (A2.out _).mono ?_
  rintro e' w9 ⟨rfl, hw9⟩
  subst hw9
  go_wp2
  go_ret2
  exact ⟨rfl, G⟩
 ·
  go_enter Tryz.func53, Tryz.ntmps53
  go_wp2_with fail
  refine (KO.out _).mono ?_
  rintro e' w1 ⟨rfl, b1⟩
  replace G := bw_trans G b1
  obtain ⟨_, c0, c1, c2, c3⟩ := S0.bw b1
  clear S0 b1
  go_wp2_with fail
  refine (A1.out _).mono ?_
  rintro e' w9 ⟨rfl, hw9⟩
  subst hw9
  go_wp2_with fail
  refine (A2.out _).mono ?_
  rintro e' w9 ⟨rfl, hw9⟩
  subst hw9
  go_wp2_with fail
  refine (A3.out _).mono ?_
  rintro e' w9 ⟨rfl, hw9⟩
  subst hw9
  go_wp2
  go_ret2
  exact ⟨rfl, G⟩
 ·
  go_enter Tryz.func53, Tryz.ntmps53
  go_wp2_with fail
  refine (KO.out _).mono ?_
  rintro e' w1 ⟨rfl, b1⟩
  replace G := bw_trans G b1
  obtain ⟨_, c0, c1, c2, c3⟩ := S0.bw b1
  clear S0 b1
  go_wp2_with fail
  refine (A1.out _).mono ?_
  rintro e' w9 ⟨rfl, hw9⟩
  subst hw9
  go_wp2_with fail
  refine (A2.out _).mono ?_
  rintro e' w9 ⟨rfl, hw9⟩
  subst hw9
  go_wp2_with fail
  refine (A3.out _).mono ?_
  rintro e' w9 ⟨rfl, hw9⟩
  subst hw9
  go_wp2
  go_ret2
  exact ⟨rfl, G⟩
 ·
  go_enter Tryz.func53, Tryz.ntmps53
  go_wp2_with fail
  refine (KO.out _).mono ?_
  rintro e' w1 ⟨rfl, b1⟩
  replace G := bw_trans G b1
  obtain ⟨_, c0, c1, c2, c3⟩ := S0.bw b1
  clear S0 b1
  go_wp2_with fail
  refine (A1.out _).mono ?_
  rintro e' w9 ⟨rfl, hw9⟩
  subst hw9
  go_wp2_with fail
  refine (A2.out _).mono ?_
  rintro e' w9 ⟨rfl, hw9⟩
  subst hw9
  go_wp2_with fail
  refine (A3.out _).mono ?_
  rintro e' w9 ⟨rfl, hw9⟩
  subst hw9
  go_wp2_with fail
  refine (A4.out (by trivial) (by trivial) _).mono ?_
  rintro e' w2 ⟨rfl, b2⟩
  replace G := bw_trans G b2
  clear b2
  go_wp2
  go_ret2
  exact ⟨rfl, G⟩
 ·
  go_enter Tryz.func53, Tryz.ntmps53
  go_wp2_with fail
  refine (KO.out _).mono ?_
  rintro e' w1 ⟨rfl, b1⟩
  replace G := bw_trans G b1
  obtain ⟨_, c0, c1, c2, c3⟩ := S0.bw b1
  clear S0 b1
  go_wp2_with fail
  refine (A1.out _).mono ?_
  rintro e' w9 ⟨rfl, hw9⟩
  subst hw9
  go_wp2_with fail
  refine (A2.out _).mono ?_
  rintro e' w9 ⟨rfl, hw9⟩
  subst hw9
  go_wp2_with fail
  refine (A3.out _).mono ?_
  rintro e' w9 ⟨rfl, hw9⟩
  subst hw9
  go_wp2_with fail
  refine (A4.out (by trivial) (by trivial) _).mono ?_
  rintro e' w2 ⟨rfl, b2⟩
  replace G := bw_trans G b2
  clear b2
  go_wp2
  go_ret2
  exact ⟨rfl, G⟩
end Go.Proofs.YtjpllggchjgjpaaGreat

/-
 OWN TEXT: package element: potentials, speeds, slopes of elements that may be; one that lies elsewhere.
-/
namespace Go.Proofs.YtjpllggchjgjpaaGreat
open Go.ChangeShapes Go.WideShapes Go.ChangeAt Go.RowKit
set_option linter.unusedVariables false
attribute [local go_sem] frombits_call tobits_call run_neg El.run_store_cx El.run_store_fl
namespace El
/-- an element of the call's own lies at a block -/
structure Sw (w : World) (B : Nat) (k : Int) (a b s t p : Nat) : Prop where
 st : St w B k a b s t p
 fz : ∀ i, w.frozen? ⟨B, i, none⟩ = false
theorem Sw.bw {w w' : World} {B : Nat} {k : Int} {a b s t p : Nat} (h : Sw w B k a b s t p) (g : Bw w w') : Sw w' B k a b s t p :=
 ⟨h.st.bw g, fun i => (Below.frozen g (p := ⟨B, i, none⟩) h.st.lt).trans (h.fz i)⟩
theorem Sw.new (w : World) (k : Int) (a b s t p : Nat) (T : TypeId) : Sw (w.alloc (.cells #[.int .u8 k, .complex .f64 a b, .complex .f64 s t, .float .f64 p] T)) w.heap.size k a b s t p :=
 ⟨St.new w k a b s t p T, fun i => World.frozen?_alloc_at _ _ _ _ rfl⟩
theorem set_cell {w : World} {B i : Nat} {v : Value} (h : ∃ u, w.cell? ⟨B, i, none⟩ = some u) : (w.setCell ⟨B, i, none⟩ v).cell? ⟨B, i, none⟩ = some v := by
 obtain ⟨u, h⟩ := h
 exact World.cell?_setCell_same' _ _ _ (by rw [h]; rfl)
theorem set_off {w : World} {B i j : Nat} {v : Value} (h : i ≠ j) : (w.setCell ⟨B, i, none⟩ v).cell? ⟨B, j, none⟩ = w.cell? ⟨B, j, none⟩ := by
 simp only [World.cell?, World.setCell, Array.getElem?_modify]
 cases hh : w.heap[B]? with
 | none => simp
 | some o => cases o <;> simp [Array.getElem?_setIfInBounds_ne h]
theorem Sw.set {w : World} {B : Nat} {k : Int} {a b s t p : Nat} (h : Sw w B k a b s t p) (k' : Int) (a' b' s' t' p' : Nat) :
  Sw ((((w.setCell ⟨B, 0, none⟩ (.int .u8 k')).setCell ⟨B, 1, none⟩ (.complex .f64 a' b')).setCell ⟨B, 2, none⟩ (.complex .f64 s' t')).setCell ⟨B, 3, none⟩ (.float .f64 p')) B k' a' b' s' t' p' := by
 obtain ⟨⟨h0, h1, h2, h3, h4⟩, h5⟩ := h
 refine ⟨⟨by simpa [World.setCell] using h0, ?_, ?_, ?_, ?_⟩, fun i => by simp only [World.frozen?_setCell]; exact h5 i⟩
 · rw [set_off (by decide), set_off (by decide), set_off (by decide)]; exact set_cell ⟨_, h1⟩
 · rw [set_off (by decide), set_off (by decide)]; exact set_cell ⟨_, by rw [set_off (by decide)]; exact h2⟩
 · rw [set_off (by decide)]; exact set_cell ⟨_, by rw [set_off (by decide), set_off (by decide)]; exact h3⟩
 · exact set_cell ⟨_, by rw [set_off (by decide), set_off (by decide), set_off (by decide)]; exact h4⟩
/-- what is told of a value -/
def tz (a : Z) : Z := if fin a = true then a else (0, 0)
def te (a : Z) : Int := if fin a = true then 0 else 6
end El
theorem El.load {w : World} {B : Nat} {k : Int} {a b s t p : Nat} (h : El.St w B k a b s t p) : (loadVar 29 ⟨B, 0, none⟩).run Tryz.prog w = .ok (El.E k a b s t p) w := by
 refine run_loadVar_mid w B 0 29 [.int .u8 k, .complex .f64 a b, .complex .f64 s t, .float .f64 p] _ (fun j v hv => ?_) Tryz.underlying29 rfl (by kernel_rfl)
 match j, hv with
 | 0, hv => cases hv; exact h.c0
 | 1, hv => cases hv; exact h.c1
 | 2, hv => cases hv; exact h.c2
 | 3, hv => cases hv; exact h.c3
set_option maxHeartbeats 4000000 in
theorem asked_ok (k : Int) (a b s t p x y : Nat) (V : Value) (w : World) (K : Hid (∀ wz, Calls Tryz.prog 53 #[El.E k a b s t p] wz fun e w' => e = .returned (.tuple #[V, .int .i64 0]) ∧ Bw wz w')) (Z : Hid (∀ wz, Calls Tryz.prog 77 #[.complex .f64 x y] wz fun e w' => e = .returned (.bool true) ∧ w' = wz)) : Calls Tryz.prog 46 #[El.E k a b s t p, .complex .f64 x y] w fun e w' => e = .returned (.tuple #[V, .int .i64 0]) ∧ Bw w w' := by
 have S0 := El.St.new w k a b s t p 29
 have G := El.bw_new w (.cells #[.int .u8 k, .complex .f64 a b, .complex .f64 s t, .float .f64 p] 29)
 unfold El.E at *
 go_enter Tryz.func46, Tryz.ntmps46
 go_wp2_with fail
 refine (K.out _).mono ?_
 rintro e' w1 ⟨rfl, b1⟩
 replace G := bw_trans G b1
 clear b1
 go_wp2_with fail
 refine (Z.out _).mono ?_
 rintro e' w9 ⟨rfl, hw9⟩
 subst hw9
 go_wp2
 go_ret2
 exact ⟨rfl, G⟩
theorem check_er (k : Int) (a b s t p : Nat) (er : Int) (V : Value) (w : World) (K : Hid (∀ wz, Calls Tryz.prog 53 #[El.E k a b s t p] wz fun e w' => e = .returned (.tuple #[V, .int .i64 er]) ∧ Bw wz w')) : Calls Tryz.prog 42 #[El.E k a b s t p] w fun e w' => e = .returned (.int .i64 er) ∧ Bw w w' := by
 have S0 := El.St.new w k a b s t p 29
 have G := El.bw_new w (.cells #[.int .u8 k, .complex .f64 a b, .complex .f64 s t, .float .f64 p] 29)
 unfold El.E at *
 go_enter Tryz.func42, Tryz.ntmps42
 go_wp2_with fail
 refine (K.out _).mono ?_
 rintro e' w1 ⟨rfl, b1⟩
 replace G := bw_trans G b1
 clear b1
 go_wp2
 go_ret
 exact ⟨rfl, G⟩
theorem El.set_blk {w : World} {B B' i : Nat} {v : Value} (h : B' ≠ B) (j : Nat) : (w.setCell ⟨B', i, none⟩ v).cell? ⟨B, j, none⟩ = w.cell? ⟨B, j, none⟩ := by
 simp only [World.cell?, World.setCell, Array.getElem?_modify, if_neg h]
theorem El.Sw.off {w : World} {B B' i : Nat} {v : Value} {k : Int} {a b s t p : Nat} (h : El.Sw w B k a b s t p) (hb : B' ≠ B) : El.Sw (w.setCell ⟨B', i, none⟩ v) B k a b s t p := by
 obtain ⟨⟨h0, h1, h2, h3, h4⟩, h5⟩ := h
 exact ⟨⟨by simpa [World.setCell] using h0, (El.set_blk hb _).trans h1, (El.set_blk hb _).trans h2, (El.set_blk hb _).trans h3, (El.set_blk hb _).trans h4⟩, fun i => by rw [World.frozen?_setCell]; exact h5 i⟩
theorem told_z (x y : Nat) (w : World) (hx : x < 18446744073709551616) (hy : y < 18446744073709551616) : Calls Tryz.prog 47 #[.complex .f64 x y] w fun e w' => ∃ u v er, e = .returned (.tuple #[.complex .f64 u v, .int .i64 er]) ∧ El.c2 u v = El.tz (El.c2 x y) ∧ er = El.te (El.c2 x y) ∧ w' = w :=
 (told_any x y w hx hy).mono fun e w' h => by
  obtain ⟨rfl, rfl⟩ := h
  refine ⟨_, _, _, rfl, ?_, ?_, rfl⟩
  ·
   unfold El.tz
   cases El.fin (El.c2 x y) <;> rfl
  ·
   unfold El.te
   cases El.fin (El.c2 x y) <;> rfl
set_option maxHeartbeats 8000000 in
theorem pub_spd1 (a b s t p x y : Nat) (Y : El.Z) (w : World) (AK : Hid (∀ wz, Calls Tryz.prog 46 #[El.E 1 a b s t p, .complex .f64 x y] wz fun e w' => e = .returned (.tuple #[(.iface 117 (El.E 1 a b s t p)), .int .i64 0]) ∧ Bw wz w')) (M : Hid (∀ wz, Calls Tryz.prog 121 #[El.E 1 a b s t p, .complex .f64 x y] wz fun e w' => ∃ u v, e = .returned (.complex .f64 u v) ∧ El.c2 u v = Y ∧ u < 18446744073709551616 ∧ v < 18446744073709551616 ∧ Bw wz w')) : Calls Tryz.prog 23 #[El.E 1 a b s t p, .complex .f64 x y] w fun e w' => ∃ u v er, e = .returned (.tuple #[.complex .f64 u v, .int .i64 er]) ∧ El.c2 u v = El.tz Y ∧ er = El.te Y ∧ Bw w w' := by
 have G := El.bw_new w (.cells #[.int .u8 1, .complex .f64 a b, .complex .f64 s t, .float .f64 p] 29)
 have HM : ∀ w, (method 264 117 (.agg #[.int .u8 1, .complex .f64 a b, .complex .f64 s t, .float .f64 p]) "eddy/element.speed").run Tryz.prog w = .ok (121, .agg #[.int .u8 1, .complex .f64 a b, .complex .f64 s t, .float .f64 p]) w := fun _ => by kernel_rfl
 unfold El.E at *
 go_enter Tryz.func23, Tryz.ntmps23
 go_wp2_with fail
 refine (AK.out _).mono ?_
 rintro e' w1 ⟨rfl, b1⟩
 replace G := bw_trans G b1
 clear b1
 go_wp2_with fail
 refine (M.out _).mono ?_
 rintro e' w2 ⟨u, v, rfl, h, l, m, b2⟩
 have Q := El.hid h
 replace G := bw_trans G b2
 clear h b2
 go_wp2_with fail
 refine (told_z u v _ l m).mono ?_
 rintro e' w9 ⟨u2, v2, er, rfl, h2, h3, hw9⟩
 subst hw9
 have Q2 := El.hid h2
 have Q3 := El.hid h3
 clear h2 h3
 go_wp2
 go_ret2
 exact ⟨u2, v2, er, rfl, Q2.out.trans (by rw [Q.out]), Q3.out.trans (by rw [Q.out]), G⟩
set_option maxHeartbeats 8000000 in
theorem pub_spd3 (a b s t p x y : Nat) (Y : El.Z) (w : World) (AK : Hid (∀ wz, Calls Tryz.prog 46 #[El.E 3 a b s t p, .complex .f64 x y] wz fun e w' => e = .returned (.tuple #[(.iface 129 (El.E 3 a b s t p)), .int .i64 0]) ∧ Bw wz w')) (M : Hid (∀ wz, Calls Tryz.prog 186 #[El.E 3 a b s t p, .complex .f64 x y] wz fun e w' => ∃ u v, e = .returned (.complex .f64 u v) ∧ El.c2 u v = Y ∧ u < 18446744073709551616 ∧ v < 18446744073709551616 ∧ Bw wz w')) : Calls Tryz.prog 23 #[El.E 3 a b s t p, .complex .f64 x y] w fun e w' => ∃ u v er, e = .returned (.tuple #[.complex .f64 u v, .int .i64 er]) ∧ El.c2 u v = El.tz Y ∧ er = El.te Y ∧ Bw w w' := by
 have G := El.bw_new w (.cells #[.int .u8 3, .complex .f64 a b, .complex .f64 s t, .float .f64 p] 29)
 have HM : ∀ w, (method 264 129 (.agg #[.int .u8 3, .complex .f64 a b, .complex .f64 s t, .float .f64 p]) "eddy/element.speed").run Tryz.prog w = .ok (186, .agg #[.int .u8 3, .complex .f64 a b, .complex .f64 s t, .float .f64 p]) w := fun _ => by kernel_rfl
 unfold El.E at *
 go_enter Tryz.func23, Tryz.ntmps23
 go_wp2_with fail
 refine (AK.out _).mono ?_
 rintro e' w1 ⟨rfl, b1⟩
 replace G := bw_trans G b1
 clear b1
 go_wp2_with fail
 refine (M.out _).mono ?_
 rintro e' w2 ⟨u, v, rfl, h, l, m, b2⟩
 have Q := El.hid h
 replace G := bw_trans G b2
 clear h b2
 go_wp2_with fail
 refine (told_z u v _ l m).mono ?_
 rintro e' w9 ⟨u2, v2, er, rfl, h2, h3, hw9⟩
 subst hw9
 have Q2 := El.hid h2
 have Q3 := El.hid h3
 clear h2 h3
 go_wp2
 go_ret2
 exact ⟨u2, v2, er, rfl, Q2.out.trans (by rw [Q.out]), Q3.out.trans (by rw [Q.out]), G⟩
set_option maxHeartbeats 8000000 in
theorem pub_spd4 (a b s t p x y : Nat) (Y : El.Z) (w : World) (AK : Hid (∀ wz, Calls Tryz.prog 46 #[El.E 4 a b s t p, .complex .f64 x y] wz fun e w' => e = .returned (.tuple #[(.iface 118 (El.E 4 a b s t p)), .int .i64 0]) ∧ Bw wz w')) (M : Hid (∀ wz, Calls Tryz.prog 126 #[El.E 4 a b s t p, .complex .f64 x y] wz fun e w' => ∃ u v, e = .returned (.complex .f64 u v) ∧ El.c2 u v = Y ∧ u < 18446744073709551616 ∧ v < 18446744073709551616 ∧ Bw wz w')) : Calls Tryz.prog 23 #[El.E 4 a b s t p, .complex .f64 x y] w fun e w' => ∃ u v er, e = .returned (.tuple #[.complex .f64 u v, .int .i64 er]) ∧ El.c2 u v = El.tz Y ∧ er = El.te Y ∧ Bw w w' := by
 have G := El.bw_new w (.cells #[.int .u8 4, .complex .f64 a b, .complex .f64 s t, .float .f64 p] 29)
 have HM : ∀ w, (method 264 118 (.agg #[.int .u8 4, .complex .f64 a b, .complex .f64 s t, .float .f64 p]) "eddy/element.speed").run Tryz.prog w = .ok (126, .agg #[.int .u8 4, .complex .f64 a b, .complex .f64 s t, .float .f64 p]) w := fun _ => by kernel_rfl
 unfold El.E at *
 go_enter Tryz.func23, Tryz.ntmps23
 go_wp2_with fail
 refine (AK.out _).mono ?_
 rintro e' w1 ⟨rfl, b1⟩
 replace G := bw_trans G b1
 clear b1
 go_wp2_with fail
 refine (M.out _).mono ?_
 rintro e' w2 ⟨u, v, rfl, h, l, m, b2⟩
 have Q := El.hid h
 replace G := bw_trans G b2
 clear h b2
 go_wp2_with fail
 refine (told_z u v _ l m).mono ?_
 rintro e' w9 ⟨u2, v2, er, rfl, h2, h3, hw9⟩
 subst hw9
 have Q2 := El.hid h2
 have Q3 := El.hid h3
 clear h2 h3
 go_wp2
 go_ret2
 exact ⟨u2, v2, er, rfl, Q2.out.trans (by rw [Q.out]), Q3.out.trans (by rw [Q.out]), G⟩
end Go.Proofs.YtjpllggchjgjpaaGreat

