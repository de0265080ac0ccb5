/-
 OWN TEXT: package element: what may be, by its kind.
-/
import Derived.Test.YtnjkdfhhlcoaaaaGreatJElBToElE
import Derived.Test.YtnjkdfhhlcoaaaaGreatJPyC
import Derived.Test.YtnjkdfhhlcoaaaaGreatJEqAToAnA
namespace Go.Proofs.YtnjkdfhhlcoaaaaGreat
open Go.ChangeShapes Go.WideShapes Go.ChangeAt Go.RowKit
set_option linter.unusedVariables false
attribute [local go_sem] frombits_call tobits_call run_neg El.run_store_cx El.run_store_fl
set_option maxHeartbeats 16000000 in
theorem known1_q (a b s t p : Nat) (q1 q2 q3 q4 : Bool) (w : World)
  (A1 : Hid (∀ wz, Calls Tryz.prog 62 #[.complex .f64 a b] wz fun e w' => e = .returned (.bool q1) ∧ w' = wz))
  (A2 : Hid (∀ wz, Calls Tryz.prog 62 #[.complex .f64 s t] wz fun e w' => e = .returned (.bool q2) ∧ w' = wz))
  (A3 : Hid (∀ wz, Calls Tryz.prog 56 #[.float .f64 p, .float .f64 4787326403894837248] wz fun e w' => e = .returned (.bool q3) ∧ w' = wz))
  (A4 : Hid (q1 = true → q3 = true → ∀ wz, Calls Tryz.prog 119 #[El.E 1 a b s t p] wz fun e w' => e = .returned (.bool q4) ∧ Bw wz w')) :
  Calls Tryz.prog 46 #[El.E 1 a b s t p] w fun e w' => e = .returned (.tuple #[if q1 && q2 && q3 && q4 then .iface 105 (El.E 1 a b s t p) else .nilIface, .int .i64 (if q1 && q2 && q3 then (if q4 then 0 else 150) else 5)]) ∧ Bw w w' := by
 have S0 := El.St.new w 1 a b s t p 28
 have G := El.bw_new w (.cells #[.int .u8 1, .complex .f64 a b, .complex .f64 s t, .float .f64 p] 28)
 have KO := El.hid (fun wz => kindof1 a b s t p wz)
 have HM : ∀ w, (method 242 105 (.agg #[.int .u8 1, .complex .f64 a b, .complex .f64 s t, .float .f64 p]) "eddy/element.may").run Tryz.prog w = .ok (119, .agg #[.int .u8 1, .complex .f64 a b, .complex .f64 s t, .float .f64 p]) w := fun _ => by kernel_rfl
 unfold El.E at *
 cases q1 <;> cases q2 <;> cases q3 <;> cases q4
 ·
  go_enter Tryz.func46, Tryz.ntmps46
  go_wp2_with fail
  refine (KO.out _).mono ?_
  rintro e' w1 ⟨rfl, b1⟩
  replace G := bw_trans G b1
  obtain ⟨_, c0, c1, c2, c3⟩ := S0.bw b1
  clear S0 b1
  go_wp2_with fail
  refine (A1.out _).mono ?_
  rintro e' w9 ⟨rfl, hw9⟩
  subst hw9
  go_wp2
  go_ret2
  exact ⟨rfl, G⟩
 ·
  go_enter Tryz.func46, Tryz.ntmps46
  go_wp2_with fail
  refine (KO.out _).mono ?_
  rintro e' w1 ⟨rfl, b1⟩
  replace G := bw_trans G b1
  obtain ⟨_, c0, c1, c2, c3⟩ := S0.bw b1
  clear S0 b1
  go_wp2_with fail
  refine (A1.out _).mono ?_
  rintro e' w9 ⟨rfl, hw9⟩
  subst hw9
  go_wp2
  go_ret2
  exact ⟨rfl, G⟩
 ·
  go_enter Tryz.func46, Tryz.ntmps46
  go_wp2_with fail
  refine (KO.out _).mono ?_
  rintro e' w1 ⟨rfl, b1⟩
  replace G := bw_trans G b1
  obtain ⟨_, c0, c1, c2, c3⟩ := S0.bw b1
  clear S0 b1
  go_wp2_with fail
  refine (A1.out _).mono ?_
  rintro e' w9 ⟨rfl, hw9⟩
  subst hw9
  go_wp2
  go_ret2
  exact ⟨rfl, G⟩
 ·
  go_enter Tryz.func46, Tryz.ntmps46
  go_wp2_with fail
  refine (KO.out _).mono ?_
  rintro e' w1 ⟨rfl, b1⟩
  replace G := bw_trans G b1
  obtain ⟨_, c0, c1, c2, c3⟩ := S0.bw b1
  clear S0 b1
  go_wp2_with fail
  refine (A1.out _).mono ?_
  rintro e' w9 ⟨rfl, hw9⟩
  subst hw9
  go_wp2
  go_ret2
  exact ⟨rfl, G⟩
 ·
  go_enter Tryz.func46, Tryz.ntmps46
  go_wp2_with fail
  refine (KO.out _).mono ?_
  rintro e' w1 ⟨rfl, b1⟩
  replace G := bw_trans G b1
  obtain ⟨_, c0, c1, c2, c3⟩ := S0.bw b1
  clear S0 b1
  go_wp2_with fail
  refine (A1.out _).mono ?_
  rintro e' w9 ⟨rfl, hw9⟩
  subst hw9
  go_wp2
  go_ret2
  exact ⟨rfl, G⟩
 ·
  go_enter Tryz.func46, Tryz.ntmps46
  go_wp2_with fail
  refine (KO.out _).mono ?_
  rintro e' w1 ⟨rfl, b1⟩
  replace G := bw_trans G b1
  obtain ⟨_, c0, c1, c2, c3⟩ := S0.bw b1
  clear S0 b1
  go_wp2_with fail
  refine (A1.out _).mono ?_
  rintro e' w9 ⟨rfl, hw9⟩
  subst hw9
  go_wp2
  go_ret2
  exact ⟨rfl, G⟩
 ·
  go_enter Tryz.func46, Tryz.ntmps46
  go_wp2_with fail
  refine (KO.out _).mono ?_
  rintro e' w1 ⟨rfl, b1⟩
  replace G := bw_trans G b1
  obtain ⟨_, c0, c1, c2, c3⟩ := S0.bw b1
  clear S0 b1
  go_wp2_with fail
  refine (A1.out _).mono ?_
  rintro e' w9 ⟨rfl, hw9⟩
  subst hw9
  go_wp2
  go_ret2
  exact ⟨rfl, G⟩
 ·
  go_enter Tryz.func46, Tryz.ntmps46
  go_wp2_with fail
  refine (KO.out _).mono ?_
  rintro e' w1 ⟨rfl, b1⟩
  replace G := bw_trans G b1
  obtain ⟨_, c0, c1, c2, c3⟩ := S0.bw b1
  clear S0 b1
  go_wp2_with fail
  refine (A1.out _).mono ?_
  rintro e' w9 ⟨rfl, hw9⟩
  subst hw9
  go_wp2
  go_ret2
  exact ⟨rfl, G⟩
 ·
  go_enter Tryz.func46, Tryz.ntmps46
  go_wp2_with fail
  refine (KO.out _).mono ?_
  rintro e' w1 ⟨rfl, b1⟩
  replace G := bw_trans G b1
  obtain ⟨_, c0, c1, c2, c3⟩ := S0.bw b1
  clear S0 b1
  go_wp2_with fail
  refine (A1.out _).mono ?_
  rintro e' w9 ⟨rfl, hw9⟩
  subst hw9
  go_wp2_with fail
  refine (A2.out _).mono ?_
  rintro e' w9 ⟨rfl, hw9⟩
  subst hw9
  go_wp2
  go_ret2
  exact ⟨rfl, G⟩
 ·
  go_enter Tryz.func46, Tryz.ntmps46
  go_wp2_with fail
  refine (KO.out _).mono ?_
  rintro e' w1 ⟨rfl, b1⟩
  replace G := bw_trans G b1
  obtain ⟨_, c0, c1, c2, c3⟩ := S0.bw b1
  clear S0 b1
  go_wp2_with fail
  refine (A1.out _).mono ?_
  rintro e' w9 ⟨rfl, hw9⟩
  subst hw9
  go_wp2_with fail
  refine (A2.out _).mono ?_
  rintro e' w9 ⟨rfl, hw9⟩
  subst hw9
  go_wp2
  go_ret2
  exact ⟨rfl, G⟩
 ·
  go_enter Tryz.func46, Tryz.ntmps46
  go_wp2_with fail
  refine (KO.out _).mono ?_
  rintro e' w1 ⟨rfl, b1⟩
  replace G := bw_trans G b1
  obtain ⟨_, c0, c1, c2, c3⟩ := S0.bw b1
  clear S0 b1
  go_wp2_with fail
  refine (A1.out _).mono ?_
  rintro e' w9 ⟨rfl, hw9⟩
  subst hw9
  go_wp2_with fail
  refine (A2.out _).mono ?_
  rintro e' w9 ⟨rfl, hw9⟩
  subst hw9
  go_wp2
  go_ret2
  exact ⟨rfl, G⟩
 ·
  go_enter Tryz.func46, Tryz.ntmps46
  go_wp2_with fail
  refine (KO.out _).mono ?_
  rintro e' w1 ⟨rfl, b1⟩
  replace G := bw_trans G b1
  obtain ⟨_, c0, c1, c2, c3⟩ := S0.bw b1
  clear S0 b1
  go_wp2_with fail
  refine (A1.out _).mono ?_
  rintro e' w9 ⟨rfl, hw9⟩
  subst hw9
  go_wp2_with fail
  refine (A2.out _).mono ?_
  rintro e' w9 ⟨rfl, hw9⟩
  subst hw9
  go_wp2
  go_ret2
  exact ⟨rfl, G⟩
 ·
  go_enter Tryz.func46, Tryz.ntmps46
  go_wp2_with fail
  refine (KO.out _).mono ?_
  rintro e' w1 ⟨rfl, b1⟩
  replace G := bw_trans G b1
  obtain ⟨_, c0, c1, c2, c3⟩ := S0.bw b1
  clear S0 b1
  go_wp2_with fail
  refine (A1.out _).mono ?_
  rintro e' w9 ⟨rfl, hw9⟩
  subst hw9
  go_wp2_with fail
  refine (A2.out _).mono ?_
  rintro e' w9 ⟨rfl, hw9⟩
  subst hw9
  go_wp2_with fail
  refine (A3.out _).mono ?_
  rintro e' w9 ⟨rfl, hw9⟩
  subst hw9
  go_wp2
  go_ret2
  exact ⟨rfl, G⟩
 ·
  go_enter Tryz.func46, Tryz.ntmps46
  go_wp2_with fail
  refine (KO.out _).mono ?_
  rintro e' w1 ⟨rfl, b1⟩
  replace G := bw_trans G b1
  obtain ⟨_, c0, c1, c2, c3⟩ := S0.bw b1
  clear S0 b1
  go_wp2_with fail
  refine (A1.out _).mono ?_
  rintro e' w9 ⟨rfl, hw9⟩
  subst hw9
  go_wp2_with fail
  refine (A2.out _).mono ?_
  rintro e' w9 ⟨rfl, hw9⟩
  subst hw9
  go_wp2_with fail
  refine (A3.out _).mono ?_
  rintro e' w9 ⟨rfl, hw9⟩
  subst hw9
  go_wp2
  go_ret2
  exact ⟨rfl, G⟩
 ·
  go_enter Tryz.func46, Tryz.ntmps46
  go_wp2_with fail
  refine (KO.out _).mono ?_
  rintro e' w1 ⟨rfl, b1⟩
  replace G := bw_trans G b1
  obtain ⟨_, c0, c1, c2, c3⟩ := S0.bw b1
  clear S0 b1
  go_wp2_with fail
  refine (A1.out _).mono ?_
  rintro e' w9 ⟨rfl, hw9⟩
  subst hw9
  go_wp2_with fail
  refine (A2.out _).mono ?_
  rintro e' w9 ⟨rfl, hw9⟩
  subst hw9
  go_wp2_with fail
  refine (A3.out _).mono ?_
  rintro e' w9 ⟨rfl, hw9⟩
  subst hw9
  go_wp2_with fail
  refine (A4.out (by trivial) (by trivial) _).mono ?_
  rintro e' w2 ⟨rfl, b2⟩
  replace G := bw_trans G b2
  clear b2
  go_wp2
  go_ret2
  exact ⟨rfl, G⟩
 ·
  go_enter Tryz.func46, Tryz.ntmps46
  go_wp2_with fail
  refine (KO.out _).mono ?_
  rintro e' w1 ⟨rfl, b1⟩
  replace G := bw_trans G b1
  obtain ⟨_, c0, c1, c2, c3⟩ := S0.bw b1
  clear S0 b1
  go_wp2_with fail
  refine (A1.out _).mono ?_
  rintro e' w9 ⟨rfl, hw9⟩
  subst hw9
  go_wp2_with fail
  refine (A2.out _).mono ?_
  rintro e' w9 ⟨rfl, hw9⟩
  subst hw9
  go_wp2_with fail
  refine (A3.out _).mono ?_
  rintro e' w9 ⟨rfl, hw9⟩
  subst hw9
  go_wp2_with fail
  refine (A4.out (by trivial) (by trivial) _).mono ?_
  rintro e' w2 ⟨rfl, b2⟩
  replace G := bw_trans G b2
  clear b2
  go_wp2
  go_ret2
  exact ⟨rfl, G⟩
set_option maxHeartbeats 16000000 in
theorem known3_q (a b s t p : Nat) (q1 q2 q3 q4 : Bool) (w : World)
  (A1 : Hid (∀ wz, Calls Tryz.prog 62 #[.complex .f64 a b] wz fun e w' => e = .returned (.bool q1) ∧ w' = wz))
  (A2 : Hid (∀ wz, Calls Tryz.prog 62 #[.complex .f64 s t] wz fun e w' => e = .returned (.bool q2) ∧ w' = wz))
  (A3 : Hid (∀ wz, Calls Tryz.prog 56 #[.float .f64 p, .float .f64 4787326403894837248] wz fun e w' => e = .returned (.bool q3) ∧ w' = wz))
  (A4 : Hid (q1 = true → q3 = true → ∀ wz, Calls Tryz.prog 131 #[El.E 3 a b s t p] wz fun e w' => e = .returned (.bool q4) ∧ Bw wz w')) :
  Calls Tryz.prog 46 #[El.E 3 a b s t p] w fun e w' => e = .returned (.tuple #[if q1 && q2 && q3 && q4 then .iface 107 (El.E 3 a b s t p) else .nilIface, .int .i64 (if q1 && q2 && q3 then (if q4 then 0 else 150) else 5)]) ∧ Bw w w' := by
 have S0 := El.St.new w 3 a b s t p 28
 have G := El.bw_new w (.cells #[.int .u8 3, .complex .f64 a b, .complex .f64 s t, .float .f64 p] 28)
 have KO := El.hid (fun wz => kindof3 a b s t p wz)
 have HM : ∀ w, (method 242 107 (.agg #[.int .u8 3, .complex .f64 a b, .complex .f64 s t, .float .f64 p]) "eddy/element.may").run Tryz.prog w = .ok (131, .agg #[.int .u8 3, .complex .f64 a b, .complex .f64 s t, .float .f64 p]) w := fun _ => by kernel_rfl
 unfold El.E at *
 cases q1 <;> cases q2 <;> cases q3 <;> cases q4
 ·
  go_enter Tryz.func46, Tryz.ntmps46
  go_wp2_with fail
  refine (KO.out _).mono ?_
  rintro e' w1 ⟨rfl, b1⟩
  replace G := bw_trans G b1
  obtain ⟨_, c0, c1, c2, c3⟩ := S0.bw b1
  clear S0 b1
  go_wp2_with fail
  refine (A1.out _).mono ?_
  rintro e' w9 ⟨rfl, hw9⟩
  subst hw9
  go_wp2
  go_ret2
  exact ⟨rfl, G⟩
 ·
  go_enter Tryz.func46, Tryz.ntmps46
  go_wp2_with fail
  refine (KO.out _).mono ?_
  rintro e' w1 ⟨rfl, b1⟩
  replace G := bw_trans G b1
  obtain ⟨_, c0, c1, c2, c3⟩ := S0.bw b1
  clear S0 b1
  go_wp2_with fail
  refine (A1.out _).mono ?_
  rintro e' w9 ⟨rfl, hw9⟩
  subst hw9
  go_wp2
  go_ret2
  exact ⟨rfl, G⟩
 ·
  go_enter Tryz.func46, Tryz.ntmps46
  go_wp2_with fail
  refine (KO.out _).mono ?_
  rintro e' w1 ⟨rfl, b1⟩
  replace G := bw_trans G b1
  obtain ⟨_, c0, c1, c2, c3⟩ := S0.bw b1
  clear S0 b1
  go_wp2_with fail
  refine (A1.out _).mono ?_
  rintro e' w9 ⟨rfl, hw9⟩
  subst hw9
  go_wp2
  go_ret2
  exact ⟨rfl, G⟩
 ·
  go_enter Tryz.func46, Tryz.ntmps46
  go_wp2_with fail
  refine (KO.out _).mono ?_
  rintro e' w1 ⟨rfl, b1⟩
  replace G := bw_trans G b1
  obtain ⟨_, c0, c1, c2, c3⟩ := S0.bw b1
  clear S0 b1
  go_wp2_with fail
  refine (A1.out _).mono ?_
  rintro e' w9 ⟨rfl, hw9⟩
  subst hw9
  go_wp2
  go_ret2
  exact ⟨rfl, G⟩
 ·
  go_enter Tryz.func46, Tryz.ntmps46
  go_wp2_with fail
  refine (KO.out _).mono ?_
  rintro e' w1 ⟨rfl, b1⟩
  replace G := bw_trans G b1
  obtain ⟨_, c0, c1, c2, c3⟩ := S0.bw b1
  clear S0 b1
  go_wp2_with fail
  refine (A1.out _).mono ?_
  rintro e' w9 ⟨rfl, hw9⟩
  subst hw9
  go_wp2
  go_ret2
  exact ⟨rfl, G⟩
 ·
  go_enter Tryz.func46, Tryz.ntmps46
  go_wp2_with fail
  refine (KO.out _).mono ?_
  rintro e' w1 ⟨rfl, b1⟩
  replace G := bw_trans G b1
  obtain ⟨_, c0, c1, c2, c3⟩ := S0.bw b1
  clear S0 b1
  go_wp2_with fail
  refine (A1.out _).mono ?_
  rintro e' w9 ⟨rfl, hw9⟩
  subst hw9
  go_wp2
  go_ret2
  exact ⟨rfl, G⟩
 ·
  go_enter Tryz.func46, Tryz.ntmps46
  go_wp2_with fail
  refine (KO.out _).mono ?_
  rintro e' w1 ⟨rfl, b1⟩
  replace G := bw_trans G b1
  obtain ⟨_, c0, c1, c2, c3⟩ := S0.bw b1
  clear S0 b1
  go_wp2_with fail
  refine (A1.out _).mono ?_
  rintro e' w9 ⟨rfl, hw9⟩
  subst hw9
  go_wp2
  go_ret2
  exact ⟨rfl, G⟩
 ·
  go_enter Tryz.func46, Tryz.ntmps46
  go_wp2_with fail
  refine (KO.out _).mono ?_
  rintro e' w1 ⟨rfl, b1⟩
  replace G := bw_trans G b1
  obtain ⟨_, c0, c1, c2, c3⟩ := S0.bw b1
  clear S0 b1
  go_wp2_with fail
  refine (A1.out _).mono ?_
  rintro e' w9 ⟨rfl, hw9⟩
  subst hw9
  go_wp2
  go_ret2
  exact ⟨rfl, G⟩
 ·
  go_enter Tryz.func46, Tryz.ntmps46
  go_wp2_with fail
  refine (KO.out _).mono ?_
  rintro e' w1 ⟨rfl, b1⟩
  replace G := bw_trans G b1
  obtain ⟨_, c0, c1, c2, c3⟩ := S0.bw b1
  clear S0 b1
  go_wp2_with fail
  refine (A1.out _).mono ?_
  rintro e' w9 ⟨rfl, hw9⟩
  subst hw9
  go_wp2_with fail
  refine (A2.out _).mono ?_
  rintro e' w9 ⟨rfl, hw9⟩
  subst hw9
  go_wp2
  go_ret2
  exact ⟨rfl, G⟩
 ·
  go_enter Tryz.func46, Tryz.ntmps46
  go_wp2_with fail
  refine (KO.out _).mono ?_
  rintro e' w1 ⟨rfl, b1⟩
  replace G := bw_trans G b1
  obtain ⟨_, c0, c1, c2, c3⟩ := S0.bw b1
  clear S0 b1
  go_wp2_with fail
  refine (A1.out _).mono ?_
  rintro e' w9 ⟨rfl, hw9⟩
  subst hw9
  go_wp2_with fail
  refine (A2.out _).mono ?_
  rintro e' w9 ⟨rfl, hw9⟩
  subst hw9
  go_wp2
  go_ret2
  exact ⟨rfl, G⟩
 ·
  go_enter Tryz.func46, Tryz.ntmps46
  go_wp2_with fail
  refine (KO.out _).mono ?_
  rintro e' w1 ⟨rfl, b1⟩
  replace G := bw_trans G b1
  obtain ⟨_, c0, c1, c2, c3⟩ := S0.bw b1
  clear S0 b1
  go_wp2_with fail
  refine (A1.out _).mono ?_
  rintro e' w9 ⟨rfl, hw9⟩
  subst hw9
  go_wp2_with fail
  refine (A2.out _).mono ?_
  rintro e' w9 ⟨rfl, hw9⟩
  subst hw9
  go_wp2
  go_ret2
  exact ⟨rfl, G⟩
 ·
  go_enter Tryz.func46, Tryz.ntmps46
  go_wp2_with fail
  refine (KO.out _).mono ?_
  rintro e' w1 ⟨rfl, b1⟩
  replace G := bw_trans G b1
  obtain ⟨_, c0, c1, c2, c3⟩ := S0.bw b1
  clear S0 b1
  go_wp2_with fail
  refine (A1.out _).mono ?_
  rintro e' w9 ⟨rfl, hw9⟩
  subst hw9
  go_wp2_with fail
  refine (A2.out _).mono ?_
  rintro e' w9 ⟨rfl, hw9⟩
  subst hw9
  go_wp2
  go_ret2
  exact ⟨rfl, G⟩
 ·
  go_enter Tryz.func46, Tryz.ntmps46
  go_wp2_with fail
  refine (KO.out _).mono ?_
  rintro e' w1 ⟨rfl, b1⟩
  replace G := bw_trans G b1
  obtain ⟨_, c0, c1, c2, c3⟩ := S0.bw b1
  clear S0 b1
  go_wp2_with fail
  refine (A1.out _).mono ?_
  rintro e' w9 ⟨rfl, hw9⟩
  subst hw9
  go_wp2_with fail
  refine (A2.out _).mono ?_
  rintro e' w9 ⟨rfl, hw9⟩
  subst hw9
  go_wp2_with fail
  refine (A3.out _).mono ?_
  rintro e' w9 ⟨rfl, hw9⟩
  subst hw9
  go_wp2
  go_ret2
  exact ⟨rfl, G⟩
 ·
  go_enter Tryz.func46, Tryz.ntmps46
  go_wp2_with fail
  refine (KO.out _).mono ?_
  rintro e' w1 ⟨rfl, b1⟩
  replace G := bw_trans G b1
  obtain ⟨_, c0, c1, c2, c3⟩ := S0.bw b1
  clear S0 b1
  go_wp2_with fail
  refine (A1.out _).mono ?_
  rintro e' w9 ⟨rfl, hw9⟩
  subst hw9
  go_wp2_with fail
  refine (A2.out _).mono ?_
  rintro e' w9 ⟨rfl, hw9⟩
  subst hw9
  go_wp2_with fail
  refine (A3.out _).mono ?_
  rintro e' w9 ⟨rfl, hw9⟩
  subst hw9
  go_wp2
  go_ret2
  exact ⟨rfl, G⟩
 ·
  go_enter Tryz.func46, Tryz.ntmps46
  go_wp2_with fail
  refine (KO.out _).mono ?_
  rintro e' w1 ⟨rfl, b1⟩
  replace G := bw_trans G b1
  obtain ⟨_, c0, c1, c2, c3⟩ := S0.bw b1
  clear S0 b1
  go_wp2_with fail
  refine (A1.out _).mono ?_
  rintro e' w9 ⟨rfl, hw9⟩
  subst hw9
  go_wp2_with fail
  refine (A2.out _).mono ?_
  rintro e' w9 ⟨rfl, hw9⟩
  subst hw9
  go_wp2_with fail
  refine (A3.out _).mono ?_
  rintro e' w9 ⟨rfl, hw9⟩
  subst hw9
  go_wp2_with fail
  refine (A4.out (by trivial) (by trivial) _).mono ?_
  rintro e' w2 ⟨rfl, b2⟩
  replace G := bw_trans G b2
  clear b2
  go_wp2
  go_ret2
  exact ⟨rfl, G⟩
 ·
  go_enter Tryz.func46, Tryz.ntmps46
  go_wp2_with fail
  refine (KO.out _).mono ?_
  rintro e' w1 ⟨rfl, b1⟩
  replace G := bw_trans G b1
  obtain ⟨_, c0, c1, c2, c3⟩ := S0.bw b1
  clear S0 b1
  go_wp2_with fail
  refine (A1.out _).mono ?_
  rintro e' w9 ⟨rfl, hw9⟩
  subst hw9
  go_wp2_with fail
  refine (A2.out _).mono ?_
  rintro e' w9 ⟨rfl, hw9⟩
  subst hw9
  go_wp2_with fail
  refine (A3.out _).mono ?_
  rintro e' w9 ⟨rfl, hw9⟩
  subst hw9
  go_wp2_with fail
  refine (A4.out (by trivial) (by trivial) _).mono ?_
  rintro e' w2 ⟨rfl, b2⟩
  replace G := bw_trans G b2
  clear b2
  go_wp2
  go_ret2
  exact ⟨rfl, G⟩
set_option maxHeartbeats 16000000 in
theorem known4_q (a b s t p : Nat) (q1 q2 q3 q4 : Bool) (w : World)
  (A1 : Hid (∀ wz, Calls Tryz.prog 62 #[.complex .f64 a b] wz fun e w' => e = .returned (.bool q1) ∧ w' = wz))
  (A2 : Hid (∀ wz, Calls Tryz.prog 62 #[.complex .f64 s t] wz fun e w' => e = .returned (.bool q2) ∧ w' = wz))
  (A3 : Hid (∀ wz, Calls Tryz.prog 56 #[.float .f64 p, .float .f64 4787326403894837248] wz fun e w' => e = .returned (.bool q3) ∧ w' = wz))
  (A4 : Hid (q1 = true → q3 = true → ∀ wz, Calls Tryz.prog 139 #[El.E 4 a b s t p] wz fun e w' => e = .returned (.bool q4) ∧ Bw wz w')) :
  Calls Tryz.prog 46 #[El.E 4 a b s t p] w fun e w' => e = .returned (.tuple #[if q1 && q2 && q3 && q4 then .iface 108 (El.E 4 a b s t p) else .nilIface, .int .i64 (if q1 && q2 && q3 then (if q4 then 0 else 150) else 5)]) ∧ Bw w w' := by
 have S0 := El.St.new w 4 a b s t p 28
 have G := El.bw_new w (.cells #[.int .u8 4, .complex .f64 a b, .complex .f64 s t, .float .f64 p] 28)
 have KO := El.hid (fun wz => kindof4 a b s t p wz)
 have HM : ∀ w, (method 242 108 (.agg #[.int .u8 4, .complex .f64 a b, .complex .f64 s t, .float .f64 p]) "eddy/element.may").run Tryz.prog w = .ok (139, .agg #[.int .u8 4, .complex .f64 a b, .complex .f64 s t, .float .f64 p]) w := fun _ => by kernel_rfl
 unfold El.E at *
 cases q1 <;> cases q2 <;> cases q3 <;> cases q4
 ·
  go_enter Tryz.func46, Tryz.ntmps46
  go_wp2_with fail
  refine (KO.out _).mono ?_
  rintro e' w1 ⟨rfl, b1⟩
  replace G := bw_trans G b1
  obtain ⟨_, c0, c1, c2, c3⟩ := S0.bw b1
  clear S0 b1
  go_wp2_with fail
  refine (A1.out _).mono ?_
  rintro e' w9 ⟨rfl, hw9⟩
  subst hw9
  go_wp2
  go_ret2
  exact ⟨rfl, G⟩
 ·
  go_enter Tryz.func46, Tryz.ntmps46
  go_wp2_with fail
  refine (KO.out _).mono ?_
  rintro e' w1 ⟨rfl, b1⟩
  replace G := bw_trans G b1
  obtain ⟨_, c0, c1, c2, c3⟩ := S0.bw b1
  clear S0 b1
  go_wp2_with fail
  refine (A1.out _).mono ?_
  rintro e' w9 ⟨rfl, hw9⟩
  subst hw9
  go_wp2
  go_ret2
  exact ⟨rfl, G⟩
 ·
  go_enter Tryz.func46, Tryz.ntmps46
  go_wp2_with fail
  refine (KO.out _).mono ?_
  rintro e' w1 ⟨rfl, b1⟩
  replace G := bw_trans G b1
  obtain ⟨_, c0, c1, c2, c3⟩ := S0.bw b1
  clear S0 b1
  go_wp2_with fail
  refine (A1.out _).mono ?_
  rintro e' w9 ⟨rfl, hw9⟩
  subst hw9
  go_wp2
  go_ret2
  exact ⟨rfl, G⟩
 ·
  go_enter Tryz.func46, Tryz.ntmps46
  go_wp2_with fail
  refine (KO.out _).mono ?_
  rintro e' w1 ⟨rfl, b1⟩
  replace G := bw_trans G b1
  obtain ⟨_, c0, c1, c2, c3⟩ := S0.bw b1
  clear S0 b1
  go_wp2_with fail
  refine (A1.out _).mono ?_
  rintro e' w9 ⟨rfl, hw9⟩
  subst hw9
  go_wp2
  go_ret2
  exact ⟨rfl, G⟩
 ·
  go_enter Tryz.func46, Tryz.ntmps46
  go_wp2_with fail
  refine (KO.out _).mono ?_
  rintro e' w1 ⟨rfl, b1⟩
  replace G := bw_trans G b1
  obtain ⟨_, c0, c1, c2, c3⟩ := S0.bw b1
  clear S0 b1
  go_wp2_with fail
  refine (A1.out _).mono ?_
  rintro e' w9 ⟨rfl, hw9⟩
  subst hw9
  go_wp2
  go_ret2
  exact ⟨rfl, G⟩
 ·
  go_enter Tryz.func46, Tryz.ntmps46
  go_wp2_with fail
  refine (KO.out _).mono ?_
  rintro e' w1 ⟨rfl, b1⟩
  replace G := bw_trans G b1
  obtain ⟨_, c0, c1, c2, c3⟩ := S0.bw b1
  clear S0 b1
  go_wp2_with fail
  refine (A1.out _).mono ?_
  rintro e' w9 ⟨rfl, hw9⟩
  subst hw9
  go_wp2
  go_ret2
  exact ⟨rfl, G⟩
 ·
  go_enter Tryz.func46, Tryz.ntmps46
  go_wp2_with fail
  refine (KO.out _).mono ?_
  rintro e' w1 ⟨rfl, b1⟩
  replace G := bw_trans G b1
  obtain ⟨_, c0, c1, c2, c3⟩ := S0.bw b1
  clear S0 b1
  go_wp2_with fail
  refine (A1.out _).mono ?_
  rintro e' w9 ⟨rfl, hw9⟩
  subst hw9
  go_wp2
  go_ret2
  exact ⟨rfl, G⟩
 ·
  go_enter Tryz.func46, Tryz.ntmps46
  go_wp2_with fail
  refine (KO.out _).mono ?_
  rintro e' w1 ⟨rfl, b1⟩
  replace G := bw_trans G b1
  obtain ⟨_, c0, c1, c2, c3⟩ := S0.bw b1
  clear S0 b1
  go_wp2_with fail
  refine (A1.out _).mono ?_
  rintro e' w9 ⟨rfl, hw9⟩
  subst hw9
  go_wp2
  go_ret2
  exact ⟨rfl, G⟩
 ·
  go_enter Tryz.func46, Tryz.ntmps46
  go_wp2_with fail
  refine (KO.out _).mono ?_
  rintro e' w1 ⟨rfl, b1⟩
  replace G := bw_trans G b1
  obtain ⟨_, c0, c1, c2, c3⟩ := S0.bw b1
  clear S0 b1
  go_wp2_with fail
  refine (A1.out _).mono ?_
  rintro e' w9 ⟨rfl, hw9⟩
  subst hw9
  go_wp2_with fail
  refine (A2.out _).mono ?_
  rintro e' w9 ⟨rfl, hw9⟩
  subst hw9
  go_wp2
  go_ret2
  exact ⟨rfl, G⟩
 ·
  go_enter Tryz.func46, Tryz.ntmps46
  go_wp2_with fail
  refine (KO.out _).mono ?_
  rintro e' w1 ⟨rfl, b1⟩
  replace G := bw_trans G b1
  obtain ⟨_, c0, c1, c2, c3⟩ := S0.bw b1
  clear S0 b1
  go_wp2_with fail
  refine (A1.out _).mono ?_
  rintro e' w9 ⟨rfl, hw9⟩
  subst hw9
  go_wp2_with fail
  refine (A2.out _).mono ?_
  rintro e' w9 ⟨rfl, hw9⟩
  subst hw9
  go_wp2
  go_ret2
  exact ⟨rfl, G⟩
 ·
  go_enter Tryz.func46, Tryz.ntmps46
  go_wp2_with fail
  refine (KO.out _).mono ?_
  rintro e' w1 ⟨rfl, b1⟩
  replace G := bw_trans G b1
  obtain ⟨_, c0, c1, c2, c3⟩ := S0.bw b1
  clear S0 b1
  go_wp2_with fail
  refine (A1.out _).mono ?_
  rintro e' w9 ⟨rfl, hw9⟩
  subst hw9
  go_wp2_with fail
  refine (A2.out _).mono ?_
  rintro e' w9 ⟨rfl, hw9⟩
  subst hw9
  go_wp2
  go_ret2
  exact ⟨rfl, G⟩
 ·
  go_enter Tryz.func46, Tryz.ntmps46
  go_wp2_with fail
  refine (KO.out _).mono ?_
  rintro e' w1 ⟨rfl, b1⟩
  replace G := bw_trans G b1
  obtain ⟨_, c0, c1, c2, c3⟩ := S0.bw b1
  clear S0 b1
  go_wp2_with fail
  refine (A1.out _).mono ?_
  rintro e' w9 ⟨rfl, hw9⟩
  subst hw9
  go_wp2_with fail
  refine (A2.out _).mono ?_
  rintro e' w9 ⟨rfl, hw9⟩
  subst hw9
  go_wp2
  go_ret2
  exact ⟨rfl, G⟩
 ·
  go_enter Tryz.func46, Tryz.ntmps46
  go_wp2_with fail
  refine (KO.out _).mono ?_
  rintro e' w1 ⟨rfl, b1⟩
  replace G := bw_trans G b1
  obtain ⟨_, c0, c1, c2, c3⟩ := S0.bw b1
  clear S0 b1
  go_wp2_with fail
  refine (A1.out _).mono ?_
  rintro e' w9 ⟨rfl, hw9⟩
  subst hw9
  go_wp2_with fail
  refine (A2.out _).mono ?_
  rintro e' w9 ⟨rfl, hw9⟩
  subst hw9
  go_wp2_with fail
  refine (A3.out _).mono ?_
  rintro e' w9 ⟨rfl, hw9⟩
  subst hw9
  go_wp2
  go_ret2
  exact ⟨rfl, G⟩
 ·
  go_enter Tryz.func46, Tryz.ntmps46
  go_wp2_with fail
  refine (KO.out _).mono ?_
  rintro e' w1 ⟨rfl, b1⟩
  replace G := bw_trans G b1
  obtain ⟨_, c0, c1, c2, c3⟩ := S0.bw b1
  clear S0 b1
  go_wp2_with fail
  refine (A1.out _).mono ?_
  rintro e' w9 ⟨rfl, hw9⟩
  subst hw9
  go_wp2_with fail
  refine (A2.out _).mono ?_
  rintro e' w9 ⟨rfl, hw9⟩
  subst hw9
  go_wp2_with fail
  refine (A3.out _).mono ?_
  rintro e' w9 ⟨rfl, hw9⟩
  subst hw9
  go_wp2
  go_ret2
  exact ⟨rfl, G⟩
 ·
  go_enter Tryz.func46, Tryz.ntmps46
  go_wp2_with fail
  refine (KO.out _).mono ?_
  rintro e' w1 ⟨rfl, b1⟩
  replace G := bw_trans G b1
  obtain ⟨_, c0, c1, c2, c3⟩ := S0.bw b1
  clear S0 b1
  go_wp2_with fail
  refine (A1.out _).mono ?_
  rintro e' w9 ⟨rfl, hw9⟩
  subst hw9
  go_wp2_with fail
  refine (A2.out _).mono ?_
  rintro e' w9 ⟨rfl, hw9⟩
  subst hw9
  go_wp2_with fail
  refine (A3.out _).mono ?_
  rintro e' w9 ⟨rfl, hw9⟩
  subst hw9
  go_wp2_with fail
  refine (A4.out (by trivial) (by trivial) _).mono ?_
  rintro e' w2 ⟨rfl, b2⟩
  replace G := bw_trans G b2
  clear b2
  go_wp2
  go_ret2
  exact ⟨rfl, G⟩
 ·
  go_enter Tryz.func46, Tryz.ntmps46
  go_wp2_with fail
  refine (KO.out _).mono ?_
  rintro e' w1 ⟨rfl, b1⟩
  replace G := bw_trans G b1
  obtain ⟨_, c0, c1, c2, c3⟩ := S0.bw b1
  clear S0 b1
  go_wp2_with fail
  refine (A1.out _).mono ?_
  rintro e' w9 ⟨rfl, hw9⟩
  subst hw9
  go_wp2_with fail
  refine (A2.out _).mono ?_
  rintro e' w9 ⟨rfl, hw9⟩
  subst hw9
  go_wp2_with fail
  refine (A3.out _).mono ?_
  rintro e' w9 ⟨rfl, hw9⟩
  subst hw9
  go_wp2_with fail
  refine (A4.out (by trivial) (by trivial) _).mono ?_
  rintro e' w2 ⟨rfl, b2⟩
  replace G := bw_trans G b2
  clear b2
  go_wp2
  go_ret2
  exact ⟨rfl, G⟩
end Go.Proofs.YtnjkdfhhlcoaaaaGreat

/-
 OWN TEXT: package element: potentials, speeds, slopes of elements that may be; one that lies elsewhere.
-/
namespace Go.Proofs.YtnjkdfhhlcoaaaaGreat
open Go.ChangeShapes Go.WideShapes Go.ChangeAt Go.RowKit
set_option linter.unusedVariables false
attribute [local go_sem] frombits_call tobits_call run_neg El.run_store_cx El.run_store_fl
namespace El
/-- an element of the call's own lies at a block -/
structure Sw (w : World) (B : Nat) (k : Int) (a b s t p : Nat) : Prop where
 st : St w B k a b s t p
 fz : ∀ i, w.frozen? ⟨B, i, none⟩ = false
theorem Sw.bw {w w' : World} {B : Nat} {k : Int} {a b s t p : Nat} (h : Sw w B k a b s t p) (g : Bw w w') : Sw w' B k a b s t p :=
 ⟨h.st.bw g, fun i => (Below.frozen g (p := ⟨B, i, none⟩) h.st.lt).trans (h.fz i)⟩
theorem Sw.new (w : World) (k : Int) (a b s t p : Nat) (T : TypeId) : Sw (w.alloc (.cells #[.int .u8 k, .complex .f64 a b, .complex .f64 s t, .float .f64 p] T)) w.heap.size k a b s t p :=
 ⟨St.new w k a b s t p T, fun i => World.frozen?_alloc_at _ _ _ _ rfl⟩
theorem set_cell {w : World} {B i : Nat} {v : Value} (h : ∃ u, w.cell? ⟨B, i, none⟩ = some u) : (w.setCell ⟨B, i, none⟩ v).cell? ⟨B, i, none⟩ = some v := by
 obtain ⟨u, h⟩ := h
 exact World.cell?_setCell_same' _ _ _ (by rw [h]; rfl)
theorem set_off {w : World} {B i j : Nat} {v : Value} (h : i ≠ j) : (w.setCell ⟨B, i, none⟩ v).cell? ⟨B, j, none⟩ = w.cell? ⟨B, j, none⟩ := by
 simp only [World.cell?, World.setCell, Array.getElem?_modify]
 cases hh : w.heap[B]? with
 | none => simp
 | some o => cases o <;> simp [Array.getElem?_setIfInBounds_ne h]
theorem Sw.set {w : World} {B : Nat} {k : Int} {a b s t p : Nat} (h : Sw w B k a b s t p) (k' : Int) (a' b' s' t' p' : Nat) :
  Sw ((((w.setCell ⟨B, 0, none⟩ (.int .u8 k')).setCell ⟨B, 1, none⟩ (.complex .f64 a' b')).setCell ⟨B, 2, none⟩ (.complex .f64 s' t')).setCell ⟨B, 3, none⟩ (.float .f64 p')) B k' a' b' s' t' p' := by
 obtain ⟨⟨h0, h1, h2, h3, h4⟩, h5⟩ := h
 refine ⟨⟨by simpa [World.setCell] using h0, ?_, ?_, ?_, ?_⟩, fun i => by simp only [World.frozen?_setCell]; exact h5 i⟩
 · rw [set_off (by decide), set_off (by decide), set_off (by decide)]; exact set_cell ⟨_, h1⟩
 · rw [set_off (by decide), set_off (by decide)]; exact set_cell ⟨_, by rw [set_off (by decide)]; exact h2⟩
 · rw [set_off (by decide)]; exact set_cell ⟨_, by rw [set_off (by decide), set_off (by decide)]; exact h3⟩
 · exact set_cell ⟨_, by rw [set_off (by decide), set_off (by decide), set_off (by decide)]; exact h4⟩
end El
theorem El.load {w : World} {B : Nat} {k : Int} {a b s t p : Nat} (h : El.St w B k a b s t p) : (loadVar 28 ⟨B, 0, none⟩).run Tryz.prog w = .ok (El.E k a b s t p) w := by
 refine run_loadVar_mid w B 0 28 [.int .u8 k, .complex .f64 a b, .complex .f64 s t, .float .f64 p] _ (fun j v hv => ?_) Tryz.underlying28 rfl (by kernel_rfl)
 match j, hv with
 | 0, hv => cases hv; exact h.c0
 | 1, hv => cases hv; exact h.c1
 | 2, hv => cases hv; exact h.c2
 | 3, hv => cases hv; exact h.c3
theorem check_er (k : Int) (a b s t p : Nat) (er : Int) (V : Value) (w : World) (K : Hid (∀ wz, Calls Tryz.prog 46 #[El.E k a b s t p] wz fun e w' => e = .returned (.tuple #[V, .int .i64 er]) ∧ Bw wz w')) : Calls Tryz.prog 28 #[El.E k a b s t p] w fun e w' => e = .returned (.int .i64 er) ∧ Bw w w' := by
 have S0 := El.St.new w k a b s t p 28
 have G := El.bw_new w (.cells #[.int .u8 k, .complex .f64 a b, .complex .f64 s t, .float .f64 p] 28)
 unfold El.E at *
 go_enter Tryz.func28, Tryz.ntmps28
 go_wp2_with fail
 refine (K.out _).mono ?_
 rintro e' w1 ⟨rfl, b1⟩
 replace G := bw_trans G b1
 clear b1
 go_wp2
 go_ret
 exact ⟨rfl, G⟩
theorem El.set_blk {w : World} {B B' i : Nat} {v : Value} (h : B' ≠ B) (j : Nat) : (w.setCell ⟨B', i, none⟩ v).cell? ⟨B, j, none⟩ = w.cell? ⟨B, j, none⟩ := by
 simp only [World.cell?, World.setCell, Array.getElem?_modify, if_neg h]
theorem El.Sw.off {w : World} {B B' i : Nat} {v : Value} {k : Int} {a b s t p : Nat} (h : El.Sw w B k a b s t p) (hb : B' ≠ B) : El.Sw (w.setCell ⟨B', i, none⟩ v) B k a b s t p := by
 obtain ⟨⟨h0, h1, h2, h3, h4⟩, h5⟩ := h
 exact ⟨⟨by simpa [World.setCell] using h0, (El.set_blk hb _).trans h1, (El.set_blk hb _).trans h2, (El.set_blk hb _).trans h3, (El.set_blk hb _).trans h4⟩, fun i => by rw [World.frozen?_setCell]; exact h5 i⟩
end Go.Proofs.YtnjkdfhhlcoaaaaGreat

/-
 OWN TEXT: the law's small functions; whole numbers up to some thousands as floats, to the bit: sums and differences.
-/
namespace Go.Proofs.YtnjkdfhhlcoaaaaGreat
open Go.ChangeShapes Go.WideShapes Go.ChangeAt Go.RowKit
set_option linter.unusedVariables false
attribute [local go_sem] frombits_call tobits_call run_neg
set_option exponentiation.threshold 3000
namespace El
end El
namespace El
/-- the word x is the whole number n, a nought without its sign -/
def wP (x : Nat) (n : Int) : Prop := wI 1074 x n ∧ Fl.sg x = decide (n < 0)
theorem wP.lt {x : Nat} {n : Int} (h : wP x n) : x < 18446744073709551616 := h.1.1
theorem wP.nan {x : Nat} {n : Int} (h : wP x n) : Fl.nan x = false := h.1.nan
theorem wP.wi {x : Nat} {n : Int} (h : wP x n) (b : n.natAbs ≤ 100000) : El.wi x = true := wI.within rfl h.1 (by omega)
theorem wP.of {s : Bool} {n : Int} (hn : n.natAbs ≤ 9007199254740992) (hs : s = decide (n < 0)) : wP (Fl.wd s (Fl.rq (n.natAbs * 2 ^ 1074) 0)) n := by
 refine ⟨wI_of rfl hn (fun _ => hs), ?_⟩
 obtain ⟨h1, h2⟩ := Fl.rq_rep (n.natAbs * 2 ^ 1074) ⟨n.natAbs, 1074, rfl, hn⟩ (small_log rfl hn)
 rw [Fl.sg_wd _ _ (by omega), hs]
theorem wP.add {a b : Nat} {m n : Int} (ha : wP a m) (hb : wP b n) (hs : (m + n).natAbs ≤ 9007199254740992) : ∃ r, wP r (m + n) ∧ floatBits .add .f64 a b = some r := by
 have e := Fl.add_fin ha.1.2.1 hb.1.2.1
 obtain ⟨k1, k2⟩ := mul_sign (n := m + n) (Nat.two_pow_pos 1074)
 rw [ha.1.2.2, hb.1.2.2, ← Int.add_mul, Int.natAbs_mul, Int.natAbs_natCast] at e
 refine ⟨_, wP.of hs ?_, e⟩
 by_cases z : m + n = 0
 ·
  rw [if_pos (k1.2 z), ha.2, hb.2, z]
  by_cases q : m < 0
  · rw [decide_eq_false (show ¬ n < 0 by omega), Bool.and_false]; rfl
  · rw [decide_eq_false q, Bool.false_and]; rfl
 ·
  rw [if_neg (fun q => z (k1.1 q))]
  exact decide_eq_decide.2 k2
theorem wP.sub {a b : Nat} {m n : Int} (ha : wP a m) (hb : wP b n) (hs : (m - n).natAbs ≤ 9007199254740992) : ∃ r, wP r (m - n) ∧ floatBits .sub .f64 a b = some r := by
 have e := Fl.sub_fin hb.1.1 ha.1.2.1 hb.1.2.1
 obtain ⟨k1, k2⟩ := mul_sign (n := m - n) (Nat.two_pow_pos 1074)
 rw [ha.1.2.2, hb.1.2.2, ← Int.sub_mul, Int.natAbs_mul, Int.natAbs_natCast] at e
 refine ⟨_, wP.of hs ?_, e⟩
 by_cases z : m - n = 0
 ·
  have q : n = m := by omega
  subst q
  rw [if_pos (k1.2 z), ha.2, hb.2, z]
  cases decide (n < 0) <;> rfl
 ·
  rw [if_neg (fun q => z (k1.1 q))]
  exact decide_eq_decide.2 k2
theorem thou_all : ∀ k : Fin 2001, floatOfInt .f64 ((k.val : Int) - 1000) < 18446744073709551616 ∧ Fl.rg (floatOfInt .f64 ((k.val : Int) - 1000)) < 9218868437227405312 ∧ Fl.val (floatOfInt .f64 ((k.val : Int) - 1000)) = ((k.val : Int) - 1000) * ((2 ^ 1074 : Nat) : Int) ∧ Fl.sg (floatOfInt .f64 ((k.val : Int) - 1000)) = decide (((k.val : Int) - 1000) < 0) := by decide +kernel
theorem wP_thou (m : Int) (h : m.natAbs ≤ 1000) : wP (floatOfInt .f64 m) m := by
 have h := thou_all ⟨(m + 1000).toNat, by omega⟩
 simp only at h
 rw [show (((m + 1000).toNat : Nat) : Int) - 1000 = m by omega] at h
 exact ⟨⟨h.1, h.2.1, h.2.2.1⟩, h.2.2.2⟩
end El
end Go.Proofs.YtnjkdfhhlcoaaaaGreat

/-
 OWN TEXT: whole powers as floats; what one row of bits a part comes to at whole numbers.
-/
namespace Go.Proofs.YtnjkdfhhlcoaaaaGreat
open Go.ChangeShapes Go.WideShapes Go.ChangeAt Go.RowKit
set_option linter.unusedVariables false
set_option exponentiation.threshold 3000
namespace El
/-- corners' whole powers -/
def sb (k : Nat) (c : Nat) : Nat := (floatBits .sub .f64 (floatOfInt .f64 (k : Int)) c).getD 0
-- whole numbers
def zW (a : Z) (g : Py.G) : Prop := wC 1074 a.1 a.2 g
theorem op_some {o : BinOp} {a b r : Nat} (e : floatBits o .f64 a b = some r) (nr : Fl.nan r = false) : Sv.op o a b = r := by unfold Sv.op; rw [e]; exact Sv.c_num nr
theorem op_mul {a b : Nat} {m n : Int} (ha : wI 1074 a m) (hb : wI 1074 b n) (hs : (m * n).natAbs ≤ 9007199254740992) : wI 1074 (Sv.op .mul a b) (m * n) := by
 have e : floatBits .mul .f64 a b = some _ := Fl.mul_fin ha.2.1 hb.2.1
 have h := wI.mul rfl ha hb hs (run_some e).1
 rw [op_some e h.nan]
 exact h
theorem op_add {a b : Nat} {m n : Int} (ha : wI 1074 a m) (hb : wI 1074 b n) (hs : (m + n).natAbs ≤ 9007199254740992) : wI 1074 (Sv.op .add a b) (m + n) := by
 have e : floatBits .add .f64 a b = some _ := Fl.add_fin ha.2.1 hb.2.1
 have h := wI.add rfl ha hb hs (run_some e).1
 rw [op_some e h.nan]
 exact h
theorem op_sub {a b : Nat} {m n : Int} (ha : wI 1074 a m) (hb : wI 1074 b n) (hs : (m - n).natAbs ≤ 9007199254740992) : wI 1074 (Sv.op .sub a b) (m - n) := by
 have e : floatBits .sub .f64 a b = some _ := Fl.sub_fin hb.1 ha.2.1 hb.2.1
 have h := wI.sub rfl ha hb hs (run_some e).1
 rw [op_some e h.nan]
 exact h
theorem zW.mul {a b : Z} {g h : Py.G} {M K : Nat} (ha : zW a g) (hb : zW b h) (lg : Py.Le g M) (lh : Py.Le h K) (hs : M * K ≤ 9007199254740992) : zW (zmul a b) (Py.gm g h) := by
 obtain ⟨b1, b2, b3, b4⟩ := lg.prods lh
 obtain ⟨k1, k2⟩ := (lg.mul lh).one
 exact ⟨op_sub (op_mul ha.1 hb.1 (Nat.le_trans b1 hs)) (op_mul ha.2 hb.2 (Nat.le_trans b2 hs)) (Nat.le_trans k1 hs), op_add (op_mul ha.1 hb.2 (Nat.le_trans b3 hs)) (op_mul ha.2 hb.1 (Nat.le_trans b4 hs)) (Nat.le_trans k2 hs)⟩
theorem zW.one {a : Z} {g : Py.G} {M : Nat} (ha : zW a g) (lg : Py.Le g M) (hs : M ≤ 9007199254740992) : zW (zscale a 4607182418800017408) g := by
 obtain ⟨k1, k2⟩ := lg.one
 have h1 := op_mul ha.1 (w_unit rfl) (by rw [Int.mul_one]; exact Nat.le_trans k1 hs)
 have h2 := op_mul ha.2 (w_unit rfl) (by rw [Int.mul_one]; exact Nat.le_trans k2 hs)
 rw [Int.mul_one] at h1 h2
 exact ⟨h1, h2⟩
theorem zW.fin {a : Z} {g : Py.G} (h : zW a g) : El.fin a = true := by
 unfold El.fin
 rw [h.1.fin, h.2.fin]
 rfl
/-- words of one row that are whole numbers -/
theorem zW.of {u v : Nat} {a : Z} {g : Py.G} (h : zW a g) (e : c2 u v = a) : wC 1074 u v g := by
 have e1 : Fl.bitsF u = a.1 := congrArg Prod.fst e
 have e2 : Fl.bitsF v = a.2 := congrArg Prod.snd e
 have n1 : Fl.nan u = false := by rw [← Sv.nan_c, e1]; exact h.1.nan
 have n2 : Fl.nan v = false := by rw [← Sv.nan_c, e2]; exact h.2.nan
 rw [Sv.c_num n1] at e1
 rw [Sv.c_num n2] at e2
 subst e1 e2
 exact h
end El
end Go.Proofs.YtnjkdfhhlcoaaaaGreat

/-
 OWN TEXT: all that the law asks of an element of whole parts, kind by kind.
-/
namespace Go.Proofs.YtnjkdfhhlcoaaaaGreat
open Go.ChangeShapes Go.WideShapes Go.ChangeAt Go.RowKit
set_option linter.unusedVariables false
attribute [local go_sem] frombits_call tobits_call run_neg El.run_store_cx El.run_store_fl
/-- numbers of whole parts, moved likewise -/
structure El.Env (X1 Y1 X2 Y2 X3 Y3 X4 Y4 : Int) (a b s t x y u v a1 b1 x1 y1 dx dy : Nat) : Prop where
 ha : El.wP a X1
 hb : El.wP b Y1
 hs : El.wP s X2
 ht : El.wP t Y2
 hx : El.wP x X3
 hy : El.wP y Y3
 hu : El.wP u X4
 hv : El.wP v Y4
 ha1 : El.wP a1 (X1 + X4)
 hb1 : El.wP b1 (Y1 + Y4)
 hx1 : El.wP x1 (X3 + X4)
 hy1 : El.wP y1 (Y3 + Y4)
 hdx : El.wP dx (X3 - X1)
 hdy : El.wP dy (Y3 - Y1)
 n1 : X1.natAbs ≤ 1000 ∧ Y1.natAbs ≤ 1000
 n2 : X2.natAbs ≤ 1000 ∧ Y2.natAbs ≤ 1000
 n3 : X3.natAbs ≤ 1000 ∧ Y3.natAbs ≤ 1000
 n4 : X4.natAbs ≤ 1000 ∧ Y4.natAbs ≤ 1000
 ad : ∀ w, Calls Tryz.prog 41 #[.complex .f64 a b, .complex .f64 u v] w fun e w' => e = .returned (.complex .f64 a1 b1) ∧ w' = w
 az : ∀ w, Calls Tryz.prog 41 #[.complex .f64 x y, .complex .f64 u v] w fun e w' => e = .returned (.complex .f64 x1 y1) ∧ w' = w
 sd : ∀ w, Calls Tryz.prog 44 #[.complex .f64 x y, .complex .f64 a b] w fun e w' => e = .returned (.complex .f64 dx dy) ∧ w' = w
 se : ∀ w, Calls Tryz.prog 44 #[.complex .f64 x1 y1, .complex .f64 a1 b1] w fun e w' => e = .returned (.complex .f64 dx dy) ∧ w' = w
theorem place_P {a b : Nat} {m n : Int} (ha : El.wP a m) (hb : El.wP b n) (h1 : m.natAbs ≤ 100000) (h2 : n.natAbs ≤ 100000) : ∀ wz, Calls Tryz.prog 62 #[.complex .f64 a b] wz fun e w' => e = .returned (.bool true) ∧ w' = wz := by
 intro wz
 have h := eplace_any a b wz ha.lt hb.lt
 rw [ha.wi h1, hb.wi h2] at h
 exact h
theorem kn1 {a b s t p : Nat} {X1 Y1 X2 Y2 : Int} (ha : El.wP a X1) (hb : El.wP b Y1) (hs : El.wP s X2) (ht : El.wP t Y2) (n1 : X1.natAbs ≤ 100000 ∧ Y1.natAbs ≤ 100000) (n2 : X2.natAbs ≤ 100000 ∧ Y2.natAbs ≤ 100000) (hp : p < 18446744073709551616) (w : World) : Calls Tryz.prog 46 #[El.E 1 a b s t p] w fun e w' => e = .returned (.tuple #[if El.wi p && ((Fl.eqF a 0 && Fl.eqF b 0) && Fl.eqF p 0) then .iface 105 (El.E 1 a b s t p) else .nilIface, .int .i64 (if El.wi p then (if ((Fl.eqF a 0 && Fl.eqF b 0) && Fl.eqF p 0) then 0 else 150) else 5)]) ∧ Bw w w' := by
 have h := known1_q a b s t p true true (El.wi p) ((Fl.eqF a 0 && Fl.eqF b 0) && Fl.eqF p 0) w (place_P ha hb n1.1 n1.2) (place_P hs ht n2.1 n2.2) (fun wz => within_any p 4787326403894837248 wz hp) (fun _ _ wz => may1 a b s t p wz ha.lt hb.lt ha.nan hb.nan)
 simpa only [Bool.true_and] using h
theorem kn1_ok {a b s t p : Nat} {X1 Y1 X2 Y2 : Int} (ha : El.wP a X1) (hb : El.wP b Y1) (hs : El.wP s X2) (ht : El.wP t Y2) (n1 : X1.natAbs ≤ 100000 ∧ Y1.natAbs ≤ 100000) (n2 : X2.natAbs ≤ 100000 ∧ Y2.natAbs ≤ 100000) (hp : p < 18446744073709551616) (h1 : El.wi p = true) (h2 : ((Fl.eqF a 0 && Fl.eqF b 0) && Fl.eqF p 0) = true) (w : World) : Calls Tryz.prog 46 #[El.E 1 a b s t p] w fun e w' => e = .returned (.tuple #[.iface 105 (El.E 1 a b s t p), .int .i64 0]) ∧ Bw w w' := by
 have h := kn1 ha hb hs ht n1 n2 hp w
 rw [h1, h2] at h
 exact h
theorem kn3 {a b s t p : Nat} {X1 Y1 X2 Y2 : Int} (ha : El.wP a X1) (hb : El.wP b Y1) (hs : El.wP s X2) (ht : El.wP t Y2) (n1 : X1.natAbs ≤ 100000 ∧ Y1.natAbs ≤ 100000) (n2 : X2.natAbs ≤ 100000 ∧ Y2.natAbs ≤ 100000) (hp : p < 18446744073709551616) (w : World) : Calls Tryz.prog 46 #[El.E 3 a b s t p] w fun e w' => e = .returned (.tuple #[if El.wi p && (El.wh p && Fl.leF 4607182418800017408 p && Fl.leF p 4620693217682128896) then .iface 107 (El.E 3 a b s t p) else .nilIface, .int .i64 (if El.wi p then (if (El.wh p && Fl.leF 4607182418800017408 p && Fl.leF p 4620693217682128896) then 0 else 150) else 5)]) ∧ Bw w w' := by
 have h := known3_q a b s t p true true (El.wi p) (El.wh p && Fl.leF 4607182418800017408 p && Fl.leF p 4620693217682128896) w (place_P ha hb n1.1 n1.2) (place_P hs ht n2.1 n2.2) (fun wz => within_any p 4787326403894837248 wz hp) (fun _ q wz => may3 a b s t p wz hp (El.wi_nan q))
 simpa only [Bool.true_and] using h
theorem kn3_ok {a b s t p : Nat} {X1 Y1 X2 Y2 : Int} (ha : El.wP a X1) (hb : El.wP b Y1) (hs : El.wP s X2) (ht : El.wP t Y2) (n1 : X1.natAbs ≤ 100000 ∧ Y1.natAbs ≤ 100000) (n2 : X2.natAbs ≤ 100000 ∧ Y2.natAbs ≤ 100000) (hp : p < 18446744073709551616) (h1 : El.wi p = true) (h2 : (El.wh p && Fl.leF 4607182418800017408 p && Fl.leF p 4620693217682128896) = true) (w : World) : Calls Tryz.prog 46 #[El.E 3 a b s t p] w fun e w' => e = .returned (.tuple #[.iface 107 (El.E 3 a b s t p), .int .i64 0]) ∧ Bw w w' := by
 have h := kn3 ha hb hs ht n1 n2 hp w
 rw [h1, h2] at h
 exact h
theorem kn4 {a b s t p : Nat} {X1 Y1 X2 Y2 : Int} (ha : El.wP a X1) (hb : El.wP b Y1) (hs : El.wP s X2) (ht : El.wP t Y2) (n1 : X1.natAbs ≤ 100000 ∧ Y1.natAbs ≤ 100000) (n2 : X2.natAbs ≤ 100000 ∧ Y2.natAbs ≤ 100000) (hp : p < 18446744073709551616) (w : World) : Calls Tryz.prog 46 #[El.E 4 a b s t p] w fun e w' => e = .returned (.tuple #[if El.wi p && (Fl.leF 4598175219545276416 p && Fl.leF p 4616189618054758400) then .iface 108 (El.E 4 a b s t p) else .nilIface, .int .i64 (if El.wi p then (if (Fl.leF 4598175219545276416 p && Fl.leF p 4616189618054758400) then 0 else 150) else 5)]) ∧ Bw w w' := by
 have h := known4_q a b s t p true true (El.wi p) (Fl.leF 4598175219545276416 p && Fl.leF p 4616189618054758400) w (place_P ha hb n1.1 n1.2) (place_P hs ht n2.1 n2.2) (fun wz => within_any p 4787326403894837248 wz hp) (fun _ _ wz => may4 a b s t p wz)
 simpa only [Bool.true_and] using h
theorem kn4_ok {a b s t p : Nat} {X1 Y1 X2 Y2 : Int} (ha : El.wP a X1) (hb : El.wP b Y1) (hs : El.wP s X2) (ht : El.wP t Y2) (n1 : X1.natAbs ≤ 100000 ∧ Y1.natAbs ≤ 100000) (n2 : X2.natAbs ≤ 100000 ∧ Y2.natAbs ≤ 100000) (hp : p < 18446744073709551616) (h1 : El.wi p = true) (h2 : (Fl.leF 4598175219545276416 p && Fl.leF p 4616189618054758400) = true) (w : World) : Calls Tryz.prog 46 #[El.E 4 a b s t p] w fun e w' => e = .returned (.tuple #[.iface 108 (El.E 4 a b s t p), .int .i64 0]) ∧ Bw w w' := by
 have h := kn4 ha hb hs ht n1 n2 hp w
 rw [h1, h2] at h
 exact h
end Go.Proofs.YtnjkdfhhlcoaaaaGreat

