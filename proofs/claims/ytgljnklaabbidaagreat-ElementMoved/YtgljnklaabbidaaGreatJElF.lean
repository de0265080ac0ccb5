/-
  OWN TEXT: package element: what may be, by its kind.
-/
import Derived.Test.YtgljnklaabbidaaGreatJElDToElE
namespace Go.Proofs.YtgljnklaabbidaaGreat
open Go.ChangeShapes Go.WideShapes Go.ChangeAt Go.RowKit
set_option linter.unusedVariables false
attribute [local go_sem] frombits_call tobits_call run_neg El.run_store_cx El.run_store_fl
set_option maxHeartbeats 16000000 in
theorem known1_q (a b s t p : Nat) (q1 q2 q3 q4 : Bool) (w : World)
    (A1 : Hid (∀ wz, Calls Tryz.prog 29 #[.complex .f64 a b] wz fun e w' => e = .returned (.bool q1) ∧ w' = wz))
    (A2 : Hid (∀ wz, Calls Tryz.prog 29 #[.complex .f64 s t] wz fun e w' => e = .returned (.bool q2) ∧ w' = wz))
    (A3 : Hid (∀ wz, Calls Tryz.prog 30 #[.float .f64 p, .float .f64 4787326403894837248] wz fun e w' => e = .returned (.bool q3) ∧ w' = wz))
    (A4 : Hid (q1 = true → q3 = true → ∀ wz, Calls Tryz.prog 54 #[El.E 1 a b s t p] wz fun e w' => e = .returned (.bool q4) ∧ Bw wz w')) :
    Calls Tryz.prog 19 #[El.E 1 a b s t p] w fun e w' => e = .returned (.tuple #[if q1 && q2 && q3 && q4 then .iface 60 (El.E 1 a b s t p) else .nilIface, .int .i64 (if q1 && q2 && q3 then (if q4 then 0 else 150) else 5)]) ∧ Bw w w' := by
  have S0 := El.St.new w 1 a b s t p 30
  have G := El.bw_new w (.cells #[.int .u8 1, .complex .f64 a b, .complex .f64 s t, .float .f64 p] 30)
  have KO := El.hid (fun wz => kindof1 a b s t p wz)
  have HM : ∀ w, (method 204 60 (.agg #[.int .u8 1, .complex .f64 a b, .complex .f64 s t, .float .f64 p]) "eddy/element.may").run Tryz.prog w = .ok (54, .agg #[.int .u8 1, .complex .f64 a b, .complex .f64 s t, .float .f64 p]) w := fun _ => by kernel_rfl
  unfold El.E at *
  cases q1 <;> cases q2 <;> cases q3 <;> cases q4
  · go_enter Tryz.func19, Tryz.ntmps19
    go_wp2_with fail
    refine (KO.out _).mono ?_
    rintro e' w1 ⟨rfl, b1⟩
    replace G := bw_trans G b1
    obtain ⟨_, c0, c1, c2, c3⟩ := S0.bw b1
    clear S0 b1
    go_wp2_with fail
    refine (A1.out _).mono ?_
    rintro e' w9 ⟨rfl, hw9⟩
    subst hw9
    go_wp2
    go_ret2
    exact ⟨rfl, G⟩
  · go_enter Tryz.func19, Tryz.ntmps19
    go_wp2_with fail
    refine (KO.out _).mono ?_
    rintro e' w1 ⟨rfl, b1⟩
    replace G := bw_trans G b1
    obtain ⟨_, c0, c1, c2, c3⟩ := S0.bw b1
    clear S0 b1
    go_wp2_with fail
    refine (A1.out _).mono ?_
    rintro e' w9 ⟨rfl, hw9⟩
    subst hw9
    go_wp2
    go_ret2
    exact ⟨rfl, G⟩
  · go_enter Tryz.func19, Tryz.ntmps19
    go_wp2_with fail
    refine (KO.out _).mono ?_
    rintro e' w1 ⟨rfl, b1⟩
    replace G := bw_trans G b1
    obtain ⟨_, c0, c1, c2, c3⟩ := S0.bw b1
    clear S0 b1
    go_wp2_with fail
    refine (A1.out _).mono ?_
    rintro e' w9 ⟨rfl, hw9⟩
    subst hw9
    go_wp2
    go_ret2
    exact ⟨rfl, G⟩
  · go_enter Tryz.func19, Tryz.ntmps19
    go_wp2_with fail
    refine (KO.out _).mono ?_
    rintro e' w1 ⟨rfl, b1⟩
    replace G := bw_trans G b1
    obtain ⟨_, c0, c1, c2, c3⟩ := S0.bw b1
    clear S0 b1
    go_wp2_with fail
    refine (A1.out _).mono ?_
    rintro e' w9 ⟨rfl, hw9⟩
    subst hw9
    go_wp2
    go_ret2
    exact ⟨rfl, G⟩
  · go_enter Tryz.func19, Tryz.ntmps19
    go_wp2_with fail
    refine (KO.out _).mono ?_
    rintro e' w1 ⟨rfl, b1⟩
    replace G := bw_trans G b1
    obtain ⟨_, c0, c1, c2, c3⟩ := S0.bw b1
    clear S0 b1
    go_wp2_with fail
    refine (A1.out _).mono ?_
    rintro e' w9 ⟨rfl, hw9⟩
    subst hw9
    go_wp2
    go_ret2
    exact ⟨rfl, G⟩
  · go_enter Tryz.func19, Tryz.ntmps19
    go_wp2_with fail
    refine (KO.out _).mono ?_
    rintro e' w1 ⟨rfl, b1⟩
    replace G := bw_trans G b1
    obtain ⟨_, c0, c1, c2, c3⟩ := S0.bw b1
    clear S0 b1
    go_wp2_with fail
    refine (A1.out _).mono ?_
    rintro e' w9 ⟨rfl, hw9⟩
    subst hw9
    go_wp2
    go_ret2
    exact ⟨rfl, G⟩
  · go_enter Tryz.func19, Tryz.ntmps19
    go_wp2_with fail
    refine (KO.out _).mono ?_
    rintro e' w1 ⟨rfl, b1⟩
    replace G := bw_trans G b1
    obtain ⟨_, c0, c1, c2, c3⟩ := S0.bw b1
    clear S0 b1
    go_wp2_with fail
    refine (A1.out _).mono ?_
    rintro e' w9 ⟨rfl, hw9⟩
    subst hw9
    go_wp2
    go_ret2
    exact ⟨rfl, G⟩
  · go_enter Tryz.func19, Tryz.ntmps19
    go_wp2_with fail
    refine (KO.out _).mono ?_
    rintro e' w1 ⟨rfl, b1⟩
    replace G := bw_trans G b1
    obtain ⟨_, c0, c1, c2, c3⟩ := S0.bw b1
    clear S0 b1
    go_wp2_with fail
    refine (A1.out _).mono ?_
    rintro e' w9 ⟨rfl, hw9⟩
    subst hw9
    go_wp2
    go_ret2
    exact ⟨rfl, G⟩
  · go_enter Tryz.func19, Tryz.ntmps19
    go_wp2_with fail
    refine (KO.out _).mono ?_
    rintro e' w1 ⟨rfl, b1⟩
    replace G := bw_trans G b1
    obtain ⟨_, c0, c1, c2, c3⟩ := S0.bw b1
    clear S0 b1
    go_wp2_with fail
    refine (A1.out _).mono ?_
    rintro e' w9 ⟨rfl, hw9⟩
    subst hw9
    go_wp2_with fail
    refine (A2.out _).mono ?_
    rintro e' w9 ⟨rfl, hw9⟩
    subst hw9
    go_wp2
    go_ret2
    exact ⟨rfl, G⟩
  · go_enter Tryz.func19, Tryz.ntmps19
    go_wp2_with fail
    refine (KO.out _).mono ?_
    rintro e' w1 ⟨rfl, b1⟩
    replace G := bw_trans G b1
    obtain ⟨_, c0, c1, c2, c3⟩ := S0.bw b1
    clear S0 b1
    go_wp2_with fail
    refine (A1.out _).mono ?_
    rintro e' w9 ⟨rfl, hw9⟩
    subst hw9
    go_wp2_with fail
    refine (A2.out _).mono ?_
    rintro e' w9 ⟨rfl, hw9⟩
    subst hw9
    go_wp2
    go_ret2
    exact ⟨rfl, G⟩
  · go_enter Tryz.func19, Tryz.ntmps19
    go_wp2_with fail
    refine (KO.out _).mono ?_
    rintro e' w1 ⟨rfl, b1⟩
    replace G := bw_trans G b1
    obtain ⟨_, c0, c1, c2, c3⟩ := S0.bw b1
    clear S0 b1
    go_wp2_with fail
    refine (A1.out _).mono ?_
    rintro e' w9 ⟨rfl, hw9⟩
    subst hw9
    go_wp2_with fail
    refine (A2.out _).mono ?_
    rintro e' w9 ⟨rfl, hw9⟩
    subst hw9
    go_wp2
    go_ret2
    exact ⟨rfl, G⟩
  · go_enter Tryz.func19, Tryz.ntmps19
    go_wp2_with fail
    refine (KO.out _).mono ?_
    rintro e' w1 ⟨rfl, b1⟩
    replace G := bw_trans G b1
    obtain ⟨_, c0, c1, c2, c3⟩ := S0.bw b1
    clear S0 b1
    go_wp2_with fail
    refine (A1.out _).mono ?_
    rintro e' w9 ⟨rfl, hw9⟩
    subst hw9
    go_wp2_with fail
    refine (A2.out _).mono ?_
    rintro e' w9 ⟨rfl, hw9⟩
    subst hw9
    go_wp2
    go_ret2
    exact ⟨rfl, G⟩
  · go_enter Tryz.func19, Tryz.ntmps19
    go_wp2_with fail
    refine (KO.out _).mono ?_
    rintro e' w1 ⟨rfl, b1⟩
    replace G := bw_trans G b1
    obtain ⟨_, c0, c1, c2, c3⟩ := S0.bw b1
    clear S0 b1
    go_wp2_with fail
    refine (A1.out _).mono ?_
    rintro e' w9 ⟨rfl, hw9⟩
    subst hw9
    go_wp2_with fail
    refine (A2.out _).mono ?_
    rintro e' w9 ⟨rfl, hw9⟩
    subst hw9
    go_wp2_with fail
    refine (A3.out _).mono ?_
    rintro e' w9 ⟨rfl, hw9⟩
    subst hw9
    go_wp2
    go_ret2
    exact ⟨rfl, G⟩
  · go_enter Tryz.func19, Tryz.ntmps19
    go_wp2_with fail
    refine (KO.out _).mono ?_
    rintro e' w1 ⟨rfl, b1⟩
    replace G := bw_trans G b1
    obtain ⟨_, c0, c1, c2, c3⟩ := S0.bw b1
    clear S0 b1
    go_wp2_with fail
    refine (A1.out _).mono ?_
    rintro e' w9 ⟨rfl, hw9⟩
    subst hw9
    go_wp2_with fail
    refine (A2.out _).mono ?_
    rintro e' w9 ⟨rfl, hw9⟩
    subst hw9
    go_wp2_with fail
    refine (A3.out _).mono ?_
    rintro e' w9 ⟨rfl, hw9⟩
    subst hw9
    go_wp2
    go_ret2
    exact ⟨rfl, G⟩
  · go_enter Tryz.func19, Tryz.ntmps19
    go_wp2_with fail
    refine (KO.out _).mono ?_
    rintro e' w1 ⟨rfl, b1⟩
    replace G := bw_trans G b1
    obtain ⟨_, c0, c1, c2, c3⟩ := S0.bw b1
    clear S0 b1
    go_wp2_with fail
    refine (A1.out _).mono ?_
    rintro e' w9 ⟨rfl, hw9⟩
    subst hw9
    go_wp2_with fail
    refine (A2.out _).mono ?_
    rintro e' w9 ⟨rfl, hw9⟩
    subst hw9
    go_wp2_with fail
    refine (A3.out _).mono ?_
    rintro e' w9 ⟨rfl, hw9⟩
    subst hw9
    go_wp2_with fail
    refine (A4.out (by trivial) (by trivial) _).mono ?_
    rintro e' w2 ⟨rfl, b2⟩
    replace G := bw_trans G b2
    clear b2
    go_wp2
    go_ret2
    exact ⟨rfl, G⟩
  · go_enter Tryz.func19, Tryz.ntmps19
    go_wp2_with fail
    refine (KO.out _).mono ?_
    rintro e' w1 ⟨rfl, b1⟩
    replace G := bw_trans G b1
    obtain ⟨_, c0, c1, c2, c3⟩ := S0.bw b1
    clear S0 b1
    go_wp2_with fail
    refine (A1.out _).mono ?_
    rintro e' w9 ⟨rfl, hw9⟩
    subst hw9
    go_wp2_with fail
    refine (A2.out _).mono ?_
    rintro e' w9 ⟨rfl, hw9⟩
    subst hw9
    go_wp2_with fail
    refine (A3.out _).mono ?_
    rintro e' w9 ⟨rfl, hw9⟩
    subst hw9
    go_wp2_with fail
    refine (A4.out (by trivial) (by trivial) _).mono ?_
    rintro e' w2 ⟨rfl, b2⟩
    replace G := bw_trans G b2
    clear b2
    go_wp2
    go_ret2
    exact ⟨rfl, G⟩
set_option maxHeartbeats 16000000 in
theorem known2_q (a b s t p : Nat) (q1 q2 q3 q4 : Bool) (w : World)
    (A1 : Hid (∀ wz, Calls Tryz.prog 29 #[.complex .f64 a b] wz fun e w' => e = .returned (.bool q1) ∧ w' = wz))
    (A2 : Hid (∀ wz, Calls Tryz.prog 29 #[.complex .f64 s t] wz fun e w' => e = .returned (.bool q2) ∧ w' = wz))
    (A3 : Hid (∀ wz, Calls Tryz.prog 30 #[.float .f64 p, .float .f64 4787326403894837248] wz fun e w' => e = .returned (.bool q3) ∧ w' = wz))
    (A4 : Hid (q1 = true → q3 = true → ∀ wz, Calls Tryz.prog 120 #[El.E 2 a b s t p] wz fun e w' => e = .returned (.bool q4) ∧ Bw wz w')) :
    Calls Tryz.prog 19 #[El.E 2 a b s t p] w fun e w' => e = .returned (.tuple #[if q1 && q2 && q3 && q4 then .iface 63 (El.E 2 a b s t p) else .nilIface, .int .i64 (if q1 && q2 && q3 then (if q4 then 0 else 150) else 5)]) ∧ Bw w w' := by
  have S0 := El.St.new w 2 a b s t p 30
  have G := El.bw_new w (.cells #[.int .u8 2, .complex .f64 a b, .complex .f64 s t, .float .f64 p] 30)
  have KO := El.hid (fun wz => kindof2 a b s t p wz)
  have HM : ∀ w, (method 204 63 (.agg #[.int .u8 2, .complex .f64 a b, .complex .f64 s t, .float .f64 p]) "eddy/element.may").run Tryz.prog w = .ok (120, .agg #[.int .u8 2, .complex .f64 a b, .complex .f64 s t, .float .f64 p]) w := fun _ => by kernel_rfl
  unfold El.E at *
  cases q1 <;> cases q2 <;> cases q3 <;> cases q4
  · go_enter Tryz.func19, Tryz.ntmps19
    go_wp2_with fail
    refine (KO.out _).mono ?_
    rintro e' w1 ⟨rfl, b1⟩
    replace G := bw_trans G b1
    obtain ⟨_, c0, c1, c2, c3⟩ := S0.bw b1
    clear S0 b1
    go_wp2_with fail
    refine (A1.out _).mono ?_
    rintro e' w9 ⟨rfl, hw9⟩
    subst hw9
    go_wp2
    go_ret2
    exact ⟨rfl, G⟩
  · go_enter Tryz.func19, Tryz.ntmps19
    go_wp2_with fail
    refine (KO.out _).mono ?_
    rintro e' w1 ⟨rfl, b1⟩
    replace G := bw_trans G b1
    obtain ⟨_, c0, c1, c2, c3⟩ := S0.bw b1
    clear S0 b1
    go_wp2_with fail
    refine (A1.out _).mono ?_
    rintro e' w9 ⟨rfl, hw9⟩
    subst hw9
    go_wp2
    go_ret2
    exact ⟨rfl, G⟩
  · go_enter Tryz.func19, Tryz.ntmps19
    go_wp2_with fail
    refine (KO.out _).mono ?_
    rintro e' w1 ⟨rfl, b1⟩
    replace G := bw_trans G b1
    obtain ⟨_, c0, c1, c2, c3⟩ := S0.bw b1
    clear S0 b1
    go_wp2_with fail
    refine (A1.out _).mono ?_
    rintro e' w9 ⟨rfl, hw9⟩
    subst hw9
    go_wp2
    go_ret2
    exact ⟨rfl, G⟩
  · go_enter Tryz.func19, Tryz.ntmps19
    go_wp2_with fail
    refine (KO.out _).mono ?_
    rintro e' w1 ⟨rfl, b1⟩
    replace G := bw_trans G b1
    obtain ⟨_, c0, c1, c2, c3⟩ := S0.bw b1
    clear S0 b1
    go_wp2_with fail
    refine (A1.out _).mono ?_
    rintro e' w9 ⟨rfl, hw9⟩
    subst hw9
    go_wp2
    go_ret2
    exact ⟨rfl, G⟩
  · go_enter Tryz.func19, Tryz.ntmps19
    go_wp2_with fail
    refine (KO.out _).mono ?_
    rintro e' w1 ⟨rfl, b1⟩
    replace G := bw_trans G b1
    obtain ⟨_, c0, c1, c2, c3⟩ := S0.bw b1
    clear S0 b1
    go_wp2_with fail
    refine (A1.out _).mono ?_
    rintro e' w9 ⟨rfl, hw9⟩
    subst hw9
    go_wp2
    go_ret2
    exact ⟨rfl, G⟩
  · go_enter Tryz.func19, Tryz.ntmps19
    go_wp2_with fail
    refine (KO.out _).mono ?_
    rintro e' w1 ⟨rfl, b1⟩
    replace G := bw_trans G b1
    obtain ⟨_, c0, c1, c2, c3⟩ := S0.bw b1
    clear S0 b1
    go_wp2_with fail
    refine (A1.out _).mono ?_
    rintro e' w9 ⟨rfl, hw9⟩
    subst hw9
    go_wp2
    go_ret2
    exact ⟨rfl, G⟩
  · go_enter Tryz.func19, Tryz.ntmps19
    go_wp2_with fail
    refine (KO.out _).mono ?_
    rintro e' w1 ⟨rfl, b1⟩
    replace G := bw_trans G b1
    obtain ⟨_, c0, c1, c2, c3⟩ := S0.bw b1
    clear S0 b1
    go_wp2_with fail
    refine (A1.out _).mono ?_
    rintro e' w9 ⟨rfl, hw9⟩
    subst hw9
    go_wp2
    go_ret2
    exact ⟨rfl, G⟩
  · go_enter Tryz.func19, Tryz.ntmps19
    go_wp2_with fail
    refine (KO.out _).mono ?_
    rintro e' w1 ⟨rfl, b1⟩
    replace G := bw_trans G b1
    obtain ⟨_, c0, c1, c2, c3⟩ := S0.bw b1
    clear S0 b1
    go_wp2_with fail
    refine (A1.out _).mono ?_
    rintro e' w9 ⟨rfl, hw9⟩
    subst hw9
    go_wp2
    go_ret2
    exact ⟨rfl, G⟩
  · go_enter Tryz.func19, Tryz.ntmps19
    go_wp2_with fail
    refine (KO.out _).mono ?_
    rintro e' w1 ⟨rfl, b1⟩
    replace G := bw_trans G b1
    obtain ⟨_, c0, c1, c2, c3⟩ := S0.bw b1
    clear S0 b1
    go_wp2_with fail
    refine (A1.out _).mono ?_
    rintro e' w9 ⟨rfl, hw9⟩
    subst hw9
    go_wp2_with fail
    refine (A2.out _).mono ?_
    rintro e' w9 ⟨rfl, hw9⟩
    subst hw9
    go_wp2
    go_ret2
    exact ⟨rfl, G⟩
  · go_enter Tryz.func19, Tryz.ntmps19
    go_wp2_with fail
    refine (KO.out _).mono ?_
    rintro e' w1 ⟨rfl, b1⟩
    replace G := bw_trans G b1
    obtain ⟨_, c0, c1, c2, c3⟩ := S0.bw b1
    clear S0 b1
    go_wp2_with fail
    refine (A1.out _).mono ?_
    rintro e' w9 ⟨rfl, hw9⟩
    subst hw9
    go_wp2_with fail
    refine (A2.out _).mono ?_
    rintro e' w9 ⟨rfl, hw9⟩
    subst hw9
    go_wp2
    go_ret2
    exact ⟨rfl, G⟩
  · go_enter Tryz.func19, Tryz.ntmps19
    go_wp2_with fail
    refine (KO.out _).mono ?_
    rintro e' w1 ⟨rfl, b1⟩
    replace G := bw_trans G b1
    obtain ⟨_, c0, c1, c2, c3⟩ := S0.bw b1
    clear S0 b1
    go_wp2_with fail
    refine (A1.out _).mono ?_
    rintro e' w9 ⟨rfl, hw9⟩
    subst hw9
    go_wp2_with fail
    refine (A2.out _).mono ?_
    rintro e' w9 ⟨rfl, hw9⟩
    subst hw9
    go_wp2
    go_ret2
    exact ⟨rfl, G⟩
  · go_enter Tryz.func19, Tryz.ntmps19
    go_wp2_with fail
    refine (KO.out _).mono ?_
    rintro e' w1 ⟨rfl, b1⟩
    replace G := bw_trans G b1
    obtain ⟨_, c0, c1, c2, c3⟩ := S0.bw b1
    clear S0 b1
    go_wp2_with fail
    refine (A1.out _).mono ?_
    rintro e' w9 ⟨rfl, hw9⟩
    subst hw9
    go_wp2_with fail
    refine (A2.out _).mono ?_
    rintro e' w9 ⟨rfl, hw9⟩
    subst hw9
    go_wp2
    go_ret2
    exact ⟨rfl, G⟩
  · go_enter Tryz.func19, Tryz.ntmps19
    go_wp2_with fail
    refine (KO.out _).mono ?_
    rintro e' w1 ⟨rfl, b1⟩
    replace G := bw_trans G b1
    obtain ⟨_, c0, c1, c2, c3⟩ := S0.bw b1
    clear S0 b1
    go_wp2_with fail
    refine (A1.out _).mono ?_
    rintro e' w9 ⟨rfl, hw9⟩
    subst hw9
    go_wp2_with fail
    refine (A2.out _).mono ?_
    rintro e' w9 ⟨rfl, hw9⟩
    subst hw9
    go_wp2_with fail
    refine (A3.out _).mono ?_
    rintro e' w9 ⟨rfl, hw9⟩
    subst hw9
    go_wp2
    go_ret2
    exact ⟨rfl, G⟩
  · go_enter Tryz.func19, Tryz.ntmps19
    go_wp2_with fail
    refine (KO.out _).mono ?_
    rintro e' w1 ⟨rfl, b1⟩
    replace G := bw_trans G b1
    obtain ⟨_, c0, c1, c2, c3⟩ := S0.bw b1
    clear S0 b1
    go_wp2_with fail
    refine (A1.out _).mono ?_
    rintro e' w9 ⟨rfl, hw9⟩
    subst hw9
    go_wp2_with fail
    refine (A2.out _).mono ?_
    rintro e' w9 ⟨rfl, hw9⟩
    subst hw9
    go_wp2_with fail
    refine (A3.out _).mono ?_
    rintro e' w9 ⟨rfl, hw9⟩
    subst hw9
    go_wp2
    go_ret2
    exact ⟨rfl, G⟩
  · go_enter Tryz.func19, Tryz.ntmps19
    go_wp2_with fail
    refine (KO.out _).mono ?_
    rintro e' w1 ⟨rfl, b1⟩
    replace G := bw_trans G b1
    obtain ⟨_, c0, c1, c2, c3⟩ := S0.bw b1
    clear S0 b1
    go_wp2_with fail
    refine (A1.out _).mono ?_
    rintro e' w9 ⟨rfl, hw9⟩
    subst hw9
    go_wp2_with fail
    refine (A2.out _).mono ?_
    rintro e' w9 ⟨rfl, hw9⟩
    subst hw9
    go_wp2_with fail
    refine (A3.out _).mono ?_
    rintro e' w9 ⟨rfl, hw9⟩
    subst hw9
    go_wp2_with fail
    refine (A4.out (by trivial) (by trivial) _).mono ?_
    rintro e' w2 ⟨rfl, b2⟩
    replace G := bw_trans G b2
    clear b2
    go_wp2
    go_ret2
    exact ⟨rfl, G⟩
  · go_enter Tryz.func19, Tryz.ntmps19
    go_wp2_with fail
    refine (KO.out _).mono ?_
    rintro e' w1 ⟨rfl, b1⟩
    replace G := bw_trans G b1
    obtain ⟨_, c0, c1, c2, c3⟩ := S0.bw b1
    clear S0 b1
    go_wp2_with fail
    refine (A1.out _).mono ?_
    rintro e' w9 ⟨rfl, hw9⟩
    subst hw9
    go_wp2_with fail
    refine (A2.out _).mono ?_
    rintro e' w9 ⟨rfl, hw9⟩
    subst hw9
    go_wp2_with fail
    refine (A3.out _).mono ?_
    rintro e' w9 ⟨rfl, hw9⟩
    subst hw9
    go_wp2_with fail
    refine (A4.out (by trivial) (by trivial) _).mono ?_
    rintro e' w2 ⟨rfl, b2⟩
    replace G := bw_trans G b2
    clear b2
    go_wp2
    go_ret2
    exact ⟨rfl, G⟩
set_option maxHeartbeats 16000000 in
theorem known3_q (a b s t p : Nat) (q1 q2 q3 q4 : Bool) (w : World)
    (A1 : Hid (∀ wz, Calls Tryz.prog 29 #[.complex .f64 a b] wz fun e w' => e = .returned (.bool q1) ∧ w' = wz))
    (A2 : Hid (∀ wz, Calls Tryz.prog 29 #[.complex .f64 s t] wz fun e w' => e = .returned (.bool q2) ∧ w' = wz))
    (A3 : Hid (∀ wz, Calls Tryz.prog 30 #[.float .f64 p, .float .f64 4787326403894837248] wz fun e w' => e = .returned (.bool q3) ∧ w' = wz))
    (A4 : Hid (q1 = true → q3 = true → ∀ wz, Calls Tryz.prog 126 #[El.E 3 a b s t p] wz fun e w' => e = .returned (.bool q4) ∧ Bw wz w')) :
    Calls Tryz.prog 19 #[El.E 3 a b s t p] w fun e w' => e = .returned (.tuple #[if q1 && q2 && q3 && q4 then .iface 64 (El.E 3 a b s t p) else .nilIface, .int .i64 (if q1 && q2 && q3 then (if q4 then 0 else 150) else 5)]) ∧ Bw w w' := by
  have S0 := El.St.new w 3 a b s t p 30
  have G := El.bw_new w (.cells #[.int .u8 3, .complex .f64 a b, .complex .f64 s t, .float .f64 p] 30)
  have KO := El.hid (fun wz => kindof3 a b s t p wz)
  have HM : ∀ w, (method 204 64 (.agg #[.int .u8 3, .complex .f64 a b, .complex .f64 s t, .float .f64 p]) "eddy/element.may").run Tryz.prog w = .ok (126, .agg #[.int .u8 3, .complex .f64 a b, .complex .f64 s t, .float .f64 p]) w := fun _ => by kernel_rfl
  unfold El.E at *
  cases q1 <;> cases q2 <;> cases q3 <;> cases q4
  · go_enter Tryz.func19, Tryz.ntmps19
    go_wp2_with fail
    refine (KO.out _).mono ?_
    rintro e' w1 ⟨rfl, b1⟩
    replace G := bw_trans G b1
    obtain ⟨_, c0, c1, c2, c3⟩ := S0.bw b1
    clear S0 b1
    go_wp2_with fail
    refine (A1.out _).mono ?_
    rintro e' w9 ⟨rfl, hw9⟩
    subst hw9
    go_wp2
    go_ret2
    exact ⟨rfl, G⟩
  · go_enter Tryz.func19, Tryz.ntmps19
    go_wp2_with fail
    refine (KO.out _).mono ?_
    rintro e' w1 ⟨rfl, b1⟩
    replace G := bw_trans G b1
    obtain ⟨_, c0, c1, c2, c3⟩ := S0.bw b1
    clear S0 b1
    go_wp2_with fail
    refine (A1.out _).mono ?_
    rintro e' w9 ⟨rfl, hw9⟩
    subst hw9
    go_wp2
    go_ret2
    exact ⟨rfl, G⟩
  · go_enter Tryz.func19, Tryz.ntmps19
    go_wp2_with fail
    refine (KO.out _).mono ?_
    rintro e' w1 ⟨rfl, b1⟩
    replace G := bw_trans G b1
    obtain ⟨_, c0, c1, c2, c3⟩ := S0.bw b1
    clear S0 b1
    go_wp2_with fail
    refine (A1.out _).mono ?_
    rintro e' w9 ⟨rfl, hw9⟩
    subst hw9
    go_wp2
    go_ret2
    exact ⟨rfl, G⟩
  · go_enter Tryz.func19, Tryz.ntmps19
    go_wp2_with fail
    refine (KO.out _).mono ?_
    rintro e' w1 ⟨rfl, b1⟩
    replace G := bw_trans G b1
    obtain ⟨_, c0, c1, c2, c3⟩ := S0.bw b1
    clear S0 b1
    go_wp2_with fail
    refine (A1.out _).mono ?_
    rintro e' w9 ⟨rfl, hw9⟩
    subst hw9
    go_wp2
    go_ret2
    exact ⟨rfl, G⟩
  · go_enter Tryz.func19, Tryz.ntmps19
    go_wp2_with fail
    refine (KO.out _).mono ?_
    rintro e' w1 ⟨rfl, b1⟩
    replace G := bw_trans G b1
    obtain ⟨_, c0, c1, c2, c3⟩ := S0.bw b1
    clear S0 b1
    go_wp2_with fail
    refine (A1.out _).mono ?_
    rintro e' w9 ⟨rfl, hw9⟩
    subst hw9
    go_wp2
    go_ret2
    exact ⟨rfl, G⟩
  · go_enter Tryz.func19, Tryz.ntmps19
    go_wp2_with fail
    refine (KO.out _).mono ?_
    rintro e' w1 ⟨rfl, b1⟩
    replace G := bw_trans G b1
    obtain ⟨_, c0, c1, c2, c3⟩ := S0.bw b1
    clear S0 b1
    go_wp2_with fail
    refine (A1.out _).mono ?_
    rintro e' w9 ⟨rfl, hw9⟩
    subst hw9
    go_wp2
    go_ret2
    exact ⟨rfl, G⟩
  · go_enter Tryz.func19, Tryz.ntmps19
    go_wp2_with fail
    refine (KO.out _).mono ?_
    rintro e' w1 ⟨rfl, b1⟩
    replace G := bw_trans G b1
    obtain ⟨_, c0, c1, c2, c3⟩ := S0.bw b1
    clear S0 b1
    go_wp2_with fail
    refine (A1.out _).mono ?_
    rintro e' w9 ⟨rfl, hw9⟩
    subst hw9
    go_wp2
    go_ret2
    exact ⟨rfl, G⟩
  · go_enter Tryz.func19, Tryz.ntmps19
    go_wp2_with fail
    refine (KO.out _).mono ?_
    rintro e' w1 ⟨rfl, b1⟩
    replace G := bw_trans G b1
    obtain ⟨_, c0, c1, c2, c3⟩ := S0.bw b1
    clear S0 b1
    go_wp2_with fail
    refine (A1.out _).mono ?_
    rintro e' w9 ⟨rfl, hw9⟩
    subst hw9
    go_wp2
    go_ret2
    exact ⟨rfl, G⟩
  · go_enter Tryz.func19, Tryz.ntmps19
    go_wp2_with fail
    refine (KO.out _).mono ?_
    rintro e' w1 ⟨rfl, b1⟩
    replace G := bw_trans G b1
    obtain ⟨_, c0, c1, c2, c3⟩ := S0.bw b1
    clear S0 b1
    go_wp2_with fail
    refine (A1.out _).mono ?_
    rintro e' w9 ⟨rfl, hw9⟩
    subst hw9
    go_wp2_with fail
    refine (A2.out _).mono ?_
    rintro e' w9 ⟨rfl, hw9⟩
    subst hw9
    go_wp2
    go_ret2
    exact ⟨rfl, G⟩
  · go_enter Tryz.func19, Tryz.ntmps19
    go_wp2_with fail
    refine (KO.out _).mono ?_
    rintro e' w1 ⟨rfl, b1⟩
    replace G := bw_trans G b1
    obtain ⟨_, c0, c1, c2, c3⟩ := S0.bw b1
    clear S0 b1
    go_wp2_with fail
    refine (A1.out _).mono ?_
    rintro e' w9 ⟨rfl, hw9⟩
    subst hw9
    go_wp2_with fail
    refine (A2.out _).mono ?_
    rintro e' w9 ⟨rfl, hw9⟩
    subst hw9
    go_wp2
    go_ret2
    exact ⟨rfl, G⟩
  · go_enter Tryz.func19, Tryz.ntmps19
    go_wp2_with fail
    refine (KO.out _).mono ?_
    rintro e' w1 ⟨rfl, b1⟩
    replace G := bw_trans G b1
    obtain ⟨_, c0, c1, c2, c3⟩ := S0.bw b1
    clear S0 b1
    go_wp2_with fail
    refine (A1.out _).mono ?_
    rintro e' w9 ⟨rfl, hw9⟩
    subst hw9
    go_wp2_with fail
    refine (A2.out _).mono ?_
    rintro e' w9 ⟨rfl, hw9⟩
    subst hw9
    go_wp2
    go_ret2
    exact ⟨rfl, G⟩
  · go_enter Tryz.func19, Tryz.ntmps19
    go_wp2_with fail
    refine (KO.out _).mono ?_
    rintro e' w1 ⟨rfl, b1⟩
    replace G := bw_trans G b1
    obtain ⟨_, c0, c1, c2, c3⟩ := S0.bw b1
    clear S0 b1
    go_wp2_with fail
    refine (A1.out _).mono ?_
    rintro e' w9 ⟨rfl, hw9⟩
    subst hw9
    go_wp2_with fail
    refine (A2.out _).mono ?_
    rintro e' w9 ⟨rfl, hw9⟩
    subst hw9
    go_wp2
    go_ret2
    exact ⟨rfl, G⟩
  · go_enter Tryz.func19, Tryz.ntmps19
    go_wp2_with fail
    refine (KO.out _).mono ?_
    rintro e' w1 ⟨rfl, b1⟩
    replace G := bw_trans G b1
    obtain ⟨_, c0, c1, c2, c3⟩ := S0.bw b1
    clear S0 b1
    go_wp2_with fail
    refine (A1.out _).mono ?_
    rintro e' w9 ⟨rfl, hw9⟩
    subst hw9
    go_wp2_with fail
    refine (A2.out _).mono ?_
    rintro e' w9 ⟨rfl, hw9⟩
    subst hw9
    go_wp2_with fail
    refine (A3.out _).mono ?_
    rintro e' w9 ⟨rfl, hw9⟩
    subst hw9
    go_wp2
    go_ret2
    exact ⟨rfl, G⟩
  · go_enter Tryz.func19, Tryz.ntmps19
    go_wp2_with fail
    refine (KO.out _).mono ?_
    rintro e' w1 ⟨rfl, b1⟩
    replace G := bw_trans G b1
    obtain ⟨_, c0, c1, c2, c3⟩ := S0.bw b1
    clear S0 b1
    go_wp2_with fail
    refine (A1.out _).mono ?_
    rintro e' w9 ⟨rfl, hw9⟩
    subst hw9
    go_wp2_with fail
    refine (A2.out _).mono ?_
    rintro e' w9 ⟨rfl, hw9⟩
    subst hw9
    go_wp2_with fail
    refine (A3.out _).mono ?_
    rintro e' w9 ⟨rfl, hw9⟩
    subst hw9
    go_wp2
    go_ret2
    exact ⟨rfl, G⟩
  · go_enter Tryz.func19, Tryz.ntmps19
    go_wp2_with fail
    refine (KO.out _).mono ?_
    rintro e' w1 ⟨rfl, b1⟩
    replace G := bw_trans G b1
    obtain ⟨_, c0, c1, c2, c3⟩ := S0.bw b1
    clear S0 b1
    go_wp2_with fail
    refine (A1.out _).mono ?_
    rintro e' w9 ⟨rfl, hw9⟩
    subst hw9
    go_wp2_with fail
    refine (A2.out _).mono ?_
    rintro e' w9 ⟨rfl, hw9⟩
    subst hw9
    go_wp2_with fail
    refine (A3.out _).mono ?_
    rintro e' w9 ⟨rfl, hw9⟩
    subst hw9
    go_wp2_with fail
    refine (A4.out (by trivial) (by trivial) _).mono ?_
    rintro e' w2 ⟨rfl, b2⟩
    replace G := bw_trans G b2
    clear b2
    go_wp2
    go_ret2
    exact ⟨rfl, G⟩
  · go_enter Tryz.func19, Tryz.ntmps19
    go_wp2_with fail
    refine (KO.out _).mono ?_
    rintro e' w1 ⟨rfl, b1⟩
    replace G := bw_trans G b1
    obtain ⟨_, c0, c1, c2, c3⟩ := S0.bw b1
    clear S0 b1
    go_wp2_with fail
    refine (A1.out _).mono ?_
    rintro e' w9 ⟨rfl, hw9⟩
    subst hw9
    go_wp2_with fail
    refine (A2.out _).mono ?_
    rintro e' w9 ⟨rfl, hw9⟩
    subst hw9
    go_wp2_with fail
    refine (A3.out _).mono ?_
    rintro e' w9 ⟨rfl, hw9⟩
    subst hw9
    go_wp2_with fail
    refine (A4.out (by trivial) (by trivial) _).mono ?_
    rintro e' w2 ⟨rfl, b2⟩
    replace G := bw_trans G b2
    clear b2
    go_wp2
    go_ret2
    exact ⟨rfl, G⟩
set_option maxHeartbeats 16000000 in
theorem known4_q (a b s t p : Nat) (q1 q2 q3 q4 : Bool) (w : World)
    (A1 : Hid (∀ wz, Calls Tryz.prog 29 #[.complex .f64 a b] wz fun e w' => e = .returned (.bool q1) ∧ w' = wz))
    (A2 : Hid (∀ wz, Calls Tryz.prog 29 #[.complex .f64 s t] wz fun e w' => e = .returned (.bool q2) ∧ w' = wz))
    (A3 : Hid (∀ wz, Calls Tryz.prog 30 #[.float .f64 p, .float .f64 4787326403894837248] wz fun e w' => e = .returned (.bool q3) ∧ w' = wz))
    (A4 : Hid (q1 = true → q3 = true → ∀ wz, Calls Tryz.prog 61 #[El.E 4 a b s t p] wz fun e w' => e = .returned (.bool q4) ∧ Bw wz w')) :
    Calls Tryz.prog 19 #[El.E 4 a b s t p] w fun e w' => e = .returned (.tuple #[if q1 && q2 && q3 && q4 then .iface 61 (El.E 4 a b s t p) else .nilIface, .int .i64 (if q1 && q2 && q3 then (if q4 then 0 else 150) else 5)]) ∧ Bw w w' := by
  have S0 := El.St.new w 4 a b s t p 30
  have G := El.bw_new w (.cells #[.int .u8 4, .complex .f64 a b, .complex .f64 s t, .float .f64 p] 30)
  have KO := El.hid (fun wz => kindof4 a b s t p wz)
  have HM : ∀ w, (method 204 61 (.agg #[.int .u8 4, .complex .f64 a b, .complex .f64 s t, .float .f64 p]) "eddy/element.may").run Tryz.prog w = .ok (61, .agg #[.int .u8 4, .complex .f64 a b, .complex .f64 s t, .float .f64 p]) w := fun _ => by kernel_rfl
  unfold El.E at *
  cases q1 <;> cases q2 <;> cases q3 <;> cases q4
  · go_enter Tryz.func19, Tryz.ntmps19
    go_wp2_with fail
    refine (KO.out _).mono ?_
    rintro e' w1 ⟨rfl, b1⟩
    replace G := bw_trans G b1
    obtain ⟨_, c0, c1, c2, c3⟩ := S0.bw b1
    clear S0 b1
    go_wp2_with fail
    refine (A1.out _).mono ?_
    rintro e' w9 ⟨rfl, hw9⟩
    subst hw9
    go_wp2
    go_ret2
    exact ⟨rfl, G⟩
  · go_enter Tryz.func19, Tryz.ntmps19
    go_wp2_with fail
    refine (KO.out _).mono ?_
    rintro e' w1 ⟨rfl, b1⟩
    replace G := bw_trans G b1
    obtain ⟨_, c0, c1, c2, c3⟩ := S0.bw b1
    clear S0 b1
    go_wp2_with fail
    refine (A1.out _).mono ?_
    rintro e' w9 ⟨rfl, hw9⟩
    subst hw9
    go_wp2
    go_ret2
    exact ⟨rfl, G⟩
  · go_enter Tryz.func19, Tryz.ntmps19
    go_wp2_with fail
    refine (KO.out _).mono ?_
    rintro e' w1 ⟨rfl, b1⟩
    replace G := bw_trans G b1
    obtain ⟨_, c0, c1, c2, c3⟩ := S0.bw b1
    clear S0 b1
    go_wp2_with fail
    refine (A1.out _).mono ?_
    rintro e' w9 ⟨rfl, hw9⟩
    subst hw9
    go_wp2
    go_ret2
    exact ⟨rfl, G⟩
  · go_enter Tryz.func19, Tryz.ntmps19
    go_wp2_with fail
    refine (KO.out _).mono ?_
    rintro e' w1 ⟨rfl, b1⟩
    replace G := bw_trans G b1
    obtain ⟨_, c0, c1, c2, c3⟩ := S0.bw b1
    clear S0 b1
    go_wp2_with fail
    refine (A1.out _).mono ?_
    rintro e' w9 ⟨rfl, hw9⟩
    subst hw9
    go_wp2
    go_ret2
    exact ⟨rfl, G⟩
  · go_enter Tryz.func19, Tryz.ntmps19
    go_wp2_with fail
    refine (KO.out _).mono ?_
    rintro e' w1 ⟨rfl, b1⟩
    replace G := bw_trans G b1
    obtain ⟨_, c0, c1, c2, c3⟩ := S0.bw b1
    clear S0 b1
    go_wp2_with fail
    refine (A1.out _).mono ?_
    rintro e' w9 ⟨rfl, hw9⟩
    subst hw9
    go_wp2
    go_ret2
    exact ⟨rfl, G⟩
  · go_enter Tryz.func19, Tryz.ntmps19
    go_wp2_with fail
    refine (KO.out _).mono ?_
    rintro e' w1 ⟨rfl, b1⟩
    replace G := bw_trans G b1
    obtain ⟨_, c0, c1, c2, c3⟩ := S0.bw b1
    clear S0 b1
    go_wp2_with fail
    refine (A1.out _).mono ?_
    rintro e' w9 ⟨rfl, hw9⟩
    subst hw9
    go_wp2
    go_ret2
    exact ⟨rfl, G⟩
  · go_enter Tryz.func19, Tryz.ntmps19
    go_wp2_with fail
    refine (KO.out _).mono ?_
    rintro e' w1 ⟨rfl, b1⟩
    replace G := bw_trans G b1
    obtain ⟨_, c0, c1, c2, c3⟩ := S0.bw b1
    clear S0 b1
    go_wp2_with fail
    refine (A1.out _).mono ?_
    rintro e' w9 ⟨rfl, hw9⟩
    subst hw9
    go_wp2
    go_ret2
    exact ⟨rfl, G⟩
  · go_enter Tryz.func19, Tryz.ntmps19
    go_wp2_with fail
    refine (KO.out _).mono ?_
    rintro e' w1 ⟨rfl, b1⟩
    replace G := bw_trans G b1
    obtain ⟨_, c0, c1, c2, c3⟩ := S0.bw b1
    clear S0 b1
    go_wp2_with fail
    refine (A1.out _).mono ?_
    rintro e' w9 ⟨rfl, hw9⟩
    subst hw9
    go_wp2
    go_ret2
    exact ⟨rfl, G⟩
  · go_enter Tryz.func19, Tryz.ntmps19
    go_wp2_with fail
    refine (KO.out _).mono ?_
    rintro e' w1 ⟨rfl, b1⟩
    replace G := bw_trans G b1
    obtain ⟨_, c0, c1, c2, c3⟩ := S0.bw b1
    clear S0 b1
    go_wp2_with fail
    refine (A1.out _).mono ?_
    rintro e' w9 ⟨rfl, hw9⟩
    subst hw9
    go_wp2_with fail
    refine (A2.out _).mono ?_
    rintro e' w9 ⟨rfl, hw9⟩
    subst hw9
    go_wp2
    go_ret2
    exact ⟨rfl, G⟩
  · go_enter Tryz.func19, Tryz.ntmps19
    go_wp2_with fail
    refine (KO.out _).mono ?_
    rintro e' w1 ⟨rfl, b1⟩
    replace G := bw_trans G b1
    obtain ⟨_, c0, c1, c2, c3⟩ := S0.bw b1
    clear S0 b1
    go_wp2_with fail
    refine (A1.out _).mono ?_
    rintro e' w9 ⟨rfl, hw9⟩
    subst hw9
    go_wp2_with fail
    refine (A2.out _).mono ?_
    rintro e' w9 ⟨rfl, hw9⟩
    subst hw9
    go_wp2
    go_ret2
    exact ⟨rfl, G⟩
  · go_enter Tryz.func19, Tryz.ntmps19
    go_wp2_with fail
    refine (KO.out _).mono ?_
    rintro e' w1 ⟨rfl, b1⟩
    replace G := bw_trans G b1
    obtain ⟨_, c0, c1, c2, c3⟩ := S0.bw b1
    clear S0 b1
    go_wp2_with fail
    refine (A1.out _).mono ?_
    rintro e' w9 ⟨rfl, hw9⟩
    subst hw9
    go_wp2_with fail
    refine (A2.out _).mono ?_
    rintro e' w9 ⟨rfl, hw9⟩
    subst hw9
    go_wp2
    go_ret2
    exact ⟨rfl, G⟩
  · go_enter Tryz.func19, Tryz.ntmps19
    go_wp2_with fail
    refine (KO.out _).mono ?_
    rintro e' w1 ⟨rfl, b1⟩
    replace G := bw_trans G b1
    obtain ⟨_, c0, c1, c2, c3⟩ := S0.bw b1
    clear S0 b1
    go_wp2_with fail
    refine (A1.out _).mono ?_
    rintro e' w9 ⟨rfl, hw9⟩
    subst hw9
    go_wp2_with fail
    refine (A2.out _).mono ?_
    rintro e' w9 ⟨rfl, hw9⟩
    subst hw9
    go_wp2
    go_ret2
    exact ⟨rfl, G⟩
  · go_enter Tryz.func19, Tryz.ntmps19
    go_wp2_with fail
    refine (KO.out _).mono ?_
    rintro e' w1 ⟨rfl, b1⟩
    replace G := bw_trans G b1
    obtain ⟨_, c0, c1, c2, c3⟩ := S0.bw b1
    clear S0 b1
    go_wp2_with fail
    refine (A1.out _).mono ?_
    rintro e' w9 ⟨rfl, hw9⟩
    subst hw9
    go_wp2_with fail
    refine (A2.out _).mono ?_
    rintro e' w9 ⟨rfl, hw9⟩
    subst hw9
    go_wp2_with fail
    refine (A3.out _).mono ?_
    rintro e' w9 ⟨rfl, hw9⟩
    subst hw9
    go_wp2
    go_ret2
    exact ⟨rfl, G⟩
  · go_enter Tryz.func19, Tryz.ntmps19
    go_wp2_with fail
    refine (KO.out _).mono ?_
    rintro e' w1 ⟨rfl, b1⟩
    replace G := bw_trans G b1
    obtain ⟨_, c0, c1, c2, c3⟩ := S0.bw b1
    clear S0 b1
    go_wp2_with fail
    refine (A1.out _).mono ?_
    rintro e' w9 ⟨rfl, hw9⟩
    subst hw9
    go_wp2_with fail
    refine (A2.out _).mono ?_
    rintro e' w9 ⟨rfl, hw9⟩
    subst hw9
    go_wp2_with fail
    refine (A3.out _).mono ?_
    rintro e' w9 ⟨rfl, hw9⟩
    subst hw9
    go_wp2
    go_ret2
    exact ⟨rfl, G⟩
  · go_enter Tryz.func19, Tryz.ntmps19
    go_wp2_with fail
    refine (KO.out _).mono ?_
    rintro e' w1 ⟨rfl, b1⟩
    replace G := bw_trans G b1
    obtain ⟨_, c0, c1, c2, c3⟩ := S0.bw b1
    clear S0 b1
    go_wp2_with fail
    refine (A1.out _).mono ?_
    rintro e' w9 ⟨rfl, hw9⟩
    subst hw9
    go_wp2_with fail
    refine (A2.out _).mono ?_
    rintro e' w9 ⟨rfl, hw9⟩
    subst hw9
    go_wp2_with fail
    refine (A3.out _).mono ?_
    rintro e' w9 ⟨rfl, hw9⟩
    subst hw9
    go_wp2_with fail
    refine (A4.out (by trivial) (by trivial) _).mono ?_
    rintro e' w2 ⟨rfl, b2⟩
    replace G := bw_trans G b2
    clear b2
    go_wp2
    go_ret2
    exact ⟨rfl, G⟩
  · go_enter Tryz.func19, Tryz.ntmps19
    go_wp2_with fail
    refine (KO.out _).mono ?_
    rintro e' w1 ⟨rfl, b1⟩
    replace G := bw_trans G b1
    obtain ⟨_, c0, c1, c2, c3⟩ := S0.bw b1
    clear S0 b1
    go_wp2_with fail
    refine (A1.out _).mono ?_
    rintro e' w9 ⟨rfl, hw9⟩
    subst hw9
    go_wp2_with fail
    refine (A2.out _).mono ?_
    rintro e' w9 ⟨rfl, hw9⟩
    subst hw9
    go_wp2_with fail
    refine (A3.out _).mono ?_
    rintro e' w9 ⟨rfl, hw9⟩
    subst hw9
    go_wp2_with fail
    refine (A4.out (by trivial) (by trivial) _).mono ?_
    rintro e' w2 ⟨rfl, b2⟩
    replace G := bw_trans G b2
    clear b2
    go_wp2
    go_ret2
    exact ⟨rfl, G⟩
end Go.Proofs.YtgljnklaabbidaaGreat
