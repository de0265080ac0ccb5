/-
  OWN TEXT: the reference's angles of places, and wrapped angles (eddyref05.angle, Of, Tan, Wrap), for every float.
-/
import Derived.Test.YtdpkhcijkepdiaaAnC
namespace Go.Proofs.Ytdpkhcijkepdiaa
open Go.ChangeShapes Go.WideShapes Go.ChangeAt Go.RowKit
set_option linter.unusedVariables false
attribute [local go_sem] frombits_call tobits_call run_neg
set_option maxHeartbeats 4000000 in
theorem rangle_any (t : Nat) (w : World) : Calls Try.prog 44 #[.float .f64 t] w fun e w' => ∃ v, e = .returned (.float .f64 v) ∧ angR t v ∧ v < 18446744073709551616 ∧ Bw w w' := by
  have o := Fl.o_gt t 4601130706800738304
  cases c0 : Fl.ltF 4601130706800738304 t
  · rw [c0] at o
    obtain ⟨z, w1, hz, e1, G⟩ := op_run .mul isMul t t w
    have HA : Hid (∀ s v, angQ z 25 s → opR .mul t s v → angR t v) := by
      intro s v h1 h2
      unfold angR
      rw [if_neg (by rw [c0]; decide)]
      exact ⟨z, s, hz, h1, h2⟩
    clear c0 hz
    go_enter Try.func44, Try.ntmps44
    go_wp2
    go_loopw [6, 7] (fun t k wr => ∃ (i n : Nat), i ≤ 25 ∧ t = .float .f64 n ∧ k = .int .i64 (24 - (i : Int)) ∧ angQ z i n ∧ Bw w wr) (fun _ k _ => (intOf k + 1).toNat)
    case atStart => exact ⟨0, 0, by omega, rfl, rfl, rfl, G⟩
    case round =>
      obtain ⟨i, n, hi, rfl, rfl, hq, hg⟩ := hrel
      have HQ : Hid (angQ z i n) := hq
      clear hq
      by_cases c : i < 25
      · have hk : (0 : Int) ≤ 24 - (i : Int) := by omega
        have hkb : 24 - (i : Int) ≤ 24 := by omega
        obtain ⟨d, w2, hd, e2, g2⟩ := op_run .quo isQuo 4607182418800017408 (floatOfInt .f64 (2 * (24 - (i : Int)) + 1)) wr
        obtain ⟨p, w3, hp, e3, g3⟩ := op_run .mul isMul z n w2
        obtain ⟨t', w4, ht', e4, g4⟩ := op_run .sub isSub d p w3
        have hgg := bw_trans (bw_trans (bw_trans hg g2) g3) g4
        have R : ∃ (i' n' : Nat), i' ≤ 25 ∧ Value.float .f64 t' = .float .f64 n' ∧ Value.int .i64 (24 - (i : Int) - 1) = .int .i64 (24 - (i' : Int)) ∧ angQ z i' n' ∧ Bw w w4 :=
          ⟨i + 1, t', by omega, rfl, by rw [show 24 - (i : Int) - 1 = 24 - ((i + 1 : Nat) : Int) by omega], ⟨n, d, p, HQ.out, hd, hp, ht'⟩, hgg⟩
        have HR : Hid _ := R
        clear R hd hp ht' g2 g3 g4 hg HQ hgg hi c
        generalize hK : 24 - (i : Int) = K at *
        go_wp2
        go_roundw
        case rel => exact HR.out
        case measure => simp [intOf]; omega
      · have hi' : i = 25 := by omega
        subst hi'
        obtain ⟨v, w2, hv, e2, g2⟩ := op_run .mul isMul t n wr
        have B := bw_trans hg g2
        have HF : Hid (angR t v) := HA.out n v HQ.out hv
        have hvl := hv.1
        clear g2 hg HQ hv HA
        go_wp2
        go_ret
        exact ⟨v, rfl, HF.out, hvl, B⟩
  · rw [c0] at o
    obtain ⟨a, v1, ha, k1, y1⟩ := op_run .sub isSub t 4607182418800017408 w
    obtain ⟨b, v2, hb, k2, y2⟩ := op_run .add isAdd t 4607182418800017408 v1
    obtain ⟨u, v3, hu, k3, y3⟩ := op_run .quo isQuo a b v2
    obtain ⟨z, w1, hz, e1, y4⟩ := op_run .mul isMul u u v3
    have G := bw_trans (bw_trans (bw_trans y1 y2) y3) y4
    have HA : Hid (∀ s v x r, angQ z 25 s → opR .mul u s v → opR .add v 4359948597267291143 x → opR .add 4605249457297304856 x r → angR t r) := by
      intro s v x r h1 h2 h3 h4
      unfold angR
      rw [if_pos c0]
      exact ⟨a, b, u, v, x, ha, hb, hu, ⟨z, s, hz, h1, h2⟩, h3, h4⟩
    clear c0 hz ha hb hu y1 y2 y3 y4
    have rh := fun (ty : TypeId) w => run_float_arith (P := Try.prog) w .quo ty .f64 4614256656552045848 4616189618054758400 4605249457297304856 (by decide +kernel)
    have rl := fun (ty : TypeId) w => run_float_arith (P := Try.prog) w .quo ty .f64 4368955796522032135 4616189618054758400 4359948597267291143 (by decide +kernel)
    go_enter Try.func44, Try.ntmps44
    go_wp2
    go_loopw [6, 7] (fun t k wr => ∃ (i n : Nat), i ≤ 25 ∧ t = .float .f64 n ∧ k = .int .i64 (24 - (i : Int)) ∧ angQ z i n ∧ Bw w wr) (fun _ k _ => (intOf k + 1).toNat)
    case atStart => exact ⟨0, 0, by omega, rfl, rfl, rfl, G⟩
    case round =>
      obtain ⟨i, n, hi, rfl, rfl, hq, hg⟩ := hrel
      have HQ : Hid (angQ z i n) := hq
      clear hq
      by_cases c : i < 25
      · have hk : (0 : Int) ≤ 24 - (i : Int) := by omega
        have hkb : 24 - (i : Int) ≤ 24 := by omega
        obtain ⟨d, w2, hd, e2, g2⟩ := op_run .quo isQuo 4607182418800017408 (floatOfInt .f64 (2 * (24 - (i : Int)) + 1)) wr
        obtain ⟨p, w3, hp, e3, g3⟩ := op_run .mul isMul z n w2
        obtain ⟨t', w4, ht', e4, g4⟩ := op_run .sub isSub d p w3
        have hgg := bw_trans (bw_trans (bw_trans hg g2) g3) g4
        have R : ∃ (i' n' : Nat), i' ≤ 25 ∧ Value.float .f64 t' = .float .f64 n' ∧ Value.int .i64 (24 - (i : Int) - 1) = .int .i64 (24 - (i' : Int)) ∧ angQ z i' n' ∧ Bw w w4 :=
          ⟨i + 1, t', by omega, rfl, by rw [show 24 - (i : Int) - 1 = 24 - ((i + 1 : Nat) : Int) by omega], ⟨n, d, p, HQ.out, hd, hp, ht'⟩, hgg⟩
        have HR : Hid _ := R
        clear R hd hp ht' g2 g3 g4 hg HQ hgg hi c
        generalize hK : 24 - (i : Int) = K at *
        go_wp2
        go_roundw
        case rel => exact HR.out
        case measure => simp [intOf]; omega
      · have hi' : i = 25 := by omega
        subst hi'
        obtain ⟨v, w2, hv, e2, g2⟩ := op_run .mul isMul u n wr
        obtain ⟨x, w3, hx, e3, g3⟩ := op_run .add isAdd v 4359948597267291143 w2
        obtain ⟨r, w4, hr, e4, g4⟩ := op_run .add isAdd 4605249457297304856 x w3
        have B := bw_trans (bw_trans (bw_trans hg g2) g3) g4
        have HF : Hid (angR t r) := HA.out n v x r HQ.out hv hx hr
        have hrl := hr.1
        clear g2 g3 g4 hg HQ hv hx hr HA
        go_wp2_with (first | (go_at_call 15; refine (rhigh_any _).mono ?_; rintro e' w9 ⟨rfl, hw9⟩; subst hw9) | (go_at_call 16; refine (rlow_any _).mono ?_; rintro e' w9 ⟨rfl, hw9⟩; subst hw9))
        go_ret
        exact ⟨r, rfl, HF.out, hrl, B⟩
end Go.Proofs.Ytdpkhcijkepdiaa
