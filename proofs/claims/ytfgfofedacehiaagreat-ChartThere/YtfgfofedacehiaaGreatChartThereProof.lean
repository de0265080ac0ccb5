/-
  eddylaw18.ChartThere: for every four numbers and two more, of two 16 bit whole parts each, it is true: there and back, by a Moebius map of parts up to 8 within 2^-20, by Joukowski map within 2^-14 (by contracts; the test of life by the evaluator; how far rounding leads by Lean Rat).
-/
import Derived.Test.YtfgfofedacehiaaGreatRows
import Derived.Test.YtfgfofedacehiaaGreatJCiA
import Derived.WalkKit
import Derived.ProofKit
import Derived.OpenShut
import Derived.SizedLaws
import Derived.Laws.Cover2
namespace Go.Proofs.YtfgfofedacehiaaGreat.chartThere
open Go.ChangeShapes Go.WideShapes Go.ChangeAt Go.RowKit
set_option linter.unusedVariables false
theorem own : ownKnob Tryz.prog.godebug = none := by kernel_rfl
theorem cells1 : Tryz.prog.cellsOf 22 = 1 := by kernel_rfl
theorem cells2 : Tryz.prog.cellsOf 24 = 2 := by kernel_rfl
theorem cells8 : Tryz.prog.cellsOf 26 = 8 := by kernel_rfl
/-- two 16 bit numbers, side by side -/
theorem open_pair {H : Type} {enc : TypeId × Value → H} {W : World} {n : Nat} {c0 c1 : Value} {x : DataW H × List MemPlace} (hf : DataW.trod enc Tryz.prog W 0 (fun _ => true) true n 24 [c0, c1] = some x) :
    ∃ a b : Int, c0 = .int .i16 a ∧ c1 = .int .i16 b ∧ x = (.agg [.lit (.int .i16 a), .lit (.int .i16 b)], []) ∧ ∀ (W' : World) (sp : Nat → Bool), DataW.trod enc Tryz.prog W' 0 sp true 2 24 [.int .i16 a, .int .i16 b] = some (.agg [.lit (.int .i16 a), .lit (.int .i16 b)], []) := by
  obtain ⟨y0, y1, m, hx, _, hy0, hy1⟩ := trod_struct2 Tryz.underlying24 hf
  obtain ⟨a, e0, rfl, wa⟩ := DataW.trod_int Tryz.underlying22 hy0
  obtain ⟨b, e1, rfl, wb⟩ := DataW.trod_int Tryz.underlying22 hy1
  simp [cells1] at e0 e1
  subst e0 e1
  refine ⟨a, b, rfl, rfl, hx, fun W' sp => ?_⟩
  have f0 : DataW.trod enc Tryz.prog W' 0 sp true 1 22 [.int .i16 a] = some (.lit (.int .i16 a), []) := trod_int_mk 0 Tryz.underlying22 wa
  have f1 : DataW.trod enc Tryz.prog W' 0 sp true 1 22 [.int .i16 b] = some (.lit (.int .i16 b), []) := trod_int_mk 0 Tryz.underlying22 wb
  have := trod_struct2_mk (enc := enc) (w := W') (base := 0) (spare := sp) (held := true) (n := 1) (cs := [.int .i16 a, .int .i16 b]) Tryz.underlying24 (by simp [cells2]) (by simpa [cells1] using f0) (by simpa [cells1] using f1)
  simpa using this
set_option maxRecDepth 100000 in
theorem open_four {H : Type} {enc : TypeId × Value → H} {W : World} {r : Reach} {b0 : Nat} {v : Value} {d : DataW H} {ps : List MemPlace} (hval : Value.okWide Tryz.prog W r b0 26 v) (hd : DataW.Trod enc Tryz.prog W 0 (fun _ => true) true 26 v d ps) :
    ∃ x0 y0 x1 y1 x2 y2 x3 y3 : Int, v = .agg #[.int .i16 x0, .int .i16 y0, .int .i16 x1, .int .i16 y1, .int .i16 x2, .int .i16 y2, .int .i16 x3, .int .i16 y3] ∧ d = .agg [.agg [.lit (.int .i16 x0), .lit (.int .i16 y0)], .agg [.lit (.int .i16 x1), .lit (.int .i16 y1)], .agg [.lit (.int .i16 x2), .lit (.int .i16 y2)], .agg [.lit (.int .i16 x3), .lit (.int .i16 y3)]] ∧ ps = [] ∧
      ∀ (W' : World) (sp : Nat → Bool), DataW.Trod enc Tryz.prog W' 0 sp true 26 (.agg #[.int .i16 x0, .int .i16 y0, .int .i16 x1, .int .i16 y1, .int .i16 x2, .int .i16 y2, .int .i16 x3, .int .i16 y3]) (.agg [.agg [.lit (.int .i16 x0), .lit (.int .i16 y0)], .agg [.lit (.int .i16 x1), .lit (.int .i16 y1)], .agg [.lit (.int .i16 x2), .lit (.int .i16 y2)], .agg [.lit (.int .i16 x3), .lit (.int .i16 y3)]]) [] := by
  obtain ⟨cs, rfl, hsz⟩ := okWide_struct Tryz.underlying26 hval
  rw [cells8] at hsz
  obtain ⟨l⟩ := cs
  match l, hsz with
  | [c0, c1, c2, c3, c4, c5, c6, c7], _ =>
  obtain ⟨fuel, hf⟩ := hd
  obtain ⟨xs, n, _, hx, hl, hlen, hq⟩ := DataW.trod_struct Tryz.underlying26 hf
  match xs, hlen with
  | [z0, z1, z2, z3], _ =>
  have q0 := hq 0 _ rfl
  have q1 := hq 1 _ rfl
  have q2 := hq 2 _ rfl
  have q3 := hq 3 _ rfl
  simp [Value.cells, cells2] at q0 q1 q2 q3
  obtain ⟨x0, y0, rfl, rfl, rfl, s0⟩ := open_pair q0
  obtain ⟨x1, y1, rfl, rfl, rfl, s1⟩ := open_pair q1
  obtain ⟨x2, y2, rfl, rfl, rfl, s2⟩ := open_pair q2
  obtain ⟨x3, y3, rfl, rfl, rfl, s3⟩ := open_pair q3
  simp at hx
  obtain ⟨rfl, rfl⟩ := hx
  refine ⟨x0, y0, x1, y1, x2, y2, x3, y3, rfl, rfl, rfl, fun W' sp => ⟨3, ?_⟩⟩
  have := trod_struct_mk (enc := enc) (P := Tryz.prog) (w := W') (base := 0) (spare := sp) (held := true) (n := 2) (cs := [.int .i16 x0, .int .i16 y0, .int .i16 x1, .int .i16 y1, .int .i16 x2, .int .i16 y2, .int .i16 x3, .int .i16 y3]) (xs := [(.agg [.lit (.int .i16 x0), .lit (.int .i16 y0)], []), (.agg [.lit (.int .i16 x1), .lit (.int .i16 y1)], []), (.agg [.lit (.int .i16 x2), .lit (.int .i16 y2)], []), (.agg [.lit (.int .i16 x3), .lit (.int .i16 y3)], [])]) Tryz.underlying26 (by simp [cells8]) (by simp [cells2, s0 W' sp, s1 W' sp, s2 W' sp, s3 W' sp])
  simpa [Value.cells] using this
theorem open_gauss {H : Type} {enc : TypeId × Value → H} {W : World} {r : Reach} {b0 : Nat} {v : Value} {d : DataW H} {ps : List MemPlace} (hval : Value.okWide Tryz.prog W r b0 24 v) (hd : DataW.Trod enc Tryz.prog W 0 (fun _ => true) true 24 v d ps) :
    ∃ x y : Int, v = .agg #[.int .i16 x, .int .i16 y] ∧ d = .agg [.lit (.int .i16 x), .lit (.int .i16 y)] ∧ ps = [] ∧
      ∀ (W' : World) (sp : Nat → Bool), DataW.Trod enc Tryz.prog W' 0 sp true 24 (.agg #[.int .i16 x, .int .i16 y]) (.agg [.lit (.int .i16 x), .lit (.int .i16 y)]) [] := by
  obtain ⟨cs, rfl, hsz⟩ := okWide_struct Tryz.underlying24 hval
  rw [cells2] at hsz
  obtain ⟨l⟩ := cs
  match l, hsz with
  | [c0, c1], _ =>
  obtain ⟨fuel, hf⟩ := hd
  obtain ⟨x, y, rfl, rfl, hx, s0⟩ := open_pair (by simpa [Value.cells] using hf)
  simp at hx
  obtain ⟨rfl, rfl⟩ := hx
  exact ⟨x, y, rfl, rfl, rfl, fun W' sp => ⟨2, by simpa [Value.cells] using s0 W' sp⟩⟩
set_option maxHeartbeats 8000000 in
set_option maxRecDepth 100000 in
theorem lifted (os : Os) (started : os.Started) (H : Type) (enc : TypeId × Value → H) :
    ReturnsInHanded {} Tryz.checked os 3 .any (Rows.chartThereSpec.pre6 enc Tryz.prog Tryz.f3 Rows.chartThereRow.domain false) (Rows.chartThereSpec.post enc Tryz.prog Tryz.f3 false true false false) := by
  refine returnsInHanded_of_change_sized (C := Tryz.checked) own started (by kernel_rfl) Tryz.func3
    (ChangeSpec.witness6 (enc := enc) (C := Tryz.checked) false ⟨#[], #[.agg #[.int .i16 0, .int .i16 0, .int .i16 0, .int .i16 0, .int .i16 0, .int .i16 0, .int .i16 0, .int .i16 0], .agg #[.int .i16 0, .int .i16 0], .agg #[.int .i16 0, .int .i16 0]], []⟩ 8 (by kernel_rfl) (by kernel_rfl) (by kernel_rfl) (by kernel_rfl)) ?_
  intro W base args ds gs before hval0 hW _ hsz0 _
  have hval : ∀ (j : Nat) t v, Tryz.f3.params[j]? = some t → args[j]? = some v → Value.okWide Tryz.prog W .any base t v := hval0
  have hW' := hW
  obtain ⟨p, q, hA0, hV, rfl, _, _⟩ := hW
  have hA : DataW.TrodAll enc Tryz.prog W 0 (fun _ => true) true Tryz.f3.params.toList args.toList ds p := hA0
  rw [Tryz.params3] at hA hval
  obtain ⟨v0, vs0, d0, ds0, p0, q0, hargs0, rfl, rfl, h0, r0⟩ := trodAll_cons hA
  obtain ⟨v1, vs1, d1, ds1, p1, q1, rfl, rfl, rfl, h1, r1⟩ := trodAll_cons r0
  obtain ⟨v2, vs2, d2, ds2, p2, q2, rfl, rfl, rfl, h2, r2⟩ := trodAll_cons r1
  obtain ⟨rfl, rfl, rfl⟩ := trodAll_nil r2
  obtain rfl : args = #[v0, v1, v2] := by cases args; simp_all
  obtain ⟨rfl, rfl⟩ := trodVars_none hV
  obtain ⟨ka0, kb0, kc0, kd0, ke0, kf0, kg0, kh0, rfl, rfl, rfl, st0⟩ := open_four (hval 0 26 v0 rfl rfl) h0
  obtain ⟨ka1, kb1, rfl, rfl, rfl, st1⟩ := open_gauss (hval 1 24 v1 rfl rfl) h1
  obtain ⟨ka2, kb2, rfl, rfl, rfl, st2⟩ := open_gauss (hval 2 24 v2 rfl rfl) h2
  clear hA0 hval0 hsz0
  simp only [List.append_nil] at hW'
  refine (chartthere_any ka0 kb0 kc0 kd0 ke0 kf0 kg0 kh0 ka1 kb1 ka2 kb2 W).mono fun e W' ⟨he, hnx⟩ => ?_
  subst he
  exact ⟨_, rfl, _, _, _, [], _, [], hW', trodAll_cons_mk (shut_bool Tryz.underlying4 _) trodAll_mk0, (trodAll_cons_mk (st0 _ _) (trodAll_cons_mk (st1 _ _) (trodAll_cons_mk (st2 _ _) trodAll_mk0))), rfl, hnx.frame _, fun h => by cases h⟩
theorem over : Rows.chartThereRow.holds Tryz.pinned (OpenSpec.ofChange Rows.chartThereSpec) :=
  OpenClaim.holds_of_wide 3 Tryz.f3 rfl rfl rfl rfl rfl rfl rfl ⟨rfl, rfl, rfl, rfl, rfl⟩ rfl rfl rfl rfl rfl (by kernel_rfl) Tryz.func3 (by kernel_rfl)
    (of_decide_eq_true (by kernel_rfl)) (by unfold Func.isWrapper; first | (rw [if_pos (by decide +kernel)]; kernel_rfl) | (rw [if_neg (by decide +kernel)]; exact ⟨rfl, rfl⟩))
    (fun os started H enc _ => lifted os started H enc)
end Go.Proofs.YtfgfofedacehiaaGreat.chartThere
namespace Go.Proofs.YtfgfofedacehiaaGreat
theorem chartThere_proved : Rows.ChartThereSaid := chartThere.over
#print axioms chartThere_proved
end Go.Proofs.YtfgfofedacehiaaGreat

