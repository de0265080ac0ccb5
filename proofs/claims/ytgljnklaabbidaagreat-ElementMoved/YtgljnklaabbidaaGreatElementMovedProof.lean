/-
  eddylaw15.ElementMoved: for every kind, four numbers of two 16 bit whole parts and every float it is true: an element moved is the same at a place moved likewise, and a corner's potential of the powers 1 and 2 is exact (by contracts; the test of life by the evaluator).
-/
import Derived.Test.YtgljnklaabbidaaGreatRows
import Derived.Test.YtgljnklaabbidaaGreatJElM
import Derived.WalkKit
import Derived.ProofKit
import Derived.OpenShut
import Derived.SizedLaws
import Derived.Laws.Cover2
namespace Go.Proofs.YtgljnklaabbidaaGreat.elementMoved
open Go.ChangeShapes Go.WideShapes Go.ChangeAt Go.RowKit
set_option linter.unusedVariables false
theorem own : ownKnob Tryz.prog.godebug = none := by kernel_rfl
theorem cells1 : Tryz.prog.cellsOf 22 = 1 := by kernel_rfl
theorem cells2 : Tryz.prog.cellsOf 24 = 2 := by kernel_rfl
set_option maxRecDepth 100000 in
theorem open_gauss {H : Type} {enc : TypeId × Value → H} {W : World} {r : Reach} {b0 : Nat} {v : Value} {d : DataW H} {ps : List MemPlace} (hval : Value.okWide Tryz.prog W r b0 24 v) (hd : DataW.Trod enc Tryz.prog W 0 (fun _ => true) true 24 v d ps) :
    ∃ x y : Int, v = .agg #[.int .i16 x, .int .i16 y] ∧ d = .agg [.lit (.int .i16 x), .lit (.int .i16 y)] ∧ ps = [] ∧
      ∀ (W' : World) (sp : Nat → Bool), DataW.Trod enc Tryz.prog W' 0 sp true 24 (.agg #[.int .i16 x, .int .i16 y]) (.agg [.lit (.int .i16 x), .lit (.int .i16 y)]) [] := by
  obtain ⟨cs, rfl, hsz⟩ := okWide_struct Tryz.underlying24 hval
  rw [cells2] at hsz
  obtain ⟨l⟩ := cs
  match l, hsz with
  | [c0, c1], _ =>
  obtain ⟨fuel, hf⟩ := hd
  obtain ⟨y0, y1, m, hx, _, hy0, hy1⟩ := trod_struct2 Tryz.underlying24 hf
  obtain ⟨a, e0, rfl, wa⟩ := DataW.trod_int Tryz.underlying22 hy0
  obtain ⟨b, e1, rfl, wb⟩ := DataW.trod_int Tryz.underlying22 hy1
  simp [Value.cells, cells1] at e0 e1
  subst e0 e1
  simp only [Prod.mk.injEq] at hx
  obtain ⟨rfl, rfl⟩ := hx
  refine ⟨a, b, rfl, rfl, rfl, fun W' sp => ⟨2, ?_⟩⟩
  have f0 : DataW.trod enc Tryz.prog W' 0 sp true 1 22 [.int .i16 a] = some (.lit (.int .i16 a), []) := trod_int_mk 0 Tryz.underlying22 wa
  have f1 : DataW.trod enc Tryz.prog W' 0 sp true 1 22 [.int .i16 b] = some (.lit (.int .i16 b), []) := trod_int_mk 0 Tryz.underlying22 wb
  have := trod_struct2_mk (enc := enc) (w := W') (base := 0) (spare := sp) (held := true) (n := 1) (cs := [.int .i16 a, .int .i16 b]) Tryz.underlying24 (by simp [cells2]) (by simpa [cells1] using f0) (by simpa [cells1] using f1)
  simpa [Value.cells] using this
set_option maxRecDepth 100000 in
theorem lifted (os : Os) (started : os.Started) (H : Type) (enc : TypeId × Value → H) :
    ReturnsInHanded {} Tryz.checked os 3 .any (Rows.elementMovedSpec.pre6 enc Tryz.prog Tryz.f3 Rows.elementMovedRow.domain false) (Rows.elementMovedSpec.post enc Tryz.prog Tryz.f3 false true false false) := by
  refine returnsInHanded_of_change_sized (C := Tryz.checked) own started (by kernel_rfl) Tryz.func3
    (ChangeSpec.witness6 (enc := enc) (C := Tryz.checked) false ⟨#[], #[.int .u8 0, .agg #[.int .i16 0, .int .i16 0], .agg #[.int .i16 0, .int .i16 0], .agg #[.int .i16 0, .int .i16 0], .agg #[.int .i16 0, .int .i16 0], .float .f64 0], []⟩ 8 (by kernel_rfl) (by kernel_rfl) (by kernel_rfl) (by kernel_rfl)) ?_
  intro W base args ds gs before hval0 hW _ hsz0 _
  have hval : ∀ (j : Nat) t v, Tryz.f3.params[j]? = some t → args[j]? = some v → Value.okWide Tryz.prog W .any base t v := hval0
  have hW' := hW
  obtain ⟨p, q, hA0, hV, rfl, _, _⟩ := hW
  have hA : DataW.TrodAll enc Tryz.prog W 0 (fun _ => true) true Tryz.f3.params.toList args.toList ds p := hA0
  rw [Tryz.params3] at hA hval
  obtain ⟨v0, vs0, d0, ds0, p0, q0, hargs0, rfl, rfl, h0, r0⟩ := trodAll_cons hA
  obtain ⟨v1, vs1, d1, ds1, p1, q1, rfl, rfl, rfl, h1, r1⟩ := trodAll_cons r0
  obtain ⟨v2, vs2, d2, ds2, p2, q2, rfl, rfl, rfl, h2, r2⟩ := trodAll_cons r1
  obtain ⟨v3, vs3, d3, ds3, p3, q3, rfl, rfl, rfl, h3, r3⟩ := trodAll_cons r2
  obtain ⟨v4, vs4, d4, ds4, p4, q4, rfl, rfl, rfl, h4, r4⟩ := trodAll_cons r3
  obtain ⟨v5, vs5, d5, ds5, p5, q5, rfl, rfl, rfl, h5, r5⟩ := trodAll_cons r4
  obtain ⟨rfl, rfl, rfl⟩ := trodAll_nil r5
  obtain rfl : args = #[v0, v1, v2, v3, v4, v5] := by cases args; simp_all
  obtain ⟨rfl, rfl⟩ := trodVars_none hV
  obtain ⟨a0, rfl, rfl, rfl, w0⟩ := open_int Tryz.underlying5 (hval 0 5 v0 rfl rfl) h0
  obtain ⟨x1, y1, rfl, rfl, rfl, st1⟩ := open_gauss (hval 1 24 v1 rfl rfl) h1
  obtain ⟨x2, y2, rfl, rfl, rfl, st2⟩ := open_gauss (hval 2 24 v2 rfl rfl) h2
  obtain ⟨x3, y3, rfl, rfl, rfl, st3⟩ := open_gauss (hval 3 24 v3 rfl rfl) h3
  obtain ⟨x4, y4, rfl, rfl, rfl, st4⟩ := open_gauss (hval 4 24 v4 rfl rfl) h4
  obtain ⟨a5, rfl, rfl, rfl, w5⟩ := open_float Tryz.underlying25 (hval 5 25 v5 rfl rfl) h5
  clear hA0 hval0 hsz0
  simp only [List.append_nil] at hW'
  have hx5 : a5 < 18446744073709551616 := by have h := w5; simp only [Lit.wf] at h; exact of_decide_eq_true h
  refine (elementmoved_any a0 x1 y1 x2 y2 x3 y3 x4 y4 a5 W hx5).mono fun e W' ⟨he, hnx⟩ => ?_
  subst he
  exact ⟨_, rfl, _, _, _, [], _, [], hW', trodAll_cons_mk (shut_bool Tryz.underlying4 _) trodAll_mk0, (trodAll_cons_mk (shut_int Tryz.underlying5 w0) (trodAll_cons_mk (st1 _ _) (trodAll_cons_mk (st2 _ _) (trodAll_cons_mk (st3 _ _) (trodAll_cons_mk (st4 _ _) (trodAll_cons_mk (shut_float Tryz.underlying25 w5) trodAll_mk0)))))), rfl, hnx.frame _, fun h => by cases h⟩
theorem over : Rows.elementMovedRow.holds Tryz.pinned (OpenSpec.ofChange Rows.elementMovedSpec) :=
  OpenClaim.holds_of_wide 3 Tryz.f3 rfl rfl rfl rfl rfl rfl rfl ⟨rfl, rfl, rfl, rfl, rfl⟩ rfl rfl rfl rfl rfl (by kernel_rfl) Tryz.func3 (by kernel_rfl)
    (of_decide_eq_true (by kernel_rfl)) (by unfold Func.isWrapper; first | (rw [if_pos (by decide +kernel)]; kernel_rfl) | (rw [if_neg (by decide +kernel)]; exact ⟨rfl, rfl⟩))
    (fun os started H enc _ => lifted os started H enc)
end Go.Proofs.YtgljnklaabbidaaGreat.elementMoved
namespace Go.Proofs.YtgljnklaabbidaaGreat
theorem elementMoved_proved : Rows.ElementMovedSaid := elementMoved.over
#print axioms elementMoved_proved
end Go.Proofs.YtgljnklaabbidaaGreat
