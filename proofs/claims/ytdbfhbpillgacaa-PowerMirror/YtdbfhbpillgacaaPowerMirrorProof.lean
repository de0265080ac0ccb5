/-
  eddylaw07.PowerMirror: for every two complex numbers it is true: what is made of a mirror image is the mirror image of what is made, noughts' signs and cuts too (by contracts: both sides take the same steps of floats, signs turned).
-/
import Derived.Test.YtdbfhbpillgacaaRows
import Derived.Test.YtdbfhbpillgacaaPmD
import Derived.WalkKit
import Derived.ProofKit
import Derived.OpenShut
import Derived.SizedLaws
import Derived.Laws.Cover2
import Derived.LaidMore
import Derived.ChangeSame
namespace Go.Proofs.Ytdbfhbpillgacaa.powerMirror
open Go.ChangeShapes Go.WideShapes Go.ChangeAt Go.RowKit
set_option linter.unusedVariables false
theorem own : ownKnob Try.prog.godebug = none := by kernel_rfl
theorem cells1 : Try.prog.cellsOf 37 = 1 := by kernel_rfl
theorem cells2 : Try.prog.cellsOf 39 = 2 := by kernel_rfl
theorem u64_nat {z : Int} (h : (Lit.int .u64 z).wf = true) : ∃ x : Nat, z = (x : Int) ∧ x < 18446744073709551616 := by
  have h1 : IntKind.u64.min = 0 := rfl
  have h2 : IntKind.u64.max = 18446744073709551615 := rfl
  simp only [Lit.wf, Bool.and_eq_true, decide_eq_true_eq] at h
  exact ⟨z.toNat, by omega, by omega⟩
theorem open_place {H : Type} {enc : TypeId × Value → H} {W : World} {r : Reach} {b0 : Nat} {v : Value} {d : DataW H} {ps : List MemPlace} (hval : Value.okWide Try.prog W r b0 39 v) (hd : DataW.Trod enc Try.prog W 0 (fun _ => true) true 39 v d ps) :
    ∃ x y : Nat, v = .agg #[.int .u64 (x : Int), .int .u64 (y : Int)] ∧ d = .agg [.lit (.int .u64 (x : Int)), .lit (.int .u64 (y : Int))] ∧ ps = [] ∧ x < 18446744073709551616 ∧ y < 18446744073709551616 ∧
      ∀ (W' : World) (sp : Nat → Bool), DataW.Trod enc Try.prog W' 0 sp true 39 (.agg #[.int .u64 (x : Int), .int .u64 (y : Int)]) (.agg [.lit (.int .u64 (x : Int)), .lit (.int .u64 (y : Int))]) [] := by
  obtain ⟨cs, rfl, hsz⟩ := okWide_struct Try.underlying39 hval
  rw [cells2] at hsz
  obtain ⟨l⟩ := cs
  match l, hsz with
  | [c0, c1], _ =>
  obtain ⟨fuel, hf⟩ := hd
  obtain ⟨y0, y1, m, hx, _, hy0, hy1⟩ := trod_struct2 Try.underlying39 hf
  obtain ⟨a, e0, rfl, wa⟩ := DataW.trod_int Try.underlying37 hy0
  obtain ⟨b, e1, rfl, wb⟩ := DataW.trod_int Try.underlying37 hy1
  simp [Value.cells, cells1] at e0 e1
  subst e0 e1
  simp only [Prod.mk.injEq] at hx
  obtain ⟨rfl, rfl⟩ := hx
  obtain ⟨x, rfl, hx⟩ := u64_nat wa
  obtain ⟨y, rfl, hy⟩ := u64_nat wb
  refine ⟨x, y, rfl, rfl, rfl, hx, hy, fun W' sp => ⟨2, ?_⟩⟩
  have f0 : DataW.trod enc Try.prog W' 0 sp true 1 37 [.int .u64 (x : Int)] = some (.lit (.int .u64 (x : Int)), []) := trod_int_mk 0 Try.underlying37 wa
  have f1 : DataW.trod enc Try.prog W' 0 sp true 1 37 [.int .u64 (y : Int)] = some (.lit (.int .u64 (y : Int)), []) := trod_int_mk 0 Try.underlying37 wb
  have := trod_struct2_mk (enc := enc) (w := W') (base := 0) (spare := sp) (held := true) (n := 1) (cs := [.int .u64 (x : Int), .int .u64 (y : Int)]) Try.underlying39 (by simp [cells2]) (by simpa [cells1] using f0) (by simpa [cells1] using f1)
  simpa [Value.cells] using this
set_option maxRecDepth 100000 in
theorem lifted (os : Os) (started : os.Started) (H : Type) (enc : TypeId × Value → H) :
    ReturnsInHanded {} Try.checked os 4 .any (Rows.powerMirrorSpec.pre6 enc Try.prog Try.f4 Rows.powerMirrorRow.domain false) (Rows.powerMirrorSpec.post enc Try.prog Try.f4 false true false false) := by
  refine returnsInHanded_of_change_sized (C := Try.checked) own started (by kernel_rfl) Try.func4
    (ChangeSpec.witness6 (enc := enc) (C := Try.checked) false ⟨#[], #[.agg #[.int .u64 0, .int .u64 0], .agg #[.int .u64 0, .int .u64 0]], []⟩ 8 (by kernel_rfl) (by kernel_rfl) (by kernel_rfl) (by kernel_rfl)) ?_
  intro W base args ds gs before hval0 hW _ hsz0 _
  have hval : ∀ (j : Nat) t v, Try.f4.params[j]? = some t → args[j]? = some v → Value.okWide Try.prog W .any base t v := hval0
  have hW' := hW
  obtain ⟨p, q, hA0, hV, rfl, _, _⟩ := hW
  have hA : DataW.TrodAll enc Try.prog W 0 (fun _ => true) true Try.f4.params.toList args.toList ds p := hA0
  rw [Try.params4] at hA hval
  obtain ⟨v0, vs0, d0, ds0, p0, q0, hargs0, rfl, rfl, h0, r0⟩ := trodAll_cons hA
  obtain ⟨v1, vs1, d1, ds1, p1, q1, rfl, rfl, rfl, h1, r1⟩ := trodAll_cons r0
  obtain ⟨rfl, rfl, rfl⟩ := trodAll_nil r1
  obtain rfl : args = #[v0, v1] := by cases args; simp_all
  obtain ⟨rfl, rfl⟩ := trodVars_none hV
  obtain ⟨x0, y0, rfl, rfl, rfl, hx0, hy0, st0⟩ := open_place (hval 0 39 v0 rfl rfl) h0
  obtain ⟨x1, y1, rfl, rfl, rfl, hx1, hy1, st1⟩ := open_place (hval 1 39 v1 rfl rfl) h1
  clear hA0 hval0 hsz0
  simp only [List.append_nil] at hW'
  refine (powermirror_any x0 y0 x1 y1 W hx0 hy0 hx1 hy1).mono fun e W' ⟨he, hnx⟩ => ?_
  subst he
  exact ⟨_, rfl, _, _, _, [], _, [], hW', trodAll_cons_mk (shut_bool Try.underlying4 _) trodAll_mk0, (trodAll_cons_mk (st0 _ _) (trodAll_cons_mk (st1 _ _) trodAll_mk0)), rfl, hnx.frame _, fun h => by cases h⟩
theorem over : Rows.powerMirrorRow.holds Try.pinned (OpenSpec.ofChange Rows.powerMirrorSpec) :=
  OpenClaim.holds_of_wide 4 Try.f4 rfl rfl rfl rfl rfl rfl rfl ⟨rfl, rfl, rfl, rfl, rfl⟩ rfl rfl rfl rfl rfl (by kernel_rfl) Try.func4 (by kernel_rfl)
    (of_decide_eq_true (by kernel_rfl)) (by unfold Func.isWrapper; first | (rw [if_pos (by decide +kernel)]; kernel_rfl) | (rw [if_neg (by decide +kernel)]; exact ⟨rfl, rfl⟩))
    (fun os started H enc _ => lifted os started H enc)
end Go.Proofs.Ytdbfhbpillgacaa.powerMirror
namespace Go.Proofs.Ytdbfhbpillgacaa
theorem powerMirror_proved : Rows.PowerMirrorSaid := powerMirror.over
#print axioms powerMirror_proved
end Go.Proofs.Ytdbfhbpillgacaa
