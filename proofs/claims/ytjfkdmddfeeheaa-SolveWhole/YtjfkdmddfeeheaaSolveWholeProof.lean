/-
  eddylaw14.SolveWhole: for whatever int and list of ints it is true: of up to 3 unknowns of small whole numbers the unknowns and the determinant are as near to the true ones as the document tells (errors of every step against fractions, Cramer's rule with what is left over; contracts of package solve and of the given fractions).
-/
import Derived.Test.YtjfkdmddfeeheaaRows
import Derived.Test.YtjfkdmddfeeheaaJSwW
import Derived.WalkKit
import Derived.ProofKit
import Derived.OpenShut
import Derived.SizedLaws
namespace Go.Proofs.Ytjfkdmddfeeheaa.solveWhole
open Go.ChangeShapes Go.WideShapes Go.ChangeAt Go.RowKit
set_option linter.unusedVariables false
theorem own : ownKnob Try.prog.godebug = none := by kernel_rfl
theorem laidOut : laidOutB Try.prog = true := by kernel_rfl
theorem cells : Try.prog.cellsOf 3 = 1 := by kernel_rfl
theorem bytes : Try.prog.bytesOf 3 = 8 := by kernel_rfl
theorem one {H : Type} {enc : TypeId × Value → H} {W : World} {a : Option Addr} {len cap : Nat} {d : DataW H} {pp : List MemPlace} {fuel : Nat} (hlt : ∀ z ∈ pp, z.block < W.heap.size) (hf : DataW.trod enc Try.prog W 0 (fun _ => true) true fuel 29 (Value.slice a len cap).cells.toList = some (d, pp)) : Sv.Li2 W (.slice a len cap) len ∧ (len = 0 ∨ ∃ elems spare, d = .slice elems spare ∧ elems.length = len) := by
  rcases open_ints Try.underlying29 Try.underlying3 cells hf with ⟨hcs, hx0⟩ | ⟨a', len', cap', zs, hcs, _, hl, hm, hz, hx0, hcell, hwz⟩
  · simp [Value.cells] at hcs
    obtain ⟨rfl, rfl, rfl⟩ := hcs
    exact ⟨⟨_, _, rfl, Or.inl rfl⟩, Or.inl rfl⟩
  · simp [Value.cells] at hcs
    obtain ⟨rfl, rfl, rfl⟩ := hcs
    simp only [Prod.mk.injEq] at hx0
    obtain ⟨rfl, rfl⟩ := hx0
    simp only [if_true] at hz
    refine ⟨?_, Or.inr ⟨_, _, rfl, by simp only [lits, List.length_map, List.length_take]; omega⟩⟩
    by_cases hl0 : len = 0
    · exact ⟨_, _, rfl, Or.inl hl0⟩
    · obtain ⟨b, off, spot⟩ := a'
      have hspot : spot = none := by simpa [Addr.add] using World.cell?_spot (hcell 0 (by omega))
      subst hspot
      have hbW : b < W.heap.size := hlt (.cell b off) (MemPlace.mem_row.2 ⟨0, by omega, by simp⟩)
      refine ⟨_, _, rfl, Or.inr ⟨b, off, rfl, hbW, fun j hj => ⟨zs.getD j 0, ?_⟩⟩⟩
      have := hcell j (by omega)
      rw [add_plain] at this
      exact this
set_option maxRecDepth 100000 in
theorem lifted (os : Os) (started : os.Started) (H : Type) (enc : TypeId × Value → H) :
    ReturnsInHanded {} Try.checked os 5 .any (Rows.solveWholeSpec.pre6 enc Try.prog Try.f5 Rows.solveWholeRow.domain false) (Rows.solveWholeSpec.post enc Try.prog Try.f5 false true false false) := by
  refine returnsInHanded_of_change_sized (C := Try.checked) own started (by kernel_rfl) Try.func5
    (ChangeSpec.witness6 (enc := enc) (C := Try.checked) false ⟨#[], #[.int .i64 0, .slice none 0 0], []⟩ 8 (by kernel_rfl) (by kernel_rfl) (by kernel_rfl) (by kernel_rfl)) ?_
  intro W base args ds gs before hval0 hW _ hsz0 _
  have hsz : (DataW.weightsEach Try.prog (Try.f5.params.toList ++ Rows.solveWholeSpec.plain.varTypes Try.prog) (ds ++ gs)).all (· ≤ reachBytes) = true := hsz0
  clear hsz0
  have hval : ∀ (j : Nat) t v, Try.f5.params[j]? = some t → args[j]? = some v → Value.okWide Try.prog W .any base t v := hval0
  have hW' := hW
  obtain ⟨p, q, hA0, hV, rfl, _, _⟩ := hW
  have hA : DataW.TrodAll enc Try.prog W 0 (fun _ => true) true Try.f5.params.toList args.toList ds p := hA0
  rw [Try.params5] at hA hval hsz
  obtain ⟨v0, vs0, d0, ds0, p0, q0, hargs0, rfl, rfl, h0, r0⟩ := trodAll_cons hA
  obtain ⟨v1, vs1, d1, ds1, p1, q1, rfl, rfl, rfl, h1, r1⟩ := trodAll_cons r0
  obtain ⟨rfl, rfl, rfl⟩ := trodAll_nil r1
  obtain rfl : args = #[v0, v1] := by cases args; simp_all
  obtain ⟨rfl, rfl⟩ := trodVars_none hV
  obtain ⟨x0, rfl, rfl, rfl, w0⟩ := open_int Try.underlying3 (hval 0 3 v0 rfl rfl) h0
  obtain ⟨a1, len1, cap1, rfl⟩ := okWide_slice Try.underlying29 (hval 1 29 v1 rfl rfl)
  have h1k := h1
  obtain ⟨fuel1, hf1⟩ := h1
  clear hA0 hval0
  simp only [List.append_nil] at hW'
  have hlt1 : ∀ z ∈ p1, z.block < W.heap.size := fun z hz => hW'.lt z (by simp [hz])
  have fin : (Calls Try.prog 5 #[.int .i64 x0, .slice a1 len1 cap1] W fun e w' => e = .returned (.bool true) ∧ Below W.heap.size W w') →
      Calls Try.checked.prog 5 #[.int .i64 x0, .slice a1 len1 cap1] W fun e W' => ∃ v, e = Ending.returned v ∧ Rows.solveWholeSpec.post enc Try.checked.prog Try.f5 false true false false W #[.int .i64 x0, .slice a1 len1 cap1] v W' := by
    intro hc
    refine hc.mono fun e W' ⟨he, hnx⟩ => ?_
    subst he
    exact ⟨_, rfl, _, _, _, [], _, [], hW', trodAll_cons_mk (shut_bool Try.underlying4 _) trodAll_mk0, trodAll_cons_mk (shut_int Try.underlying3 w0) (trodAll_cons_mk (Below.trod laidOut (by kernel_rfl) (of_decide_eq_true (by kernel_rfl)) h1k hnx hlt1) trodAll_mk0), rfl, hnx.frame _, fun h => by cases h⟩
  refine fin ?_
  obtain ⟨y1, s1⟩ := one hlt1 hf1
  have l1 : len1 ≤ 140737488355328 := by
    rcases s1 with h | ⟨el, sp, rfl, h⟩
    · omega
    · have := sized_slice hsz (j := 1) (t := 29) (e := 3) rfl rfl Try.underlying29
      rw [bytes] at this
      simp only [reachBytes] at this
      omega
  exact solvewhole_any x0 y1 l1
theorem over : Rows.solveWholeRow.holds Try.pinned (OpenSpec.ofChange Rows.solveWholeSpec) :=
  OpenClaim.holds_of_wide 5 Try.f5 rfl rfl rfl rfl rfl rfl rfl ⟨rfl, rfl, rfl, rfl, rfl⟩ rfl rfl rfl rfl rfl (by kernel_rfl) Try.func5 (by kernel_rfl)
    (of_decide_eq_true (by kernel_rfl)) (by unfold Func.isWrapper; first | (rw [if_pos (by decide +kernel)]; kernel_rfl) | (rw [if_neg (by decide +kernel)]; exact ⟨rfl, rfl⟩))
    (fun os started H enc _ => lifted os started H enc)
end Go.Proofs.Ytjfkdmddfeeheaa.solveWhole
namespace Go.Proofs.Ytjfkdmddfeeheaa
theorem solveWhole_proved : Rows.SolveWholeSaid := solveWhole.over
#print axioms solveWhole_proved
end Go.Proofs.Ytjfkdmddfeeheaa
