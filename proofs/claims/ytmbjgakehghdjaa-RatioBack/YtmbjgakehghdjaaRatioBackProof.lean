/-
  eddylaw10.RatioBack: for whatever list of ints it is true: the fraction of up to three poles at distinct small whole places gives, asked for its poles there, as many, at the same places, with residues within 2 to the minus 40 in each part (by contracts of packages poly and ratio over whole complex numbers, and a bound on the quotient; the test of life by evaluation).
-/
import Derived.Test.YtmbjgakehghdjaaRows
import Derived.Test.YtmbjgakehghdjaaRbG
import Derived.WalkKit
import Derived.ProofKit
import Derived.OpenShut
import Derived.SizedLaws
namespace Go.Proofs.Ytmbjgakehghdjaa.ratioBack
open Go.ChangeShapes Go.WideShapes Go.ChangeAt Go.RowKit
set_option linter.unusedVariables false
theorem own : ownKnob Try.prog.godebug = none := by kernel_rfl
theorem laidOut : laidOutB Try.prog = true := by kernel_rfl
theorem cells : Try.prog.cellsOf 3 = 1 := by kernel_rfl
theorem bytes : Try.prog.bytesOf 3 = 8 := by kernel_rfl
theorem one {H : Type} {enc : TypeId × Value → H} {W : World} {a : Option Addr} {len cap : Nat} {d : DataW H} {pp : List MemPlace} {fuel : Nat} (hlt : ∀ z ∈ pp, z.block < W.heap.size) (hf : DataW.trod enc Try.prog W 0 (fun _ => true) true fuel 45 (Value.slice a len cap).cells.toList = some (d, pp)) : Ix W a len ∧ (len = 0 ∨ ∃ elems spare, d = .slice elems spare ∧ elems.length = len) := by
  rcases open_ints Try.underlying45 Try.underlying3 cells hf with ⟨hcs, hx0⟩ | ⟨a', len', cap', zs, hcs, _, hl, hm, hz, hx0, hcell, hwz⟩
  · simp [Value.cells] at hcs
    obtain ⟨rfl, rfl, rfl⟩ := hcs
    exact ⟨Or.inl rfl, Or.inl rfl⟩
  · simp [Value.cells] at hcs
    obtain ⟨rfl, rfl, rfl⟩ := hcs
    simp only [Prod.mk.injEq] at hx0
    obtain ⟨rfl, rfl⟩ := hx0
    simp only [if_true] at hz
    refine ⟨?_, Or.inr ⟨_, _, rfl, by simp only [lits, List.length_map, List.length_take]; omega⟩⟩
    by_cases hl0 : len = 0
    · exact Or.inl hl0
    · obtain ⟨b, off, spot⟩ := a'
      have hspot : spot = none := by simpa [Addr.add] using World.cell?_spot (hcell 0 (by omega))
      subst hspot
      have hbW : b < W.heap.size := hlt (.cell b off) (MemPlace.mem_row.2 ⟨0, by omega, by simp⟩)
      refine Or.inr ⟨b, off, rfl, hbW, fun j hj => ⟨zs.getD j 0, ?_⟩⟩
      have := hcell j (by omega)
      rw [add_plain] at this
      exact this
set_option maxRecDepth 100000 in
theorem lifted (os : Os) (started : os.Started) (H : Type) (enc : TypeId × Value → H) :
    ReturnsInHanded {} Try.checked os 5 .any (Rows.ratioBackSpec.pre6 enc Try.prog Try.f5 Rows.ratioBackRow.domain false) (Rows.ratioBackSpec.post enc Try.prog Try.f5 false true false false) := by
  refine returnsInHanded_of_change_sized (C := Try.checked) own started (by kernel_rfl) Try.func5
    (ChangeSpec.witness6 (enc := enc) (C := Try.checked) false ⟨#[], #[.slice none 0 0], []⟩ 8 (by kernel_rfl) (by kernel_rfl) (by kernel_rfl) (by kernel_rfl)) ?_
  intro W base args ds gs before hval0 hW _ hsz0 _
  have hsz : (DataW.weightsEach Try.prog (Try.f5.params.toList ++ Rows.ratioBackSpec.plain.varTypes Try.prog) (ds ++ gs)).all (· ≤ reachBytes) = true := hsz0
  clear hsz0
  have hval : ∀ (j : Nat) t v, Try.f5.params[j]? = some t → args[j]? = some v → Value.okWide Try.prog W .any base t v := hval0
  have hW' := hW
  obtain ⟨p, q, hA0, hV, rfl, _, _⟩ := hW
  have hA : DataW.TrodAll enc Try.prog W 0 (fun _ => true) true Try.f5.params.toList args.toList ds p := hA0
  rw [Try.params5] at hA hval hsz
  obtain ⟨v0, vs0, d0, ds0, p0, q0, hargs0, rfl, rfl, h0, r0⟩ := trodAll_cons hA
  obtain ⟨rfl, rfl, rfl⟩ := trodAll_nil r0
  obtain rfl : args = #[v0] := by cases args; simp_all
  obtain ⟨rfl, rfl⟩ := trodVars_none hV
  obtain ⟨a0, len0, cap0, rfl⟩ := okWide_slice Try.underlying45 (hval 0 45 v0 rfl rfl)
  have h0k := h0
  obtain ⟨fuel0, hf0⟩ := h0
  clear hA0 hval0
  simp only [List.append_nil] at hW'
  have hlt0 : ∀ z ∈ p0, z.block < W.heap.size := fun z hz => hW'.lt z (by simp [hz])
  have hargs0' : ∀ (W' : World), Below W.heap.size W W' → DataW.Trod enc Try.prog W' 0 (fun b => decide (b < W.heap.size)) true 45 (.slice a0 len0 cap0) d0 p0 :=
    fun W' hn => Below.trod laidOut (by kernel_rfl) (of_decide_eq_true (by kernel_rfl)) h0k hn hlt0
  have fin : (Calls Try.prog 5 #[.slice a0 len0 cap0] W fun e w' => e = .returned (.bool true) ∧ Below W.heap.size W w') →
      Calls Try.checked.prog 5 #[.slice a0 len0 cap0] W fun e W' => ∃ v, e = Ending.returned v ∧ Rows.ratioBackSpec.post enc Try.checked.prog Try.f5 false true false false W #[.slice a0 len0 cap0] v W' := by
    intro hc
    refine hc.mono fun e W' ⟨he, hnx⟩ => ?_
    subst he
    exact ⟨_, rfl, _, _, _, [], _, [], hW', trodAll_cons_mk (shut_bool Try.underlying4 _) trodAll_mk0, trodAll_cons_mk (hargs0' _ hnx) trodAll_mk0, rfl, hnx.frame _, fun h => by cases h⟩
  refine fin ?_
  obtain ⟨x0, s0⟩ := one hlt0 hf0
  have l0 : len0 ≤ 140737488355328 := by
    rcases s0 with h | ⟨el, sp, rfl, h⟩
    · omega
    · have := sized_slice hsz (j := 0) (t := 45) (e := 3) rfl rfl Try.underlying45
      rw [bytes] at this
      simp only [reachBytes] at this
      omega
  exact ratioback_any (c := 1074) rfl a0 len0 cap0 W x0 l0 (fun g l h => by cases h)
theorem over : Rows.ratioBackRow.holds Try.pinned (OpenSpec.ofChange Rows.ratioBackSpec) :=
  OpenClaim.holds_of_wide 5 Try.f5 rfl rfl rfl rfl rfl rfl rfl ⟨rfl, rfl, rfl, rfl, rfl⟩ rfl rfl rfl rfl rfl (by kernel_rfl) Try.func5 (by kernel_rfl)
    (of_decide_eq_true (by kernel_rfl)) (by unfold Func.isWrapper; first | (rw [if_pos (by decide +kernel)]; kernel_rfl) | (rw [if_neg (by decide +kernel)]; exact ⟨rfl, rfl⟩))
    (fun os started H enc _ => lifted os started H enc)
end Go.Proofs.Ytmbjgakehghdjaa.ratioBack
namespace Go.Proofs.Ytmbjgakehghdjaa
theorem ratioBack_proved : Rows.RatioBackSaid := ratioBack.over
#print axioms ratioBack_proved
end Go.Proofs.Ytmbjgakehghdjaa
