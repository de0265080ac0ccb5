/-
  eddylaw09.ZerosSquare: for every two numbers it is true: the zeros of the product are found but for 2^-30 (the test of life evaluated by the kernel, contracts of poly and zeros over whole numbers, how far a quotient by parts is).
-/
import Derived.Test.YtggphakliiodeaaGreatDoorRows
import Derived.Test.YtggphakliiodeaaGreatDoorCards
import Derived.Test.YtggphakliiodeaaGreatDoorTie
import Derived.Test.YtggphakliiodeaaGreatDoorZqN
import Derived.WalkKit
import Derived.ProofKit
import Derived.LaidMore
import Derived.OpenShut
import Derived.SizedLaws
import Derived.ChangeSame
import Derived.Stop.Joined
import Derived.SevenTiedAt
namespace Go.Proofs.YtggphakliiodeaaGreatDoor.zerosSquare
open Go.ChangeShapes Go.WideShapes Go.ChangeAt Go.RowKit
set_option linter.unusedVariables false
theorem own : ownKnob Tryz.prog.godebug = none := by kernel_rfl
theorem gTab : Tryz.prog.globalNamed "math/bits.deBruijn64tab" = some 1 := by kernel_rfl
theorem tTab : (Tryz.prog.globals[1]?).map (·.type) = some 133 := by kernel_rfl
theorem uTab : Tryz.prog.underlying 133 = some (.array 64 5) := by kernel_rfl
theorem uByte : Tryz.prog.underlying 5 = some (.int .u8) := by kernel_rfl
theorem cByte : Tryz.prog.cellsOf 5 = 1 := by kernel_rfl
abbrev tabs : List (String × DataW Unit) := [("math/bits.deBruijn64tab", Rows.laid_math_bits_deBruijn64tab)]
theorem door_met (os : Os) (args : Array Value) : laidMetH Tryz.prog tabs ((World.doorLaid Tryz.prog 400 os).forCall (fun _ _ => 0) ⟨#[], args, []⟩).memory :=
  laidMetH_of_parts3 (fuel := 8) (laidMet_of_run' 8 (by kernel_rfl) (by kernel_rfl)) (by kernel_rfl) (by kernel_rfl)
def tabL : List Nat := (roTab.flatMap (·.2)).map fun v => match v with | .int _ z => z.toNat | _ => 0
theorem tab_len : tabL.length = 64 := by kernel_rfl
theorem tab_ro : roTab = [(1, tabL.map fun (n : Nat) => Value.int .u8 (n : Int))] := by kernel_rfl
theorem tab_lits : (Rows.laid_math_bits_deBruijn64tab : DataW Unit) = .agg (tabL.map fun (n : Nat) => DataW.lit (.int .u8 (n : Int))) := by kernel_rfl
theorem of_laid {W : World} (h : laidMetH Tryz.prog tabs W) : RoOk W := by
  rw [MakeChecks.laidMetH_plain _ _ _ (by kernel_rfl)] at h
  obtain ⟨ps, ⟨g0, t0, cs0, f0, p0, q0, hg0, ht0, hv0, hd0, _, _⟩, _, _⟩ := h
  obtain rfl := Option.some.inj (gTab.symm.trans hg0)
  obtain rfl := Option.some.inj (tTab.symm.trans ht0)
  obtain ⟨xs, m1, rfl, hx1, hlen, hn3, hel⟩ := DataW.trod_array uTab hd0
  rw [tab_lits] at hx1
  simp only [Prod.mk.injEq, DataW.agg.injEq] at hx1
  have hT : ∀ (j n : Nat), tabL[j]? = some n → W.cell? ⟨1, j, none⟩ = some (.int .u8 (n : Int)) := by
    intro j n e4
    have hj32 : j < 64 := by
      rcases Nat.lt_or_ge j 64 with q | q
      · exact q
      · rw [List.getElem?_eq_none (by rw [tab_len]; exact q)] at e4; cases e4
    have hxj := hel j hj32
    have hjx : j < xs.length := by omega
    rw [List.getElem?_eq_getElem hjx] at hxj
    obtain ⟨k, e1, e2, _⟩ := DataW.trod_int uByte hxj
    rw [cByte, Nat.mul_one] at e1
    have e3 : (xs.map (·.1))[j]? = some (DataW.lit (.int .u8 k)) := by
      rw [List.getElem?_map, List.getElem?_eq_getElem hjx, e2]; rfl
    rw [← hx1.1, List.getElem?_map] at e3
    rw [e4] at e3
    simp only [Option.map_some, Option.some.injEq, DataW.lit.injEq, Lit.int.injEq, true_and] at e3
    have hc := World.var?_cell hg0 hv0 j
    have e5 : cs0[j]? = some (.int .u8 k) := by
      have := congrArg (fun l => l[0]?) e1
      simp only [List.getElem?_take, List.getElem?_drop, List.getElem?_cons_zero] at this
      simpa using this
    rw [e5, ← e3] at hc
    simpa using hc
  intro g l hl
  rw [tab_ro, List.mem_singleton, Prod.mk.injEq] at hl
  obtain ⟨rfl, rfl⟩ := hl
  refine ⟨?_, fun j v hv => ?_⟩
  · obtain ⟨n, hn⟩ : ∃ n, tabL[0]? = some n := ⟨_, List.getElem?_eq_getElem (by rw [tab_len]; decide)⟩
    exact World.block_lt_of_cell? W _ (hT 0 n hn)
  · rw [List.getElem?_map] at hv
    cases e : tabL[j]? with
    | none => rw [e] at hv; cases hv
    | some n =>
      rw [e] at hv
      obtain rfl := Option.some.inj hv
      exact ⟨rfl, hT j n e⟩
theorem cells1 : Tryz.prog.cellsOf 22 = 1 := by kernel_rfl
theorem cells2 : Tryz.prog.cellsOf 24 = 2 := by kernel_rfl
set_option maxRecDepth 100000 in
theorem open_gauss {H : Type} {enc : TypeId × Value → H} {W : World} {r : Reach} {b0 : Nat} {v : Value} {d : DataW H} {ps : List MemPlace} (hval : Value.okWide Tryz.prog W r b0 24 v) (hd : DataW.Trod enc Tryz.prog W 0 (fun _ => true) true 24 v d ps) :
    ∃ x y : Int, v = .agg #[.int .i16 x, .int .i16 y] ∧ d = .agg [.lit (.int .i16 x), .lit (.int .i16 y)] ∧ ps = [] ∧
      ∀ (W' : World) (sp : Nat → Bool), DataW.Trod enc Tryz.prog W' 0 sp true 24 (.agg #[.int .i16 x, .int .i16 y]) (.agg [.lit (.int .i16 x), .lit (.int .i16 y)]) [] := by
  obtain ⟨cs, rfl, hsz⟩ := okWide_struct Tryz.underlying24 hval
  rw [cells2] at hsz
  obtain ⟨l⟩ := cs
  match l, hsz with
  | [c0, c1], _ =>
  obtain ⟨fuel, hf⟩ := hd
  obtain ⟨y0, y1, m, hx, _, hy0, hy1⟩ := trod_struct2 Tryz.underlying24 hf
  obtain ⟨a, e0, rfl, wa⟩ := DataW.trod_int Tryz.underlying22 hy0
  obtain ⟨b, e1, rfl, wb⟩ := DataW.trod_int Tryz.underlying22 hy1
  simp [Value.cells, cells1] at e0 e1
  subst e0 e1
  simp only [Prod.mk.injEq] at hx
  obtain ⟨rfl, rfl⟩ := hx
  refine ⟨a, b, rfl, rfl, rfl, fun W' sp => ⟨2, ?_⟩⟩
  have f0 : DataW.trod enc Tryz.prog W' 0 sp true 1 22 [.int .i16 a] = some (.lit (.int .i16 a), []) := trod_int_mk 0 Tryz.underlying22 wa
  have f1 : DataW.trod enc Tryz.prog W' 0 sp true 1 22 [.int .i16 b] = some (.lit (.int .i16 b), []) := trod_int_mk 0 Tryz.underlying22 wb
  have := trod_struct2_mk (enc := enc) (w := W') (base := 0) (spare := sp) (held := true) (n := 1) (cs := [.int .i16 a, .int .i16 b]) Tryz.underlying24 (by simp [cells2]) (by simpa [cells1] using f0) (by simpa [cells1] using f1)
  simpa [Value.cells] using this
set_option maxRecDepth 100000 in
theorem lifted (os : Os) (started : os.Started) (H : Type) (enc : TypeId × Value → H) :
    ReturnsInHanded {} Tryz.checked os 3 .any (fun w args => (Rows.zerosSquareSpec.pre enc Tryz.prog Tryz.f3 [] false w args ∧ laidMetH Tryz.prog tabs w) ∧ sizedMet enc Tryz.prog Tryz.f3 (OpenSpec.ofChange Rows.zerosSquareSpec) false w args)
      (Rows.zerosSquareSpec.post enc Tryz.prog Tryz.f3 false true false false) := by
  refine returnsInHanded_of_change_and (C := Tryz.checked) (X := fun w _ => laidMetH Tryz.prog tabs w) (fun _ _ _ hh h => h.of_heap hh) own started (by kernel_rfl) Tryz.func3
    (ChangeSpec.witness_shaped (enc := enc) (C := Tryz.checked) (os := os) (X := fun w _ => laidMetH Tryz.prog tabs w) false (World.doorLaid Tryz.prog 400 os) #[.agg #[.int .i16 0, .int .i16 0], .agg #[.int .i16 0, .int .i16 0]] 8 rfl (World.shaped_of_RefB (by kernel_rfl) (by kernel_rfl)) (by kernel_rfl) (by kernel_rfl) (by kernel_rfl) (door_met os _)) ?_
  intro W base args ds gs before hval0 hW _ _ hL _
  have hT := of_laid hL
  have hval : ∀ (j : Nat) t v, Tryz.f3.params[j]? = some t → args[j]? = some v → Value.okWide Tryz.prog W .any base t v := hval0
  have hW' := hW
  obtain ⟨p, q, hA0, hV, rfl, _, _⟩ := hW
  have hA : DataW.TrodAll enc Tryz.prog W 0 (fun _ => true) true Tryz.f3.params.toList args.toList ds p := hA0
  rw [Tryz.params3] at hA hval
  obtain ⟨v0, vs0, d0, ds0, p0, q0, hargs0, rfl, rfl, h0, r0⟩ := trodAll_cons hA
  obtain ⟨v1, vs1, d1, ds1, p1, q1, rfl, rfl, rfl, h1, r1⟩ := trodAll_cons r0
  obtain ⟨rfl, rfl, rfl⟩ := trodAll_nil r1
  obtain rfl : args = #[v0, v1] := by cases args; simp_all
  obtain ⟨rfl, rfl⟩ := trodVars_none hV
  obtain ⟨x0, y0, rfl, rfl, rfl, st0⟩ := open_gauss (hval 0 24 v0 rfl rfl) h0
  obtain ⟨x1, y1, rfl, rfl, rfl, st1⟩ := open_gauss (hval 1 24 v1 rfl rfl) h1
  clear hA0 hval0
  simp only [List.append_nil] at hW'
  refine (zerossquare_any x0 y0 x1 y1 W hT).mono fun e W' ⟨he, hnx⟩ => ?_
  subst he
  exact ⟨_, rfl, _, _, _, [], _, [], hW', trodAll_cons_mk (shut_bool Tryz.underlying4 _) trodAll_mk0, (trodAll_cons_mk (st0 _ _) (trodAll_cons_mk (st1 _ _) trodAll_mk0)), rfl, hnx.frame _, fun h => by cases h⟩
theorem over : Rows.ZerosSquareSaid :=
  OpenClaim.holds_of_wide 3 Tryz.f3 rfl rfl rfl rfl rfl rfl rfl ⟨rfl, rfl, rfl, rfl, rfl⟩ rfl rfl rfl rfl rfl (by kernel_rfl) Tryz.func3 (by kernel_rfl)
    (of_decide_eq_true (by kernel_rfl)) (by unfold Func.isWrapper; first | (rw [if_pos (by decide +kernel)]; kernel_rfl) | (rw [if_neg (by decide +kernel)]; exact ⟨rfl, rfl⟩))
    (fun os started H enc _ => lifted os started H enc)
end Go.Proofs.YtggphakliiodeaaGreatDoor.zerosSquare
namespace Go.Proofs.YtggphakliiodeaaGreatDoor
theorem zerosSquare_proved : Rows.ZerosSquareCardSaid :=
  Claim7.holds_tied_plain_at .later [] [.data] true Rows.zerosSquareCard.stood.harness false
    zerosSquare.over (fun _ h => by cases h) (by kernel_rfl) (fun _ h => by cases h) zerosSquare_row_tie rfl ⟨rfl, rfl⟩ (by kernel_rfl) rfl
    (fun f fn hf hfn => by
      obtain rfl : f = 3 := Option.some.inj ((show Tryz.prog.funcNamed "eddy/eddylaw09.ZerosSquare" = some 3 by kernel_rfl).symm.trans hf) |>.symm
      obtain rfl : fn = Tryz.f3 := (Option.some.inj (Tryz.func3.symm.trans hfn)).symm
      exact ⟨by kernel_rfl, fun j t ht => by
        rw [Tryz.params3] at ht
        have hm : t ∈ [24, 24] := by simpa using Array.mem_of_getElem? ht
        have hall : ([24, 24].all fun u => !Tryz.prog.wantsStandIn u) = true := by kernel_rfl
        exact (show Tryz.prog.wantsStandIn t = false by simpa using List.all_eq_true.1 hall t hm)⟩)
    (by kernel_rfl)
#print axioms zerosSquare_proved
end Go.Proofs.YtggphakliiodeaaGreatDoor
