/-
  No cell of these rows narrows 'for every input' (looked for: loops, veiled, ifaces, maps, wideKeys, modest, calm, conditions, laid).
  DERIVED. THE GIVEN ROWS OF THIS SEAT. 3 by the template 'for every input the law returns true; each argument reads behind the call as it read before'; 0 by the template 'total and deterministic' (their statements: YtfgfofedacehiaaGreatTotals.lean).
  GIVEN WITH THE SEED: the statements are not yours to turn. If you find one false, say at which input.
  Laid BY PROGRAM, IN A SANDBOX (cutbox-rows.mjs): the forced cells as the released guide's own fill.sh prints them over the translation ec0a1c49a257d398… (all of the seat's roots in one cut). By AI agents, Wed Nov 11 2026. No macro, syntax, notation, axiom, sorry.
-/
import Derived.Test.YtfgfofedacehiaaGreatChecked
import GoSem.Claim
import GoSem.ClaimJoined
import GoSem.ClaimMapViews
import Derived.JoinedTies
import Derived.KernelRfl
namespace Go.Proofs.YtfgfofedacehiaaGreat
/- THE CELL 'sum', in the pinned program and in every row, IS THE sha256 OF THE DUMP (.gsa) THAT YtfgfofedacehiaaGreatProg.lean LOADS. Nothing in Lean hashes anything: it is a label: what it is worth is what the hold of that sum in a sandbox is worth. -/
noncomputable def Tryz.pinned : Pinned := { name := "ytfgfofedacehiaagreat", sum := "ec0a1c49a257d398090de90b6d872f52539bf6bb33143174284e0234e5c4c9fa", checked := Tryz.checked }
namespace Rows
def none {H : Type} : Left H := { results := [], args := [] }

/-- 'eddylaw18.ChartThere': WHATEVER THE INPUT: true; the input reads as it did. -/
def chartThereSpec : ChangeSpec := { name := "chartThere", fn := fun _ => fun
  | [d1, d2, d3] => { results := [.lit (.bool true)], args := [d1, d2, d3] }
  | _ => none }
def chartThereRow : OpenClaim := { program := "ytfgfofedacehiaagreat", sum := "ec0a1c49a257d398090de90b6d872f52539bf6bb33143174284e0234e5c4c9fa", func := "eddy/eddylaw18.ChartThere", spec := "chartThere", inPlace := ["math.Float64bits", "math.Float64frombits", "math.sqrt", "math.archFloor", "math.archTrunc", "math.RoundToEven"], unfollowed := true, recurses := true, apart := false }
def ChartThereSaid : Prop := chartThereRow.holds Tryz.pinned (OpenSpec.ofChange chartThereSpec)

/-- ITS FALSE NEIGHBOUR: 'it returns false'. Refute it at one input. -/
def chartThereWrong : ChangeSpec := { name := "chartThere", fn := fun _ => fun
  | [d1, d2, d3] => { results := [.lit (.bool false)], args := [d1, d2, d3] }
  | _ => none }
def ChartThereWrongFalsely : Prop := chartThereRow.holds Tryz.pinned (OpenSpec.ofChange chartThereWrong)

/-- 'eddylaw18.ChartGroup': WHATEVER THE INPUT: true; the input reads as it did. -/
def chartGroupSpec : ChangeSpec := { name := "chartGroup", fn := fun _ => fun
  | [d1, d2, d3] => { results := [.lit (.bool true)], args := [d1, d2, d3] }
  | _ => none }
def chartGroupRow : OpenClaim := { program := "ytfgfofedacehiaagreat", sum := "ec0a1c49a257d398090de90b6d872f52539bf6bb33143174284e0234e5c4c9fa", func := "eddy/eddylaw18.ChartGroup", spec := "chartGroup", inPlace := ["math.Float64bits", "math.Float64frombits", "math.sqrt", "math.archFloor", "math.archTrunc", "math.RoundToEven"], unfollowed := true, recurses := true, apart := false }
def ChartGroupSaid : Prop := chartGroupRow.holds Tryz.pinned (OpenSpec.ofChange chartGroupSpec)

/-- ITS FALSE NEIGHBOUR: 'it returns false'. Refute it at one input. -/
def chartGroupWrong : ChangeSpec := { name := "chartGroup", fn := fun _ => fun
  | [d1, d2, d3] => { results := [.lit (.bool false)], args := [d1, d2, d3] }
  | _ => none }
def ChartGroupWrongFalsely : Prop := chartGroupRow.holds Tryz.pinned (OpenSpec.ofChange chartGroupWrong)

/-- 'eddylaw18.ChartThree': WHATEVER THE INPUT: true; the input reads as it did. -/
def chartThreeSpec : ChangeSpec := { name := "chartThree", fn := fun _ => fun
  | [d1, d2] => { results := [.lit (.bool true)], args := [d1, d2] }
  | _ => none }
def chartThreeRow : OpenClaim := { program := "ytfgfofedacehiaagreat", sum := "ec0a1c49a257d398090de90b6d872f52539bf6bb33143174284e0234e5c4c9fa", func := "eddy/eddylaw18.ChartThree", spec := "chartThree", inPlace := ["math.Float64bits", "math.Float64frombits", "math.sqrt", "math.archFloor", "math.archTrunc", "math.RoundToEven"], unfollowed := true, recurses := true, apart := false }
def ChartThreeSaid : Prop := chartThreeRow.holds Tryz.pinned (OpenSpec.ofChange chartThreeSpec)

/-- ITS FALSE NEIGHBOUR: 'it returns false'. Refute it at one input. -/
def chartThreeWrong : ChangeSpec := { name := "chartThree", fn := fun _ => fun
  | [d1, d2] => { results := [.lit (.bool false)], args := [d1, d2] }
  | _ => none }
def ChartThreeWrongFalsely : Prop := chartThreeRow.holds Tryz.pinned (OpenSpec.ofChange chartThreeWrong)

/- THE SECOND FORM. 'bulk': how many values and letters a reading holds, each counted each time it is reached (what is shared counts as often as it is met; a slice's spare places count too). A statement '..UptoSaid' is the law's where the arguments, and the package variables that the reading takes, are together of bulk at most 1048576: NARROWER than '..Said'. Prove '..Said' where nothing that the law and all that it calls make is longer than what came in: it says more and counts as full. Else prove '..UptoSaid'. A law counts once. -/
mutual
def uptoBulk {H : Type} : DataW H → Nat
  | .lit (.string bytes) => bytes.length + 1
  | .lit _ => 1
  | .nil => 1
  | .ptr d => uptoBulk d + 1
  | .slice elems spare => uptoBulkAll elems + uptoBulkAll spare + 1
  | .agg parts => uptoBulkAll parts + 1
  | .iface _ d => uptoBulk d + 1
  | .map entries => uptoBulkEntries entries + 1
  | .held _ => 1
def uptoBulkAll {H : Type} : List (DataW H) → Nat
  | [] => 0
  | d :: r => uptoBulk d + uptoBulkAll r
def uptoBulkEntries {H : Type} : List (Lit × DataW H) → Nat
  | [] => 0
  | x :: r => uptoBulkEntry x + uptoBulkEntries r
def uptoBulkEntry {H : Type} : Lit × DataW H → Nat
  | (.string bytes, d) => bytes.length + uptoBulk d + 1
  | (_, d) => uptoBulk d + 1
 end
def uptoSmall : (H : Type) → List (DataW H) → Bool := fun _ ds => decide (uptoBulkAll ds ≤ 1048576)
def OpenSpec.upto (s : _root_.Go.ChangeSpec) : _root_.Go.OpenSpec := { _root_.Go.OpenSpec.ofChange s with cond := some uptoSmall }

/-- 'eddylaw18.ChartThere', WHERE WHAT IT READS IS OF BULK AT MOST 1048576: true; the input reads as it did. -/
def chartThereUptoRow : OpenClaim := { program := "ytfgfofedacehiaagreat", sum := "ec0a1c49a257d398090de90b6d872f52539bf6bb33143174284e0234e5c4c9fa", func := "eddy/eddylaw18.ChartThere", spec := "chartThere", inPlace := ["math.Float64bits", "math.Float64frombits", "math.sqrt", "math.archFloor", "math.archTrunc", "math.RoundToEven"], unfollowed := true, recurses := true, apart := false, narrowed := true }
def ChartThereUptoSaid : Prop := chartThereUptoRow.holds Tryz.pinned (OpenSpec.upto chartThereSpec)

/-- 'eddylaw18.ChartGroup', WHERE WHAT IT READS IS OF BULK AT MOST 1048576: true; the input reads as it did. -/
def chartGroupUptoRow : OpenClaim := { program := "ytfgfofedacehiaagreat", sum := "ec0a1c49a257d398090de90b6d872f52539bf6bb33143174284e0234e5c4c9fa", func := "eddy/eddylaw18.ChartGroup", spec := "chartGroup", inPlace := ["math.Float64bits", "math.Float64frombits", "math.sqrt", "math.archFloor", "math.archTrunc", "math.RoundToEven"], unfollowed := true, recurses := true, apart := false, narrowed := true }
def ChartGroupUptoSaid : Prop := chartGroupUptoRow.holds Tryz.pinned (OpenSpec.upto chartGroupSpec)

/-- 'eddylaw18.ChartThree', WHERE WHAT IT READS IS OF BULK AT MOST 1048576: true; the input reads as it did. -/
def chartThreeUptoRow : OpenClaim := { program := "ytfgfofedacehiaagreat", sum := "ec0a1c49a257d398090de90b6d872f52539bf6bb33143174284e0234e5c4c9fa", func := "eddy/eddylaw18.ChartThree", spec := "chartThree", inPlace := ["math.Float64bits", "math.Float64frombits", "math.sqrt", "math.archFloor", "math.archTrunc", "math.RoundToEven"], unfollowed := true, recurses := true, apart := false, narrowed := true }
def ChartThreeUptoSaid : Prop := chartThreeUptoRow.holds Tryz.pinned (OpenSpec.upto chartThreeSpec)

end Rows
end Go.Proofs.YtfgfofedacehiaaGreat
