/-
  DERIVED. GIVEN WITH THE SEED: THE CARDS: each row of YtgnbmilmipbaoaaDoorRows.lean that lists a variable, with what it lists TIED to the program's text (the seventh form; the later family's looks); each row that meets fmt, with fmt's text TOLD by the authors' own Lean function (tested against real Go, not proved from fmt's source: count such statements apart). THE CARD IS WHAT COUNTS. Prove the row's statement (the work); the ties are given (YtgnbmilmipbaoaaDoorTie.lean); close each card by the builder's one call (the guide's Derived/Test/ToyasCard.lean, 'card_holds'). Laid BY PROGRAM, IN A SANDBOX (cutbox-door.mjs). By AI agents, Wed Nov 11 2026. No macro, syntax, notation, axiom, sorry.
-/
import Derived.Test.YtgnbmilmipbaoaaDoorRows
import GoSem.ClaimSeven
namespace Go.Proofs.YtgnbmilmipbaoaaDoor
namespace Rows

/-- THE TIED CARD OF 'eddylaw04.ElemExps'. -/
def elemExpsCard : Claim7 := { stood := { row := elemExpsRow, standIns := [], harness := (true, "07d4bd2ce3bbcf1e9b0f7eb7acb52cc89e4149cd212c35127850a936a3c17862"), looks := false }, kinds := [], alts := [], laidByText := true, laidKinds := [.data], laidTests := true, laidLooks := .later }
def ElemExpsCardSaid : Prop := Claim7.holds Tryd.pinned (.plain (OpenSpec.ofChange elemExpsSpec)) elemExpsCard

/-- THE TIED CARD OF 'eddylaw04.ElemHalves'. -/
def elemHalvesCard : Claim7 := { stood := { row := elemHalvesRow, standIns := [], harness := (true, "07d4bd2ce3bbcf1e9b0f7eb7acb52cc89e4149cd212c35127850a936a3c17862"), looks := false }, kinds := [], alts := [], laidByText := true, laidKinds := [.data], laidTests := true, laidLooks := .later }
def ElemHalvesCardSaid : Prop := Claim7.holds Tryd.pinned (.plain (OpenSpec.ofChange elemHalvesSpec)) elemHalvesCard

/-- THE SECOND FORM's CARD OF 'eddylaw04.ElemExps'. -/
def elemExpsUptoCard : Claim7 := { stood := { row := elemExpsUptoRow, standIns := [], harness := (true, "07d4bd2ce3bbcf1e9b0f7eb7acb52cc89e4149cd212c35127850a936a3c17862"), looks := false }, kinds := [], alts := [], laidByText := true, laidKinds := [.data], laidTests := true, laidLooks := .later }
def ElemExpsUptoCardSaid : Prop := Claim7.holds Tryd.pinned (.plain (OpenSpec.upto elemExpsSpec)) elemExpsUptoCard

/-- THE SECOND FORM's CARD OF 'eddylaw04.ElemHalves'. -/
def elemHalvesUptoCard : Claim7 := { stood := { row := elemHalvesUptoRow, standIns := [], harness := (true, "07d4bd2ce3bbcf1e9b0f7eb7acb52cc89e4149cd212c35127850a936a3c17862"), looks := false }, kinds := [], alts := [], laidByText := true, laidKinds := [.data], laidTests := true, laidLooks := .later }
def ElemHalvesUptoCardSaid : Prop := Claim7.holds Tryd.pinned (.plain (OpenSpec.upto elemHalvesSpec)) elemHalvesUptoCard
end Rows
end Go.Proofs.YtgnbmilmipbaoaaDoor
