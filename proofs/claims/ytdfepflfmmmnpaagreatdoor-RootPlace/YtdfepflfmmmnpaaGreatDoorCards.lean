/-
  DERIVED. GIVEN WITH THE SEED: THE CARDS: each row of YtdfepflfmmmnpaaGreatDoorRows.lean that lists a variable, with what it lists TIED to the program's text (the seventh form; the later family's looks); each row that meets fmt, with fmt's text TOLD by the authors' own Lean function (tested against real Go, not proved from fmt's source: count such statements apart). THE CARD IS WHAT COUNTS. Prove the row's statement (the work); the ties are given (YtdfepflfmmmnpaaGreatDoorTie.lean); close each card by the builder's one call (the guide's Derived/Test/ToyasCard.lean, 'card_holds'). Laid BY PROGRAM, IN A SANDBOX (cutbox-door.mjs). By AI agents, Wed Nov 11 2026. No macro, syntax, notation, axiom, sorry.
-/
import Derived.Test.YtdfepflfmmmnpaaGreatDoorRows
import GoSem.ClaimSeven
namespace Go.Proofs.YtdfepflfmmmnpaaGreatDoor
namespace Rows

/-- THE TIED CARD OF 'eddylaw06.RootOne'. -/
def rootOneCard : Claim7 := { stood := { row := rootOneRow, standIns := [], harness := (true, "c0d183e280f5b70a153b8b14784d8a1a40f61fb8405f04688f3477293be5325c"), looks := false }, kinds := [], alts := [], laidByText := true, laidKinds := [.data], laidTests := true, laidLooks := .later }
def RootOneCardSaid : Prop := Claim7.holds Tryz.pinned (.plain (OpenSpec.ofChange rootOneSpec)) rootOneCard

/-- THE TIED CARD OF 'eddylaw06.RootPlace'. -/
def rootPlaceCard : Claim7 := { stood := { row := rootPlaceRow, standIns := [], harness := (true, "c0d183e280f5b70a153b8b14784d8a1a40f61fb8405f04688f3477293be5325c"), looks := false }, kinds := [], alts := [], laidByText := true, laidKinds := [.data], laidTests := true, laidLooks := .later }
def RootPlaceCardSaid : Prop := Claim7.holds Tryz.pinned (.plain (OpenSpec.ofChange rootPlaceSpec)) rootPlaceCard

/-- THE SECOND FORM's CARD OF 'eddylaw06.RootOne'. -/
def rootOneUptoCard : Claim7 := { stood := { row := rootOneUptoRow, standIns := [], harness := (true, "c0d183e280f5b70a153b8b14784d8a1a40f61fb8405f04688f3477293be5325c"), looks := false }, kinds := [], alts := [], laidByText := true, laidKinds := [.data], laidTests := true, laidLooks := .later }
def RootOneUptoCardSaid : Prop := Claim7.holds Tryz.pinned (.plain (OpenSpec.upto rootOneSpec)) rootOneUptoCard

/-- THE SECOND FORM's CARD OF 'eddylaw06.RootPlace'. -/
def rootPlaceUptoCard : Claim7 := { stood := { row := rootPlaceUptoRow, standIns := [], harness := (true, "c0d183e280f5b70a153b8b14784d8a1a40f61fb8405f04688f3477293be5325c"), looks := false }, kinds := [], alts := [], laidByText := true, laidKinds := [.data], laidTests := true, laidLooks := .later }
def RootPlaceUptoCardSaid : Prop := Claim7.holds Tryz.pinned (.plain (OpenSpec.upto rootPlaceSpec)) rootPlaceUptoCard
end Rows
end Go.Proofs.YtdfepflfmmmnpaaGreatDoor
