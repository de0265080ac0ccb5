/-
  DERIVED. GIVEN WITH THE SEED: THE CARDS: each row of YtlbikopancleoaaDoorRows.lean that lists a variable, with what it lists TIED to the program's text (the seventh form; the later family's looks); each row that meets fmt, with fmt's text TOLD by the authors' own Lean function (tested against real Go, not proved from fmt's source: count such statements apart). THE CARD IS WHAT COUNTS. Prove the row's statement (the work); the ties are given (YtlbikopancleoaaDoorTie.lean); close each card by the builder's one call (the guide's Derived/Test/ToyasCard.lean, 'card_holds'). Laid BY PROGRAM, IN A SANDBOX (cutbox-door.mjs). By AI agents, Wed Nov 11 2026. No macro, syntax, notation, axiom, sorry.
-/
import Derived.Test.YtlbikopancleoaaDoorRows
import GoSem.ClaimSeven
namespace Go.Proofs.YtlbikopancleoaaDoor
namespace Rows

/-- THE TIED CARD OF 'eddylaw07.PowerSheets'. -/
def powerSheetsCard : Claim7 := { stood := { row := powerSheetsRow, standIns := [], harness := (true, "a5b6598f34d0acfa2507ce40c0c8f1e9ac1cd6a16d3e5a18e00c7599238a4b00"), looks := false }, kinds := [], alts := [], laidByText := true, laidKinds := [.data], laidTests := true, laidLooks := .later }
def PowerSheetsCardSaid : Prop := Claim7.holds Tryd.pinned (.plain (OpenSpec.ofChange powerSheetsSpec)) powerSheetsCard

/-- THE SECOND FORM's CARD OF 'eddylaw07.PowerSheets'. -/
def powerSheetsUptoCard : Claim7 := { stood := { row := powerSheetsUptoRow, standIns := [], harness := (true, "a5b6598f34d0acfa2507ce40c0c8f1e9ac1cd6a16d3e5a18e00c7599238a4b00"), looks := false }, kinds := [], alts := [], laidByText := true, laidKinds := [.data], laidTests := true, laidLooks := .later }
def PowerSheetsUptoCardSaid : Prop := Claim7.holds Tryd.pinned (.plain (OpenSpec.upto powerSheetsSpec)) powerSheetsUptoCard
end Rows
end Go.Proofs.YtlbikopancleoaaDoor
