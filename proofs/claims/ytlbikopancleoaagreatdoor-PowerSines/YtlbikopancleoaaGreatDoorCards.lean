/-
  DERIVED. GIVEN WITH THE SEED: THE CARDS: each row of YtlbikopancleoaaGreatDoorRows.lean that lists a variable, with what it lists TIED to the program's text (the seventh form; the later family's looks); each row that meets fmt, with fmt's text TOLD by the authors' own Lean function (tested against real Go, not proved from fmt's source: count such statements apart). THE CARD IS WHAT COUNTS. Prove the row's statement (the work); the ties are given (YtlbikopancleoaaGreatDoorTie.lean); close each card by the builder's one call (the guide's Derived/Test/ToyasCard.lean, 'card_holds'). Laid BY PROGRAM, IN A SANDBOX (cutbox-door.mjs). By AI agents, Wed Nov 11 2026. No macro, syntax, notation, axiom, sorry.
-/
import Derived.Test.YtlbikopancleoaaGreatDoorRows
import GoSem.ClaimSeven
namespace Go.Proofs.YtlbikopancleoaaGreatDoor
namespace Rows

/-- THE TIED CARD OF 'eddylaw07.PowerExps'. -/
def powerExpsCard : Claim7 := { stood := { row := powerExpsRow, standIns := [], harness := (true, "b76ad482e818eed86064210db65c6b954510c26dbf65699e401bf8d8fc745bf4"), looks := false }, kinds := [], alts := [], laidByText := true, laidKinds := [.data], laidTests := true, laidLooks := .later }
def PowerExpsCardSaid : Prop := Claim7.holds Tryz.pinned (.plain (OpenSpec.ofChange powerExpsSpec)) powerExpsCard

/-- THE TIED CARD OF 'eddylaw07.PowerReals'. -/
def powerRealsCard : Claim7 := { stood := { row := powerRealsRow, standIns := [], harness := (true, "b76ad482e818eed86064210db65c6b954510c26dbf65699e401bf8d8fc745bf4"), looks := false }, kinds := [], alts := [], laidByText := true, laidKinds := [.data], laidTests := true, laidLooks := .later }
def PowerRealsCardSaid : Prop := Claim7.holds Tryz.pinned (.plain (OpenSpec.ofChange powerRealsSpec)) powerRealsCard

/-- THE TIED CARD OF 'eddylaw07.PowerSines'. -/
def powerSinesCard : Claim7 := { stood := { row := powerSinesRow, standIns := [], harness := (true, "b76ad482e818eed86064210db65c6b954510c26dbf65699e401bf8d8fc745bf4"), looks := false }, kinds := [], alts := [], laidByText := true, laidKinds := [.data], laidTests := true, laidLooks := .later }
def PowerSinesCardSaid : Prop := Claim7.holds Tryz.pinned (.plain (OpenSpec.ofChange powerSinesSpec)) powerSinesCard

/-- THE SECOND FORM's CARD OF 'eddylaw07.PowerExps'. -/
def powerExpsUptoCard : Claim7 := { stood := { row := powerExpsUptoRow, standIns := [], harness := (true, "b76ad482e818eed86064210db65c6b954510c26dbf65699e401bf8d8fc745bf4"), looks := false }, kinds := [], alts := [], laidByText := true, laidKinds := [.data], laidTests := true, laidLooks := .later }
def PowerExpsUptoCardSaid : Prop := Claim7.holds Tryz.pinned (.plain (OpenSpec.upto powerExpsSpec)) powerExpsUptoCard

/-- THE SECOND FORM's CARD OF 'eddylaw07.PowerReals'. -/
def powerRealsUptoCard : Claim7 := { stood := { row := powerRealsUptoRow, standIns := [], harness := (true, "b76ad482e818eed86064210db65c6b954510c26dbf65699e401bf8d8fc745bf4"), looks := false }, kinds := [], alts := [], laidByText := true, laidKinds := [.data], laidTests := true, laidLooks := .later }
def PowerRealsUptoCardSaid : Prop := Claim7.holds Tryz.pinned (.plain (OpenSpec.upto powerRealsSpec)) powerRealsUptoCard

/-- THE SECOND FORM's CARD OF 'eddylaw07.PowerSines'. -/
def powerSinesUptoCard : Claim7 := { stood := { row := powerSinesUptoRow, standIns := [], harness := (true, "b76ad482e818eed86064210db65c6b954510c26dbf65699e401bf8d8fc745bf4"), looks := false }, kinds := [], alts := [], laidByText := true, laidKinds := [.data], laidTests := true, laidLooks := .later }
def PowerSinesUptoCardSaid : Prop := Claim7.holds Tryz.pinned (.plain (OpenSpec.upto powerSinesSpec)) powerSinesUptoCard
end Rows
end Go.Proofs.YtlbikopancleoaaGreatDoor
