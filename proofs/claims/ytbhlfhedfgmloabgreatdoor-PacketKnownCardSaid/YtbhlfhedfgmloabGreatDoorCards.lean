/-
  DERIVED. GIVEN WITH THE SEED: THE CARDS: each row of YtbhlfhedfgmloabGreatDoorRows.lean that lists a variable, with what it lists TIED to the program's text (the seventh form; the later family's looks); each row that meets fmt, with fmt's text TOLD by the authors' own Lean function (tested against real Go, not proved from fmt's source: count such statements apart). THE CARD IS WHAT COUNTS. Prove the row's statement (the work); the ties are given (YtbhlfhedfgmloabGreatDoorTie.lean); close each card by the builder's one call (the guide's Derived/Test/ToyasCard.lean, 'card_holds'). Laid BY PROGRAM, IN A SANDBOX (cutbox-door.mjs). By AI agents, Wed Nov 11 2026. No macro, syntax, notation, axiom, sorry.
-/
import Derived.Test.YtbhlfhedfgmloabGreatDoorRows
import GoSem.ClaimSeven
namespace Go.Proofs.YtbhlfhedfgmloabGreatDoor
namespace Rows

/-- THE TIED CARD OF 'rosterlaw11.PacketJust'. -/
def packetJustCard : Claim7 := { stood := { row := packetJustRow, standIns := [], harness := (true, "25cc4b826c1b7f8c66b9b8ac3c5f022c18efaabbc850b60b8ea13bf80b3f2786"), looks := true }, kinds := [], alts := [], laidByText := true, laidKinds := [.data, .pinned], laidTests := true, laidLooks := .later }
def PacketJustCardSaid : Prop := Claim7.holds Tryz.pinned (.plain (OpenSpec.ofChange packetJustSpec)) packetJustCard

/-- THE TIED CARD OF 'rosterlaw11.PacketKnown'. -/
def packetKnownCard : Claim7 := { stood := { row := packetKnownRow, standIns := [], harness := (true, "25cc4b826c1b7f8c66b9b8ac3c5f022c18efaabbc850b60b8ea13bf80b3f2786"), looks := true }, kinds := [], alts := [], laidByText := true, laidKinds := [.data, .pinned], laidTests := true, laidLooks := .later }
def PacketKnownCardSaid : Prop := Claim7.holds Tryz.pinned (.plain (OpenSpec.ofChange packetKnownSpec)) packetKnownCard

/-- THE SECOND FORM's CARD OF 'rosterlaw11.PacketJust'. -/
def packetJustUptoCard : Claim7 := { stood := { row := packetJustUptoRow, standIns := [], harness := (true, "25cc4b826c1b7f8c66b9b8ac3c5f022c18efaabbc850b60b8ea13bf80b3f2786"), looks := true }, kinds := [], alts := [], laidByText := true, laidKinds := [.data, .pinned], laidTests := true, laidLooks := .later }
def PacketJustUptoCardSaid : Prop := Claim7.holds Tryz.pinned (.plain (OpenSpec.upto packetJustSpec)) packetJustUptoCard

/-- THE SECOND FORM's CARD OF 'rosterlaw11.PacketKnown'. -/
def packetKnownUptoCard : Claim7 := { stood := { row := packetKnownUptoRow, standIns := [], harness := (true, "25cc4b826c1b7f8c66b9b8ac3c5f022c18efaabbc850b60b8ea13bf80b3f2786"), looks := true }, kinds := [], alts := [], laidByText := true, laidKinds := [.data, .pinned], laidTests := true, laidLooks := .later }
def PacketKnownUptoCardSaid : Prop := Claim7.holds Tryz.pinned (.plain (OpenSpec.upto packetKnownSpec)) packetKnownUptoCard
end Rows
end Go.Proofs.YtbhlfhedfgmloabGreatDoor
