/-
  DERIVED. GIVEN WITH THE SEED: THE CARDS: each row of YtdcfiphffbgocaaGreatDoorRows.lean that lists a variable, with what it lists TIED to the program's text (the seventh form; the later family's looks); each row that meets fmt, with fmt's text TOLD by the authors' own Lean function (tested against real Go, not proved from fmt's source: count such statements apart). THE CARD IS WHAT COUNTS. Prove the row's statement (the work); the ties are given (YtdcfiphffbgocaaGreatDoorTie.lean); close each card by the builder's one call (the guide's Derived/Test/ToyasCard.lean, 'card_holds'). Laid BY PROGRAM, IN A SANDBOX (cutbox-door.mjs). By AI agents, Wed Nov 11 2026. No macro, syntax, notation, axiom, sorry.
-/
import Derived.Test.YtdcfiphffbgocaaGreatDoorRows
import GoSem.ClaimSeven
namespace Go.Proofs.YtdcfiphffbgocaaGreatDoor
namespace Rows

/-- THE TIED CARD OF 'rosterlaw11.PacketDecodes'. -/
def packetDecodesCard : Claim7 := { stood := { row := packetDecodesRow, standIns := [], harness := (true, "8795d9bdb88382d955af6e14ef7dbdad5764f2bf3233ae2cdb64e55f0138b642"), looks := true }, kinds := [], alts := [], laidByText := true, laidKinds := [.data, .pinned], laidTests := true, laidLooks := .later }
def PacketDecodesCardSaid : Prop := Claim7.holds Tryz.pinned (.plain (OpenSpec.ofChange packetDecodesSpec)) packetDecodesCard

/-- THE TIED CARD OF 'rosterlaw11.PacketTakes'. -/
def packetTakesCard : Claim7 := { stood := { row := packetTakesRow, standIns := [], harness := (true, "8795d9bdb88382d955af6e14ef7dbdad5764f2bf3233ae2cdb64e55f0138b642"), looks := true }, kinds := [], alts := [], laidByText := true, laidKinds := [.data, .pinned], laidTests := true, laidLooks := .later }
def PacketTakesCardSaid : Prop := Claim7.holds Tryz.pinned (.plain (OpenSpec.ofChange packetTakesSpec)) packetTakesCard

/-- THE TIED CARD OF 'rosterlaw11.PacketEncodes'. -/
def packetEncodesCard : Claim7 := { stood := { row := packetEncodesRow, standIns := [], harness := (true, "8795d9bdb88382d955af6e14ef7dbdad5764f2bf3233ae2cdb64e55f0138b642"), looks := true }, kinds := [], alts := [], laidByText := true, laidKinds := [.data, .pinned], laidTests := true, laidLooks := .later }
def PacketEncodesCardSaid : Prop := Claim7.holds Tryz.pinned (.plain (OpenSpec.ofChange packetEncodesSpec)) packetEncodesCard

/-- THE TIED CARD OF 'rosterlaw11.PacketPuts'. -/
def packetPutsCard : Claim7 := { stood := { row := packetPutsRow, standIns := [], harness := (true, "8795d9bdb88382d955af6e14ef7dbdad5764f2bf3233ae2cdb64e55f0138b642"), looks := true }, kinds := [], alts := [], laidByText := true, laidKinds := [.data, .pinned], laidTests := true, laidLooks := .later }
def PacketPutsCardSaid : Prop := Claim7.holds Tryz.pinned (.plain (OpenSpec.ofChange packetPutsSpec)) packetPutsCard

/-- THE SECOND FORM's CARD OF 'rosterlaw11.PacketDecodes'. -/
def packetDecodesUptoCard : Claim7 := { stood := { row := packetDecodesUptoRow, standIns := [], harness := (true, "8795d9bdb88382d955af6e14ef7dbdad5764f2bf3233ae2cdb64e55f0138b642"), looks := true }, kinds := [], alts := [], laidByText := true, laidKinds := [.data, .pinned], laidTests := true, laidLooks := .later }
def PacketDecodesUptoCardSaid : Prop := Claim7.holds Tryz.pinned (.plain (OpenSpec.upto packetDecodesSpec)) packetDecodesUptoCard

/-- THE SECOND FORM's CARD OF 'rosterlaw11.PacketTakes'. -/
def packetTakesUptoCard : Claim7 := { stood := { row := packetTakesUptoRow, standIns := [], harness := (true, "8795d9bdb88382d955af6e14ef7dbdad5764f2bf3233ae2cdb64e55f0138b642"), looks := true }, kinds := [], alts := [], laidByText := true, laidKinds := [.data, .pinned], laidTests := true, laidLooks := .later }
def PacketTakesUptoCardSaid : Prop := Claim7.holds Tryz.pinned (.plain (OpenSpec.upto packetTakesSpec)) packetTakesUptoCard

/-- THE SECOND FORM's CARD OF 'rosterlaw11.PacketEncodes'. -/
def packetEncodesUptoCard : Claim7 := { stood := { row := packetEncodesUptoRow, standIns := [], harness := (true, "8795d9bdb88382d955af6e14ef7dbdad5764f2bf3233ae2cdb64e55f0138b642"), looks := true }, kinds := [], alts := [], laidByText := true, laidKinds := [.data, .pinned], laidTests := true, laidLooks := .later }
def PacketEncodesUptoCardSaid : Prop := Claim7.holds Tryz.pinned (.plain (OpenSpec.upto packetEncodesSpec)) packetEncodesUptoCard

/-- THE SECOND FORM's CARD OF 'rosterlaw11.PacketPuts'. -/
def packetPutsUptoCard : Claim7 := { stood := { row := packetPutsUptoRow, standIns := [], harness := (true, "8795d9bdb88382d955af6e14ef7dbdad5764f2bf3233ae2cdb64e55f0138b642"), looks := true }, kinds := [], alts := [], laidByText := true, laidKinds := [.data, .pinned], laidTests := true, laidLooks := .later }
def PacketPutsUptoCardSaid : Prop := Claim7.holds Tryz.pinned (.plain (OpenSpec.upto packetPutsSpec)) packetPutsUptoCard
end Rows
end Go.Proofs.YtdcfiphffbgocaaGreatDoor
