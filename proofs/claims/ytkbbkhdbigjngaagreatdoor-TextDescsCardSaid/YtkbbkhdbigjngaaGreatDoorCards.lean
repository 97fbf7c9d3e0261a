/-
  DERIVED. GIVEN WITH THE SEED: THE CARDS: each row of YtkbbkhdbigjngaaGreatDoorRows.lean that lists a variable, with what it lists TIED to the program's text (the seventh form; the later family's looks); each row that meets fmt, with fmt's text TOLD by the authors' own Lean function (tested against real Go, not proved from fmt's source: count such statements apart). THE CARD IS WHAT COUNTS. Prove the row's statement (the work); the ties are given (YtkbbkhdbigjngaaGreatDoorTie.lean); close each card by the builder's one call (the guide's Derived/Test/ToyasCard.lean, 'card_holds'). Laid BY PROGRAM, IN A SANDBOX (cutbox-door.mjs). By AI agents, Wed Nov 11 2026. No macro, syntax, notation, axiom, sorry.
-/
import Derived.Test.YtkbbkhdbigjngaaGreatDoorRows
import GoSem.ClaimSeven
namespace Go.Proofs.YtkbbkhdbigjngaaGreatDoor
namespace Rows

/-- THE TIED CARD OF 'rosterlaw10.TextDescs'. -/
def textDescsCard : Claim7 := { stood := { row := textDescsRow, standIns := [], harness := (true, "405e8f8656eaadd854c92a4f9a7cced2c5e94378f0a9701cd7f1988c4a2c812e"), looks := true }, kinds := [], alts := [], laidByText := true, laidKinds := [.data, .handle, .data, .pinned], laidTests := true, laidLooks := .later }
def TextDescsCardSaid : Prop := Claim7.holds Tryz.pinned (.plain (OpenSpec.ofChange textDescsSpec)) textDescsCard

/-- THE TIED CARD OF 'rosterlaw10.TextNames'. -/
def textNamesCard : Claim7 := { stood := { row := textNamesRow, standIns := [], harness := (true, "405e8f8656eaadd854c92a4f9a7cced2c5e94378f0a9701cd7f1988c4a2c812e"), looks := true }, kinds := [], alts := [], laidByText := true, laidKinds := [.data, .handle, .data, .pinned], laidTests := true, laidLooks := .later }
def TextNamesCardSaid : Prop := Claim7.holds Tryz.pinned (.plain (OpenSpec.ofChange textNamesSpec)) textNamesCard

/-- THE SECOND FORM's CARD OF 'rosterlaw10.TextDescs'. -/
def textDescsUptoCard : Claim7 := { stood := { row := textDescsUptoRow, standIns := [], harness := (true, "405e8f8656eaadd854c92a4f9a7cced2c5e94378f0a9701cd7f1988c4a2c812e"), looks := true }, kinds := [], alts := [], laidByText := true, laidKinds := [.data, .handle, .data, .pinned], laidTests := true, laidLooks := .later }
def TextDescsUptoCardSaid : Prop := Claim7.holds Tryz.pinned (.plain (OpenSpec.upto textDescsSpec)) textDescsUptoCard

/-- THE SECOND FORM's CARD OF 'rosterlaw10.TextNames'. -/
def textNamesUptoCard : Claim7 := { stood := { row := textNamesUptoRow, standIns := [], harness := (true, "405e8f8656eaadd854c92a4f9a7cced2c5e94378f0a9701cd7f1988c4a2c812e"), looks := true }, kinds := [], alts := [], laidByText := true, laidKinds := [.data, .handle, .data, .pinned], laidTests := true, laidLooks := .later }
def TextNamesUptoCardSaid : Prop := Claim7.holds Tryz.pinned (.plain (OpenSpec.upto textNamesSpec)) textNamesUptoCard
end Rows
end Go.Proofs.YtkbbkhdbigjngaaGreatDoor
