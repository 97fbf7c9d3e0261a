/-
  DERIVED. GIVEN WITH THE SEED: THE CARDS: each row of YtkiaacphkmajeaaGreatDoorRows.lean that lists a variable, with what it lists TIED to the program's text (the seventh form; the later family's looks); each row that meets fmt, with fmt's text TOLD by the authors' own Lean function (tested against real Go, not proved from fmt's source: count such statements apart). THE CARD IS WHAT COUNTS. Prove the row's statement (the work); the ties are given (YtkiaacphkmajeaaGreatDoorTie.lean); close each card by the builder's one call (the guide's Derived/Test/ToyasCard.lean, 'card_holds'). Laid BY PROGRAM, IN A SANDBOX (cutbox-door.mjs). By AI agents, Wed Nov 11 2026. No macro, syntax, notation, axiom, sorry.
-/
import Derived.Test.YtkiaacphkmajeaaGreatDoorRows
import GoSem.ClaimSeven
namespace Go.Proofs.YtkiaacphkmajeaaGreatDoor
namespace Rows

/-- THE TIED CARD OF 'rosterlaw03.PrepKeys'. -/
def prepKeysCard : Claim7 := { stood := { row := prepKeysRow, standIns := [], harness := (true, "4971c298e0a03ebe994b456b88500cd6328952ab5d958c8252323d91d93cb788"), looks := false }, kinds := [], alts := [], laidByText := true, laidKinds := [.data, .data, .data, .data, .data, .pinned], laidTests := true, laidLooks := .later }
def PrepKeysCardSaid : Prop := Claim7.holds Tryz.pinned (.plain (OpenSpec.ofChange prepKeysSpec)) prepKeysCard

/-- THE TIED CARD OF 'rosterlaw03.PrepPieces'. -/
def prepPiecesCard : Claim7 := { stood := { row := prepPiecesRow, standIns := [], harness := (true, "4971c298e0a03ebe994b456b88500cd6328952ab5d958c8252323d91d93cb788"), looks := false }, kinds := [], alts := [], laidByText := true, laidKinds := [.data, .data, .data, .data, .data, .pinned], laidTests := true, laidLooks := .later }
def PrepPiecesCardSaid : Prop := Claim7.holds Tryz.pinned (.plain (OpenSpec.ofChange prepPiecesSpec)) prepPiecesCard

/-- THE TIED CARD OF 'rosterlaw03.PrepTimes'. -/
def prepTimesCard : Claim7 := { stood := { row := prepTimesRow, standIns := [], harness := (true, "4971c298e0a03ebe994b456b88500cd6328952ab5d958c8252323d91d93cb788"), looks := false }, kinds := [], alts := [], laidByText := true, laidKinds := [.data, .data, .data, .data, .data, .pinned], laidTests := true, laidLooks := .later }
def PrepTimesCardSaid : Prop := Claim7.holds Tryz.pinned (.plain (OpenSpec.ofChange prepTimesSpec)) prepTimesCard

/-- THE TIED CARD OF 'rosterlaw03.PrepAny'. -/
def prepAnyCard : Claim7 := { stood := { row := prepAnyRow, standIns := [], harness := (true, "4971c298e0a03ebe994b456b88500cd6328952ab5d958c8252323d91d93cb788"), looks := false }, kinds := [], alts := [], laidByText := true, laidKinds := [.data, .data, .data, .data, .data, .pinned], laidTests := true, laidLooks := .later }
def PrepAnyCardSaid : Prop := Claim7.holds Tryz.pinned (.plain (OpenSpec.ofChange prepAnySpec)) prepAnyCard

/-- THE TIED CARD OF 'rosterlaw03.PrepOrder'. -/
def prepOrderCard : Claim7 := { stood := { row := prepOrderRow, standIns := [], harness := (true, "4971c298e0a03ebe994b456b88500cd6328952ab5d958c8252323d91d93cb788"), looks := false }, kinds := [], alts := [], laidByText := true, laidKinds := [.data, .data, .data, .data, .data, .pinned], laidTests := true, laidLooks := .later }
def PrepOrderCardSaid : Prop := Claim7.holds Tryz.pinned (.plain (OpenSpec.ofChange prepOrderSpec)) prepOrderCard

/-- THE TIED CARD OF 'rosterlaw03.PrepAgain'. -/
def prepAgainCard : Claim7 := { stood := { row := prepAgainRow, standIns := [], harness := (true, "4971c298e0a03ebe994b456b88500cd6328952ab5d958c8252323d91d93cb788"), looks := false }, kinds := [], alts := [], laidByText := true, laidKinds := [.data, .data, .data, .data, .data, .pinned], laidTests := true, laidLooks := .later }
def PrepAgainCardSaid : Prop := Claim7.holds Tryz.pinned (.plain (OpenSpec.ofChange prepAgainSpec)) prepAgainCard

/-- THE SECOND FORM's CARD OF 'rosterlaw03.PrepKeys'. -/
def prepKeysUptoCard : Claim7 := { stood := { row := prepKeysUptoRow, standIns := [], harness := (true, "4971c298e0a03ebe994b456b88500cd6328952ab5d958c8252323d91d93cb788"), looks := false }, kinds := [], alts := [], laidByText := true, laidKinds := [.data, .data, .data, .data, .data, .pinned], laidTests := true, laidLooks := .later }
def PrepKeysUptoCardSaid : Prop := Claim7.holds Tryz.pinned (.plain (OpenSpec.upto prepKeysSpec)) prepKeysUptoCard

/-- THE SECOND FORM's CARD OF 'rosterlaw03.PrepPieces'. -/
def prepPiecesUptoCard : Claim7 := { stood := { row := prepPiecesUptoRow, standIns := [], harness := (true, "4971c298e0a03ebe994b456b88500cd6328952ab5d958c8252323d91d93cb788"), looks := false }, kinds := [], alts := [], laidByText := true, laidKinds := [.data, .data, .data, .data, .data, .pinned], laidTests := true, laidLooks := .later }
def PrepPiecesUptoCardSaid : Prop := Claim7.holds Tryz.pinned (.plain (OpenSpec.upto prepPiecesSpec)) prepPiecesUptoCard

/-- THE SECOND FORM's CARD OF 'rosterlaw03.PrepTimes'. -/
def prepTimesUptoCard : Claim7 := { stood := { row := prepTimesUptoRow, standIns := [], harness := (true, "4971c298e0a03ebe994b456b88500cd6328952ab5d958c8252323d91d93cb788"), looks := false }, kinds := [], alts := [], laidByText := true, laidKinds := [.data, .data, .data, .data, .data, .pinned], laidTests := true, laidLooks := .later }
def PrepTimesUptoCardSaid : Prop := Claim7.holds Tryz.pinned (.plain (OpenSpec.upto prepTimesSpec)) prepTimesUptoCard

/-- THE SECOND FORM's CARD OF 'rosterlaw03.PrepAny'. -/
def prepAnyUptoCard : Claim7 := { stood := { row := prepAnyUptoRow, standIns := [], harness := (true, "4971c298e0a03ebe994b456b88500cd6328952ab5d958c8252323d91d93cb788"), looks := false }, kinds := [], alts := [], laidByText := true, laidKinds := [.data, .data, .data, .data, .data, .pinned], laidTests := true, laidLooks := .later }
def PrepAnyUptoCardSaid : Prop := Claim7.holds Tryz.pinned (.plain (OpenSpec.upto prepAnySpec)) prepAnyUptoCard

/-- THE SECOND FORM's CARD OF 'rosterlaw03.PrepOrder'. -/
def prepOrderUptoCard : Claim7 := { stood := { row := prepOrderUptoRow, standIns := [], harness := (true, "4971c298e0a03ebe994b456b88500cd6328952ab5d958c8252323d91d93cb788"), looks := false }, kinds := [], alts := [], laidByText := true, laidKinds := [.data, .data, .data, .data, .data, .pinned], laidTests := true, laidLooks := .later }
def PrepOrderUptoCardSaid : Prop := Claim7.holds Tryz.pinned (.plain (OpenSpec.upto prepOrderSpec)) prepOrderUptoCard

/-- THE SECOND FORM's CARD OF 'rosterlaw03.PrepAgain'. -/
def prepAgainUptoCard : Claim7 := { stood := { row := prepAgainUptoRow, standIns := [], harness := (true, "4971c298e0a03ebe994b456b88500cd6328952ab5d958c8252323d91d93cb788"), looks := false }, kinds := [], alts := [], laidByText := true, laidKinds := [.data, .data, .data, .data, .data, .pinned], laidTests := true, laidLooks := .later }
def PrepAgainUptoCardSaid : Prop := Claim7.holds Tryz.pinned (.plain (OpenSpec.upto prepAgainSpec)) prepAgainUptoCard
end Rows
end Go.Proofs.YtkiaacphkmajeaaGreatDoor
