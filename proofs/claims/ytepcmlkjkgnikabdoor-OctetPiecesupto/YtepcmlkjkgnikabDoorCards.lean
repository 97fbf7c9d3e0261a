/-
  DERIVED. GIVEN WITH THE SEED: THE CARDS: each row of YtepcmlkjkgnikabDoorRows.lean that lists a variable, with what it lists TIED to the program's text (the seventh form; the later family's looks); each row that meets fmt, with fmt's text TOLD by the authors' own Lean function (tested against real Go, not proved from fmt's source: count such statements apart). THE CARD IS WHAT COUNTS. Prove the row's statement (the work); the ties are given (YtepcmlkjkgnikabDoorTie.lean); close each card by the builder's one call (the guide's Derived/Test/ToyasCard.lean, 'card_holds'). Laid BY PROGRAM, IN A SANDBOX (cutbox-door.mjs). By AI agents, Wed Nov 11 2026. No macro, syntax, notation, axiom, sorry.
-/
import Derived.Test.YtepcmlkjkgnikabDoorRows
import GoSem.ClaimSeven
namespace Go.Proofs.YtepcmlkjkgnikabDoor
namespace Rows

/-- THE TIED CARD OF 'rosterlaw01.OctetOnly'. -/
def octetOnlyCard : Claim7 := { stood := { row := octetOnlyRow, standIns := [], harness := (true, "4019a40c4a7162849050abada27e5409d1586a8aa9aad098f94bf40307e43e57"), looks := false }, kinds := [], alts := [], laidByText := true, laidKinds := [.data], laidTests := true, laidLooks := .later }
def OctetOnlyCardSaid : Prop := Claim7.holds Tryd.pinned (.plain (OpenSpec.ofChange octetOnlySpec)) octetOnlyCard

/-- THE TIED CARD OF 'rosterlaw01.OctetPieces'. -/
def octetPiecesCard : Claim7 := { stood := { row := octetPiecesRow, standIns := [], harness := (true, "4019a40c4a7162849050abada27e5409d1586a8aa9aad098f94bf40307e43e57"), looks := false }, kinds := [], alts := [], laidByText := true, laidKinds := [.data], laidTests := true, laidLooks := .later }
def OctetPiecesCardSaid : Prop := Claim7.holds Tryd.pinned (.plain (OpenSpec.ofChange octetPiecesSpec)) octetPiecesCard

/-- THE SECOND FORM's CARD OF 'rosterlaw01.OctetOnly'. -/
def octetOnlyUptoCard : Claim7 := { stood := { row := octetOnlyUptoRow, standIns := [], harness := (true, "4019a40c4a7162849050abada27e5409d1586a8aa9aad098f94bf40307e43e57"), looks := false }, kinds := [], alts := [], laidByText := true, laidKinds := [.data], laidTests := true, laidLooks := .later }
def OctetOnlyUptoCardSaid : Prop := Claim7.holds Tryd.pinned (.plain (OpenSpec.upto octetOnlySpec)) octetOnlyUptoCard

/-- THE SECOND FORM's CARD OF 'rosterlaw01.OctetPieces'. -/
def octetPiecesUptoCard : Claim7 := { stood := { row := octetPiecesUptoRow, standIns := [], harness := (true, "4019a40c4a7162849050abada27e5409d1586a8aa9aad098f94bf40307e43e57"), looks := false }, kinds := [], alts := [], laidByText := true, laidKinds := [.data], laidTests := true, laidLooks := .later }
def OctetPiecesUptoCardSaid : Prop := Claim7.holds Tryd.pinned (.plain (OpenSpec.upto octetPiecesSpec)) octetPiecesUptoCard
end Rows
end Go.Proofs.YtepcmlkjkgnikabDoor
