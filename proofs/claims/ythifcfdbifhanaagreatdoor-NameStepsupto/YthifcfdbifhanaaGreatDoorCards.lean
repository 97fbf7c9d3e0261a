/-
  DERIVED. GIVEN WITH THE SEED: THE CARDS: each row of YthifcfdbifhanaaGreatDoorRows.lean that lists a variable, with what it lists TIED to the program's text (the seventh form; the later family's looks); each row that meets fmt, with fmt's text TOLD by the authors' own Lean function (tested against real Go, not proved from fmt's source: count such statements apart). THE CARD IS WHAT COUNTS. Prove the row's statement (the work); the ties are given (YthifcfdbifhanaaGreatDoorTie.lean); close each card by the builder's one call (the guide's Derived/Test/ToyasCard.lean, 'card_holds'). Laid BY PROGRAM, IN A SANDBOX (cutbox-door.mjs). By AI agents, Wed Nov 11 2026. No macro, syntax, notation, axiom, sorry.
-/
import Derived.Test.YthifcfdbifhanaaGreatDoorRows
import GoSem.ClaimSeven
namespace Go.Proofs.YthifcfdbifhanaaGreatDoor
namespace Rows

/-- THE TIED CARD OF 'rosterlaw06.NameSteps'. -/
def nameStepsCard : Claim7 := { stood := { row := nameStepsRow, standIns := [], harness := (true, "eb032a7cab916abe9bc471b43614b40a3724f9a5d294b58969561c90b1a35a99"), looks := false }, kinds := [], alts := [], laidByText := true, laidKinds := [.data, .data, .data, .data, .data, .data, .data, .pinned], laidTests := true, laidLooks := .later }
def NameStepsCardSaid : Prop := Claim7.holds Tryz.pinned (.plain (OpenSpec.ofChange nameStepsSpec)) nameStepsCard

/-- THE TIED CARD OF 'rosterlaw06.NameMoves'. -/
def nameMovesCard : Claim7 := { stood := { row := nameMovesRow, standIns := [], harness := (true, "eb032a7cab916abe9bc471b43614b40a3724f9a5d294b58969561c90b1a35a99"), looks := false }, kinds := [], alts := [], laidByText := true, laidKinds := [.data, .data, .data, .data, .data, .data, .data, .pinned], laidTests := true, laidLooks := .later }
def NameMovesCardSaid : Prop := Claim7.holds Tryz.pinned (.plain (OpenSpec.ofChange nameMovesSpec)) nameMovesCard

/-- THE SECOND FORM's CARD OF 'rosterlaw06.NameSteps'. -/
def nameStepsUptoCard : Claim7 := { stood := { row := nameStepsUptoRow, standIns := [], harness := (true, "eb032a7cab916abe9bc471b43614b40a3724f9a5d294b58969561c90b1a35a99"), looks := false }, kinds := [], alts := [], laidByText := true, laidKinds := [.data, .data, .data, .data, .data, .data, .data, .pinned], laidTests := true, laidLooks := .later }
def NameStepsUptoCardSaid : Prop := Claim7.holds Tryz.pinned (.plain (OpenSpec.upto nameStepsSpec)) nameStepsUptoCard

/-- THE SECOND FORM's CARD OF 'rosterlaw06.NameMoves'. -/
def nameMovesUptoCard : Claim7 := { stood := { row := nameMovesUptoRow, standIns := [], harness := (true, "eb032a7cab916abe9bc471b43614b40a3724f9a5d294b58969561c90b1a35a99"), looks := false }, kinds := [], alts := [], laidByText := true, laidKinds := [.data, .data, .data, .data, .data, .data, .data, .pinned], laidTests := true, laidLooks := .later }
def NameMovesUptoCardSaid : Prop := Claim7.holds Tryz.pinned (.plain (OpenSpec.upto nameMovesSpec)) nameMovesUptoCard
end Rows
end Go.Proofs.YthifcfdbifhanaaGreatDoor
