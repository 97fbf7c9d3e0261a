/-
  DERIVED. GIVEN WITH THE SEED: THE CARDS: each row of YtfonmpahbjijeaaGreatDoorRows.lean that lists a variable, with what it lists TIED to the program's text (the seventh form; the later family's looks); each row that meets fmt, with fmt's text TOLD by the authors' own Lean function (tested against real Go, not proved from fmt's source: count such statements apart). THE CARD IS WHAT COUNTS. Prove the row's statement (the work); the ties are given (YtfonmpahbjijeaaGreatDoorTie.lean); close each card by the builder's one call (the guide's Derived/Test/ToyasCard.lean, 'card_holds'). Laid BY PROGRAM, IN A SANDBOX (cutbox-door.mjs). By AI agents, Wed Nov 11 2026. No macro, syntax, notation, axiom, sorry.
-/
import Derived.Test.YtfonmpahbjijeaaGreatDoorRows
import GoSem.ClaimSeven
namespace Go.Proofs.YtfonmpahbjijeaaGreatDoor
namespace Rows

/-- THE TIED CARD OF 'rosterlaw06.NameParses'. -/
def nameParsesCard : Claim7 := { stood := { row := nameParsesRow, standIns := [], harness := (true, "a115ddc9e190030fe4706fe0fcd45a99a534cba9ca3bc2938233be7f2418c135"), looks := true }, kinds := [], alts := [], laidByText := true, laidKinds := [.data, .data, .data, .data, .handle, .data, .data, .data, .pinned], laidTests := true, laidLooks := .later }
def NameParsesCardSaid : Prop := Claim7.holds Tryz.pinned (.plain (OpenSpec.ofChange nameParsesSpec)) nameParsesCard

/-- THE TIED CARD OF 'rosterlaw06.NamePrints'. -/
def namePrintsCard : Claim7 := { stood := { row := namePrintsRow, standIns := [], harness := (true, "a115ddc9e190030fe4706fe0fcd45a99a534cba9ca3bc2938233be7f2418c135"), looks := true }, kinds := [], alts := [], laidByText := true, laidKinds := [.data, .data, .data, .data, .data, .data, .data, .pinned], laidTests := true, laidLooks := .later }
def NamePrintsCardSaid : Prop := Claim7.holds Tryz.pinned (.plain (OpenSpec.ofChange namePrintsSpec)) namePrintsCard

/-- THE TIED CARD OF 'rosterlaw06.NameMoves'. -/
def nameMovesCard : Claim7 := { stood := { row := nameMovesRow, standIns := [], harness := (true, "a115ddc9e190030fe4706fe0fcd45a99a534cba9ca3bc2938233be7f2418c135"), looks := true }, kinds := [], alts := [], laidByText := true, laidKinds := [.data, .data, .data, .data, .data, .data, .data, .pinned], laidTests := true, laidLooks := .later }
def NameMovesCardSaid : Prop := Claim7.holds Tryz.pinned (.plain (OpenSpec.ofChange nameMovesSpec)) nameMovesCard

/-- THE TIED CARD OF 'rosterlaw06.NameBack'. -/
def nameBackCard : Claim7 := { stood := { row := nameBackRow, standIns := [], harness := (true, "a115ddc9e190030fe4706fe0fcd45a99a534cba9ca3bc2938233be7f2418c135"), looks := true }, kinds := [], alts := [], laidByText := true, laidKinds := [.data, .data, .data, .data, .data, .data, .data, .pinned], laidTests := true, laidLooks := .later }
def NameBackCardSaid : Prop := Claim7.holds Tryz.pinned (.plain (OpenSpec.ofChange nameBackSpec)) nameBackCard

/-- THE SECOND FORM's CARD OF 'rosterlaw06.NameParses'. -/
def nameParsesUptoCard : Claim7 := { stood := { row := nameParsesUptoRow, standIns := [], harness := (true, "a115ddc9e190030fe4706fe0fcd45a99a534cba9ca3bc2938233be7f2418c135"), looks := true }, kinds := [], alts := [], laidByText := true, laidKinds := [.data, .data, .data, .data, .handle, .data, .data, .data, .pinned], laidTests := true, laidLooks := .later }
def NameParsesUptoCardSaid : Prop := Claim7.holds Tryz.pinned (.plain (OpenSpec.upto nameParsesSpec)) nameParsesUptoCard

/-- THE SECOND FORM's CARD OF 'rosterlaw06.NamePrints'. -/
def namePrintsUptoCard : Claim7 := { stood := { row := namePrintsUptoRow, standIns := [], harness := (true, "a115ddc9e190030fe4706fe0fcd45a99a534cba9ca3bc2938233be7f2418c135"), looks := true }, kinds := [], alts := [], laidByText := true, laidKinds := [.data, .data, .data, .data, .data, .data, .data, .pinned], laidTests := true, laidLooks := .later }
def NamePrintsUptoCardSaid : Prop := Claim7.holds Tryz.pinned (.plain (OpenSpec.upto namePrintsSpec)) namePrintsUptoCard

/-- THE SECOND FORM's CARD OF 'rosterlaw06.NameMoves'. -/
def nameMovesUptoCard : Claim7 := { stood := { row := nameMovesUptoRow, standIns := [], harness := (true, "a115ddc9e190030fe4706fe0fcd45a99a534cba9ca3bc2938233be7f2418c135"), looks := true }, kinds := [], alts := [], laidByText := true, laidKinds := [.data, .data, .data, .data, .data, .data, .data, .pinned], laidTests := true, laidLooks := .later }
def NameMovesUptoCardSaid : Prop := Claim7.holds Tryz.pinned (.plain (OpenSpec.upto nameMovesSpec)) nameMovesUptoCard

/-- THE SECOND FORM's CARD OF 'rosterlaw06.NameBack'. -/
def nameBackUptoCard : Claim7 := { stood := { row := nameBackUptoRow, standIns := [], harness := (true, "a115ddc9e190030fe4706fe0fcd45a99a534cba9ca3bc2938233be7f2418c135"), looks := true }, kinds := [], alts := [], laidByText := true, laidKinds := [.data, .data, .data, .data, .data, .data, .data, .pinned], laidTests := true, laidLooks := .later }
def NameBackUptoCardSaid : Prop := Claim7.holds Tryz.pinned (.plain (OpenSpec.upto nameBackSpec)) nameBackUptoCard
end Rows
end Go.Proofs.YtfonmpahbjijeaaGreatDoor
