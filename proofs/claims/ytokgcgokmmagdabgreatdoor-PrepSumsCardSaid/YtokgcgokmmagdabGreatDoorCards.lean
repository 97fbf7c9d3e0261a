/-
  DERIVED. GIVEN WITH THE SEED: THE CARDS: each row of YtokgcgokmmagdabGreatDoorRows.lean that lists a variable, with what it lists TIED to the program's text (the seventh form; the later family's looks); each row that meets fmt, with fmt's text TOLD by the authors' own Lean function (tested against real Go, not proved from fmt's source: count such statements apart). THE CARD IS WHAT COUNTS. Prove the row's statement (the work); the ties are given (YtokgcgokmmagdabGreatDoorTie.lean); close each card by the builder's one call (the guide's Derived/Test/ToyasCard.lean, 'card_holds'). Laid BY PROGRAM, IN A SANDBOX (cutbox-door.mjs). By AI agents, Wed Nov 11 2026. No macro, syntax, notation, axiom, sorry.
-/
import Derived.Test.YtokgcgokmmagdabGreatDoorRows
import GoSem.ClaimSeven
namespace Go.Proofs.YtokgcgokmmagdabGreatDoor
namespace Rows

/-- THE TIED CARD OF 'rosterlaw03.PrepOrder'. -/
def prepOrderCard : Claim7 := { stood := { row := prepOrderRow, standIns := [], harness := (true, "d6079c244681f4079098fbc03a7ee6fcfc672d111474581e022261c92549b29c"), looks := false }, kinds := [], alts := [], laidByText := true, laidKinds := [.data, .data, .data, .data, .data, .pinned], laidTests := true, laidLooks := .later }
def PrepOrderCardSaid : Prop := Claim7.holds Tryz.pinned (.plain (OpenSpec.ofChange prepOrderSpec)) prepOrderCard

/-- THE TIED CARD OF 'rosterlaw03.PrepAgain'. -/
def prepAgainCard : Claim7 := { stood := { row := prepAgainRow, standIns := [], harness := (true, "d6079c244681f4079098fbc03a7ee6fcfc672d111474581e022261c92549b29c"), looks := false }, kinds := [], alts := [], laidByText := true, laidKinds := [.data, .data, .data, .data, .data, .pinned], laidTests := true, laidLooks := .later }
def PrepAgainCardSaid : Prop := Claim7.holds Tryz.pinned (.plain (OpenSpec.ofChange prepAgainSpec)) prepAgainCard

/-- THE TIED CARD OF 'rosterlaw03.PrepCuts'. -/
def prepCutsCard : Claim7 := { stood := { row := prepCutsRow, standIns := [], harness := (true, "d6079c244681f4079098fbc03a7ee6fcfc672d111474581e022261c92549b29c"), looks := false }, kinds := [], alts := [], laidByText := true, laidKinds := [.data, .data, .data, .data, .data, .pinned], laidTests := true, laidLooks := .later }
def PrepCutsCardSaid : Prop := Claim7.holds Tryz.pinned (.plain (OpenSpec.ofChange prepCutsSpec)) prepCutsCard

/-- THE TIED CARD OF 'rosterlaw03.PrepSums'. -/
def prepSumsCard : Claim7 := { stood := { row := prepSumsRow, standIns := [], harness := (true, "d6079c244681f4079098fbc03a7ee6fcfc672d111474581e022261c92549b29c"), looks := false }, kinds := [], alts := [], laidByText := true, laidKinds := [.data, .data, .data, .data, .data, .pinned], laidTests := true, laidLooks := .later }
def PrepSumsCardSaid : Prop := Claim7.holds Tryz.pinned (.plain (OpenSpec.ofChange prepSumsSpec)) prepSumsCard

/-- THE TIED CARD OF 'rosterlaw03.PrepKnown'. -/
def prepKnownCard : Claim7 := { stood := { row := prepKnownRow, standIns := [], harness := (true, "d6079c244681f4079098fbc03a7ee6fcfc672d111474581e022261c92549b29c"), looks := false }, kinds := [], alts := [], laidByText := true, laidKinds := [.data, .data, .data, .data, .data, .pinned], laidTests := true, laidLooks := .later }
def PrepKnownCardSaid : Prop := Claim7.holds Tryz.pinned (.plain (OpenSpec.ofChange prepKnownSpec)) prepKnownCard

/-- THE SECOND FORM's CARD OF 'rosterlaw03.PrepOrder'. -/
def prepOrderUptoCard : Claim7 := { stood := { row := prepOrderUptoRow, standIns := [], harness := (true, "d6079c244681f4079098fbc03a7ee6fcfc672d111474581e022261c92549b29c"), looks := false }, kinds := [], alts := [], laidByText := true, laidKinds := [.data, .data, .data, .data, .data, .pinned], laidTests := true, laidLooks := .later }
def PrepOrderUptoCardSaid : Prop := Claim7.holds Tryz.pinned (.plain (OpenSpec.upto prepOrderSpec)) prepOrderUptoCard

/-- THE SECOND FORM's CARD OF 'rosterlaw03.PrepAgain'. -/
def prepAgainUptoCard : Claim7 := { stood := { row := prepAgainUptoRow, standIns := [], harness := (true, "d6079c244681f4079098fbc03a7ee6fcfc672d111474581e022261c92549b29c"), looks := false }, kinds := [], alts := [], laidByText := true, laidKinds := [.data, .data, .data, .data, .data, .pinned], laidTests := true, laidLooks := .later }
def PrepAgainUptoCardSaid : Prop := Claim7.holds Tryz.pinned (.plain (OpenSpec.upto prepAgainSpec)) prepAgainUptoCard

/-- THE SECOND FORM's CARD OF 'rosterlaw03.PrepCuts'. -/
def prepCutsUptoCard : Claim7 := { stood := { row := prepCutsUptoRow, standIns := [], harness := (true, "d6079c244681f4079098fbc03a7ee6fcfc672d111474581e022261c92549b29c"), looks := false }, kinds := [], alts := [], laidByText := true, laidKinds := [.data, .data, .data, .data, .data, .pinned], laidTests := true, laidLooks := .later }
def PrepCutsUptoCardSaid : Prop := Claim7.holds Tryz.pinned (.plain (OpenSpec.upto prepCutsSpec)) prepCutsUptoCard

/-- THE SECOND FORM's CARD OF 'rosterlaw03.PrepSums'. -/
def prepSumsUptoCard : Claim7 := { stood := { row := prepSumsUptoRow, standIns := [], harness := (true, "d6079c244681f4079098fbc03a7ee6fcfc672d111474581e022261c92549b29c"), looks := false }, kinds := [], alts := [], laidByText := true, laidKinds := [.data, .data, .data, .data, .data, .pinned], laidTests := true, laidLooks := .later }
def PrepSumsUptoCardSaid : Prop := Claim7.holds Tryz.pinned (.plain (OpenSpec.upto prepSumsSpec)) prepSumsUptoCard

/-- THE SECOND FORM's CARD OF 'rosterlaw03.PrepKnown'. -/
def prepKnownUptoCard : Claim7 := { stood := { row := prepKnownUptoRow, standIns := [], harness := (true, "d6079c244681f4079098fbc03a7ee6fcfc672d111474581e022261c92549b29c"), looks := false }, kinds := [], alts := [], laidByText := true, laidKinds := [.data, .data, .data, .data, .data, .pinned], laidTests := true, laidLooks := .later }
def PrepKnownUptoCardSaid : Prop := Claim7.holds Tryz.pinned (.plain (OpenSpec.upto prepKnownSpec)) prepKnownUptoCard
end Rows
end Go.Proofs.YtokgcgokmmagdabGreatDoor
