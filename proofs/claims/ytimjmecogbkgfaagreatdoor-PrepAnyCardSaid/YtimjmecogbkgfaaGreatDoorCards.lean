/-
  DERIVED. GIVEN WITH THE SEED: THE CARDS: each row of YtimjmecogbkgfaaGreatDoorRows.lean that lists a variable, with what it lists TIED to the program's text (the seventh form; the later family's looks); each row that meets fmt, with fmt's text TOLD by the authors' own Lean function (tested against real Go, not proved from fmt's source: count such statements apart). THE CARD IS WHAT COUNTS. Prove the row's statement (the work); the ties are given (YtimjmecogbkgfaaGreatDoorTie.lean); close each card by the builder's one call (the guide's Derived/Test/ToyasCard.lean, 'card_holds'). Laid BY PROGRAM, IN A SANDBOX (cutbox-door.mjs). By AI agents, Wed Nov 11 2026. No macro, syntax, notation, axiom, sorry.
-/
import Derived.Test.YtimjmecogbkgfaaGreatDoorRows
import GoSem.ClaimSeven
namespace Go.Proofs.YtimjmecogbkgfaaGreatDoor
namespace Rows

/-- THE TIED CARD OF 'rosterlaw03.PrepKeys'. -/
def prepKeysCard : Claim7 := { stood := { row := prepKeysRow, standIns := [], harness := (true, "fb87c5059af86085fdf6e3e36aa10ecb6226a4dbd7dd68a0ab6d76c5e8a211c1"), looks := false }, kinds := [], alts := [], laidByText := true, laidKinds := [.data, .data, .data, .data, .data, .pinned], laidTests := true, laidLooks := .later }
def PrepKeysCardSaid : Prop := Claim7.holds Tryz.pinned (.plain (OpenSpec.ofChange prepKeysSpec)) prepKeysCard

/-- THE TIED CARD OF 'rosterlaw03.PrepPieces'. -/
def prepPiecesCard : Claim7 := { stood := { row := prepPiecesRow, standIns := [], harness := (true, "fb87c5059af86085fdf6e3e36aa10ecb6226a4dbd7dd68a0ab6d76c5e8a211c1"), looks := false }, kinds := [], alts := [], laidByText := true, laidKinds := [.data, .data, .data, .data, .data, .pinned], laidTests := true, laidLooks := .later }
def PrepPiecesCardSaid : Prop := Claim7.holds Tryz.pinned (.plain (OpenSpec.ofChange prepPiecesSpec)) prepPiecesCard

/-- THE TIED CARD OF 'rosterlaw03.PrepAny'. -/
def prepAnyCard : Claim7 := { stood := { row := prepAnyRow, standIns := [], harness := (true, "fb87c5059af86085fdf6e3e36aa10ecb6226a4dbd7dd68a0ab6d76c5e8a211c1"), looks := false }, kinds := [], alts := [], laidByText := true, laidKinds := [.data, .data, .data, .data, .data, .pinned], laidTests := true, laidLooks := .later }
def PrepAnyCardSaid : Prop := Claim7.holds Tryz.pinned (.plain (OpenSpec.ofChange prepAnySpec)) prepAnyCard

/-- THE TIED CARD OF 'rosterlaw03.PrepOrder'. -/
def prepOrderCard : Claim7 := { stood := { row := prepOrderRow, standIns := [], harness := (true, "fb87c5059af86085fdf6e3e36aa10ecb6226a4dbd7dd68a0ab6d76c5e8a211c1"), looks := false }, kinds := [], alts := [], laidByText := true, laidKinds := [.data, .data, .data, .data, .data, .pinned], laidTests := true, laidLooks := .later }
def PrepOrderCardSaid : Prop := Claim7.holds Tryz.pinned (.plain (OpenSpec.ofChange prepOrderSpec)) prepOrderCard

/-- THE TIED CARD OF 'rosterlaw03.PrepAgain'. -/
def prepAgainCard : Claim7 := { stood := { row := prepAgainRow, standIns := [], harness := (true, "fb87c5059af86085fdf6e3e36aa10ecb6226a4dbd7dd68a0ab6d76c5e8a211c1"), looks := false }, kinds := [], alts := [], laidByText := true, laidKinds := [.data, .data, .data, .data, .data, .pinned], laidTests := true, laidLooks := .later }
def PrepAgainCardSaid : Prop := Claim7.holds Tryz.pinned (.plain (OpenSpec.ofChange prepAgainSpec)) prepAgainCard

/-- THE TIED CARD OF 'rosterlaw03.PrepCuts'. -/
def prepCutsCard : Claim7 := { stood := { row := prepCutsRow, standIns := [], harness := (true, "fb87c5059af86085fdf6e3e36aa10ecb6226a4dbd7dd68a0ab6d76c5e8a211c1"), looks := false }, kinds := [], alts := [], laidByText := true, laidKinds := [.data, .data, .data, .data, .data, .pinned], laidTests := true, laidLooks := .later }
def PrepCutsCardSaid : Prop := Claim7.holds Tryz.pinned (.plain (OpenSpec.ofChange prepCutsSpec)) prepCutsCard

/-- THE SECOND FORM's CARD OF 'rosterlaw03.PrepKeys'. -/
def prepKeysUptoCard : Claim7 := { stood := { row := prepKeysUptoRow, standIns := [], harness := (true, "fb87c5059af86085fdf6e3e36aa10ecb6226a4dbd7dd68a0ab6d76c5e8a211c1"), looks := false }, kinds := [], alts := [], laidByText := true, laidKinds := [.data, .data, .data, .data, .data, .pinned], laidTests := true, laidLooks := .later }
def PrepKeysUptoCardSaid : Prop := Claim7.holds Tryz.pinned (.plain (OpenSpec.upto prepKeysSpec)) prepKeysUptoCard

/-- THE SECOND FORM's CARD OF 'rosterlaw03.PrepPieces'. -/
def prepPiecesUptoCard : Claim7 := { stood := { row := prepPiecesUptoRow, standIns := [], harness := (true, "fb87c5059af86085fdf6e3e36aa10ecb6226a4dbd7dd68a0ab6d76c5e8a211c1"), looks := false }, kinds := [], alts := [], laidByText := true, laidKinds := [.data, .data, .data, .data, .data, .pinned], laidTests := true, laidLooks := .later }
def PrepPiecesUptoCardSaid : Prop := Claim7.holds Tryz.pinned (.plain (OpenSpec.upto prepPiecesSpec)) prepPiecesUptoCard

/-- THE SECOND FORM's CARD OF 'rosterlaw03.PrepAny'. -/
def prepAnyUptoCard : Claim7 := { stood := { row := prepAnyUptoRow, standIns := [], harness := (true, "fb87c5059af86085fdf6e3e36aa10ecb6226a4dbd7dd68a0ab6d76c5e8a211c1"), looks := false }, kinds := [], alts := [], laidByText := true, laidKinds := [.data, .data, .data, .data, .data, .pinned], laidTests := true, laidLooks := .later }
def PrepAnyUptoCardSaid : Prop := Claim7.holds Tryz.pinned (.plain (OpenSpec.upto prepAnySpec)) prepAnyUptoCard

/-- THE SECOND FORM's CARD OF 'rosterlaw03.PrepOrder'. -/
def prepOrderUptoCard : Claim7 := { stood := { row := prepOrderUptoRow, standIns := [], harness := (true, "fb87c5059af86085fdf6e3e36aa10ecb6226a4dbd7dd68a0ab6d76c5e8a211c1"), looks := false }, kinds := [], alts := [], laidByText := true, laidKinds := [.data, .data, .data, .data, .data, .pinned], laidTests := true, laidLooks := .later }
def PrepOrderUptoCardSaid : Prop := Claim7.holds Tryz.pinned (.plain (OpenSpec.upto prepOrderSpec)) prepOrderUptoCard

/-- THE SECOND FORM's CARD OF 'rosterlaw03.PrepAgain'. -/
def prepAgainUptoCard : Claim7 := { stood := { row := prepAgainUptoRow, standIns := [], harness := (true, "fb87c5059af86085fdf6e3e36aa10ecb6226a4dbd7dd68a0ab6d76c5e8a211c1"), looks := false }, kinds := [], alts := [], laidByText := true, laidKinds := [.data, .data, .data, .data, .data, .pinned], laidTests := true, laidLooks := .later }
def PrepAgainUptoCardSaid : Prop := Claim7.holds Tryz.pinned (.plain (OpenSpec.upto prepAgainSpec)) prepAgainUptoCard

/-- THE SECOND FORM's CARD OF 'rosterlaw03.PrepCuts'. -/
def prepCutsUptoCard : Claim7 := { stood := { row := prepCutsUptoRow, standIns := [], harness := (true, "fb87c5059af86085fdf6e3e36aa10ecb6226a4dbd7dd68a0ab6d76c5e8a211c1"), looks := false }, kinds := [], alts := [], laidByText := true, laidKinds := [.data, .data, .data, .data, .data, .pinned], laidTests := true, laidLooks := .later }
def PrepCutsUptoCardSaid : Prop := Claim7.holds Tryz.pinned (.plain (OpenSpec.upto prepCutsSpec)) prepCutsUptoCard
end Rows
end Go.Proofs.YtimjmecogbkgfaaGreatDoor
