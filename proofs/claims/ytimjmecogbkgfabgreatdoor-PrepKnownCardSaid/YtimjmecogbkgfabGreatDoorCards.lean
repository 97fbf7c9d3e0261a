/-
  DERIVED. GIVEN WITH THE SEED: THE CARDS: each row of YtimjmecogbkgfabGreatDoorRows.lean that lists a variable, with what it lists TIED to the program's text (the seventh form; the later family's looks); each row that meets fmt, with fmt's text TOLD by the authors' own Lean function (tested against real Go, not proved from fmt's source: count such statements apart). THE CARD IS WHAT COUNTS. Prove the row's statement (the work); the ties are given (YtimjmecogbkgfabGreatDoorTie.lean); close each card by the builder's one call (the guide's Derived/Test/ToyasCard.lean, 'card_holds'). Laid BY PROGRAM, IN A SANDBOX (cutbox-door.mjs). By AI agents, Wed Nov 11 2026. No macro, syntax, notation, axiom, sorry.
-/
import Derived.Test.YtimjmecogbkgfabGreatDoorRows
import GoSem.ClaimSeven
namespace Go.Proofs.YtimjmecogbkgfabGreatDoor
namespace Rows

/-- THE TIED CARD OF 'rosterlaw03.PrepKnown'. -/
def prepKnownCard : Claim7 := { stood := { row := prepKnownRow, standIns := [], harness := (true, "b387c2b0c098547880bae24a49b401dd11aab582247e08d03af447166fbc063f"), looks := false }, kinds := [], alts := [], laidByText := true, laidKinds := [.data, .data, .data, .data, .data, .pinned], laidTests := true, laidLooks := .later }
def PrepKnownCardSaid : Prop := Claim7.holds Tryz.pinned (.plain (OpenSpec.ofChange prepKnownSpec)) prepKnownCard

/-- THE SECOND FORM's CARD OF 'rosterlaw03.PrepKnown'. -/
def prepKnownUptoCard : Claim7 := { stood := { row := prepKnownUptoRow, standIns := [], harness := (true, "b387c2b0c098547880bae24a49b401dd11aab582247e08d03af447166fbc063f"), looks := false }, kinds := [], alts := [], laidByText := true, laidKinds := [.data, .data, .data, .data, .data, .pinned], laidTests := true, laidLooks := .later }
def PrepKnownUptoCardSaid : Prop := Claim7.holds Tryz.pinned (.plain (OpenSpec.upto prepKnownSpec)) prepKnownUptoCard
end Rows
end Go.Proofs.YtimjmecogbkgfabGreatDoor
