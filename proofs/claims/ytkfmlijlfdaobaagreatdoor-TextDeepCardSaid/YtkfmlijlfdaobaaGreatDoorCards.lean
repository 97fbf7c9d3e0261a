/-
  DERIVED. GIVEN WITH THE SEED: THE CARDS: each row of YtkfmlijlfdaobaaGreatDoorRows.lean that lists a variable, with what it lists TIED to the program's text (the seventh form; the later family's looks); each row that meets fmt, with fmt's text TOLD by the authors' own Lean function (tested against real Go, not proved from fmt's source: count such statements apart). THE CARD IS WHAT COUNTS. Prove the row's statement (the work); the ties are given (YtkfmlijlfdaobaaGreatDoorTie.lean); close each card by the builder's one call (the guide's Derived/Test/ToyasCard.lean, 'card_holds'). Laid BY PROGRAM, IN A SANDBOX (cutbox-door.mjs). By AI agents, Wed Nov 11 2026. No macro, syntax, notation, axiom, sorry.
-/
import Derived.Test.YtkfmlijlfdaobaaGreatDoorRows
import GoSem.ClaimSeven
namespace Go.Proofs.YtkfmlijlfdaobaaGreatDoor
namespace Rows

/-- THE TIED CARD OF 'rosterlaw10.TextDeep'. -/
def textDeepCard : Claim7 := { stood := { row := textDeepRow, standIns := [], harness := (true, "1ca57df2e2bc41165feb832609ec319e2da959a843c881a11525794bf7c3b9a6"), looks := true }, kinds := [], alts := [], laidByText := true, laidKinds := [.data, .handle, .data, .pinned], laidTests := true, laidLooks := .later }
def TextDeepCardSaid : Prop := Claim7.holds Tryz.pinned (.plain (OpenSpec.ofChange textDeepSpec)) textDeepCard

/-- THE SECOND FORM's CARD OF 'rosterlaw10.TextDeep'. -/
def textDeepUptoCard : Claim7 := { stood := { row := textDeepUptoRow, standIns := [], harness := (true, "1ca57df2e2bc41165feb832609ec319e2da959a843c881a11525794bf7c3b9a6"), looks := true }, kinds := [], alts := [], laidByText := true, laidKinds := [.data, .handle, .data, .pinned], laidTests := true, laidLooks := .later }
def TextDeepUptoCardSaid : Prop := Claim7.holds Tryz.pinned (.plain (OpenSpec.upto textDeepSpec)) textDeepUptoCard
end Rows
end Go.Proofs.YtkfmlijlfdaobaaGreatDoor
