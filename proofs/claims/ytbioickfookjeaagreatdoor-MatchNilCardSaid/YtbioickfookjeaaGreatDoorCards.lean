/-
  DERIVED. GIVEN WITH THE SEED: THE CARDS: each row of YtbioickfookjeaaGreatDoorRows.lean that lists a variable, with what it lists TIED to the program's text (the seventh form; the later family's looks); each row that meets fmt, with fmt's text TOLD by the authors' own Lean function (tested against real Go, not proved from fmt's source: count such statements apart). THE CARD IS WHAT COUNTS. Prove the row's statement (the work); the ties are given (YtbioickfookjeaaGreatDoorTie.lean); close each card by the builder's one call (the guide's Derived/Test/ToyasCard.lean, 'card_holds'). Laid BY PROGRAM, IN A SANDBOX (cutbox-door.mjs). By AI agents, Wed Nov 11 2026. No macro, syntax, notation, axiom, sorry.
-/
import Derived.Test.YtbioickfookjeaaGreatDoorRows
import GoSem.ClaimSeven
namespace Go.Proofs.YtbioickfookjeaaGreatDoor
namespace Rows

/-- THE TIED CARD OF 'rosterlaw07.MatchKeys'. -/
def matchKeysCard : Claim7 := { stood := { row := matchKeysRow, standIns := [], harness := (true, "695d2d44670f9d0a7b0b21e8c72870b1a4d8a90c801c9691c7016216ea796cd8"), looks := false }, kinds := [], alts := [], laidByText := true, laidKinds := [.data, .data, .data, .data, .data, .data, .data, .data, .data, .pinned], laidTests := true, laidLooks := .later }
def MatchKeysCardSaid : Prop := Claim7.holds Tryz.pinned (.plain (OpenSpec.ofChange matchKeysSpec)) matchKeysCard

/-- THE TIED CARD OF 'rosterlaw07.MatchEquals'. -/
def matchEqualsCard : Claim7 := { stood := { row := matchEqualsRow, standIns := [], harness := (true, "695d2d44670f9d0a7b0b21e8c72870b1a4d8a90c801c9691c7016216ea796cd8"), looks := false }, kinds := [], alts := [], laidByText := true, laidKinds := [.data, .data, .data, .data, .data, .data, .data, .data, .data, .pinned], laidTests := true, laidLooks := .later }
def MatchEqualsCardSaid : Prop := Claim7.holds Tryz.pinned (.plain (OpenSpec.ofChange matchEqualsSpec)) matchEqualsCard

/-- THE TIED CARD OF 'rosterlaw07.MatchOrders'. -/
def matchOrdersCard : Claim7 := { stood := { row := matchOrdersRow, standIns := [], harness := (true, "695d2d44670f9d0a7b0b21e8c72870b1a4d8a90c801c9691c7016216ea796cd8"), looks := false }, kinds := [], alts := [], laidByText := true, laidKinds := [.data, .data, .data, .data, .data, .data, .data, .data, .data, .pinned], laidTests := true, laidLooks := .later }
def MatchOrdersCardSaid : Prop := Claim7.holds Tryz.pinned (.plain (OpenSpec.ofChange matchOrdersSpec)) matchOrdersCard

/-- THE TIED CARD OF 'rosterlaw07.MatchParts'. -/
def matchPartsCard : Claim7 := { stood := { row := matchPartsRow, standIns := [], harness := (true, "695d2d44670f9d0a7b0b21e8c72870b1a4d8a90c801c9691c7016216ea796cd8"), looks := false }, kinds := [], alts := [], laidByText := true, laidKinds := [.data, .data, .data, .data, .data, .data, .data, .data, .data, .pinned], laidTests := true, laidLooks := .later }
def MatchPartsCardSaid : Prop := Claim7.holds Tryz.pinned (.plain (OpenSpec.ofChange matchPartsSpec)) matchPartsCard

/-- THE TIED CARD OF 'rosterlaw07.MatchNil'. -/
def matchNilCard : Claim7 := { stood := { row := matchNilRow, standIns := [], harness := (true, "695d2d44670f9d0a7b0b21e8c72870b1a4d8a90c801c9691c7016216ea796cd8"), looks := false }, kinds := [], alts := [], laidByText := true, laidKinds := [.data, .data, .data, .data, .data, .data, .data, .data, .data, .pinned], laidTests := true, laidLooks := .later }
def MatchNilCardSaid : Prop := Claim7.holds Tryz.pinned (.plain (OpenSpec.ofChange matchNilSpec)) matchNilCard

/-- THE TIED CARD OF 'rosterlaw07.MatchNames'. -/
def matchNamesCard : Claim7 := { stood := { row := matchNamesRow, standIns := [], harness := (true, "695d2d44670f9d0a7b0b21e8c72870b1a4d8a90c801c9691c7016216ea796cd8"), looks := false }, kinds := [], alts := [], laidByText := true, laidKinds := [.data, .data, .data, .data, .data, .data, .data, .data, .data, .pinned], laidTests := true, laidLooks := .later }
def MatchNamesCardSaid : Prop := Claim7.holds Tryz.pinned (.plain (OpenSpec.ofChange matchNamesSpec)) matchNamesCard

/-- THE SECOND FORM's CARD OF 'rosterlaw07.MatchKeys'. -/
def matchKeysUptoCard : Claim7 := { stood := { row := matchKeysUptoRow, standIns := [], harness := (true, "695d2d44670f9d0a7b0b21e8c72870b1a4d8a90c801c9691c7016216ea796cd8"), looks := false }, kinds := [], alts := [], laidByText := true, laidKinds := [.data, .data, .data, .data, .data, .data, .data, .data, .data, .pinned], laidTests := true, laidLooks := .later }
def MatchKeysUptoCardSaid : Prop := Claim7.holds Tryz.pinned (.plain (OpenSpec.upto matchKeysSpec)) matchKeysUptoCard

/-- THE SECOND FORM's CARD OF 'rosterlaw07.MatchEquals'. -/
def matchEqualsUptoCard : Claim7 := { stood := { row := matchEqualsUptoRow, standIns := [], harness := (true, "695d2d44670f9d0a7b0b21e8c72870b1a4d8a90c801c9691c7016216ea796cd8"), looks := false }, kinds := [], alts := [], laidByText := true, laidKinds := [.data, .data, .data, .data, .data, .data, .data, .data, .data, .pinned], laidTests := true, laidLooks := .later }
def MatchEqualsUptoCardSaid : Prop := Claim7.holds Tryz.pinned (.plain (OpenSpec.upto matchEqualsSpec)) matchEqualsUptoCard

/-- THE SECOND FORM's CARD OF 'rosterlaw07.MatchOrders'. -/
def matchOrdersUptoCard : Claim7 := { stood := { row := matchOrdersUptoRow, standIns := [], harness := (true, "695d2d44670f9d0a7b0b21e8c72870b1a4d8a90c801c9691c7016216ea796cd8"), looks := false }, kinds := [], alts := [], laidByText := true, laidKinds := [.data, .data, .data, .data, .data, .data, .data, .data, .data, .pinned], laidTests := true, laidLooks := .later }
def MatchOrdersUptoCardSaid : Prop := Claim7.holds Tryz.pinned (.plain (OpenSpec.upto matchOrdersSpec)) matchOrdersUptoCard

/-- THE SECOND FORM's CARD OF 'rosterlaw07.MatchParts'. -/
def matchPartsUptoCard : Claim7 := { stood := { row := matchPartsUptoRow, standIns := [], harness := (true, "695d2d44670f9d0a7b0b21e8c72870b1a4d8a90c801c9691c7016216ea796cd8"), looks := false }, kinds := [], alts := [], laidByText := true, laidKinds := [.data, .data, .data, .data, .data, .data, .data, .data, .data, .pinned], laidTests := true, laidLooks := .later }
def MatchPartsUptoCardSaid : Prop := Claim7.holds Tryz.pinned (.plain (OpenSpec.upto matchPartsSpec)) matchPartsUptoCard

/-- THE SECOND FORM's CARD OF 'rosterlaw07.MatchNil'. -/
def matchNilUptoCard : Claim7 := { stood := { row := matchNilUptoRow, standIns := [], harness := (true, "695d2d44670f9d0a7b0b21e8c72870b1a4d8a90c801c9691c7016216ea796cd8"), looks := false }, kinds := [], alts := [], laidByText := true, laidKinds := [.data, .data, .data, .data, .data, .data, .data, .data, .data, .pinned], laidTests := true, laidLooks := .later }
def MatchNilUptoCardSaid : Prop := Claim7.holds Tryz.pinned (.plain (OpenSpec.upto matchNilSpec)) matchNilUptoCard

/-- THE SECOND FORM's CARD OF 'rosterlaw07.MatchNames'. -/
def matchNamesUptoCard : Claim7 := { stood := { row := matchNamesUptoRow, standIns := [], harness := (true, "695d2d44670f9d0a7b0b21e8c72870b1a4d8a90c801c9691c7016216ea796cd8"), looks := false }, kinds := [], alts := [], laidByText := true, laidKinds := [.data, .data, .data, .data, .data, .data, .data, .data, .data, .pinned], laidTests := true, laidLooks := .later }
def MatchNamesUptoCardSaid : Prop := Claim7.holds Tryz.pinned (.plain (OpenSpec.upto matchNamesSpec)) matchNamesUptoCard
end Rows
end Go.Proofs.YtbioickfookjeaaGreatDoor
