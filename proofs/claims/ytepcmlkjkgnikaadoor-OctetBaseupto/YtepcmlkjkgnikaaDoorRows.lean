/-
  NARROWER THAN 'FOR EVERY INPUT', by the rows' own cells (each row's printed sentence says how): OctetValid: laid · OctetHex: laid · OctetEscapes: laid · OctetBase: laid · OctetNames: laid · OctetBack: laid.
  DERIVED. THE GIVEN ROWS OF THIS SEAT. 6 by the template 'for every input the law returns true; each argument reads behind the call as it read before'; 0 by the template 'total and deterministic' (their statements: YtepcmlkjkgnikaaDoorTotals.lean).
  GIVEN WITH THE SEED: the statements are not yours to turn. If you find one false, say at which input.
  Laid BY PROGRAM, IN A SANDBOX (cutbox-rows.mjs): the forced cells as the released guide's own fill.sh prints them over the translation e102adf98b975230… (all of the seat's roots in one cut). By AI agents, Wed Nov 11 2026. No macro, syntax, notation, axiom, sorry.
-/
import Derived.Test.YtepcmlkjkgnikaaDoorChecked
import GoSem.Claim
import GoSem.ClaimJoined
import GoSem.ClaimMapViews
import Derived.JoinedTies
import Derived.KernelRfl
namespace Go.Proofs.YtepcmlkjkgnikaaDoor
/- THE CELL 'sum', in the pinned program and in every row, IS THE sha256 OF THE DUMP (.gsa) THAT YtepcmlkjkgnikaaDoorProg.lean LOADS. Nothing in Lean hashes anything: it is a label: what it is worth is what the hold of that sum in a sandbox is worth. -/
noncomputable def Tryd.pinned : Pinned := { name := "ytepcmlkjkgnikaadoor", sum := "e102adf98b9752304265dc0bf03023221a418f298e12e88d79e5945a3de5f5a1", checked := Tryd.checked }
namespace Rows
def none {H : Type} : Left H := { results := [], args := [] }

/- WHAT THE LISTED PACKAGE-LEVEL VARIABLES READ AS WHEN THE CALL BEGINS. Each datum BY PROGRAM (the guide's laid-datum.mjs) off the statement by which the dump's own 'gosem.cut.vars' lays the variable. In a bare row this is a premise. The card (YtepcmlkjkgnikaaDoorCards.lean) ties it to the program's text. -/
def laid_roster_octet_beginnings {H : Type} : DataW H := .slice [.agg [.lit (.int .u8 0), .lit (.int .u8 127), .lit (.int .u8 0), .lit (.int .u8 0), .lit (.int .i64 1)], .agg [.lit (.int .u8 194), .lit (.int .u8 223), .lit (.int .u8 128), .lit (.int .u8 191), .lit (.int .i64 2)], .agg [.lit (.int .u8 224), .lit (.int .u8 224), .lit (.int .u8 160), .lit (.int .u8 191), .lit (.int .i64 3)], .agg [.lit (.int .u8 225), .lit (.int .u8 236), .lit (.int .u8 128), .lit (.int .u8 191), .lit (.int .i64 3)], .agg [.lit (.int .u8 237), .lit (.int .u8 237), .lit (.int .u8 128), .lit (.int .u8 159), .lit (.int .i64 3)], .agg [.lit (.int .u8 238), .lit (.int .u8 239), .lit (.int .u8 128), .lit (.int .u8 191), .lit (.int .i64 3)], .agg [.lit (.int .u8 240), .lit (.int .u8 240), .lit (.int .u8 144), .lit (.int .u8 191), .lit (.int .i64 4)], .agg [.lit (.int .u8 241), .lit (.int .u8 243), .lit (.int .u8 128), .lit (.int .u8 191), .lit (.int .i64 4)], .agg [.lit (.int .u8 244), .lit (.int .u8 244), .lit (.int .u8 128), .lit (.int .u8 143), .lit (.int .i64 4)]] []

/-- 'rosterlaw01.OctetValid': WHATEVER THE INPUT: true; the input reads as it did. -/
def octetValidSpec : ChangeSpec := { name := "octetValid", fn := fun _ => fun
  | [d] => { results := [.lit (.bool true)], args := [d] }
  | _ => none }
def octetValidRow : OpenClaim := { program := "ytepcmlkjkgnikaadoor", sum := "e102adf98b9752304265dc0bf03023221a418f298e12e88d79e5945a3de5f5a1", func := "roster/rosterlaw01.OctetValid", spec := "octetValid", named := ["roster/octet.beginnings"], apart := false, laid := [("roster/octet.beginnings", laid_roster_octet_beginnings)] }
def OctetValidSaid : Prop := octetValidRow.holds Tryd.pinned (OpenSpec.ofChange octetValidSpec)

/-- ITS FALSE NEIGHBOUR: 'it returns false'. Refute it at one input. -/
def octetValidWrong : ChangeSpec := { name := "octetValid", fn := fun _ => fun
  | [d] => { results := [.lit (.bool false)], args := [d] }
  | _ => none }
def OctetValidWrongFalsely : Prop := octetValidRow.holds Tryd.pinned (OpenSpec.ofChange octetValidWrong)

/-- 'rosterlaw01.OctetHex': WHATEVER THE INPUT: true; the input reads as it did. -/
def octetHexSpec : ChangeSpec := { name := "octetHex", fn := fun _ => fun
  | [d1, d2] => { results := [.lit (.bool true)], args := [d1, d2] }
  | _ => none }
def octetHexRow : OpenClaim := { program := "ytepcmlkjkgnikaadoor", sum := "e102adf98b9752304265dc0bf03023221a418f298e12e88d79e5945a3de5f5a1", func := "roster/rosterlaw01.OctetHex", spec := "octetHex", named := ["roster/octet.beginnings"], apart := false, laid := [("roster/octet.beginnings", laid_roster_octet_beginnings)] }
def OctetHexSaid : Prop := octetHexRow.holds Tryd.pinned (OpenSpec.ofChange octetHexSpec)

/-- ITS FALSE NEIGHBOUR: 'it returns false'. Refute it at one input. -/
def octetHexWrong : ChangeSpec := { name := "octetHex", fn := fun _ => fun
  | [d1, d2] => { results := [.lit (.bool false)], args := [d1, d2] }
  | _ => none }
def OctetHexWrongFalsely : Prop := octetHexRow.holds Tryd.pinned (OpenSpec.ofChange octetHexWrong)

/-- 'rosterlaw01.OctetEscapes': WHATEVER THE INPUT: true; the input reads as it did. -/
def octetEscapesSpec : ChangeSpec := { name := "octetEscapes", fn := fun _ => fun
  | [d1, d2] => { results := [.lit (.bool true)], args := [d1, d2] }
  | _ => none }
def octetEscapesRow : OpenClaim := { program := "ytepcmlkjkgnikaadoor", sum := "e102adf98b9752304265dc0bf03023221a418f298e12e88d79e5945a3de5f5a1", func := "roster/rosterlaw01.OctetEscapes", spec := "octetEscapes", named := ["roster/octet.beginnings"], apart := false, laid := [("roster/octet.beginnings", laid_roster_octet_beginnings)] }
def OctetEscapesSaid : Prop := octetEscapesRow.holds Tryd.pinned (OpenSpec.ofChange octetEscapesSpec)

/-- ITS FALSE NEIGHBOUR: 'it returns false'. Refute it at one input. -/
def octetEscapesWrong : ChangeSpec := { name := "octetEscapes", fn := fun _ => fun
  | [d1, d2] => { results := [.lit (.bool false)], args := [d1, d2] }
  | _ => none }
def OctetEscapesWrongFalsely : Prop := octetEscapesRow.holds Tryd.pinned (OpenSpec.ofChange octetEscapesWrong)

/-- 'rosterlaw01.OctetBase': WHATEVER THE INPUT: true; the input reads as it did. -/
def octetBaseSpec : ChangeSpec := { name := "octetBase", fn := fun _ => fun
  | [d1, d2] => { results := [.lit (.bool true)], args := [d1, d2] }
  | _ => none }
def octetBaseRow : OpenClaim := { program := "ytepcmlkjkgnikaadoor", sum := "e102adf98b9752304265dc0bf03023221a418f298e12e88d79e5945a3de5f5a1", func := "roster/rosterlaw01.OctetBase", spec := "octetBase", named := ["roster/octet.beginnings"], apart := false, laid := [("roster/octet.beginnings", laid_roster_octet_beginnings)] }
def OctetBaseSaid : Prop := octetBaseRow.holds Tryd.pinned (OpenSpec.ofChange octetBaseSpec)

/-- ITS FALSE NEIGHBOUR: 'it returns false'. Refute it at one input. -/
def octetBaseWrong : ChangeSpec := { name := "octetBase", fn := fun _ => fun
  | [d1, d2] => { results := [.lit (.bool false)], args := [d1, d2] }
  | _ => none }
def OctetBaseWrongFalsely : Prop := octetBaseRow.holds Tryd.pinned (OpenSpec.ofChange octetBaseWrong)

/-- 'rosterlaw01.OctetNames': WHATEVER THE INPUT: true; the input reads as it did. -/
def octetNamesSpec : ChangeSpec := { name := "octetNames", fn := fun _ => fun
  | [] => { results := [.lit (.bool true)], args := [] }
  | _ => none }
def octetNamesRow : OpenClaim := { program := "ytepcmlkjkgnikaadoor", sum := "e102adf98b9752304265dc0bf03023221a418f298e12e88d79e5945a3de5f5a1", func := "roster/rosterlaw01.OctetNames", spec := "octetNames", named := ["roster/octet.beginnings"], apart := false, laid := [("roster/octet.beginnings", laid_roster_octet_beginnings)] }
def OctetNamesSaid : Prop := octetNamesRow.holds Tryd.pinned (OpenSpec.ofChange octetNamesSpec)

/-- ITS FALSE NEIGHBOUR: 'it returns false'. Refute it at one input. -/
def octetNamesWrong : ChangeSpec := { name := "octetNames", fn := fun _ => fun
  | [] => { results := [.lit (.bool false)], args := [] }
  | _ => none }
def OctetNamesWrongFalsely : Prop := octetNamesRow.holds Tryd.pinned (OpenSpec.ofChange octetNamesWrong)

/-- 'rosterlaw01.OctetBack': WHATEVER THE INPUT: true; the input reads as it did. -/
def octetBackSpec : ChangeSpec := { name := "octetBack", fn := fun _ => fun
  | [d1, d2] => { results := [.lit (.bool true)], args := [d1, d2] }
  | _ => none }
def octetBackRow : OpenClaim := { program := "ytepcmlkjkgnikaadoor", sum := "e102adf98b9752304265dc0bf03023221a418f298e12e88d79e5945a3de5f5a1", func := "roster/rosterlaw01.OctetBack", spec := "octetBack", named := ["roster/octet.beginnings"], apart := false, laid := [("roster/octet.beginnings", laid_roster_octet_beginnings)] }
def OctetBackSaid : Prop := octetBackRow.holds Tryd.pinned (OpenSpec.ofChange octetBackSpec)

/-- ITS FALSE NEIGHBOUR: 'it returns false'. Refute it at one input. -/
def octetBackWrong : ChangeSpec := { name := "octetBack", fn := fun _ => fun
  | [d1, d2] => { results := [.lit (.bool false)], args := [d1, d2] }
  | _ => none }
def OctetBackWrongFalsely : Prop := octetBackRow.holds Tryd.pinned (OpenSpec.ofChange octetBackWrong)

/- THE SECOND FORM. 'bulk': how many values and letters a reading holds, each counted each time it is reached (what is shared counts as often as it is met; a slice's spare places count too). A statement '..UptoSaid' is the law's where the arguments, and the package variables that the reading takes, are together of bulk at most 1048576: NARROWER than '..Said'. Prove '..Said' where nothing that the law and all that it calls make is longer than what came in: it says more and counts as full. Else prove '..UptoSaid'. A law counts once. -/
mutual
def uptoBulk {H : Type} : DataW H → Nat
  | .lit (.string bytes) => bytes.length + 1
  | .lit _ => 1
  | .nil => 1
  | .ptr d => uptoBulk d + 1
  | .slice elems spare => uptoBulkAll elems + uptoBulkAll spare + 1
  | .agg parts => uptoBulkAll parts + 1
  | .iface _ d => uptoBulk d + 1
  | .map entries => uptoBulkEntries entries + 1
  | .held _ => 1
def uptoBulkAll {H : Type} : List (DataW H) → Nat
  | [] => 0
  | d :: r => uptoBulk d + uptoBulkAll r
def uptoBulkEntries {H : Type} : List (Lit × DataW H) → Nat
  | [] => 0
  | x :: r => uptoBulkEntry x + uptoBulkEntries r
def uptoBulkEntry {H : Type} : Lit × DataW H → Nat
  | (.string bytes, d) => bytes.length + uptoBulk d + 1
  | (_, d) => uptoBulk d + 1
 end
def uptoSmall : (H : Type) → List (DataW H) → Bool := fun _ ds => decide (uptoBulkAll ds ≤ 1048576)
def OpenSpec.upto (s : _root_.Go.ChangeSpec) : _root_.Go.OpenSpec := { _root_.Go.OpenSpec.ofChange s with cond := some uptoSmall }

/-- 'rosterlaw01.OctetValid', WHERE WHAT IT READS IS OF BULK AT MOST 1048576: true; the input reads as it did. -/
def octetValidUptoRow : OpenClaim := { program := "ytepcmlkjkgnikaadoor", sum := "e102adf98b9752304265dc0bf03023221a418f298e12e88d79e5945a3de5f5a1", func := "roster/rosterlaw01.OctetValid", spec := "octetValid", named := ["roster/octet.beginnings"], apart := false, laid := [("roster/octet.beginnings", laid_roster_octet_beginnings)], narrowed := true }
def OctetValidUptoSaid : Prop := octetValidUptoRow.holds Tryd.pinned (OpenSpec.upto octetValidSpec)

/-- 'rosterlaw01.OctetHex', WHERE WHAT IT READS IS OF BULK AT MOST 1048576: true; the input reads as it did. -/
def octetHexUptoRow : OpenClaim := { program := "ytepcmlkjkgnikaadoor", sum := "e102adf98b9752304265dc0bf03023221a418f298e12e88d79e5945a3de5f5a1", func := "roster/rosterlaw01.OctetHex", spec := "octetHex", named := ["roster/octet.beginnings"], apart := false, laid := [("roster/octet.beginnings", laid_roster_octet_beginnings)], narrowed := true }
def OctetHexUptoSaid : Prop := octetHexUptoRow.holds Tryd.pinned (OpenSpec.upto octetHexSpec)

/-- 'rosterlaw01.OctetEscapes', WHERE WHAT IT READS IS OF BULK AT MOST 1048576: true; the input reads as it did. -/
def octetEscapesUptoRow : OpenClaim := { program := "ytepcmlkjkgnikaadoor", sum := "e102adf98b9752304265dc0bf03023221a418f298e12e88d79e5945a3de5f5a1", func := "roster/rosterlaw01.OctetEscapes", spec := "octetEscapes", named := ["roster/octet.beginnings"], apart := false, laid := [("roster/octet.beginnings", laid_roster_octet_beginnings)], narrowed := true }
def OctetEscapesUptoSaid : Prop := octetEscapesUptoRow.holds Tryd.pinned (OpenSpec.upto octetEscapesSpec)

/-- 'rosterlaw01.OctetBase', WHERE WHAT IT READS IS OF BULK AT MOST 1048576: true; the input reads as it did. -/
def octetBaseUptoRow : OpenClaim := { program := "ytepcmlkjkgnikaadoor", sum := "e102adf98b9752304265dc0bf03023221a418f298e12e88d79e5945a3de5f5a1", func := "roster/rosterlaw01.OctetBase", spec := "octetBase", named := ["roster/octet.beginnings"], apart := false, laid := [("roster/octet.beginnings", laid_roster_octet_beginnings)], narrowed := true }
def OctetBaseUptoSaid : Prop := octetBaseUptoRow.holds Tryd.pinned (OpenSpec.upto octetBaseSpec)

/-- 'rosterlaw01.OctetNames', WHERE WHAT IT READS IS OF BULK AT MOST 1048576: true; the input reads as it did. -/
def octetNamesUptoRow : OpenClaim := { program := "ytepcmlkjkgnikaadoor", sum := "e102adf98b9752304265dc0bf03023221a418f298e12e88d79e5945a3de5f5a1", func := "roster/rosterlaw01.OctetNames", spec := "octetNames", named := ["roster/octet.beginnings"], apart := false, laid := [("roster/octet.beginnings", laid_roster_octet_beginnings)], narrowed := true }
def OctetNamesUptoSaid : Prop := octetNamesUptoRow.holds Tryd.pinned (OpenSpec.upto octetNamesSpec)

/-- 'rosterlaw01.OctetBack', WHERE WHAT IT READS IS OF BULK AT MOST 1048576: true; the input reads as it did. -/
def octetBackUptoRow : OpenClaim := { program := "ytepcmlkjkgnikaadoor", sum := "e102adf98b9752304265dc0bf03023221a418f298e12e88d79e5945a3de5f5a1", func := "roster/rosterlaw01.OctetBack", spec := "octetBack", named := ["roster/octet.beginnings"], apart := false, laid := [("roster/octet.beginnings", laid_roster_octet_beginnings)], narrowed := true }
def OctetBackUptoSaid : Prop := octetBackUptoRow.holds Tryd.pinned (OpenSpec.upto octetBackSpec)

end Rows
end Go.Proofs.YtepcmlkjkgnikaaDoor
