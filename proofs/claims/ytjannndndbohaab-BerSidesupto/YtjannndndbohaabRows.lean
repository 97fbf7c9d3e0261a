/-
  No cell of these rows narrows 'for every input' (looked for: loops, veiled, ifaces, maps, wideKeys, modest, calm, conditions, laid).
  DERIVED. THE GIVEN ROWS OF THIS SEAT. 3 by the template 'for every input the law returns true; each argument reads behind the call as it read before'; 0 by the template 'total and deterministic' (their statements: YtjannndndbohaabTotals.lean).
  GIVEN WITH THE SEED: the statements are not yours to turn. If you find one false, say at which input.
  Laid BY PROGRAM, IN A SANDBOX (cutbox-rows.mjs): the forced cells as the released guide's own fill.sh prints them over the translation 10d420349e5a4f22… (all of the seat's roots in one cut). By AI agents, Wed Nov 11 2026. No macro, syntax, notation, axiom, sorry.
-/
import Derived.Test.YtjannndndbohaabChecked
import GoSem.Claim
import GoSem.ClaimJoined
import GoSem.ClaimMapViews
import Derived.JoinedTies
import Derived.KernelRfl
namespace Go.Proofs.Ytjannndndbohaab
/- THE CELL 'sum', in the pinned program and in every row, IS THE sha256 OF THE DUMP (.gsa) THAT YtjannndndbohaabProg.lean LOADS. Nothing in Lean hashes anything: it is a label: what it is worth is what the hold of that sum in a sandbox is worth. -/
noncomputable def Try.pinned : Pinned := { name := "ytjannndndbohaab", sum := "10d420349e5a4f2291c8f16d83141fe39fc9eb16a38782bf2fda66f3d42c814b", checked := Try.checked }
namespace Rows
def none {H : Type} : Left H := { results := [], args := [] }

/-- 'rosterlaw02.BerSides': WHATEVER THE INPUT: true; the input reads as it did. -/
def berSidesSpec : ChangeSpec := { name := "berSides", fn := fun _ => fun
  | [d] => { results := [.lit (.bool true)], args := [d] }
  | _ => none }
def berSidesRow : OpenClaim := { program := "ytjannndndbohaab", sum := "10d420349e5a4f2291c8f16d83141fe39fc9eb16a38782bf2fda66f3d42c814b", func := "roster/rosterlaw02.BerSides", spec := "berSides", inPlace := ["slices.overlaps[byte]"], unfollowed := true, recurses := true, apart := false }
def BerSidesSaid : Prop := berSidesRow.holds Try.pinned (OpenSpec.ofChange berSidesSpec)

/-- ITS FALSE NEIGHBOUR: 'it returns false'. Refute it at one input. -/
def berSidesWrong : ChangeSpec := { name := "berSides", fn := fun _ => fun
  | [d] => { results := [.lit (.bool false)], args := [d] }
  | _ => none }
def BerSidesWrongFalsely : Prop := berSidesRow.holds Try.pinned (OpenSpec.ofChange berSidesWrong)

/-- 'rosterlaw02.BerNumbers': WHATEVER THE INPUT: true; the input reads as it did. -/
def berNumbersSpec : ChangeSpec := { name := "berNumbers", fn := fun _ => fun
  | [d] => { results := [.lit (.bool true)], args := [d] }
  | _ => none }
def berNumbersRow : OpenClaim := { program := "ytjannndndbohaab", sum := "10d420349e5a4f2291c8f16d83141fe39fc9eb16a38782bf2fda66f3d42c814b", func := "roster/rosterlaw02.BerNumbers", spec := "berNumbers", inPlace := ["slices.overlaps[byte]"], unfollowed := true, recurses := true, apart := false }
def BerNumbersSaid : Prop := berNumbersRow.holds Try.pinned (OpenSpec.ofChange berNumbersSpec)

/-- ITS FALSE NEIGHBOUR: 'it returns false'. Refute it at one input. -/
def berNumbersWrong : ChangeSpec := { name := "berNumbers", fn := fun _ => fun
  | [d] => { results := [.lit (.bool false)], args := [d] }
  | _ => none }
def BerNumbersWrongFalsely : Prop := berNumbersRow.holds Try.pinned (OpenSpec.ofChange berNumbersWrong)

/-- 'rosterlaw02.BerKnown': WHATEVER THE INPUT: true; the input reads as it did. -/
def berKnownSpec : ChangeSpec := { name := "berKnown", fn := fun _ => fun
  | [] => { results := [.lit (.bool true)], args := [] }
  | _ => none }
def berKnownRow : OpenClaim := { program := "ytjannndndbohaab", sum := "10d420349e5a4f2291c8f16d83141fe39fc9eb16a38782bf2fda66f3d42c814b", func := "roster/rosterlaw02.BerKnown", spec := "berKnown", inPlace := ["slices.overlaps[byte]"], unfollowed := true, recurses := true, apart := false }
def BerKnownSaid : Prop := berKnownRow.holds Try.pinned (OpenSpec.ofChange berKnownSpec)

/-- ITS FALSE NEIGHBOUR: 'it returns false'. Refute it at one input. -/
def berKnownWrong : ChangeSpec := { name := "berKnown", fn := fun _ => fun
  | [] => { results := [.lit (.bool false)], args := [] }
  | _ => none }
def BerKnownWrongFalsely : Prop := berKnownRow.holds Try.pinned (OpenSpec.ofChange berKnownWrong)

/- THE SECOND FORM. 'bulk': how many values and letters a reading holds, each counted each time it is reached (what is shared counts as often as it is met; a slice's spare places count too). A statement '..UptoSaid' is the law's where the arguments, and the package variables that the reading takes, are together of bulk at most 1048576: NARROWER than '..Said'. Prove '..Said' where nothing that the law and all that it calls make is longer than what came in: it says more and counts as full. Else prove '..UptoSaid'. A law counts once. -/
mutual
def uptoBulk {H : Type} : DataW H → Nat
  | .lit (.string bytes) => bytes.length + 1
  | .lit _ => 1
  | .nil => 1
  | .ptr d => uptoBulk d + 1
  | .slice elems spare => uptoBulkAll elems + uptoBulkAll spare + 1
  | .agg parts => uptoBulkAll parts + 1
  | .iface _ d => uptoBulk d + 1
  | .map entries => uptoBulkEntries entries + 1
  | .held _ => 1
def uptoBulkAll {H : Type} : List (DataW H) → Nat
  | [] => 0
  | d :: r => uptoBulk d + uptoBulkAll r
def uptoBulkEntries {H : Type} : List (Lit × DataW H) → Nat
  | [] => 0
  | x :: r => uptoBulkEntry x + uptoBulkEntries r
def uptoBulkEntry {H : Type} : Lit × DataW H → Nat
  | (.string bytes, d) => bytes.length + uptoBulk d + 1
  | (_, d) => uptoBulk d + 1
 end
def uptoSmall : (H : Type) → List (DataW H) → Bool := fun _ ds => decide (uptoBulkAll ds ≤ 1048576)
def OpenSpec.upto (s : _root_.Go.ChangeSpec) : _root_.Go.OpenSpec := { _root_.Go.OpenSpec.ofChange s with cond := some uptoSmall }

/-- 'rosterlaw02.BerSides', WHERE WHAT IT READS IS OF BULK AT MOST 1048576: true; the input reads as it did. -/
def berSidesUptoRow : OpenClaim := { program := "ytjannndndbohaab", sum := "10d420349e5a4f2291c8f16d83141fe39fc9eb16a38782bf2fda66f3d42c814b", func := "roster/rosterlaw02.BerSides", spec := "berSides", inPlace := ["slices.overlaps[byte]"], unfollowed := true, recurses := true, apart := false, narrowed := true }
def BerSidesUptoSaid : Prop := berSidesUptoRow.holds Try.pinned (OpenSpec.upto berSidesSpec)

/-- 'rosterlaw02.BerNumbers', WHERE WHAT IT READS IS OF BULK AT MOST 1048576: true; the input reads as it did. -/
def berNumbersUptoRow : OpenClaim := { program := "ytjannndndbohaab", sum := "10d420349e5a4f2291c8f16d83141fe39fc9eb16a38782bf2fda66f3d42c814b", func := "roster/rosterlaw02.BerNumbers", spec := "berNumbers", inPlace := ["slices.overlaps[byte]"], unfollowed := true, recurses := true, apart := false, narrowed := true }
def BerNumbersUptoSaid : Prop := berNumbersUptoRow.holds Try.pinned (OpenSpec.upto berNumbersSpec)

/-- 'rosterlaw02.BerKnown', WHERE WHAT IT READS IS OF BULK AT MOST 1048576: true; the input reads as it did. -/
def berKnownUptoRow : OpenClaim := { program := "ytjannndndbohaab", sum := "10d420349e5a4f2291c8f16d83141fe39fc9eb16a38782bf2fda66f3d42c814b", func := "roster/rosterlaw02.BerKnown", spec := "berKnown", inPlace := ["slices.overlaps[byte]"], unfollowed := true, recurses := true, apart := false, narrowed := true }
def BerKnownUptoSaid : Prop := berKnownUptoRow.holds Try.pinned (OpenSpec.upto berKnownSpec)

end Rows
end Go.Proofs.Ytjannndndbohaab
