/-
  No cell of these rows narrows 'for every input' (looked for: loops, veiled, ifaces, maps, wideKeys, modest, calm, conditions, laid).
  DERIVED. THE GIVEN ROWS OF THIS SEAT. 5 by the template 'for every input the law returns true; each argument reads behind the call as it read before'; 0 by the template 'total and deterministic' (their statements: YtcaloebojnbeaaaTotals.lean).
  GIVEN WITH THE SEED: the statements are not yours to turn. If you find one false, say at which input.
  Laid BY PROGRAM, IN A SANDBOX (cutbox-rows.mjs): the forced cells as the released guide's own fill.sh prints them over the translation 685d93e9609a4e6d… (all of the seat's roots in one cut). By AI agents, Wed Nov 11 2026. No macro, syntax, notation, axiom, sorry.
-/
import Derived.Test.YtcaloebojnbeaaaChecked
import GoSem.Claim
import GoSem.ClaimJoined
import GoSem.ClaimMapViews
import Derived.JoinedTies
import Derived.KernelRfl
namespace Go.Proofs.Ytcaloebojnbeaaa
/- THE CELL 'sum', in the pinned program and in every row, IS THE sha256 OF THE DUMP (.gsa) THAT YtcaloebojnbeaaaProg.lean LOADS. Nothing in Lean hashes anything: it is a label: what it is worth is what the hold of that sum in a sandbox is worth. -/
noncomputable def Try.pinned : Pinned := { name := "ytcaloebojnbeaaa", sum := "685d93e9609a4e6dcc3395036c1f9170a0ea23e6cba5415fd084f939a8b2e6cc", checked := Try.checked }
namespace Rows
def none {H : Type} : Left H := { results := [], args := [] }

/-- 'rosterlaw13.GramRows': WHATEVER THE INPUT: true; the input reads as it did. -/
def gramRowsSpec : ChangeSpec := { name := "gramRows", fn := fun _ => fun
  | [d1, d2] => { results := [.lit (.bool true)], args := [d1, d2] }
  | _ => none }
def gramRowsRow : OpenClaim := { program := "ytcaloebojnbeaaa", sum := "685d93e9609a4e6dcc3395036c1f9170a0ea23e6cba5415fd084f939a8b2e6cc", func := "roster/rosterlaw13.GramRows", spec := "gramRows", unfollowed := true, recurses := true, apart := false }
def GramRowsSaid : Prop := gramRowsRow.holds Try.pinned (OpenSpec.ofChange gramRowsSpec)

/-- ITS FALSE NEIGHBOUR: 'it returns false'. Refute it at one input. -/
def gramRowsWrong : ChangeSpec := { name := "gramRows", fn := fun _ => fun
  | [d1, d2] => { results := [.lit (.bool false)], args := [d1, d2] }
  | _ => none }
def GramRowsWrongFalsely : Prop := gramRowsRow.holds Try.pinned (OpenSpec.ofChange gramRowsWrong)

/-- 'rosterlaw13.GramNil': WHATEVER THE INPUT: true; the input reads as it did. -/
def gramNilSpec : ChangeSpec := { name := "gramNil", fn := fun _ => fun
  | [d1, d2, d3] => { results := [.lit (.bool true)], args := [d1, d2, d3] }
  | _ => none }
def gramNilRow : OpenClaim := { program := "ytcaloebojnbeaaa", sum := "685d93e9609a4e6dcc3395036c1f9170a0ea23e6cba5415fd084f939a8b2e6cc", func := "roster/rosterlaw13.GramNil", spec := "gramNil", unfollowed := true, recurses := true, apart := false }
def GramNilSaid : Prop := gramNilRow.holds Try.pinned (OpenSpec.ofChange gramNilSpec)

/-- ITS FALSE NEIGHBOUR: 'it returns false'. Refute it at one input. -/
def gramNilWrong : ChangeSpec := { name := "gramNil", fn := fun _ => fun
  | [d1, d2, d3] => { results := [.lit (.bool false)], args := [d1, d2, d3] }
  | _ => none }
def GramNilWrongFalsely : Prop := gramNilRow.holds Try.pinned (OpenSpec.ofChange gramNilWrong)

/-- 'rosterlaw13.GramNames': WHATEVER THE INPUT: true; the input reads as it did. -/
def gramNamesSpec : ChangeSpec := { name := "gramNames", fn := fun _ => fun
  | [] => { results := [.lit (.bool true)], args := [] }
  | _ => none }
def gramNamesRow : OpenClaim := { program := "ytcaloebojnbeaaa", sum := "685d93e9609a4e6dcc3395036c1f9170a0ea23e6cba5415fd084f939a8b2e6cc", func := "roster/rosterlaw13.GramNames", spec := "gramNames", unfollowed := true, recurses := true, apart := false }
def GramNamesSaid : Prop := gramNamesRow.holds Try.pinned (OpenSpec.ofChange gramNamesSpec)

/-- ITS FALSE NEIGHBOUR: 'it returns false'. Refute it at one input. -/
def gramNamesWrong : ChangeSpec := { name := "gramNames", fn := fun _ => fun
  | [] => { results := [.lit (.bool false)], args := [] }
  | _ => none }
def GramNamesWrongFalsely : Prop := gramNamesRow.holds Try.pinned (OpenSpec.ofChange gramNamesWrong)

/-- 'rosterlaw13.GramMisses': WHATEVER THE INPUT: true; the input reads as it did. -/
def gramMissesSpec : ChangeSpec := { name := "gramMisses", fn := fun _ => fun
  | [d1, d2, d3] => { results := [.lit (.bool true)], args := [d1, d2, d3] }
  | _ => none }
def gramMissesRow : OpenClaim := { program := "ytcaloebojnbeaaa", sum := "685d93e9609a4e6dcc3395036c1f9170a0ea23e6cba5415fd084f939a8b2e6cc", func := "roster/rosterlaw13.GramMisses", spec := "gramMisses", unfollowed := true, recurses := true, apart := false }
def GramMissesSaid : Prop := gramMissesRow.holds Try.pinned (OpenSpec.ofChange gramMissesSpec)

/-- ITS FALSE NEIGHBOUR: 'it returns false'. Refute it at one input. -/
def gramMissesWrong : ChangeSpec := { name := "gramMisses", fn := fun _ => fun
  | [d1, d2, d3] => { results := [.lit (.bool false)], args := [d1, d2, d3] }
  | _ => none }
def GramMissesWrongFalsely : Prop := gramMissesRow.holds Try.pinned (OpenSpec.ofChange gramMissesWrong)

/-- 'rosterlaw13.GramUndone': WHATEVER THE INPUT: true; the input reads as it did. -/
def gramUndoneSpec : ChangeSpec := { name := "gramUndone", fn := fun _ => fun
  | [d1, d2, d3] => { results := [.lit (.bool true)], args := [d1, d2, d3] }
  | _ => none }
def gramUndoneRow : OpenClaim := { program := "ytcaloebojnbeaaa", sum := "685d93e9609a4e6dcc3395036c1f9170a0ea23e6cba5415fd084f939a8b2e6cc", func := "roster/rosterlaw13.GramUndone", spec := "gramUndone", unfollowed := true, recurses := true, apart := false }
def GramUndoneSaid : Prop := gramUndoneRow.holds Try.pinned (OpenSpec.ofChange gramUndoneSpec)

/-- ITS FALSE NEIGHBOUR: 'it returns false'. Refute it at one input. -/
def gramUndoneWrong : ChangeSpec := { name := "gramUndone", fn := fun _ => fun
  | [d1, d2, d3] => { results := [.lit (.bool false)], args := [d1, d2, d3] }
  | _ => none }
def GramUndoneWrongFalsely : Prop := gramUndoneRow.holds Try.pinned (OpenSpec.ofChange gramUndoneWrong)

/- THE SECOND FORM. 'bulk': how many values and letters a reading holds, each counted each time it is reached (what is shared counts as often as it is met; a slice's spare places count too). A statement '..UptoSaid' is the law's where the arguments, and the package variables that the reading takes, are together of bulk at most 1048576: NARROWER than '..Said'. Prove '..Said' where nothing that the law and all that it calls make is longer than what came in: it says more and counts as full. Else prove '..UptoSaid'. A law counts once. -/
mutual
def uptoBulk {H : Type} : DataW H → Nat
  | .lit (.string bytes) => bytes.length + 1
  | .lit _ => 1
  | .nil => 1
  | .ptr d => uptoBulk d + 1
  | .slice elems spare => uptoBulkAll elems + uptoBulkAll spare + 1
  | .agg parts => uptoBulkAll parts + 1
  | .iface _ d => uptoBulk d + 1
  | .map entries => uptoBulkEntries entries + 1
  | .held _ => 1
def uptoBulkAll {H : Type} : List (DataW H) → Nat
  | [] => 0
  | d :: r => uptoBulk d + uptoBulkAll r
def uptoBulkEntries {H : Type} : List (Lit × DataW H) → Nat
  | [] => 0
  | x :: r => uptoBulkEntry x + uptoBulkEntries r
def uptoBulkEntry {H : Type} : Lit × DataW H → Nat
  | (.string bytes, d) => bytes.length + uptoBulk d + 1
  | (_, d) => uptoBulk d + 1
 end
def uptoSmall : (H : Type) → List (DataW H) → Bool := fun _ ds => decide (uptoBulkAll ds ≤ 1048576)
def OpenSpec.upto (s : _root_.Go.ChangeSpec) : _root_.Go.OpenSpec := { _root_.Go.OpenSpec.ofChange s with cond := some uptoSmall }

/-- 'rosterlaw13.GramRows', WHERE WHAT IT READS IS OF BULK AT MOST 1048576: true; the input reads as it did. -/
def gramRowsUptoRow : OpenClaim := { program := "ytcaloebojnbeaaa", sum := "685d93e9609a4e6dcc3395036c1f9170a0ea23e6cba5415fd084f939a8b2e6cc", func := "roster/rosterlaw13.GramRows", spec := "gramRows", unfollowed := true, recurses := true, apart := false, narrowed := true }
def GramRowsUptoSaid : Prop := gramRowsUptoRow.holds Try.pinned (OpenSpec.upto gramRowsSpec)

/-- 'rosterlaw13.GramNil', WHERE WHAT IT READS IS OF BULK AT MOST 1048576: true; the input reads as it did. -/
def gramNilUptoRow : OpenClaim := { program := "ytcaloebojnbeaaa", sum := "685d93e9609a4e6dcc3395036c1f9170a0ea23e6cba5415fd084f939a8b2e6cc", func := "roster/rosterlaw13.GramNil", spec := "gramNil", unfollowed := true, recurses := true, apart := false, narrowed := true }
def GramNilUptoSaid : Prop := gramNilUptoRow.holds Try.pinned (OpenSpec.upto gramNilSpec)

/-- 'rosterlaw13.GramNames', WHERE WHAT IT READS IS OF BULK AT MOST 1048576: true; the input reads as it did. -/
def gramNamesUptoRow : OpenClaim := { program := "ytcaloebojnbeaaa", sum := "685d93e9609a4e6dcc3395036c1f9170a0ea23e6cba5415fd084f939a8b2e6cc", func := "roster/rosterlaw13.GramNames", spec := "gramNames", unfollowed := true, recurses := true, apart := false, narrowed := true }
def GramNamesUptoSaid : Prop := gramNamesUptoRow.holds Try.pinned (OpenSpec.upto gramNamesSpec)

/-- 'rosterlaw13.GramMisses', WHERE WHAT IT READS IS OF BULK AT MOST 1048576: true; the input reads as it did. -/
def gramMissesUptoRow : OpenClaim := { program := "ytcaloebojnbeaaa", sum := "685d93e9609a4e6dcc3395036c1f9170a0ea23e6cba5415fd084f939a8b2e6cc", func := "roster/rosterlaw13.GramMisses", spec := "gramMisses", unfollowed := true, recurses := true, apart := false, narrowed := true }
def GramMissesUptoSaid : Prop := gramMissesUptoRow.holds Try.pinned (OpenSpec.upto gramMissesSpec)

/-- 'rosterlaw13.GramUndone', WHERE WHAT IT READS IS OF BULK AT MOST 1048576: true; the input reads as it did. -/
def gramUndoneUptoRow : OpenClaim := { program := "ytcaloebojnbeaaa", sum := "685d93e9609a4e6dcc3395036c1f9170a0ea23e6cba5415fd084f939a8b2e6cc", func := "roster/rosterlaw13.GramUndone", spec := "gramUndone", unfollowed := true, recurses := true, apart := false, narrowed := true }
def GramUndoneUptoSaid : Prop := gramUndoneUptoRow.holds Try.pinned (OpenSpec.upto gramUndoneSpec)

end Rows
end Go.Proofs.Ytcaloebojnbeaaa
