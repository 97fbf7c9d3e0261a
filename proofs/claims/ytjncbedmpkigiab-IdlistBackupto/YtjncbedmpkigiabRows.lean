/-
  No cell of these rows narrows 'for every input' (looked for: loops, veiled, ifaces, maps, wideKeys, modest, calm, conditions, laid).
  DERIVED. THE GIVEN ROWS OF THIS SEAT. 3 by the template 'for every input the law returns true; each argument reads behind the call as it read before'; 0 by the template 'total and deterministic' (their statements: YtjncbedmpkigiabTotals.lean).
  GIVEN WITH THE SEED: the statements are not yours to turn. If you find one false, say at which input.
  Laid BY PROGRAM, IN A SANDBOX (cutbox-rows.mjs): the forced cells as the released guide's own fill.sh prints them over the translation 28d1b7673ffb5e96… (all of the seat's roots in one cut). By AI agents, Wed Nov 11 2026. No macro, syntax, notation, axiom, sorry.
-/
import Derived.Test.YtjncbedmpkigiabChecked
import GoSem.Claim
import GoSem.ClaimJoined
import GoSem.ClaimMapViews
import Derived.JoinedTies
import Derived.KernelRfl
namespace Go.Proofs.Ytjncbedmpkigiab
/- THE CELL 'sum', in the pinned program and in every row, IS THE sha256 OF THE DUMP (.gsa) THAT YtjncbedmpkigiabProg.lean LOADS. Nothing in Lean hashes anything: it is a label: what it is worth is what the hold of that sum in a sandbox is worth. -/
noncomputable def Try.pinned : Pinned := { name := "ytjncbedmpkigiab", sum := "28d1b7673ffb5e96bbe2e3494a178c302a280e99711902c0c48e6c5a5e01cd6c", checked := Try.checked }
namespace Rows
def none {H : Type} : Left H := { results := [], args := [] }

/-- 'rosterlaw04.IdlistAlgebra': WHATEVER THE INPUT: true; the input reads as it did. -/
def idlistAlgebraSpec : ChangeSpec := { name := "idlistAlgebra", fn := fun _ => fun
  | [d1, d2, d3] => { results := [.lit (.bool true)], args := [d1, d2, d3] }
  | _ => none }
def idlistAlgebraRow : OpenClaim := { program := "ytjncbedmpkigiab", sum := "28d1b7673ffb5e96bbe2e3494a178c302a280e99711902c0c48e6c5a5e01cd6c", func := "roster/rosterlaw04.IdlistAlgebra", spec := "idlistAlgebra", unfollowed := true, recurses := true, apart := false }
def IdlistAlgebraSaid : Prop := idlistAlgebraRow.holds Try.pinned (OpenSpec.ofChange idlistAlgebraSpec)

/-- ITS FALSE NEIGHBOUR: 'it returns false'. Refute it at one input. -/
def idlistAlgebraWrong : ChangeSpec := { name := "idlistAlgebra", fn := fun _ => fun
  | [d1, d2, d3] => { results := [.lit (.bool false)], args := [d1, d2, d3] }
  | _ => none }
def IdlistAlgebraWrongFalsely : Prop := idlistAlgebraRow.holds Try.pinned (OpenSpec.ofChange idlistAlgebraWrong)

/-- 'rosterlaw04.IdlistBack': WHATEVER THE INPUT: true; the input reads as it did. -/
def idlistBackSpec : ChangeSpec := { name := "idlistBack", fn := fun _ => fun
  | [d1, d2] => { results := [.lit (.bool true)], args := [d1, d2] }
  | _ => none }
def idlistBackRow : OpenClaim := { program := "ytjncbedmpkigiab", sum := "28d1b7673ffb5e96bbe2e3494a178c302a280e99711902c0c48e6c5a5e01cd6c", func := "roster/rosterlaw04.IdlistBack", spec := "idlistBack", unfollowed := true, recurses := true, apart := false }
def IdlistBackSaid : Prop := idlistBackRow.holds Try.pinned (OpenSpec.ofChange idlistBackSpec)

/-- ITS FALSE NEIGHBOUR: 'it returns false'. Refute it at one input. -/
def idlistBackWrong : ChangeSpec := { name := "idlistBack", fn := fun _ => fun
  | [d1, d2] => { results := [.lit (.bool false)], args := [d1, d2] }
  | _ => none }
def IdlistBackWrongFalsely : Prop := idlistBackRow.holds Try.pinned (OpenSpec.ofChange idlistBackWrong)

/-- 'rosterlaw04.IdlistSearched': WHATEVER THE INPUT: true; the input reads as it did. -/
def idlistSearchedSpec : ChangeSpec := { name := "idlistSearched", fn := fun _ => fun
  | [d1, d2, d3] => { results := [.lit (.bool true)], args := [d1, d2, d3] }
  | _ => none }
def idlistSearchedRow : OpenClaim := { program := "ytjncbedmpkigiab", sum := "28d1b7673ffb5e96bbe2e3494a178c302a280e99711902c0c48e6c5a5e01cd6c", func := "roster/rosterlaw04.IdlistSearched", spec := "idlistSearched", unfollowed := true, recurses := true, apart := false }
def IdlistSearchedSaid : Prop := idlistSearchedRow.holds Try.pinned (OpenSpec.ofChange idlistSearchedSpec)

/-- ITS FALSE NEIGHBOUR: 'it returns false'. Refute it at one input. -/
def idlistSearchedWrong : ChangeSpec := { name := "idlistSearched", fn := fun _ => fun
  | [d1, d2, d3] => { results := [.lit (.bool false)], args := [d1, d2, d3] }
  | _ => none }
def IdlistSearchedWrongFalsely : Prop := idlistSearchedRow.holds Try.pinned (OpenSpec.ofChange idlistSearchedWrong)

/- THE SECOND FORM. 'bulk': how many values and letters a reading holds, each counted each time it is reached (what is shared counts as often as it is met; a slice's spare places count too). A statement '..UptoSaid' is the law's where the arguments, and the package variables that the reading takes, are together of bulk at most 1048576: NARROWER than '..Said'. Prove '..Said' where nothing that the law and all that it calls make is longer than what came in: it says more and counts as full. Else prove '..UptoSaid'. A law counts once. -/
mutual
def uptoBulk {H : Type} : DataW H → Nat
  | .lit (.string bytes) => bytes.length + 1
  | .lit _ => 1
  | .nil => 1
  | .ptr d => uptoBulk d + 1
  | .slice elems spare => uptoBulkAll elems + uptoBulkAll spare + 1
  | .agg parts => uptoBulkAll parts + 1
  | .iface _ d => uptoBulk d + 1
  | .map entries => uptoBulkEntries entries + 1
  | .held _ => 1
def uptoBulkAll {H : Type} : List (DataW H) → Nat
  | [] => 0
  | d :: r => uptoBulk d + uptoBulkAll r
def uptoBulkEntries {H : Type} : List (Lit × DataW H) → Nat
  | [] => 0
  | x :: r => uptoBulkEntry x + uptoBulkEntries r
def uptoBulkEntry {H : Type} : Lit × DataW H → Nat
  | (.string bytes, d) => bytes.length + uptoBulk d + 1
  | (_, d) => uptoBulk d + 1
 end
def uptoSmall : (H : Type) → List (DataW H) → Bool := fun _ ds => decide (uptoBulkAll ds ≤ 1048576)
def OpenSpec.upto (s : _root_.Go.ChangeSpec) : _root_.Go.OpenSpec := { _root_.Go.OpenSpec.ofChange s with cond := some uptoSmall }

/-- 'rosterlaw04.IdlistAlgebra', WHERE WHAT IT READS IS OF BULK AT MOST 1048576: true; the input reads as it did. -/
def idlistAlgebraUptoRow : OpenClaim := { program := "ytjncbedmpkigiab", sum := "28d1b7673ffb5e96bbe2e3494a178c302a280e99711902c0c48e6c5a5e01cd6c", func := "roster/rosterlaw04.IdlistAlgebra", spec := "idlistAlgebra", unfollowed := true, recurses := true, apart := false, narrowed := true }
def IdlistAlgebraUptoSaid : Prop := idlistAlgebraUptoRow.holds Try.pinned (OpenSpec.upto idlistAlgebraSpec)

/-- 'rosterlaw04.IdlistBack', WHERE WHAT IT READS IS OF BULK AT MOST 1048576: true; the input reads as it did. -/
def idlistBackUptoRow : OpenClaim := { program := "ytjncbedmpkigiab", sum := "28d1b7673ffb5e96bbe2e3494a178c302a280e99711902c0c48e6c5a5e01cd6c", func := "roster/rosterlaw04.IdlistBack", spec := "idlistBack", unfollowed := true, recurses := true, apart := false, narrowed := true }
def IdlistBackUptoSaid : Prop := idlistBackUptoRow.holds Try.pinned (OpenSpec.upto idlistBackSpec)

/-- 'rosterlaw04.IdlistSearched', WHERE WHAT IT READS IS OF BULK AT MOST 1048576: true; the input reads as it did. -/
def idlistSearchedUptoRow : OpenClaim := { program := "ytjncbedmpkigiab", sum := "28d1b7673ffb5e96bbe2e3494a178c302a280e99711902c0c48e6c5a5e01cd6c", func := "roster/rosterlaw04.IdlistSearched", spec := "idlistSearched", unfollowed := true, recurses := true, apart := false, narrowed := true }
def IdlistSearchedUptoSaid : Prop := idlistSearchedUptoRow.holds Try.pinned (OpenSpec.upto idlistSearchedSpec)

end Rows
end Go.Proofs.Ytjncbedmpkigiab
