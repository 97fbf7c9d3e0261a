/-
  NARROWER THAN 'FOR EVERY INPUT', by the rows' own cells (each row's printed sentence says how): BerBack: loops.
  DERIVED. THE GIVEN ROWS OF THIS SEAT. 6 by the template 'for every input the law returns true; each argument reads behind the call as it read before'; 0 by the template 'total and deterministic' (their statements: YtjannndndbohaaaTotals.lean).
  GIVEN WITH THE SEED: the statements are not yours to turn. If you find one false, say at which input.
  Laid BY PROGRAM, IN A SANDBOX (cutbox-rows.mjs): the forced cells as the released guide's own fill.sh prints them over the translation 59123e121f7747d6… (all of the seat's roots in one cut). By AI agents, Wed Nov 11 2026. No macro, syntax, notation, axiom, sorry.
-/
import Derived.Test.YtjannndndbohaaaChecked
import GoSem.Claim
import GoSem.ClaimJoined
import GoSem.ClaimMapViews
import Derived.JoinedTies
import Derived.KernelRfl
namespace Go.Proofs.Ytjannndndbohaaa
/- THE CELL 'sum', in the pinned program and in every row, IS THE sha256 OF THE DUMP (.gsa) THAT YtjannndndbohaaaProg.lean LOADS. Nothing in Lean hashes anything: it is a label: what it is worth is what the hold of that sum in a sandbox is worth. -/
noncomputable def Try.pinned : Pinned := { name := "ytjannndndbohaaa", sum := "59123e121f7747d65e1db502f7a0d5de7c93a7716e1ab4e4ad7fb0c733b1842f", checked := Try.checked }
namespace Rows
def none {H : Type} : Left H := { results := [], args := [] }

/-- 'rosterlaw02.BerHead': WHATEVER THE INPUT: true; the input reads as it did. -/
def berHeadSpec : ChangeSpec := { name := "berHead", fn := fun _ => fun
  | [d1, d2, d3] => { results := [.lit (.bool true)], args := [d1, d2, d3] }
  | _ => none }
def berHeadRow : OpenClaim := { program := "ytjannndndbohaaa", sum := "59123e121f7747d65e1db502f7a0d5de7c93a7716e1ab4e4ad7fb0c733b1842f", func := "roster/rosterlaw02.BerHead", spec := "berHead", inPlace := ["slices.overlaps[byte]"], unfollowed := true, recurses := true, apart := false }
def BerHeadSaid : Prop := berHeadRow.holds Try.pinned (OpenSpec.ofChange berHeadSpec)

/-- ITS FALSE NEIGHBOUR: 'it returns false'. Refute it at one input. -/
def berHeadWrong : ChangeSpec := { name := "berHead", fn := fun _ => fun
  | [d1, d2, d3] => { results := [.lit (.bool false)], args := [d1, d2, d3] }
  | _ => none }
def BerHeadWrongFalsely : Prop := berHeadRow.holds Try.pinned (OpenSpec.ofChange berHeadWrong)

/-- 'rosterlaw02.BerWhole': WHATEVER THE INPUT: true; the input reads as it did. -/
def berWholeSpec : ChangeSpec := { name := "berWhole", fn := fun _ => fun
  | [d1, d2, d3, d4] => { results := [.lit (.bool true)], args := [d1, d2, d3, d4] }
  | _ => none }
def berWholeRow : OpenClaim := { program := "ytjannndndbohaaa", sum := "59123e121f7747d65e1db502f7a0d5de7c93a7716e1ab4e4ad7fb0c733b1842f", func := "roster/rosterlaw02.BerWhole", spec := "berWhole", inPlace := ["slices.overlaps[byte]"], unfollowed := true, recurses := true, apart := false }
def BerWholeSaid : Prop := berWholeRow.holds Try.pinned (OpenSpec.ofChange berWholeSpec)

/-- ITS FALSE NEIGHBOUR: 'it returns false'. Refute it at one input. -/
def berWholeWrong : ChangeSpec := { name := "berWhole", fn := fun _ => fun
  | [d1, d2, d3, d4] => { results := [.lit (.bool false)], args := [d1, d2, d3, d4] }
  | _ => none }
def BerWholeWrongFalsely : Prop := berWholeRow.holds Try.pinned (OpenSpec.ofChange berWholeWrong)

/-- 'rosterlaw02.BerBodies': WHATEVER THE INPUT: true; the input reads as it did. -/
def berBodiesSpec : ChangeSpec := { name := "berBodies", fn := fun _ => fun
  | [d1, d2] => { results := [.lit (.bool true)], args := [d1, d2] }
  | _ => none }
def berBodiesRow : OpenClaim := { program := "ytjannndndbohaaa", sum := "59123e121f7747d65e1db502f7a0d5de7c93a7716e1ab4e4ad7fb0c733b1842f", func := "roster/rosterlaw02.BerBodies", spec := "berBodies", inPlace := ["slices.overlaps[byte]"], unfollowed := true, recurses := true, apart := false }
def BerBodiesSaid : Prop := berBodiesRow.holds Try.pinned (OpenSpec.ofChange berBodiesSpec)

/-- ITS FALSE NEIGHBOUR: 'it returns false'. Refute it at one input. -/
def berBodiesWrong : ChangeSpec := { name := "berBodies", fn := fun _ => fun
  | [d1, d2] => { results := [.lit (.bool false)], args := [d1, d2] }
  | _ => none }
def BerBodiesWrongFalsely : Prop := berBodiesRow.holds Try.pinned (OpenSpec.ofChange berBodiesWrong)

/-- 'rosterlaw02.BerWrites': WHATEVER THE INPUT: true; the input reads as it did. -/
def berWritesSpec : ChangeSpec := { name := "berWrites", fn := fun _ => fun
  | [d1, d2] => { results := [.lit (.bool true)], args := [d1, d2] }
  | _ => none }
def berWritesRow : OpenClaim := { program := "ytjannndndbohaaa", sum := "59123e121f7747d65e1db502f7a0d5de7c93a7716e1ab4e4ad7fb0c733b1842f", func := "roster/rosterlaw02.BerWrites", spec := "berWrites", inPlace := ["slices.overlaps[byte]"], unfollowed := true, recurses := true, apart := false }
def BerWritesSaid : Prop := berWritesRow.holds Try.pinned (OpenSpec.ofChange berWritesSpec)

/-- ITS FALSE NEIGHBOUR: 'it returns false'. Refute it at one input. -/
def berWritesWrong : ChangeSpec := { name := "berWrites", fn := fun _ => fun
  | [d1, d2] => { results := [.lit (.bool false)], args := [d1, d2] }
  | _ => none }
def BerWritesWrongFalsely : Prop := berWritesRow.holds Try.pinned (OpenSpec.ofChange berWritesWrong)

/-- 'rosterlaw02.BerNil': WHATEVER THE INPUT: true; the input reads as it did. -/
def berNilSpec : ChangeSpec := { name := "berNil", fn := fun _ => fun
  | [d] => { results := [.lit (.bool true)], args := [d] }
  | _ => none }
def berNilRow : OpenClaim := { program := "ytjannndndbohaaa", sum := "59123e121f7747d65e1db502f7a0d5de7c93a7716e1ab4e4ad7fb0c733b1842f", func := "roster/rosterlaw02.BerNil", spec := "berNil", inPlace := ["slices.overlaps[byte]"], unfollowed := true, recurses := true, apart := false }
def BerNilSaid : Prop := berNilRow.holds Try.pinned (OpenSpec.ofChange berNilSpec)

/-- ITS FALSE NEIGHBOUR: 'it returns false'. Refute it at one input. -/
def berNilWrong : ChangeSpec := { name := "berNil", fn := fun _ => fun
  | [d] => { results := [.lit (.bool false)], args := [d] }
  | _ => none }
def BerNilWrongFalsely : Prop := berNilRow.holds Try.pinned (OpenSpec.ofChange berNilWrong)

/-- 'rosterlaw02.BerBack': WHATEVER THE INPUT: true; the input reads as it did. -/
def berBackSpec : ChangeSpec := { name := "berBack", fn := fun _ => fun
  | [d] => { results := [.lit (.bool true)], args := [d] }
  | _ => none }
def berBackRow : OpenClaim := { program := "ytjannndndbohaaa", sum := "59123e121f7747d65e1db502f7a0d5de7c93a7716e1ab4e4ad7fb0c733b1842f", func := "roster/rosterlaw02.BerBack", spec := "berBack", inPlace := ["slices.overlaps[byte]"], unfollowed := true, recurses := true, loops := true, apart := false }
def BerBackSaid : Prop := berBackRow.holds Try.pinned (OpenSpec.ofChange berBackSpec)

/-- ITS FALSE NEIGHBOUR: 'it returns false'. Refute it at one input. -/
def berBackWrong : ChangeSpec := { name := "berBack", fn := fun _ => fun
  | [d] => { results := [.lit (.bool false)], args := [d] }
  | _ => none }
def BerBackWrongFalsely : Prop := berBackRow.holds Try.pinned (OpenSpec.ofChange berBackWrong)

/- THE SECOND FORM. 'bulk': how many values and letters a reading holds, each counted each time it is reached (what is shared counts as often as it is met; a slice's spare places count too). A statement '..UptoSaid' is the law's where the arguments, and the package variables that the reading takes, are together of bulk at most 1048576: NARROWER than '..Said'. Prove '..Said' where nothing that the law and all that it calls make is longer than what came in: it says more and counts as full. Else prove '..UptoSaid'. A law counts once. -/
mutual
def uptoBulk {H : Type} : DataW H → Nat
  | .lit (.string bytes) => bytes.length + 1
  | .lit _ => 1
  | .nil => 1
  | .ptr d => uptoBulk d + 1
  | .slice elems spare => uptoBulkAll elems + uptoBulkAll spare + 1
  | .agg parts => uptoBulkAll parts + 1
  | .iface _ d => uptoBulk d + 1
  | .map entries => uptoBulkEntries entries + 1
  | .held _ => 1
def uptoBulkAll {H : Type} : List (DataW H) → Nat
  | [] => 0
  | d :: r => uptoBulk d + uptoBulkAll r
def uptoBulkEntries {H : Type} : List (Lit × DataW H) → Nat
  | [] => 0
  | x :: r => uptoBulkEntry x + uptoBulkEntries r
def uptoBulkEntry {H : Type} : Lit × DataW H → Nat
  | (.string bytes, d) => bytes.length + uptoBulk d + 1
  | (_, d) => uptoBulk d + 1
 end
def uptoSmall : (H : Type) → List (DataW H) → Bool := fun _ ds => decide (uptoBulkAll ds ≤ 1048576)
def OpenSpec.upto (s : _root_.Go.ChangeSpec) : _root_.Go.OpenSpec := { _root_.Go.OpenSpec.ofChange s with cond := some uptoSmall }

/-- 'rosterlaw02.BerHead', WHERE WHAT IT READS IS OF BULK AT MOST 1048576: true; the input reads as it did. -/
def berHeadUptoRow : OpenClaim := { program := "ytjannndndbohaaa", sum := "59123e121f7747d65e1db502f7a0d5de7c93a7716e1ab4e4ad7fb0c733b1842f", func := "roster/rosterlaw02.BerHead", spec := "berHead", inPlace := ["slices.overlaps[byte]"], unfollowed := true, recurses := true, apart := false, narrowed := true }
def BerHeadUptoSaid : Prop := berHeadUptoRow.holds Try.pinned (OpenSpec.upto berHeadSpec)

/-- 'rosterlaw02.BerWhole', WHERE WHAT IT READS IS OF BULK AT MOST 1048576: true; the input reads as it did. -/
def berWholeUptoRow : OpenClaim := { program := "ytjannndndbohaaa", sum := "59123e121f7747d65e1db502f7a0d5de7c93a7716e1ab4e4ad7fb0c733b1842f", func := "roster/rosterlaw02.BerWhole", spec := "berWhole", inPlace := ["slices.overlaps[byte]"], unfollowed := true, recurses := true, apart := false, narrowed := true }
def BerWholeUptoSaid : Prop := berWholeUptoRow.holds Try.pinned (OpenSpec.upto berWholeSpec)

/-- 'rosterlaw02.BerBodies', WHERE WHAT IT READS IS OF BULK AT MOST 1048576: true; the input reads as it did. -/
def berBodiesUptoRow : OpenClaim := { program := "ytjannndndbohaaa", sum := "59123e121f7747d65e1db502f7a0d5de7c93a7716e1ab4e4ad7fb0c733b1842f", func := "roster/rosterlaw02.BerBodies", spec := "berBodies", inPlace := ["slices.overlaps[byte]"], unfollowed := true, recurses := true, apart := false, narrowed := true }
def BerBodiesUptoSaid : Prop := berBodiesUptoRow.holds Try.pinned (OpenSpec.upto berBodiesSpec)

/-- 'rosterlaw02.BerWrites', WHERE WHAT IT READS IS OF BULK AT MOST 1048576: true; the input reads as it did. -/
def berWritesUptoRow : OpenClaim := { program := "ytjannndndbohaaa", sum := "59123e121f7747d65e1db502f7a0d5de7c93a7716e1ab4e4ad7fb0c733b1842f", func := "roster/rosterlaw02.BerWrites", spec := "berWrites", inPlace := ["slices.overlaps[byte]"], unfollowed := true, recurses := true, apart := false, narrowed := true }
def BerWritesUptoSaid : Prop := berWritesUptoRow.holds Try.pinned (OpenSpec.upto berWritesSpec)

/-- 'rosterlaw02.BerNil', WHERE WHAT IT READS IS OF BULK AT MOST 1048576: true; the input reads as it did. -/
def berNilUptoRow : OpenClaim := { program := "ytjannndndbohaaa", sum := "59123e121f7747d65e1db502f7a0d5de7c93a7716e1ab4e4ad7fb0c733b1842f", func := "roster/rosterlaw02.BerNil", spec := "berNil", inPlace := ["slices.overlaps[byte]"], unfollowed := true, recurses := true, apart := false, narrowed := true }
def BerNilUptoSaid : Prop := berNilUptoRow.holds Try.pinned (OpenSpec.upto berNilSpec)

/-- 'rosterlaw02.BerBack', WHERE WHAT IT READS IS OF BULK AT MOST 1048576: true; the input reads as it did. -/
def berBackUptoRow : OpenClaim := { program := "ytjannndndbohaaa", sum := "59123e121f7747d65e1db502f7a0d5de7c93a7716e1ab4e4ad7fb0c733b1842f", func := "roster/rosterlaw02.BerBack", spec := "berBack", inPlace := ["slices.overlaps[byte]"], unfollowed := true, recurses := true, loops := true, apart := false, narrowed := true }
def BerBackUptoSaid : Prop := berBackUptoRow.holds Try.pinned (OpenSpec.upto berBackSpec)

end Rows
end Go.Proofs.Ytjannndndbohaaa
