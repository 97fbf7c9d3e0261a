/-
  A world in which the listed variables read as their initialisers lay them: for the witness of each row.
-/
import Derived.Test.YtdcfiphffbgocaaGreatDoorRows
import Derived.Test.YtdcfiphffbgocaaGreatDoorBcard
import Derived.LaidHandle
import Derived.LaidLaws
import Derived.ProofKit
import Derived.OpenShut
import Derived.Deep.DeepHandedRow
import Derived.Deep.DeepWitnessRowRef
import Derived.Lib.LaidIn
namespace Go.Proofs.YtdcfiphffbgocaaGreatDoor
open Go.ChangeShapes Go.WideShapes Go.ChangeAt Go.RowKit

/-- the cells of a table that is written out -/
def flatD : DataW Unit → List Value
  | .lit l => [l.value]
  | .agg ds => flatL ds
  | _ => []
where flatL : List (DataW Unit) → List Value
  | [] => []
  | d :: r => flatD d ++ flatL r
def layG (g : Nat) (cs : Array Value) (h : Array Obj) : Array Obj := h.modify g fun
  | .cells _ t frozen => .cells cs t frozen
  | o => o
noncomputable def baseWorld (os : Os) : World := World.holding Tryz.prog os ⟨#[], #[], []⟩
noncomputable def heap2 (os : Os) : Array Obj := layG 2 (flatD Rows.laid_unicode_utf8_acceptRanges).toArray (baseWorld os).heap
noncomputable def heap3 (os : Os) : Array Obj := layG 1 (flatD Rows.laid_unicode_utf8_first).toArray (heap2 os)
noncomputable def laidWorld (os : Os) : World := { baseWorld os with heap := heap3 os }
theorem laid_met (os : Os) (args : Array Value) : laidMetH Tryz.prog Rows.packetPutsRow.laid ((laidWorld os).forCall (fun _ _ => 0) ⟨#[], args, []⟩).memory :=
  laidMetH_of_parts (laidMet_of_run' 8 (by kernel_rfl) (by kernel_rfl)) (by kernel_rfl)
end Go.Proofs.YtdcfiphffbgocaaGreatDoor
