/-
  A world in which the listed variables read as their initialisers lay them: for the witness of each row.
-/
import Derived.Test.YtkbbkhdbigjngaaGreatDoorReads10
namespace Go.Proofs.YtkbbkhdbigjngaaGreatDoor
open Go.ChangeShapes Go.WideShapes Go.ChangeAt Go.RowKit

def tabCells : Array Value := ((List.range 9).flatMap fun k => [Value.int .u8 (rowF k), .int .u8 (rowL k), .int .u8 (rowA k), .int .u8 (rowZ k), .int .i64 (rowW k)]).toArray
/-- the cells of a table that is written out -/
def flatD : DataW Unit → List Value
  | .lit l => [l.value]
  | .agg ds => flatL ds
  | _ => []
where flatL : List (DataW Unit) → List Value
  | [] => []
  | d :: r => flatD d ++ flatL r
def layG (g : Nat) (cs : Array Value) (h : Array Obj) : Array Obj := h.modify g fun
  | .cells _ t frozen => .cells cs t frozen
  | o => o
noncomputable def baseWorld (os : Os) : World := World.holding Tryz.prog os ⟨#[.cells tabCells 122], #[], []⟩
noncomputable def heap1 (os : Os) : Array Obj := layG 1 #[.slice (some ⟨(World.settled Tryz.prog os).heap.size, 0, none⟩) 9 9] (baseWorld os).heap
noncomputable def heap2 (os : Os) : Array Obj := layG 4 (flatD Rows.laid_unicode_utf8_acceptRanges).toArray (heap1 os)
noncomputable def heap3 (os : Os) : Array Obj := layG 3 (flatD Rows.laid_unicode_utf8_first).toArray (heap2 os)
noncomputable def heap4 (os : Os) : Array Obj := layG 0 #[.iface 87 (.agg #[.pointer (some ⟨5, 27, none⟩)])] (heap3 os)
noncomputable def laidWorld (os : Os) : World := { baseWorld os with heap := heap4 os }
theorem laid_met (os : Os) (args : Array Value) : laidMetH Tryz.prog Rows.textNamesRow.laid ((laidWorld os).forCall (fun _ _ => 0) ⟨#[], args, []⟩).memory :=
  laidMetH_of_parts (laidMet_of_run' 8 (by kernel_rfl) (by kernel_rfl)) (by kernel_rfl)
end Go.Proofs.YtkbbkhdbigjngaaGreatDoor
