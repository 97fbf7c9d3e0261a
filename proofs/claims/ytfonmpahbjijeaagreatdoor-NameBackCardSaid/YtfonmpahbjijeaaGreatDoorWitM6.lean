/-
  A world in which the listed tables read as their initialisers lay them: for the witness of each row.
-/
import Derived.Test.YtfonmpahbjijeaaGreatDoorReads6
namespace Go.Proofs.YtfonmpahbjijeaaGreatDoor
open Go.ChangeShapes Go.WideShapes Go.ChangeAt Go.RowKit

def tabCells : Array Value := ((List.range 9).flatMap fun k => [Value.int .u8 (rowF k), .int .u8 (rowL k), .int .u8 (rowA k), .int .u8 (rowZ k), .int .i64 (rowW k)]).toArray
/-- the cells of a table that is written out -/
def flatD : DataW Unit → List Value
  | .lit l => [l.value]
  | .agg ds => flatL ds
  | _ => []
where flatL : List (DataW Unit) → List Value
  | [] => []
  | d :: r => flatD d ++ flatL r
def layG (g : Nat) (cs : Array Value) (h : Array Obj) : Array Obj := h.modify g fun
  | .cells _ t frozen => .cells cs t frozen
  | o => o
noncomputable def baseWorld (os : Os) : World := World.holding Tryz.prog os ⟨#[.cells tabCells 178], #[], []⟩
noncomputable def heap1 (os : Os) : Array Obj := layG 3 #[.slice (some ⟨(World.settled Tryz.prog os).heap.size, 0, none⟩) 9 9] (baseWorld os).heap
noncomputable def heap2 (os : Os) : Array Obj := layG 8 (flatD Rows.laid_math_bits_deBruijn32tab).toArray (heap1 os)
noncomputable def heap3 (os : Os) : Array Obj := layG 9 (flatD Rows.laid_math_bits_deBruijn64tab).toArray (heap2 os)
noncomputable def heap4 (os : Os) : Array Obj := layG 7 (flatD Rows.laid_internal_strconv_uint64pow10).toArray (heap3 os)
noncomputable def heap5 (os : Os) : Array Obj := layG 2 (flatD Rows.laid_unicode_utf8_acceptRanges).toArray (heap4 os)
noncomputable def heap6 (os : Os) : Array Obj := layG 1 (flatD Rows.laid_unicode_utf8_first).toArray (heap5 os)
noncomputable def heap7 (os : Os) : Array Obj := layG 6 (flatD Rows.laid_roster_schema_rules).toArray (heap6 os)
noncomputable def heap8 (os : Os) : Array Obj := layG 4 (flatD Rows.laid_roster_name_forms).toArray (heap7 os)
noncomputable def laidWorld (os : Os) : World := { baseWorld os with heap := heap8 os }
theorem laid_met (os : Os) (args : Array Value) : laidMet Tryz.prog Rows.nameMovesRow.laid ((laidWorld os).forCall (fun _ _ => 0) ⟨#[], args, []⟩).memory :=
  laidMet_of_run' 8 (by kernel_rfl) (by kernel_rfl)
end Go.Proofs.YtfonmpahbjijeaaGreatDoor
