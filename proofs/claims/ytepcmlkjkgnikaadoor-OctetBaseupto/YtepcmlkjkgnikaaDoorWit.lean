/-
  A world in which the listed table reads as its initialiser lays it: for the witness of each row.
-/
import Derived.Test.YtepcmlkjkgnikaaDoorReads
namespace Go.Proofs.YtepcmlkjkgnikaaDoor
open Go.ChangeShapes Go.WideShapes Go.ChangeAt Go.RowKit

def tabCells : Array Value := ((List.range 9).flatMap fun k => [Value.int .u8 (rowF k), .int .u8 (rowL k), .int .u8 (rowA k), .int .u8 (rowZ k), .int .i64 (rowW k)]).toArray
noncomputable def laidWorld (os : Os) : World :=
  { World.holding Tryd.prog os ⟨#[.cells tabCells 49], #[], []⟩ with heap := (World.holding Tryd.prog os ⟨#[.cells tabCells 49], #[], []⟩).heap.modify 0 fun
      | .cells _ t frozen => .cells #[.slice (some ⟨(World.settled Tryd.prog os).heap.size, 0, none⟩) 9 9] t frozen
      | o => o }
theorem laid_met (os : Os) (args : Array Value) : laidMet Tryd.prog [("roster/octet.beginnings", Rows.laid_roster_octet_beginnings)] ((laidWorld os).forCall (fun _ _ => 0) ⟨#[], args, []⟩).memory :=
  laidMet_of_run' 8 (by kernel_rfl) (by kernel_rfl)
end Go.Proofs.YtepcmlkjkgnikaaDoor
