/-
  A world in which the listed variables of NameParses read as their initialisers lay them, and what the calls read of them.
-/
import Derived.Test.YtfiijlmpfpmgiaaGreatDoorReads6
import Derived.Test.YtfiijlmpfpmgiaaGreatDoorNftToNlf
import Derived.LaidHandle
namespace Go.Proofs.YtfiijlmpfpmgiaaGreatDoor
open Go.ChangeShapes Go.WideShapes Go.ChangeAt Go.RowKit

def tabCells : Array Value := ((List.range 9).flatMap fun k => [Value.int .u8 (rowF k), .int .u8 (rowL k), .int .u8 (rowA k), .int .u8 (rowZ k), .int .i64 (rowW k)]).toArray
/-- the cells of a table that is written out -/
def flatD : DataW Unit → List Value
  | .lit l => [l.value]
  | .agg ds => flatL ds
  | _ => []
where flatL : List (DataW Unit) → List Value
  | [] => []
  | d :: r => flatD d ++ flatL r
def layG (g : Nat) (cs : Array Value) (h : Array Obj) : Array Obj := h.modify g fun
  | .cells _ t frozen => .cells cs t frozen
  | o => o
noncomputable def baseWorld (os : Os) : World := World.holding Tryz.prog os ⟨#[.cells tabCells 179], #[], []⟩
noncomputable def heap1 (os : Os) : Array Obj := layG 3 #[.slice (some ⟨(World.settled Tryz.prog os).heap.size, 0, none⟩) 9 9] (baseWorld os).heap
noncomputable def heap2 (os : Os) : Array Obj := layG 8 (flatD Rows.laid_math_bits_deBruijn32tab).toArray (heap1 os)
noncomputable def heap3 (os : Os) : Array Obj := layG 9 (flatD Rows.laid_math_bits_deBruijn64tab).toArray (heap2 os)
noncomputable def heap4 (os : Os) : Array Obj := layG 7 (flatD Rows.laid_internal_strconv_uint64pow10).toArray (heap3 os)
noncomputable def heap5 (os : Os) : Array Obj := layG 2 (flatD Rows.laid_unicode_utf8_acceptRanges).toArray (heap4 os)
noncomputable def heap6 (os : Os) : Array Obj := layG 1 (flatD Rows.laid_unicode_utf8_first).toArray (heap5 os)
noncomputable def heap7 (os : Os) : Array Obj := layG 6 (flatD Rows.laid_roster_schema_rules).toArray (heap6 os)
noncomputable def heap8 (os : Os) : Array Obj := layG 4 (flatD Rows.laid_roster_name_forms).toArray (heap7 os)
noncomputable def heap9 (os : Os) : Array Obj := layG 0 #[.iface 107 (.agg #[.pointer (some ⟨10, 31, none⟩)])] (heap8 os)
noncomputable def laidWorld (os : Os) : World := { baseWorld os with heap := heap9 os }
theorem laid_met (os : Os) (args : Array Value) : laidMetH Tryz.prog Rows.nameParsesRow.laid ((laidWorld os).forCall (fun _ _ => 0) ⟨#[], args, []⟩).memory :=
  laidMetH_of_parts (laidMet_of_run' 8 (by kernel_rfl) (by kernel_rfl)) (by kernel_rfl)
theorem gErr : Tryz.prog.globalNamed "errors.errorType" = some 0 := by kernel_rfl
theorem rtOf : (Tryz.prog.cutTypes.find? (·.1 == "internal/reflectlite.rtype")).map (·.2) = some 107 := by kernel_rfl
theorem ntypes : Tryz.prog.types.size = 441 - 100 := by kernel_rfl
theorem oneRow : ((List.range (441 - 100)).filter fun t => Tryz.prog.rowNamed t [101, 114, 114, 111, 114]) = [31] := by kernel_rfl
/-- the variable errors.errorType, read as its initialiser lays it -/
theorem err_of {W : World} {hs : List (String × DataW Unit)} (h : handlesMet Tryz.prog hs W) (hm : ("errors.errorType", Rows.laid_errors_errorType) ∈ hs) : ErrT W := by
  obtain ⟨name, u, ty, e1, e2, e3, e4, e5⟩ := h _ hm
  have en : name = [101, 114, 114, 111, 114] := (Option.some.inj e1).symm
  subst en
  obtain rfl := Option.some.inj (rtOf.symm.trans e2)
  have hmt : ty ∈ (List.range (441 - 100)).filter fun t => Tryz.prog.rowNamed t [101, 114, 114, 111, 114] := List.mem_filter.2 ⟨List.mem_range.2 (by rw [← ntypes]; exact e3), e4⟩
  rw [oneRow] at hmt
  obtain rfl := List.mem_singleton.1 hmt
  have hh : typeHandle Tryz.prog 31 = .pointer (some ⟨10, 31, none⟩) := by kernel_rfl
  rw [hh] at e5
  have := World.var?_cell gErr e5 0
  simpa [ErrT] using this
/-- what the listed variables hold, as the calls read it -/
theorem laid_of {W : World} (hL : laidMetH Tryz.prog Rows.nameParsesRow.laid W) : HasTab W ∧ HasRules W ∧ ErrT W := by
  have h : laidMet Tryz.prog [("math/bits.deBruijn32tab", Rows.laid_math_bits_deBruijn32tab), ("math/bits.deBruijn64tab", Rows.laid_math_bits_deBruijn64tab), ("internal/strconv.uint64pow10", Rows.laid_internal_strconv_uint64pow10), ("unicode/utf8.acceptRanges", Rows.laid_unicode_utf8_acceptRanges), ("roster/octet.beginnings", Rows.laid_roster_octet_beginnings), ("roster/schema.rules", Rows.laid_roster_schema_rules), ("roster/name.forms", Rows.laid_roster_name_forms), ("unicode/utf8.first", Rows.laid_unicode_utf8_first)] W ∧ handlesMet Tryz.prog [("errors.errorType", Rows.laid_errors_errorType)] W := hL
  exact ⟨tab_of h.1 (.tail _ (.tail _ (.tail _ (.tail _ (.head _))))), rules_of_reads (rd_of h.1 (.tail _ (.tail _ (.tail _ (.tail _ (.tail _ (.head _))))))), err_of h.2 (.head _)⟩
end Go.Proofs.YtfiijlmpfpmgiaaGreatDoor
