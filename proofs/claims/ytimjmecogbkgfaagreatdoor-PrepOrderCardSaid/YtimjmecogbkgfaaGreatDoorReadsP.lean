/-
  The listed powers of ten, read as their initialiser lays them.
-/
import Derived.Test.YtimjmecogbkgfaaGreatDoorAliveToReads
import Derived.Test.YtimjmecogbkgfaaGreatDoorPad
namespace Go.Proofs.YtimjmecogbkgfaaGreatDoor
open Go.ChangeShapes Go.WideShapes Go.ChangeAt Go.RowKit

theorem gPowType : (Tryz.prog.globals[4]?).map (·.type) = some 138 := by kernel_rfl
theorem laid_pow : (Rows.laid_internal_strconv_uint64pow10 : DataW Unit) = Lib.tabData .u64 Lib.pow10Tab := rfl
theorem cellsU64 : Tryz.prog.cellsOf 132 = 1 := by kernel_rfl
theorem cellsPow : Tryz.prog.cellsOf 138 = 20 := by kernel_rfl
theorem pow_of_reads {W : World} (hV : VarRd Tryz.prog W "internal/strconv.uint64pow10" Rows.laid_internal_strconv_uint64pow10) : HasPow W := by
  obtain ⟨g, t, cs, fuel, p, h1, h2, h3, h4⟩ := hV
  obtain rfl := Option.some.inj (gPow.symm.trans h1)
  obtain rfl := Option.some.inj (gPowType.symm.trans h2)
  rw [laid_pow] at h4
  have h5 := Lib.cells_of_tab Tryz.underlying138 Tryz.underlying132 cellsU64 cellsPow h4
  unfold HasPow Lib.TabIs
  rw [h3, ← h5]
theorem pow_of {W : World} {l : List (String × DataW Unit)} (hL : laidMet Tryz.prog l W) (hm : ("internal/strconv.uint64pow10", Rows.laid_internal_strconv_uint64pow10) ∈ l) : HasPow W := by
  obtain ⟨_, hv, _⟩ := hL
  exact pow_of_reads (laid_rd hv hm)
end Go.Proofs.YtimjmecogbkgfaaGreatDoor
