/-
  slices.Compact's body in this program is the one that the library's contract speaks of.
-/
import Derived.Shelf.SlicesE.Compact
import Derived.Test.YtfcpnglemiiphaaChecked
namespace Go.Proofs
open Go.Shelf Go.Lib
def Try.lays43_ren : Go.Shelf.Ren := ⟨fun | 43 => 54 | n => n, fun | 0 => 0 | 3 => 3 | 4 => 4 | 22 => 22 | 23 => 33 | n => n, fun | n => n⟩
theorem Try.lays43 : Go.Proofs.SlLaysE.n43 Try.prog Try.lays43_ren := {
  mixed := by kernel_rfl
  f43 := ⟨"slices.Compact[[]uint64,uint64]", by kernel_rfl, Try.func54.trans (congrArg some (by kernel_rfl))⟩
  t0 := Try.underlying0
  a0 := Try.isAgg0
  z0 := Try.sizeOf0
  v0 := Try.zeroValue0
  t3 := Try.underlying3
  a3 := Try.isAgg3
  z3 := Try.sizeOf3
  v3 := Try.zeroValue3
  t4 := Try.underlying4
  a4 := Try.isAgg4
  z4 := Try.sizeOf4
  v4 := Try.zeroValue4
  t22 := Try.underlying22
  a22 := Try.isAgg22
  z22 := Try.sizeOf22
  v22 := Try.zeroValue22
  a23 := Try.isAgg33
  z23 := Try.sizeOf33
}
end Go.Proofs
