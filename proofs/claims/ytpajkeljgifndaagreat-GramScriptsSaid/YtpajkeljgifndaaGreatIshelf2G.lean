/-
  slices.Compact's body in this program is the one that the library's contract speaks of.
-/
import Derived.Shelf.SlicesE.Compact
import Derived.Test.YtpajkeljgifndaaGreatChecked
namespace Go.Proofs
open Go.Shelf Go.Lib
def Tryz.lays43g_ren : Go.Shelf.Ren := ⟨fun | 43 => 45 | n => n, fun | 0 => 0 | 3 => 3 | 4 => 4 | 22 => 31 | 23 => 38 | n => n, fun | n => n⟩
theorem Tryz.lays43g : Go.Proofs.SlLaysE.n43 Tryz.prog Tryz.lays43g_ren := {
  mixed := by kernel_rfl
  f43 := ⟨"slices.Compact[[]uint32,uint32]", by kernel_rfl, Tryz.func45.trans (congrArg some (by kernel_rfl))⟩
  t0 := Tryz.underlying0
  a0 := Tryz.isAgg0
  z0 := Tryz.sizeOf0
  v0 := Tryz.zeroValue0
  t3 := Tryz.underlying3
  a3 := Tryz.isAgg3
  z3 := Tryz.sizeOf3
  v3 := Tryz.zeroValue3
  t4 := Tryz.underlying4
  a4 := Tryz.isAgg4
  z4 := Tryz.sizeOf4
  v4 := Tryz.zeroValue4
  t22 := Tryz.underlying31
  a22 := Tryz.isAgg31
  z22 := Tryz.sizeOf31
  v22 := Tryz.zeroValue31
  a23 := Tryz.isAgg38
  z23 := Tryz.sizeOf38
}
end Go.Proofs
