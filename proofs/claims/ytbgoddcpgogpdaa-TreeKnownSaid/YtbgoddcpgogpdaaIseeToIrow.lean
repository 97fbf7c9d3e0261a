/-
  Slices as they are seen: the base of this folder (thin, after t4's).
-/
import Derived.Test.YtbgoddcpgogpdaaTrfToIp
import Derived.Test.YtbgoddcpgogpdaaBp2ToBrng
import Derived.Test.YtbgoddcpgogpdaaXseeToBord
import Derived.Laws.Slices
import Derived.Deep.AppendLies
import Derived.Deep.DrawnRows
namespace Go.Proofs.Ytbgoddcpgogpdaa
open Go.RowKit
theorem size6 (w : World) : (Go.sizeOf 33).run Try.prog w = .ok 1 w := by
  obtain ⟨i, hi, h0, h1, h2⟩ := info_parts (show (Try.prog.info? 33).map (fun i => (i.zero, i.size, i.bytes)) = some (some (.int .u64 0), 1, 8) by kernel_rfl)
  simp [Go.sizeOf, typeInfo, hi, h1]
end Go.Proofs.Ytbgoddcpgogpdaa

/-
  Rows of numbers: the base of this folder (thin, after t4's).
-/
namespace Go.Proofs.Ytbgoddcpgogpdaa
open Go.RowKit
theorem info6 : (Try.prog.info? 33).map (fun i => (i.zero, i.size, i.bytes)) = some (some (.int .u64 0), 1, 8) := by kernel_rfl
theorem infoS : (Try.prog.info? 26).map (fun i => (i.zero, i.size, i.bytes)) = some (some (.slice none 0 0), 1, 24) := by kernel_rfl
end Go.Proofs.Ytbgoddcpgogpdaa
