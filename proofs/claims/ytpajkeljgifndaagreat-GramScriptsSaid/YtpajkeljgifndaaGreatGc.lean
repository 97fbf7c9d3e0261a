/-
  Numbers of 32 bits as values: cmp.Less, rows of them, what is appended.
-/
import Derived.Test.YtpajkeljgifndaaGreatGp
import Derived.Test.YtpajkeljgifndaaGreatIapp
import Derived.BigQuiet
import Derived.Deep.QuietTactic
import Derived.Lib.SliceRun
import Derived.Shelf.Abstract
namespace Go.Proofs.YtpajkeljgifndaaGreat
open Go.RowKit Go.Shelf
def U3 (b : UInt32) : Value := .int .u32 b.toNat
theorem one3 (x : UInt32) : (U3 x).oneCell' = true := rfl
theorem info3 : (Tryz.prog.info? 38).map (fun i => (i.zero, i.size, i.bytes)) = some (some (.int .u32 0), 1, 4) := by kernel_rfl
theorem run_append3 (w : World) (S : Nat → Prop) (ty : TypeId) (v : Value) (l : List UInt32) (hrow : RowE 38 U3 w S v l) (x : Value) (n : Nat) (m : List UInt32) (hs : Src Tryz.prog 1 31 x n (m.map U3) w) (hn : n = m.length) (hb : l.length + m.length ≤ 17592186044416) :
    ∃ w' a cap, (Builtin.append_ #[31, 31] ty #[v, x]).run Tryz.prog w = .ok (.slice a (l.length + n) cap) w' ∧ RowE 38 U3 w' (Up S w.heap.size) (.slice a (l.length + n) cap) (l ++ m) ∧ Only S w w' :=
  run_appendE info3 Tryz.underlying31 rfl w S _ ty v l hrow x n m hs hn hb (by omega)
namespace G3
set_option maxHeartbeats 1000000 in
theorem nan_any (w : World) (x : Int) : Calls Tryz.prog 96 #[.int .u32 x] w fun e w' => e = .returned (.bool false) ∧ w' = w := by
  go_enter Tryz.func96, Tryz.ntmps96
  go_wp2
  go_ret
  exact ⟨by simp, rfl⟩
set_option maxHeartbeats 1000000 in
theorem cless_any (w : World) (x y : Int) : Calls Tryz.prog 76 #[.int .u32 x, .int .u32 y] w fun e w' => e = .returned (.bool (decide (x < y))) ∧ w' = w := by
  go_enter Tryz.func76, Tryz.ntmps76
  go_wp2_with (go_at_call 96; refine (nan_any _ _).mono ?_; rintro e w' ⟨rfl, rfl⟩)
  go_ret
  exact ⟨rfl, rfl⟩
end G3
end Go.Proofs.YtpajkeljgifndaaGreat
