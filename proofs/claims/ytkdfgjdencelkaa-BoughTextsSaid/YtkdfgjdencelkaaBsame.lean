/-
  rosterlaw12.same of a list and itself.
-/
import Derived.Test.YtkdfgjdencelkaaBrt7
import Derived.Test.YtkdfgjdencelkaaBrkT
import Derived.Shelf.RegionOpenPlain
namespace Go.Proofs.Ytkdfgjdencelkaa
open Go.RowKit
theorem eql_int (a : Addr) : ∀ W, (binOp .eql 109 (.pointer (some a)) (.pointer (some a))).run Try.prog W = .ok (.bool true) W := by
  intro w
  have hu : Try.prog.underlying 109 = some (.pointer 3) := by kernel_rfl
  have hi := infoN
  cases hj : Try.prog.info? 3 with
  | none => rw [hj] at hi; cases hi
  | some j => rw [run_eql_ptr_same w _ hu hj]
section
set_option maxRecDepth 100000
set_option maxHeartbeats 4000000
theorem same_nil (w : World) (a a' : Option Addr) (cap cap' : Nat) : Calls Try.prog 26 #[.slice a 0 cap, .slice a' 0 cap'] w fun e w' => e = .returned (.bool true) ∧ Ext w w' := by
  have mixed := (by kernel_rfl : Try.prog.follows Departure.mixedOrders = true)
  go_enter Try.func26, Try.ntmps26
  go_wp2
  go_region_o
  all_goals go_wp2
  all_goals go_ret
  all_goals exact ⟨rfl, (Ext.refl w).drew⟩
theorem same_self (w : World) (g o n cap : Nat) (hn : 0 < n) (hm : n ≤ 9223372036854775807) : Calls Try.prog 26 #[.slice (some ⟨g, o, none⟩) n cap, .slice (some ⟨g, o, none⟩) n cap] w fun e w' => e = .returned (.bool true) ∧ Ext w w' := by
  have mixed := (by kernel_rfl : Try.prog.follows Departure.mixedOrders = true)
  have h1 : ¬ (n : Int) = 0 := by omega
  have h2 : (0 : Int) < (n : Int) := by omega
  have h3 : ¬ n = 0 := by omega
  have h4 : decide ((n : Int) = 0) = false := decide_eq_false h1
  have h5 : ((n : Int) == 0) = false := by simpa using h1
  have h6 : decide (0 < n) = true := decide_eq_true hn
  have heq := eql_int ⟨g, o, none⟩
  go_enter Try.func26, Try.ntmps26
  go_wp2
  go_region_o
  all_goals go_wp2
  all_goals go_ret
  all_goals exact ⟨rfl, (Ext.refl w).drew⟩
end
end Go.Proofs.Ytkdfgjdencelkaa
