/-
  Days: their numbers.
-/
import Derived.Test.YtkiaacphkmajeaaGreatDoorDay
namespace Go.Proofs.YtkiaacphkmajeaaGreatDoor
open Go.RowKit

set_option maxRecDepth 100000 in
set_option maxHeartbeats 2000000 in
theorem number_any (w : World) (y m d : Int) (y0 : 0 ≤ y) (y1 : y ≤ 10000) (m0 : 0 ≤ m) (m1 : m ≤ 99) (d0 : 0 ≤ d) (d1 : d ≤ 99) :
    Calls Tryz.prog 33 #[dayV (y, m, d)] w fun e w' => e = .returned (.int .i64 (dnum y m d)) ∧ Fr w.heap.size w w' := by
  have mixed := mixed
  simp only [dayV]
  by_cases hm : m < 3
  · have HD : Hid (dnum y m d = dTY (y + 400 - 1) + dTM (m - 3 + 12) + d - 1) := by
      show dnum y m d = _
      unfold dnum
      rw [if_pos hm]
      rw [show y + 400 - 1 = y + 399 by omega, show m - 3 + 12 = m + 9 by omega]
    have b1 := dTY_bd (y + 400 - 1) (by omega) (by omega)
    have b2 := dTM_bd (m - 3 + 12) (by omega) (by omega)
    have hy := fun w => daysToYear_any w (y + 400 - 1) (by omega) (by omega)
    have hq := fun w => daysToMonth_any w (m - 3 + 12) (by omega) (by omega)
    generalize dTY (y + 400 - 1) = Y at *
    generalize dTM (m - 3 + 12) = M at *
    obtain ⟨b11, b12⟩ := b1
    obtain ⟨b21, b22⟩ := b2
    go_enter Tryz.func33, Tryz.ntmps33
    go_wp2
    go_quiet (fail)
    go_wp2
    have hcl : ∀ n, (((w.alloc (Obj.cells #[Value.int IntKind.i64 y, Value.int IntKind.i64 m, Value.int IntKind.i64 d] 54)).drewN n).drew).cell? ⟨w.heap.size, 2, none⟩ = some (.int .i64 d) := fun n => heap_cell (heap_alloc_new w _) 2
    have hfin : ∀ n, Fr w.heap.size w (((w.alloc (Obj.cells #[Value.int IntKind.i64 y, Value.int IntKind.i64 m, Value.int IntKind.i64 d] 54)).drewN n).drew) := fun n => ((Fr.one _).drewN n).drew
    go_region_with_o (first
      | (go_at_call 68; refine (hy _).mono ?_; rintro e w3 ⟨rfl, rfl⟩)
      | (go_at_call 69; refine (hq _).mono ?_; rintro e w3 ⟨rfl, rfl⟩))
    all_goals go_wp2
    all_goals
      go_ret
      exact ⟨ret_i (by rw [HD.out]; rw [wrapI (x := Y + M) (by omega) (by omega), wrapI (x := Y + M + d) (by omega) (by omega), wrapI (x := Y + M + d - 1) (by omega) (by omega)]), hfin _⟩
  · have HD : Hid (dnum y m d = dTY (y + 400) + dTM (m - 3) + d - 1) := by
      show dnum y m d = _
      unfold dnum
      rw [if_neg hm]
    have b1 := dTY_bd (y + 400) (by omega) (by omega)
    have b2 := dTM_bd (m - 3) (by omega) (by omega)
    have hy := fun w => daysToYear_any w (y + 400) (by omega) (by omega)
    have hq := fun w => daysToMonth_any w (m - 3) (by omega) (by omega)
    generalize dTY (y + 400) = Y at *
    generalize dTM (m - 3) = M at *
    obtain ⟨b11, b12⟩ := b1
    obtain ⟨b21, b22⟩ := b2
    go_enter Tryz.func33, Tryz.ntmps33
    go_wp2
    go_quiet (fail)
    go_wp2
    have hcl : ∀ n, (((w.alloc (Obj.cells #[Value.int IntKind.i64 y, Value.int IntKind.i64 m, Value.int IntKind.i64 d] 54)).drewN n).drew).cell? ⟨w.heap.size, 2, none⟩ = some (.int .i64 d) := fun n => heap_cell (heap_alloc_new w _) 2
    have hfin : ∀ n, Fr w.heap.size w (((w.alloc (Obj.cells #[Value.int IntKind.i64 y, Value.int IntKind.i64 m, Value.int IntKind.i64 d] 54)).drewN n).drew) := fun n => ((Fr.one _).drewN n).drew
    go_region_with_o (first
      | (go_at_call 68; refine (hy _).mono ?_; rintro e w3 ⟨rfl, rfl⟩)
      | (go_at_call 69; refine (hq _).mono ?_; rintro e w3 ⟨rfl, rfl⟩))
    all_goals go_wp2
    all_goals
      go_ret
      exact ⟨ret_i (by rw [HD.out]; rw [wrapI (x := Y + M) (by omega) (by omega), wrapI (x := Y + M + d) (by omega) (by omega), wrapI (x := Y + M + d - 1) (by omega) (by omega)]), hfin _⟩
end Go.Proofs.YtkiaacphkmajeaaGreatDoor
