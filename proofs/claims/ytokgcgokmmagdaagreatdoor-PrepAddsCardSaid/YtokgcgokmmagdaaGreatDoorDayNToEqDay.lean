/-
  Days: their numbers.
-/
import Derived.Test.YtokgcgokmmagdaaGreatDoorDay
namespace Go.Proofs.YtokgcgokmmagdaaGreatDoor
open Go.RowKit

set_option maxRecDepth 100000 in
set_option maxHeartbeats 2000000 in
theorem number_any (w : World) (y m d : Int) (y0 : 0 ≤ y) (y1 : y ≤ 10000) (m0 : 0 ≤ m) (m1 : m ≤ 99) (d0 : 0 ≤ d) (d1 : d ≤ 99) :
    Calls Tryz.prog 39 #[dayV (y, m, d)] w fun e w' => e = .returned (.int .i64 (dnum y m d)) ∧ Fr w.heap.size w w' := by
  have mixed := mixed
  simp only [dayV]
  by_cases hm : m < 3
  · have HD : Hid (dnum y m d = dTY (y + 400 - 1) + dTM (m - 3 + 12) + d - 1) := by
      show dnum y m d = _
      unfold dnum
      rw [if_pos hm]
      rw [show y + 400 - 1 = y + 399 by omega, show m - 3 + 12 = m + 9 by omega]
    have b1 := dTY_bd (y + 400 - 1) (by omega) (by omega)
    have b2 := dTM_bd (m - 3 + 12) (by omega) (by omega)
    have hy := fun w => daysToYear_any w (y + 400 - 1) (by omega) (by omega)
    have hq := fun w => daysToMonth_any w (m - 3 + 12) (by omega) (by omega)
    generalize dTY (y + 400 - 1) = Y at *
    generalize dTM (m - 3 + 12) = M at *
    obtain ⟨b11, b12⟩ := b1
    obtain ⟨b21, b22⟩ := b2
    go_enter Tryz.func39, Tryz.ntmps39
    go_wp2
    go_quiet (fail)
    go_wp2
    have hcl : ∀ n, (((w.alloc (Obj.cells #[Value.int IntKind.i64 y, Value.int IntKind.i64 m, Value.int IntKind.i64 d] 58)).drewN n).drew).cell? ⟨w.heap.size, 2, none⟩ = some (.int .i64 d) := fun n => heap_cell (heap_alloc_new w _) 2
    have hfin : ∀ n, Fr w.heap.size w (((w.alloc (Obj.cells #[Value.int IntKind.i64 y, Value.int IntKind.i64 m, Value.int IntKind.i64 d] 58)).drewN n).drew) := fun n => ((Fr.one _).drewN n).drew
    go_region_with_o (first
      | (go_at_call 77; refine (hy _).mono ?_; rintro e w3 ⟨rfl, rfl⟩)
      | (go_at_call 78; refine (hq _).mono ?_; rintro e w3 ⟨rfl, rfl⟩))
    all_goals go_wp2
    all_goals
      go_ret
      exact ⟨ret_i (by rw [HD.out]; rw [wrapI (x := Y + M) (by omega) (by omega), wrapI (x := Y + M + d) (by omega) (by omega), wrapI (x := Y + M + d - 1) (by omega) (by omega)]), hfin _⟩
  · have HD : Hid (dnum y m d = dTY (y + 400) + dTM (m - 3) + d - 1) := by
      show dnum y m d = _
      unfold dnum
      rw [if_neg hm]
    have b1 := dTY_bd (y + 400) (by omega) (by omega)
    have b2 := dTM_bd (m - 3) (by omega) (by omega)
    have hy := fun w => daysToYear_any w (y + 400) (by omega) (by omega)
    have hq := fun w => daysToMonth_any w (m - 3) (by omega) (by omega)
    generalize dTY (y + 400) = Y at *
    generalize dTM (m - 3) = M at *
    obtain ⟨b11, b12⟩ := b1
    obtain ⟨b21, b22⟩ := b2
    go_enter Tryz.func39, Tryz.ntmps39
    go_wp2
    go_quiet (fail)
    go_wp2
    have hcl : ∀ n, (((w.alloc (Obj.cells #[Value.int IntKind.i64 y, Value.int IntKind.i64 m, Value.int IntKind.i64 d] 58)).drewN n).drew).cell? ⟨w.heap.size, 2, none⟩ = some (.int .i64 d) := fun n => heap_cell (heap_alloc_new w _) 2
    have hfin : ∀ n, Fr w.heap.size w (((w.alloc (Obj.cells #[Value.int IntKind.i64 y, Value.int IntKind.i64 m, Value.int IntKind.i64 d] 58)).drewN n).drew) := fun n => ((Fr.one _).drewN n).drew
    go_region_with_o (first
      | (go_at_call 77; refine (hy _).mono ?_; rintro e w3 ⟨rfl, rfl⟩)
      | (go_at_call 78; refine (hq _).mono ?_; rintro e w3 ⟨rfl, rfl⟩))
    all_goals go_wp2
    all_goals
      go_ret
      exact ⟨ret_i (by rw [HD.out]; rw [wrapI (x := Y + M) (by omega) (by omega), wrapI (x := Y + M + d) (by omega) (by omega), wrapI (x := Y + M + d - 1) (by omega) (by omega)]), hfin _⟩
end Go.Proofs.YtokgcgokmmagdaaGreatDoor

/-
  Two days held against one another; how great a clock's time can be.
-/
namespace Go.Proofs.YtokgcgokmmagdaaGreatDoor
open Go.RowKit

theorem eqDay (a b c d e f : Int) (w : World) : (Op.equalIn 10000 58 (.agg #[.int .i64 a, .int .i64 b, .int .i64 c]) (.agg #[.int .i64 d, .int .i64 e, .int .i64 f])).run Tryz.prog w = .ok (a == d && b == e && c == f) w := by
  have u3 := Tryz.underlying3
  have a3 := Tryz.isAgg3
  have z3 := Tryz.sizeOf3
  rw [show (10000 : Nat) = 9999 + 1 from rfl, Op.equalIn]
  simp only [Sem.run_bind, run_underlying Tryz.underlying58, Result.andThen_ok]
  simp only [Std.Legacy.Range.forIn_eq_forIn_range', Std.Legacy.Range.size, Nat.sub_zero, Nat.add_sub_cancel, Nat.div_one, List.range'_succ, List.range'_zero, List.forIn_cons, List.forIn_nil]
  go_simp
  by_cases h1 : a = d <;> by_cases h2 : b = e <;> by_cases h3 : c = f <;> simp [h1, h2, h3]
theorem clockGo_bd : ∀ (k : Nat) (u m : Nat) (l : List UInt8) (n : Nat), l.length ≤ 2 * k → u ≤ 3600 → clockGo u m l = some n → n ≤ k * 360000
  | 0, u, m, l, n, hl, _, h => by
    have : l = [] := List.eq_nil_of_length_eq_zero (by omega)
    subst this
    simp [clockGo] at h; omega
  | k + 1, u, m, [], n, _, _, h => by simp [clockGo] at h; omega
  | k + 1, u, m, [_], n, _, _, h => by simp [clockGo] at h
  | k + 1, u, m, a :: b :: t, n, hl, hu, h => by
    rw [clockGo] at h
    cases hd : digsL [a, b] with
    | none => rw [hd] at h; cases h
    | some x =>
      cases hr : clockGo (u / 60) 59 t with
      | none => rw [hd, hr] at h; cases h
      | some r =>
        rw [hd, hr] at h
        dsimp only at h
        split at h
        · cases h
          have h1 := digs_len _ _ hd
          have h2 := clockGo_bd k (u / 60) 59 t r (by simp at hl; omega) (by omega) hr
          have h3 : x * u ≤ 99 * 3600 := Nat.mul_le_mul (by simp at h1; omega) hu
          omega
        · cases h
theorem clock_bd (l : List UInt8) (n : Nat) (hl : l.length ≤ 6) (h : clockL l = some n) : n ≤ 1080000 := clockGo_bd 3 3600 23 l n (by omega) (by omega) h
end Go.Proofs.YtokgcgokmmagdaaGreatDoor
