/-
  Days and their numbers.
-/
import Derived.Test.YtimjmecogbkgfabGreatDoorTim
import Derived.Test.YtimjmecogbkgfabGreatDoorNumToNumO
namespace Go.Proofs.YtimjmecogbkgfabGreatDoor
open Go.RowKit

theorem wrapI {x : Int} (h1 : -9223372036854775808 ≤ x) (h2 : x ≤ 9223372036854775807) : IntKind.i64.wrap x = x := by
  have e1 : (2 : Int) ^ IntKind.i64.bits = 18446744073709551616 := by decide
  have e2 : (2 : Int) ^ (IntKind.i64.bits - 1) = 9223372036854775808 := by decide
  have e3 : IntKind.i64.signed = true := rfl
  unfold IntKind.wrap
  simp only [e1, e2, e3, Bool.true_and, decide_eq_true_eq]
  split <;> omega
theorem heap_cell {w : World} {g : Nat} {cs : Array Value} {t : TypeId} (h : w.heap[g]? = some (.cells cs t)) (i : Nat) : w.cell? ⟨g, i, none⟩ = cs[i]? := by
  unfold World.cell?; rw [h]; rfl
theorem daysToYear_any (w : World) (y : Int) (h0 : 0 ≤ y) (h1 : y ≤ 100000) :
    Calls Tryz.prog 59 #[.int .i64 y] w fun e w' => e = .returned (.int .i64 (dTY y)) ∧ w' = w := by
  have HD : Hid (dTY y = 365 * y + y / 4 - y / 100 + y / 400) := rfl
  go_enter Tryz.func59, Tryz.ntmps59
  go_wp2
  go_ret
  exact ⟨ret_i (by rw [HD.out]), rfl⟩
theorem daysToMonth_any (w : World) (m : Int) (h0 : 0 ≤ m) (h1 : m ≤ 1000) :
    Calls Tryz.prog 60 #[.int .i64 m] w fun e w' => e = .returned (.int .i64 (dTM m)) ∧ w' = w := by
  have HD : Hid (dTM m = (153 * m + 2) / 5) := rfl
  go_enter Tryz.func60, Tryz.ntmps60
  go_wp2
  go_ret
  exact ⟨ret_i (by rw [HD.out]), rfl⟩
theorem dTY_bd (y : Int) (h0 : 0 ≤ y) (h1 : y ≤ 100000) : 0 ≤ dTY y ∧ dTY y ≤ 40000000 := by unfold dTY; omega
theorem dTM_bd (m : Int) (h0 : 0 ≤ m) (h1 : m ≤ 1000) : 0 ≤ dTM m ∧ dTM m ≤ 40000 := by unfold dTM; omega
/-- a day as a value -/
def dayV (d : Int × Int × Int) : Value := .agg #[.int .i64 d.1, .int .i64 d.2.1, .int .i64 d.2.2]


set_option maxRecDepth 100000 in
set_option maxHeartbeats 2000000 in
theorem dayOf_any (w : World) (n : Int) (h0 : 0 ≤ n) (h1 : n ≤ 10000000) :
    Calls Tryz.prog 74 #[.int .i64 n] w fun e w' => e = .returned (dayV (dayOf n)) ∧ Fr w.heap.size w w' := by
  have hs := yr_start n
  have he := yr_end n
  go_enter Tryz.func74, Tryz.ntmps74
  go_wp2
  go_loopw [3] (fun v wr => ∃ y : Int, v = .int .i64 y ∧ 0 ≤ y ∧ y ≤ 30000 ∧ n < dTY (y + 1) ∧ wr = w.alloc (Obj.cells #[Value.int IntKind.i64 0, Value.int IntKind.i64 0, Value.int IntKind.i64 0] 72)) (fun v _ => (intOf v).toNat)
  case atStart => exact ⟨n * 400 / 146097 + 1, rfl, by omega, by omega, hs, rfl⟩
  case round =>
    obtain ⟨y, rfl, y0, y1, hy, rfl⟩ := hrel
    have HY : Hid _ := hy
    clear hy hs he
    have hdy := fun w => daysToYear_any w y y0 (by omega)
    by_cases hlt : n < dTY y
    · have HL : Hid _ := hlt
      have hy1 : 1 ≤ y := by
        by_cases h : 1 ≤ y
        · exact h
        · have : y = 0 := by omega
          subst this
          have h2 := HL.out
          unfold dTY at h2; simp at h2; omega
      have HZ : Hid (n < dTY (y - 1 + 1)) := by show n < dTY (y - 1 + 1); rw [show y - 1 + 1 = y by omega]; exact HL.out
      generalize dTY y = Y at *
      go_wp2_with (go_at_call 59; refine (hdy _).mono ?_; rintro e w3 ⟨rfl, rfl⟩)
      go_roundw
      case rel => exact ⟨y - 1, rfl, by omega, by omega, HZ.out, trivial⟩
      case measure => simp [intOf]; omega
    · have hr := dayOf_at (n := n) (Y := y) (by omega) HY.out rfl rfl
      have hb := rest_bd (n := n) (Y := y) (by omega) HY.out
      have hbd := dTY_bd y y0 (by omega)
      obtain ⟨r0, r1, _⟩ := hb
      obtain ⟨d0, d1⟩ := hbd
      generalize dTY y = Y at *
      have HR : Hid _ := hr
      clear hr
      have hmo0 : 0 ≤ (5 * (n - Y) + 2) / 153 := by omega
      have hmo1 : (5 * (n - Y) + 2) / 153 ≤ 11 := by omega
      obtain ⟨mo, hmo⟩ : ∃ mo, (5 * (n - Y) + 2) / 153 = mo := ⟨_, rfl⟩
      rw [hmo] at HR hmo0 hmo1
      have hdm := fun w => daysToMonth_any w mo hmo0 (by omega)
      have hdb := dTM_bd mo hmo0 (by omega)
      obtain ⟨e0, e1⟩ := hdb
      generalize dTM mo = D at *
      by_cases h9 : 9 < mo
      · rw [if_pos h9] at HR
        go_wp2_with (first
          | (go_at_call 59; refine (hdy _).mono ?_; rintro e w3 ⟨rfl, rfl⟩)
          | (go_at_call 60; refine (hdm _).mono ?_; rintro e w3 ⟨rfl, rfl⟩))
        refine post_c rfl rfl w.heap.size _ rfl (run_loadVar_row (P := Tryz.prog) _ w.heap.size 72 72 _ _ _ (heap_alloc_new _ _) Tryz.underlying72 rfl (by kernel_rfl)) ?_
        exact ⟨by rw [HR.out]; rfl, Fr.one _⟩
      · rw [if_neg h9] at HR
        go_wp2_with (first
          | (go_at_call 59; refine (hdy _).mono ?_; rintro e w3 ⟨rfl, rfl⟩)
          | (go_at_call 60; refine (hdm _).mono ?_; rintro e w3 ⟨rfl, rfl⟩))
        refine post_c rfl rfl w.heap.size _ rfl (run_loadVar_row (P := Tryz.prog) _ w.heap.size 72 72 _ _ _ (heap_alloc_new _ _) Tryz.underlying72 rfl (by kernel_rfl)) ?_
        exact ⟨by rw [HR.out]; rfl, Fr.one _⟩
end Go.Proofs.YtimjmecogbkgfabGreatDoor

/-
  Days: their numbers.
-/
namespace Go.Proofs.YtimjmecogbkgfabGreatDoor
open Go.RowKit

set_option maxRecDepth 100000 in
set_option maxHeartbeats 2000000 in
theorem number_any (w : World) (y m d : Int) (y0 : 0 ≤ y) (y1 : y ≤ 10000) (m0 : 0 ≤ m) (m1 : m ≤ 99) (d0 : 0 ≤ d) (d1 : d ≤ 99) :
    Calls Tryz.prog 37 #[dayV (y, m, d)] w fun e w' => e = .returned (.int .i64 (dnum y m d)) ∧ Fr w.heap.size w w' := by
  have mixed := mixed
  simp only [dayV]
  by_cases hm : m < 3
  · have HD : Hid (dnum y m d = dTY (y + 400 - 1) + dTM (m - 3 + 12) + d - 1) := by
      show dnum y m d = _
      unfold dnum
      rw [if_pos hm]
      rw [show y + 400 - 1 = y + 399 by omega, show m - 3 + 12 = m + 9 by omega]
    have b1 := dTY_bd (y + 400 - 1) (by omega) (by omega)
    have b2 := dTM_bd (m - 3 + 12) (by omega) (by omega)
    have hy := fun w => daysToYear_any w (y + 400 - 1) (by omega) (by omega)
    have hq := fun w => daysToMonth_any w (m - 3 + 12) (by omega) (by omega)
    generalize dTY (y + 400 - 1) = Y at *
    generalize dTM (m - 3 + 12) = M at *
    obtain ⟨b11, b12⟩ := b1
    obtain ⟨b21, b22⟩ := b2
    go_enter Tryz.func37, Tryz.ntmps37
    go_wp2
    go_quiet (fail)
    go_wp2
    have hcl : ∀ n, (((w.alloc (Obj.cells #[Value.int IntKind.i64 y, Value.int IntKind.i64 m, Value.int IntKind.i64 d] 72)).drewN n).drew).cell? ⟨w.heap.size, 2, none⟩ = some (.int .i64 d) := fun n => heap_cell (heap_alloc_new w _) 2
    have hfin : ∀ n, Fr w.heap.size w (((w.alloc (Obj.cells #[Value.int IntKind.i64 y, Value.int IntKind.i64 m, Value.int IntKind.i64 d] 72)).drewN n).drew) := fun n => ((Fr.one _).drewN n).drew
    go_region_with_o (first
      | (go_at_call 59; refine (hy _).mono ?_; rintro e w3 ⟨rfl, rfl⟩)
      | (go_at_call 60; refine (hq _).mono ?_; rintro e w3 ⟨rfl, rfl⟩))
    all_goals go_wp2
    all_goals
      go_ret
      exact ⟨ret_i (by rw [HD.out]; rw [wrapI (x := Y + M) (by omega) (by omega), wrapI (x := Y + M + d) (by omega) (by omega), wrapI (x := Y + M + d - 1) (by omega) (by omega)]), hfin _⟩
  · have HD : Hid (dnum y m d = dTY (y + 400) + dTM (m - 3) + d - 1) := by
      show dnum y m d = _
      unfold dnum
      rw [if_neg hm]
    have b1 := dTY_bd (y + 400) (by omega) (by omega)
    have b2 := dTM_bd (m - 3) (by omega) (by omega)
    have hy := fun w => daysToYear_any w (y + 400) (by omega) (by omega)
    have hq := fun w => daysToMonth_any w (m - 3) (by omega) (by omega)
    generalize dTY (y + 400) = Y at *
    generalize dTM (m - 3) = M at *
    obtain ⟨b11, b12⟩ := b1
    obtain ⟨b21, b22⟩ := b2
    go_enter Tryz.func37, Tryz.ntmps37
    go_wp2
    go_quiet (fail)
    go_wp2
    have hcl : ∀ n, (((w.alloc (Obj.cells #[Value.int IntKind.i64 y, Value.int IntKind.i64 m, Value.int IntKind.i64 d] 72)).drewN n).drew).cell? ⟨w.heap.size, 2, none⟩ = some (.int .i64 d) := fun n => heap_cell (heap_alloc_new w _) 2
    have hfin : ∀ n, Fr w.heap.size w (((w.alloc (Obj.cells #[Value.int IntKind.i64 y, Value.int IntKind.i64 m, Value.int IntKind.i64 d] 72)).drewN n).drew) := fun n => ((Fr.one _).drewN n).drew
    go_region_with_o (first
      | (go_at_call 59; refine (hy _).mono ?_; rintro e w3 ⟨rfl, rfl⟩)
      | (go_at_call 60; refine (hq _).mono ?_; rintro e w3 ⟨rfl, rfl⟩))
    all_goals go_wp2
    all_goals
      go_ret
      exact ⟨ret_i (by rw [HD.out]; rw [wrapI (x := Y + M) (by omega) (by omega), wrapI (x := Y + M + d) (by omega) (by omega), wrapI (x := Y + M + d - 1) (by omega) (by omega)]), hfin _⟩
end Go.Proofs.YtimjmecogbkgfabGreatDoor

/-
  Two days held against one another; how great a clock's time can be.
-/
namespace Go.Proofs.YtimjmecogbkgfabGreatDoor
open Go.RowKit

theorem eqDay (a b c d e f : Int) (w : World) : (Op.equalIn 10000 72 (.agg #[.int .i64 a, .int .i64 b, .int .i64 c]) (.agg #[.int .i64 d, .int .i64 e, .int .i64 f])).run Tryz.prog w = .ok (a == d && b == e && c == f) w := by
  have u3 := Tryz.underlying3
  have a3 := Tryz.isAgg3
  have z3 := Tryz.sizeOf3
  rw [show (10000 : Nat) = 9999 + 1 from rfl, Op.equalIn]
  simp only [Sem.run_bind, run_underlying Tryz.underlying72, Result.andThen_ok]
  simp only [Std.Legacy.Range.forIn_eq_forIn_range', Std.Legacy.Range.size, Nat.sub_zero, Nat.add_sub_cancel, Nat.div_one, List.range'_succ, List.range'_zero, List.forIn_cons, List.forIn_nil]
  go_simp
  by_cases h1 : a = d <;> by_cases h2 : b = e <;> by_cases h3 : c = f <;> simp [h1, h2, h3]
theorem clockGo_bd : ∀ (k : Nat) (u m : Nat) (l : List UInt8) (n : Nat), l.length ≤ 2 * k → u ≤ 3600 → clockGo u m l = some n → n ≤ k * 360000
  | 0, u, m, l, n, hl, _, h => by
    have : l = [] := List.eq_nil_of_length_eq_zero (by omega)
    subst this
    simp [clockGo] at h; omega
  | k + 1, u, m, [], n, _, _, h => by simp [clockGo] at h; omega
  | k + 1, u, m, [_], n, _, _, h => by simp [clockGo] at h
  | k + 1, u, m, a :: b :: t, n, hl, hu, h => by
    rw [clockGo] at h
    cases hd : digsL [a, b] with
    | none => rw [hd] at h; cases h
    | some x =>
      cases hr : clockGo (u / 60) 59 t with
      | none => rw [hd, hr] at h; cases h
      | some r =>
        rw [hd, hr] at h
        dsimp only at h
        split at h
        · cases h
          have h1 := digs_len _ _ hd
          have h2 := clockGo_bd k (u / 60) 59 t r (by simp at hl; omega) (by omega) hr
          have h3 : x * u ≤ 99 * 3600 := Nat.mul_le_mul (by simp at h1; omega) hu
          omega
        · cases h
theorem clock_bd (l : List UInt8) (n : Nat) (hl : l.length ≤ 6) (h : clockL l = some n) : n ≤ 1080000 := clockGo_bd 3 3600 23 l n (by omega) (by omega) h
end Go.Proofs.YtimjmecogbkgfabGreatDoor
