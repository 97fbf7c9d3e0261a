/-
  Days and their numbers.
-/
import Derived.Test.YtokgcgokmmagdaaGreatDoorTim
import Derived.Test.YtokgcgokmmagdaaGreatDoorNumToPost
namespace Go.Proofs.YtokgcgokmmagdaaGreatDoor
open Go.RowKit

theorem wrapI {x : Int} (h1 : -9223372036854775808 ≤ x) (h2 : x ≤ 9223372036854775807) : IntKind.i64.wrap x = x := by
  have e1 : (2 : Int) ^ IntKind.i64.bits = 18446744073709551616 := by decide
  have e2 : (2 : Int) ^ (IntKind.i64.bits - 1) = 9223372036854775808 := by decide
  have e3 : IntKind.i64.signed = true := rfl
  unfold IntKind.wrap
  simp only [e1, e2, e3, Bool.true_and, decide_eq_true_eq]
  split <;> omega
theorem heap_cell {w : World} {g : Nat} {cs : Array Value} {t : TypeId} (h : w.heap[g]? = some (.cells cs t)) (i : Nat) : w.cell? ⟨g, i, none⟩ = cs[i]? := by
  unfold World.cell?; rw [h]; rfl
theorem daysToYear_any (w : World) (y : Int) (h0 : 0 ≤ y) (h1 : y ≤ 100000) :
    Calls Tryz.prog 77 #[.int .i64 y] w fun e w' => e = .returned (.int .i64 (dTY y)) ∧ w' = w := by
  have HD : Hid (dTY y = 365 * y + y / 4 - y / 100 + y / 400) := rfl
  go_enter Tryz.func77, Tryz.ntmps77
  go_wp2
  go_ret
  exact ⟨ret_i (by rw [HD.out]), rfl⟩
theorem daysToMonth_any (w : World) (m : Int) (h0 : 0 ≤ m) (h1 : m ≤ 1000) :
    Calls Tryz.prog 78 #[.int .i64 m] w fun e w' => e = .returned (.int .i64 (dTM m)) ∧ w' = w := by
  have HD : Hid (dTM m = (153 * m + 2) / 5) := rfl
  go_enter Tryz.func78, Tryz.ntmps78
  go_wp2
  go_ret
  exact ⟨ret_i (by rw [HD.out]), rfl⟩
theorem dTY_bd (y : Int) (h0 : 0 ≤ y) (h1 : y ≤ 100000) : 0 ≤ dTY y ∧ dTY y ≤ 40000000 := by unfold dTY; omega
theorem dTM_bd (m : Int) (h0 : 0 ≤ m) (h1 : m ≤ 1000) : 0 ≤ dTM m ∧ dTM m ≤ 40000 := by unfold dTM; omega
/-- a day as a value -/
def dayV (d : Int × Int × Int) : Value := .agg #[.int .i64 d.1, .int .i64 d.2.1, .int .i64 d.2.2]


set_option maxRecDepth 100000 in
set_option maxHeartbeats 2000000 in
theorem dayOf_any (w : World) (n : Int) (h0 : 0 ≤ n) (h1 : n ≤ 10000000) :
    Calls Tryz.prog 102 #[.int .i64 n] w fun e w' => e = .returned (dayV (dayOf n)) ∧ Fr w.heap.size w w' := by
  have hs := yr_start n
  have he := yr_end n
  go_enter Tryz.func102, Tryz.ntmps102
  go_wp2
  go_loopw [3] (fun v wr => ∃ y : Int, v = .int .i64 y ∧ 0 ≤ y ∧ y ≤ 30000 ∧ n < dTY (y + 1) ∧ wr = w.alloc (Obj.cells #[Value.int IntKind.i64 0, Value.int IntKind.i64 0, Value.int IntKind.i64 0] 58)) (fun v _ => (intOf v).toNat)
  case atStart => exact ⟨n * 400 / 146097 + 1, rfl, by omega, by omega, hs, rfl⟩
  case round =>
    obtain ⟨y, rfl, y0, y1, hy, rfl⟩ := hrel
    have HY : Hid _ := hy
    clear hy hs he
    have hdy := fun w => daysToYear_any w y y0 (by omega)
    by_cases hlt : n < dTY y
    · have HL : Hid _ := hlt
      have hy1 : 1 ≤ y := by
        by_cases h : 1 ≤ y
        · exact h
        · have : y = 0 := by omega
          subst this
          have h2 := HL.out
          unfold dTY at h2; simp at h2; omega
      have HZ : Hid (n < dTY (y - 1 + 1)) := by show n < dTY (y - 1 + 1); rw [show y - 1 + 1 = y by omega]; exact HL.out
      generalize dTY y = Y at *
      go_wp2_with (go_at_call 77; refine (hdy _).mono ?_; rintro e w3 ⟨rfl, rfl⟩)
      go_roundw
      case rel => exact ⟨y - 1, rfl, by omega, by omega, HZ.out, trivial⟩
      case measure => simp [intOf]; omega
    · have hr := dayOf_at (n := n) (Y := y) (by omega) HY.out rfl rfl
      have hb := rest_bd (n := n) (Y := y) (by omega) HY.out
      have hbd := dTY_bd y y0 (by omega)
      obtain ⟨r0, r1, _⟩ := hb
      obtain ⟨d0, d1⟩ := hbd
      generalize dTY y = Y at *
      have HR : Hid _ := hr
      clear hr
      have hmo0 : 0 ≤ (5 * (n - Y) + 2) / 153 := by omega
      have hmo1 : (5 * (n - Y) + 2) / 153 ≤ 11 := by omega
      obtain ⟨mo, hmo⟩ : ∃ mo, (5 * (n - Y) + 2) / 153 = mo := ⟨_, rfl⟩
      rw [hmo] at HR hmo0 hmo1
      have hdm := fun w => daysToMonth_any w mo hmo0 (by omega)
      have hdb := dTM_bd mo hmo0 (by omega)
      obtain ⟨e0, e1⟩ := hdb
      generalize dTM mo = D at *
      by_cases h9 : 9 < mo
      · rw [if_pos h9] at HR
        go_wp2_with (first
          | (go_at_call 77; refine (hdy _).mono ?_; rintro e w3 ⟨rfl, rfl⟩)
          | (go_at_call 78; refine (hdm _).mono ?_; rintro e w3 ⟨rfl, rfl⟩))
        refine post_c rfl rfl w.heap.size _ rfl (run_loadVar_row (P := Tryz.prog) _ w.heap.size 58 58 _ _ _ (heap_alloc_new _ _) Tryz.underlying58 rfl (by kernel_rfl)) ?_
        exact ⟨by rw [HR.out]; rfl, Fr.one _⟩
      · rw [if_neg h9] at HR
        go_wp2_with (first
          | (go_at_call 77; refine (hdy _).mono ?_; rintro e w3 ⟨rfl, rfl⟩)
          | (go_at_call 78; refine (hdm _).mono ?_; rintro e w3 ⟨rfl, rfl⟩))
        refine post_c rfl rfl w.heap.size _ rfl (run_loadVar_row (P := Tryz.prog) _ w.heap.size 58 58 _ _ _ (heap_alloc_new _ _) Tryz.underlying58 rfl (by kernel_rfl)) ?_
        exact ⟨by rw [HR.out]; rfl, Fr.one _⟩
end Go.Proofs.YtokgcgokmmagdaaGreatDoor
