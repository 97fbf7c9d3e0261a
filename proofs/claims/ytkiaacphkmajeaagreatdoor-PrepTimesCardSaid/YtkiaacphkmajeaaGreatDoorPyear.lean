/-
  Years by the number of a day.
-/
import Derived.Test.YtkiaacphkmajeaaGreatDoorPd
namespace Go.Proofs.YtkiaacphkmajeaaGreatDoor

theorem dnum_year (y : Int) : dnum y 1 1 = dTY (y + 399) + 306 := by unfold dnum dTM; simp
theorem dTM_bds (m : Int) (h1 : 0 ≤ m) (h2 : m ≤ 11) : 0 ≤ dTM m ∧ dTM m ≤ 337 := by unfold dTM; omega
/-- a day lies in its year -/
theorem day_in (y m d : Int) (h : okDay y m d) : dnum y 1 1 ≤ dnum y m d ∧ dnum y m d < dnum (y + 1) 1 1 := by
  obtain ⟨h1, h2, h3, h4⟩ := h
  rw [dnum_year, dnum_year]
  have hs := dTY_succ (y + 399)
  rw [show y + 399 + 1 = y + 400 by omega, leap_400] at hs
  rw [show y + 1 + 399 = y + 400 by omega]
  have hm : m = 1 ∨ m = 2 ∨ m = 3 ∨ m = 4 ∨ m = 5 ∨ m = 6 ∨ m = 7 ∨ m = 8 ∨ m = 9 ∨ m = 10 ∨ m = 11 ∨ m = 12 := by omega
  cases hl : leapB y <;> rw [hl] at hs <;> rcases hm with rfl | rfl | rfl | rfl | rfl | rfl | rfl | rfl | rfl | rfl | rfl | rfl <;> simp [dnum, dim, dTM, hl] at h4 hs ⊢ <;> omega
theorem year_mono {a b : Int} (h : a ≤ b) : dnum a 1 1 ≤ dnum b 1 1 := by
  rw [dnum_year, dnum_year]
  unfold dTY
  omega
theorem year_lo (n k : Int) : k ≤ (dayOf n).1 ↔ dnum k 1 1 ≤ n := by
  obtain ⟨ho, hn⟩ := dayOf_ok n
  obtain ⟨h1, h2⟩ := day_in _ _ _ ho
  rw [hn] at h1 h2
  constructor
  · intro h
    exact Int.le_trans (year_mono h) h1
  · intro h
    rcases Int.lt_or_le (dayOf n).1 k with hl | hl
    · have := year_mono (show (dayOf n).1 + 1 ≤ k by omega)
      omega
    · exact hl
theorem year_in (n : Int) : (0 ≤ (dayOf n).1 ∧ (dayOf n).1 ≤ 9999) ↔ (dnum 0 1 1 ≤ n ∧ n < dnum 10000 1 1) := by
  have a := year_lo n 0
  have b := year_lo n 10000
  constructor
  · intro ⟨h1, h2⟩
    refine ⟨a.1 h1, ?_⟩
    rcases Int.lt_or_le n (dnum 10000 1 1) with h | h
    · exact h
    · have := b.2 h; omega
  · intro ⟨h1, h2⟩
    refine ⟨a.2 h1, ?_⟩
    rcases Int.lt_or_le 9999 (dayOf n).1 with h | h
    · have := b.1 (by omega); omega
    · exact h
end Go.Proofs.YtkiaacphkmajeaaGreatDoor
