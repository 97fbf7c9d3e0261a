/-
  The calendar: a day and its number.
-/
import Derived.Test.YtimjmecogbkgfaaGreatDoorPtToLeaf
namespace Go.Proofs.YtimjmecogbkgfaaGreatDoor

def leapB (y : Int) : Bool := (decide (y % 4 = 0) && decide (y % 100 ≠ 0)) || decide (y % 400 = 0)
/-- how many days a month has -/
def dim (y m : Int) : Int := if m = 4 ∨ m = 6 ∨ m = 9 ∨ m = 11 then 30 else if m = 2 then (if leapB y then 29 else 28) else 31
def okDay (y m d : Int) : Prop := 1 ≤ m ∧ m ≤ 12 ∧ 1 ≤ d ∧ d ≤ dim y m

theorem dTY_succ (y : Int) : dTY (y + 1) = dTY y + 365 + (if leapB (y + 1) then 1 else 0) := by
  unfold dTY leapB
  by_cases h4 : (y + 1) % 4 = 0 <;> by_cases h100 : (y + 1) % 100 = 0 <;> by_cases h400 : (y + 1) % 400 = 0 <;> simp [h4, h100, h400] <;> omega
theorem dTY_lt {a b : Int} (h : a < b) : dTY (a + 1) ≤ dTY b := by unfold dTY; omega
theorem leap_400 (y : Int) : leapB (y + 400) = leapB y := by
  unfold leapB
  have h1 : (y + 400) % 4 = y % 4 := by omega
  have h2 : (y + 400) % 100 = y % 100 := by omega
  have h3 : (y + 400) % 400 = y % 400 := by omega
  rw [h1, h2, h3]
theorem yr_uniq {n a b : Int} (h1 : dTY a ≤ n) (h2 : n < dTY (a + 1)) (h3 : dTY b ≤ n) (h4 : n < dTY (b + 1)) : a = b := by
  rcases Int.lt_trichotomy a b with h | h | h
  · have := dTY_lt h; omega
  · exact h
  · have := dTY_lt h; omega
theorem yrGo_step (f : Nat) (y n : Int) (h : n < dTY y) : yrGo (f + 1) y n = yrGo f (y - 1) n := by rw [yrGo, if_pos h]
theorem yrGo_stop (f : Nat) (y n : Int) (h : ¬ n < dTY y) : yrGo (f + 1) y n = y := by rw [yrGo, if_neg h]
theorem yr_start (n : Int) : n < dTY (n * 400 / 146097 + 1 + 1) := by unfold dTY; omega
theorem yr_end (n : Int) : dTY (n * 400 / 146097 + 1 - 1 - 1) ≤ n := by unfold dTY; omega
theorem yearOf_spec (n : Int) : dTY (yearOf n) ≤ n ∧ n < dTY (yearOf n + 1) := by
  have h0 := yr_start n
  have h3 := yr_end n
  unfold yearOf
  generalize n * 400 / 146097 + 1 = y at *
  by_cases h1 : n < dTY y
  · rw [yrGo_step _ _ _ h1]
    by_cases h2 : n < dTY (y - 1)
    · rw [yrGo_step _ _ _ h2, yrGo_stop _ _ _ (by omega)]
      exact ⟨h3, by rw [show y - 1 - 1 + 1 = y - 1 by omega]; exact h2⟩
    · rw [yrGo_stop _ _ _ h2]
      exact ⟨by omega, by rw [show y - 1 + 1 = y by omega]; exact h1⟩
  · rw [yrGo_stop _ _ _ h1]
    exact ⟨by omega, h0⟩
theorem yearOf_eq {n y : Int} (h1 : dTY y ≤ n) (h2 : n < dTY (y + 1)) : yearOf n = y := yr_uniq (yearOf_spec n).1 (yearOf_spec n).2 h1 h2
theorem yearOf_pos {n : Int} (h : 0 ≤ n) : 0 ≤ yearOf n := by
  have := (yearOf_spec n).2
  unfold dTY at this
  omega

/-- what the day is that a year from March on and the days behind its beginning tell -/
theorem dayOf_at {n Y : Int} (h1 : dTY Y ≤ n) (h2 : n < dTY (Y + 1)) {r mo : Int} (hr : r = n - dTY Y) (hm : mo = (5 * r + 2) / 153) :
    dayOf n = if 9 < mo then (Y + 1 - 400, mo + 3 - 12, r - dTM mo + 1) else (Y - 400, mo + 3, r - dTM mo + 1) := by
  have e := yearOf_eq h1 h2
  subst hr hm
  unfold dayOf monOf
  rw [e]

theorem rest_bd {n Y : Int} (h1 : dTY Y ≤ n) (h2 : n < dTY (Y + 1)) : 0 ≤ n - dTY Y ∧ n - dTY Y ≤ 365 ∧ (leapB (Y + 1) = false → n - dTY Y ≤ 364) := by
  have := dTY_succ Y
  refine ⟨by omega, ?_, fun hl => ?_⟩
  · split at this <;> omega
  · rw [hl] at this; simp at this; omega

theorem dayOf_ok (n : Int) : okDay (dayOf n).1 (dayOf n).2.1 (dayOf n).2.2 ∧ dnum (dayOf n).1 (dayOf n).2.1 (dayOf n).2.2 = n := by
  obtain ⟨h1, h2⟩ := yearOf_spec n
  obtain ⟨b1, b2, b3⟩ := rest_bd h1 h2
  have e := dayOf_at h1 h2 rfl rfl
  generalize yearOf n = Y at *
  obtain ⟨r, hr⟩ : ∃ r, r = n - dTY Y := ⟨_, rfl⟩
  obtain ⟨mo, hm⟩ : ∃ mo, mo = (5 * r + 2) / 153 := ⟨_, rfl⟩
  rw [← hr] at b1 b2 b3 e
  rw [← hm] at e
  rw [e]
  have hmo : mo = 0 ∨ mo = 1 ∨ mo = 2 ∨ mo = 3 ∨ mo = 4 ∨ mo = 5 ∨ mo = 6 ∨ mo = 7 ∨ mo = 8 ∨ mo = 9 ∨ mo = 10 ∨ mo = 11 := by omega
  have hl : leapB (Y + 1 - 400) = leapB (Y + 1) := by rw [← leap_400 (Y + 1 - 400)]; congr 1; omega
  rcases hmo with h | h | h | h | h | h | h | h | h | h | h | h <;> subst h
  all_goals
    simp only [dTM, okDay, dim, dnum]
    simp only [show ¬ ((9:Int) < 0) by omega, Int.reduceMul, Int.reduceAdd, Int.reduceDiv, Int.reduceLT, Int.reduceEq, Int.reduceSub, if_true, if_false, or_self, or_false, or_true, Int.reduceLE, true_and]
    try rw [hl]
    try rw [show Y - 400 + 400 = Y by omega]
    try rw [show Y + 1 - 400 + 399 = Y by omega]
    first
      | omega
      | (cases hq : leapB (Y + 1) with
         | false => have := b3 hq; simp; omega
         | true => simp; omega)

theorem day_num {y m d : Int} (h : okDay y m d) : dayOf (dnum y m d) = (y, m, d) := by
  obtain ⟨m1, m2, d1, d2⟩ := h
  have hmm : m = 1 ∨ m = 2 ∨ m = 3 ∨ m = 4 ∨ m = 5 ∨ m = 6 ∨ m = 7 ∨ m = 8 ∨ m = 9 ∨ m = 10 ∨ m = 11 ∨ m = 12 := by omega
  have hs1 := dTY_succ (y + 399)
  have hs2 := dTY_succ (y + 400)
  rw [show y + 399 + 1 = y + 400 by omega, leap_400] at hs1
  have hg2 : 0 ≤ (if leapB (y + 400 + 1) then (1 : Int) else 0) := by split <;> omega
  have hg1 : 0 ≤ (if leapB y then (1 : Int) else 0) ∧ (if leapB y then (1 : Int) else 0) ≤ 1 := by split <;> omega
  have hd : d ≤ 31 := by unfold dim at d2; split at d2 <;> (try split at d2) <;> (try split at d2) <;> omega
  have hd2 : m = 2 → d ≤ 28 + (if leapB y then (1 : Int) else 0) := by
    intro hm; subst hm; unfold dim at d2; simp at d2; split at d2 <;> simp_all
  have hd3 : m = 4 ∨ m = 6 ∨ m = 9 ∨ m = 11 → d ≤ 30 := by intro hm; unfold dim at d2; rw [if_pos hm] at d2; exact d2
  generalize (if leapB y then (1 : Int) else 0) = L at *
  generalize (if leapB (y + 400 + 1) then (1 : Int) else 0) = L2 at *
  clear d2
  rcases hmm with h | h | h | h | h | h | h | h | h | h | h | h <;> subst h
  all_goals
    simp only [dnum, dTM] at *
    simp at *
  all_goals
    first
      | (rw [dayOf_at (Y := y + 399) (by omega) (by rw [show y + 399 + 1 = y + 400 by omega]; omega) rfl rfl]
         simp only [dTM]
         rw [if_pos (by omega)]
         refine Prod.ext (by simp; omega) (Prod.ext (by simp; omega) (by simp; omega)))
      | (rw [dayOf_at (Y := y + 400) (by omega) (by omega) rfl rfl]
         simp only [dTM]
         rw [if_neg (by omega)]
         refine Prod.ext (by simp) (Prod.ext (by simp; omega) (by simp; omega)))
/-- a day is one of the calendar just if its number tells it -/
theorem day_iff (y m d : Int) : dayOf (dnum y m d) = (y, m, d) ↔ okDay y m d := by
  refine ⟨fun h => ?_, day_num⟩
  have := (dayOf_ok (dnum y m d)).1
  rw [h] at this
  exact this
/-- the number is what the day is sought by -/
theorem dnum_uniq {n y m d : Int} (h : okDay y m d) (e : dnum y m d = n) : dayOf n = (y, m, d) := by rw [← e]; exact day_num h
end Go.Proofs.YtimjmecogbkgfaaGreatDoor
