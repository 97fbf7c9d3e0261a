/-
  The document's own date: how many days a day is behind 1970-01-01.
-/
import Derived.Test.YtimjmecogbkgfaaGreatDoorRMomToRDay
import Derived.Test.YtimjmecogbkgfaaGreatDoorAddToPd
namespace Go.Proofs.YtimjmecogbkgfaaGreatDoor
open Go.RowKit

/-- the first day of a month; of the thirteenth: of the next year -/
def mN (y m : Int) : Int := if m = 13 then dnum (y + 1) 1 1 else dnum y m 1
theorem mN_one (y : Int) : mN y 1 = dnum y 1 1 := by unfold mN; rw [if_neg (by omega)]
theorem mN_last (y : Int) : mN y 13 = dnum (y + 1) 1 1 := by unfold mN; rw [if_pos rfl]
theorem mN_mid (y m : Int) (h : m ≤ 12) : mN y m = dnum y m 1 := by unfold mN; rw [if_neg (by omega)]
theorem mN_step (y m : Int) (h1 : 1 ≤ m) (h2 : m ≤ 12) : mN y (m + 1) = mN y m + dim y m := by
  have hs := dTY_succ (y + 399)
  rw [show y + 399 + 1 = y + 400 by omega, leap_400] at hs
  have hm : m = 1 ∨ m = 2 ∨ m = 3 ∨ m = 4 ∨ m = 5 ∨ m = 6 ∨ m = 7 ∨ m = 8 ∨ m = 9 ∨ m = 10 ∨ m = 11 ∨ m = 12 := by omega
  have e : dTY (y + 1 + 399) = dTY (y + 400) := by rw [show y + 1 + 399 = y + 400 by omega]
  rcases hm with rfl | rfl | rfl | rfl | rfl | rfl | rfl | rfl | rfl | rfl | rfl | rfl <;> simp [mN, dnum, dim, dTM, e, hs] <;> (try split) <;> omega
theorem mN_bd (y m : Int) (h1 : 0 ≤ y) (h2 : y ≤ 10000) (h3 : 1 ≤ m) (h4 : m ≤ 13) : 0 ≤ mN y m ∧ mN y m ≤ 5000000 := by
  unfold mN dnum dTY dTM
  split
  · simp only [show (1 : Int) < 3 by omega, if_true]; omega
  · split <;> omega
theorem dnum_day (y m d : Int) : dnum y m d = dnum y m 1 + d - 1 := by
  unfold dnum; split <;> omega
theorem dim_bd (y m : Int) : 0 ≤ dim y m ∧ dim y m ≤ 31 := by
  unfold dim; (repeat' split) <;> omega

set_option maxRecDepth 100000 in
set_option maxHeartbeats 4000000 in
theorem date_r (w : World) (y m d : Nat) (hy : y ≤ 10000) (hm1 : 1 ≤ m) (hm2 : m ≤ 12) (hd : d ≤ 31) :
    Calls Tryz.prog 88 #[.int .i64 y, .int .i64 m, .int .i64 d] w fun e w' => e = .returned (.int .i64 (dnum y m d - 865565)) ∧ w' = w := by
  have hE : dnum 1970 1 1 = 865565 := by decide
  have HE : Hid _ := hE
  clear hE
  go_enter Tryz.func88, Tryz.ntmps88
  go_wp2
  go_loopw [7, 8] (fun a b wr => ∃ (k : Nat) (n : Int), 1970 ≤ k ∧ (k ≤ y ∨ k = 1970) ∧ a = .int .i64 n ∧ b = .int .i64 k ∧ n = mN k 1 - 865565 ∧ w = wr) (fun _ b _ => y - (intOf b).toNat)
  case atStart => exact ⟨1970, 0, by omega, .inr rfl, rfl, rfl, by rw [mN_one]; show (0 : Int) = dnum 1970 1 1 - 865565; rw [HE.out]; rfl, by trivial⟩
  case round =>
    obtain ⟨k, n, hk1, hk2, rfl, rfl, hn, rfl⟩ := hrel
    by_cases hlt : k < y
    · have hlt' : (k : Int) < (y : Int) := by omega
      go_wp2
      go_loopw [7, 9] (fun a b wr => ∃ (j : Nat) (n : Int), 1 ≤ j ∧ j ≤ 13 ∧ a = .int .i64 n ∧ b = .int .i64 j ∧ n = mN k j - 865565 ∧ w = wr) (fun _ b _ => 13 - (intOf b).toNat)
      case atStart => exact ⟨1, n, by omega, by omega, rfl, rfl, hn, by trivial⟩
      case round =>
        obtain ⟨j, q, hj1, hj2, rfl, rfl, hq, rfl⟩ := hrel
        obtain ⟨b1, b2⟩ := mN_bd k j (by omega) (by omega) (by omega) (by omega)
        by_cases hj : j ≤ 12
        · have hdy := fun w => days_r w k j (by omega) hj1 hj
          obtain ⟨c1, c2⟩ := dim_bd k j
          have HQ : Hid (q + dim k j = mN k ((j : Int) + 1) - 865565) := by show _ = _; rw [mN_step k j (by omega) (by omega), hq]; omega
          have hj' : (j : Int) ≤ 12 := by omega
          have q1 : -865565 ≤ q := by omega
          have q2 : q ≤ 5000000 := by omega
          clear hq hn b1 b2
          generalize dim k j = D at *
          go_wp2_with (go_at_call 86; refine (hdy _).mono ?_; rintro e w5 ⟨rfl, hw⟩; obtain rfl := hw.symm)
          go_roundw
          case rel => exact ⟨j + 1, q + D, by omega, by omega, rfl, by go_num, by rw [HQ.out]; push_cast; rfl, by trivial⟩
          case measure => simp [intOf]; omega
        · have hj' : ¬ (j : Int) ≤ 12 := by omega
          have HQ : Hid (q = mN ((k + 1 : Nat) : Int) 1 - 865565) := by
            show _ = _
            obtain rfl : j = 13 := by omega
            rw [hq, mN_one, show ((13 : Nat) : Int) = 13 from rfl, mN_last]; push_cast; rfl
          clear hq hn b1 b2
          go_wp2
          go_roundw
          case rel => exact ⟨k + 1, q, by omega, .inl (by omega), rfl, by go_num, HQ.out, by trivial⟩
          case measure => simp [intOf]; omega
    · have hlt' : (y : Int) ≤ (k : Int) := by omega
      have HN : Hid ((y ≤ 1970 ∧ n = 0) ∨ (1970 < y ∧ n = dnum y 1 1 - 865565)) := by
        rcases hk2 with h | h
        · obtain rfl : k = y := by omega
          rw [mN_one] at hn
          by_cases e : k = 1970
          · left
            subst e
            refine ⟨by omega, ?_⟩
            rw [hn]; show dnum 1970 1 1 - 865565 = 0; rw [HE.out]; rfl
          · right; exact ⟨by omega, hn⟩
        · left
          subst h
          refine ⟨by omega, ?_⟩
          rw [hn, mN_one]; show dnum 1970 1 1 - 865565 = 0; rw [HE.out]; rfl
      clear hn hk2
      go_wp2
      go_loopw [7, 10] (fun a b wr => ∃ (k : Nat) (n : Int), a = .int .i64 n ∧ b = .int .i64 k ∧ ((y ≤ k ∧ k ≤ 1970 ∧ n = dnum y 1 1 - mN k 1) ∨ (1970 < y ∧ k = y ∧ n = dnum y 1 1 - 865565)) ∧ w = wr) (fun _ b _ => 1970 - (intOf b).toNat)
      case atStart =>
        refine ⟨y, n, rfl, rfl, ?_, by trivial⟩
        rcases HN.out with ⟨h1, h2⟩ | ⟨h1, h2⟩
        · exact .inl ⟨Nat.le_refl _, h1, by rw [h2, mN_one]; omega⟩
        · exact .inr ⟨h1, rfl, h2⟩
      case round =>
        clear HN hlt'
        obtain ⟨k, n, rfl, rfl, hn, rfl⟩ := hrel
        by_cases hlt : k < 1970
        · have hlt' : (k : Int) < 1970 := by omega
          have hn2 : y ≤ k ∧ n = dnum y 1 1 - mN k 1 := by
            rcases hn with ⟨h1, _, h2⟩ | ⟨h1, h2, _⟩
            · exact ⟨h1, h2⟩
            · omega
          obtain ⟨hyk, hn3⟩ := hn2
          obtain ⟨a1, a2⟩ := mN_bd y 1 (by omega) (by omega) (by omega) (by omega)
          rw [mN_one] at a1 a2
          clear hn
          generalize dnum y 1 1 = Y at *
          go_wp2
          go_loopw [7, 11] (fun a b wr => ∃ (j : Nat) (n : Int), 1 ≤ j ∧ j ≤ 13 ∧ a = .int .i64 n ∧ b = .int .i64 j ∧ n = Y - mN k j ∧ w = wr) (fun _ b _ => 13 - (intOf b).toNat)
          case atStart => exact ⟨1, n, by omega, by omega, rfl, rfl, hn3, by trivial⟩
          case round =>
            obtain ⟨j, q, hj1, hj2, rfl, rfl, hq, rfl⟩ := hrel
            obtain ⟨b1, b2⟩ := mN_bd k j (by omega) (by omega) (by omega) (by omega)
            by_cases hj : j ≤ 12
            · have hdy := fun w => days_r w k j (by omega) hj1 hj
              obtain ⟨c1, c2⟩ := dim_bd k j
              have HQ : Hid (q - dim k j = Y - mN k ((j : Int) + 1)) := by show _ = _; rw [mN_step k j (by omega) (by omega), hq]; omega
              have hj' : (j : Int) ≤ 12 := by omega
              have q1 : -5000000 ≤ q := by omega
              have q2 : q ≤ 5000000 := by omega
              clear hq hn3 b1 b2
              generalize dim k j = D at *
              go_wp2_with (go_at_call 86; refine (hdy _).mono ?_; rintro e w5 ⟨rfl, hw⟩; obtain rfl := hw.symm)
              go_roundw
              case rel => exact ⟨j + 1, q - D, by omega, by omega, rfl, by go_num, by rw [HQ.out]; push_cast; rfl, by trivial⟩
              case measure => simp [intOf]; omega
            · have hj' : ¬ (j : Int) ≤ 12 := by omega
              have HQ : Hid (q = Y - mN ((k + 1 : Nat) : Int) 1) := by
                show _ = _
                obtain rfl : j = 13 := by omega
                rw [hq, mN_one, show ((13 : Nat) : Int) = 13 from rfl, mN_last]; push_cast; rfl
              clear hq hn3 b1 b2
              go_wp2
              go_roundw
              case rel => exact ⟨k + 1, q, rfl, by go_num, .inl ⟨by omega, by omega, HQ.out⟩, by trivial⟩
              case measure => simp [intOf]; omega
        · have hlt' : ¬ (k : Int) < 1970 := by omega
          have HN2 : Hid (n = mN y 1 - 865565) := by
            show n = _
            rw [mN_one]
            rcases hn with ⟨h1, h2, h3⟩ | ⟨_, _, h3⟩
            · obtain rfl : k = 1970 := by omega
              rw [h3, mN_one]; show dnum y 1 1 - dnum 1970 1 1 = _; rw [HE.out]
            · exact h3
          clear hn
          go_wp2
          go_loopw [7, 12] (fun a b wr => ∃ (j : Nat) (n : Int), 1 ≤ j ∧ j ≤ m ∧ a = .int .i64 n ∧ b = .int .i64 j ∧ n = mN y j - 865565 ∧ w = wr) (fun _ b _ => 13 - (intOf b).toNat)
          case atStart => exact ⟨1, n, by omega, hm1, rfl, rfl, HN2.out, by trivial⟩
          case round =>
            clear HN2
            obtain ⟨j, q, hj1, hj2, rfl, rfl, hq, rfl⟩ := hrel
            obtain ⟨b1, b2⟩ := mN_bd y j (by omega) (by omega) (by omega) (by omega)
            by_cases hj : j < m
            · have hdy := fun w => days_r w y j (by omega) hj1 (by omega)
              obtain ⟨c1, c2⟩ := dim_bd y j
              have HQ : Hid (q + dim y j = mN y ((j : Int) + 1) - 865565) := by show _ = _; rw [mN_step y j (by omega) (by omega), hq]; omega
              have hj' : (j : Int) < (m : Int) := by omega
              have q1 : -865565 ≤ q := by omega
              have q2 : q ≤ 5000000 := by omega
              clear hq b1 b2
              generalize dim y j = D at *
              go_wp2_with (go_at_call 86; refine (hdy _).mono ?_; rintro e w5 ⟨rfl, hw⟩; obtain rfl := hw.symm)
              go_roundw
              case rel => exact ⟨j + 1, q + D, by omega, by omega, rfl, by go_num, by rw [HQ.out]; push_cast; rfl, by trivial⟩
              case measure => simp [intOf]; omega
            · have hj' : ¬ (j : Int) < (m : Int) := by omega
              have HQ : Hid (q + d - 1 = dnum y m d - 865565) := by
                show _ = _
                obtain rfl : j = m := by omega
                rw [dnum_day y j d, hq, mN_mid y j (by omega)]; omega
              have q1 : -865565 ≤ q := by omega
              have q2 : q ≤ 5000000 := by omega
              clear hq b1 b2
              go_wp2
              go_ret
              exact ⟨ret_i HQ.out, rfl⟩
end Go.Proofs.YtimjmecogbkgfaaGreatDoor

/-
  Years by the number of a day.
-/
namespace Go.Proofs.YtimjmecogbkgfaaGreatDoor

theorem dnum_yearP (y : Int) : dnum y 1 1 = dTY (y + 399) + 306 := by unfold dnum dTM; simp
theorem dTM_bds (m : Int) (h1 : 0 ≤ m) (h2 : m ≤ 11) : 0 ≤ dTM m ∧ dTM m ≤ 337 := by unfold dTM; omega
/-- a day lies in its year -/
theorem day_in (y m d : Int) (h : okDay y m d) : dnum y 1 1 ≤ dnum y m d ∧ dnum y m d < dnum (y + 1) 1 1 := by
  obtain ⟨h1, h2, h3, h4⟩ := h
  rw [dnum_yearP, dnum_yearP]
  have hs := dTY_succ (y + 399)
  rw [show y + 399 + 1 = y + 400 by omega, leap_400] at hs
  rw [show y + 1 + 399 = y + 400 by omega]
  have hm : m = 1 ∨ m = 2 ∨ m = 3 ∨ m = 4 ∨ m = 5 ∨ m = 6 ∨ m = 7 ∨ m = 8 ∨ m = 9 ∨ m = 10 ∨ m = 11 ∨ m = 12 := by omega
  cases hl : leapB y <;> rw [hl] at hs <;> rcases hm with rfl | rfl | rfl | rfl | rfl | rfl | rfl | rfl | rfl | rfl | rfl | rfl <;> simp [dnum, dim, dTM, hl] at h4 hs ⊢ <;> omega
theorem year_mono {a b : Int} (h : a ≤ b) : dnum a 1 1 ≤ dnum b 1 1 := by
  rw [dnum_yearP, dnum_yearP]
  unfold dTY
  omega
theorem year_lo (n k : Int) : k ≤ (dayOf n).1 ↔ dnum k 1 1 ≤ n := by
  obtain ⟨ho, hn⟩ := dayOf_ok n
  obtain ⟨h1, h2⟩ := day_in _ _ _ ho
  rw [hn] at h1 h2
  constructor
  · intro h
    exact Int.le_trans (year_mono h) h1
  · intro h
    rcases Int.lt_or_le (dayOf n).1 k with hl | hl
    · have := year_mono (show (dayOf n).1 + 1 ≤ k by omega)
      omega
    · exact hl
theorem year_in (n : Int) : (0 ≤ (dayOf n).1 ∧ (dayOf n).1 ≤ 9999) ↔ (dnum 0 1 1 ≤ n ∧ n < dnum 10000 1 1) := by
  have a := year_lo n 0
  have b := year_lo n 10000
  constructor
  · intro ⟨h1, h2⟩
    refine ⟨a.1 h1, ?_⟩
    rcases Int.lt_or_le n (dnum 10000 1 1) with h | h
    · exact h
    · have := b.2 h; omega
  · intro ⟨h1, h2⟩
    refine ⟨a.2 h1, ?_⟩
    rcases Int.lt_or_le 9999 (dayOf n).1 with h | h
    · have := b.1 (by omega); omega
    · exact h
end Go.Proofs.YtimjmecogbkgfaaGreatDoor
