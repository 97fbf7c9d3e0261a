/-
  Add: the sum of two numbers, as it is written.
-/
import Derived.Test.YtimjmecogbkgfabGreatDoorPlusO
import Derived.Test.YtimjmecogbkgfabGreatDoorPtToLeaf
namespace Go.Proofs.YtimjmecogbkgfabGreatDoor
open Go.RowKit

set_option maxRecDepth 100000 in
theorem text_any (w : World) (x : Bool × List UInt8) (hx : x.2.length ≤ 1000000) :
    Calls Tryz.prog 14 #[numVal x] w fun e w' => e = .returned (.string (str (textN x))) ∧ Fr w.heap.size w w' := by
  obtain ⟨b, d⟩ := x
  simp only at hx
  obtain ⟨D, hD⟩ : ∃ D, Hid (D = str d) := ⟨str d, rfl⟩
  have hs : D.size ≤ 1000000 := by rw [hD.out, str_size]; exact hx
  have HR : Hid (str (45 :: d) = (⟨#[45]⟩ : ByteArray) ++ D) := by
    show _ = _
    rw [hD.out]
    apply ByteArray.ext
    simp [str]
  simp only [numVal]
  rw [← hD.out]
  cases b with
  | false =>
    go_enter Tryz.func14, Tryz.ntmps14
    go_wp2
    go_ret
    exact ⟨ret_s hD.out, Fr.one _⟩
  | true =>
    go_enter Tryz.func14, Tryz.ntmps14
    go_wp2
    go_ret
    exact ⟨ret_s HR.out.symm, Fr.one _⟩
theorem numL_ok {l : List UInt8} {x : Bool × List UInt8} (h : numL l = some x) : okNum x := by
  obtain ⟨h1, h2, h3, h4, _⟩ := numL_some h
  exact ⟨h1, h2, by omega⟩
theorem numAns_some (x : Bool × List UInt8) : numAns (some x) = .tuple #[numVal x, .bool true] := rfl
theorem plusN_len (x y : Bool × List UInt8) (hx : okNum x) (hy : okNum y) (K : Nat) (h3 : x.2.length ≤ K) (g3 : y.2.length ≤ K) : (plusN x y).2.length ≤ K + 1 := by
  have a1 := digV_lt x.2 ((isCnt_iff x.2).1 hx.1).1
  have b1 := digV_lt y.2 ((isCnt_iff y.2).1 hy.1).1
  have a2 : 10 ^ x.2.length ≤ 10 ^ K := Nat.pow_le_pow_right (by omega) h3
  have b2 : 10 ^ y.2.length ≤ 10 ^ K := Nat.pow_le_pow_right (by omega) g3
  have hp : 10 ^ (K + 1) = 10 ^ K * 10 := Nat.pow_succ _ _
  have key : ∀ n, n < 10 ^ (K + 1) → (showN n).length ≤ K + 1 := fun n h => show_len n (K + 1) h (by omega)
  generalize 10 ^ K = P at *
  generalize 10 ^ (K + 1) = Q at *
  unfold plusN
  split
  · exact key _ (by omega)
  · split
    · exact key _ (by omega)
    · exact key _ (by omega)
set_option maxRecDepth 100000 in
set_option maxHeartbeats 2000000 in
theorem Add_any (w : World) (a b : ByteArray) (ha : a.size ≤ 140737488355328) (hb : b.size ≤ 140737488355328) :
    Calls Tryz.prog 6 #[.string a, .string b] w fun e w' => e = .returned (ans (addL (byt a) (byt b))) ∧ Fr w.heap.size w w' := by
  have hna := fun w => numberOf_any w a ha
  have hnb := fun w => numberOf_any w b hb
  cases hx : numL (byt a) with
  | none =>
    have HN : Hid (addL (byt a) (byt b) = none) := by show addL _ _ = none; unfold addL; rw [hx]
    rw [hx] at hna
    cases hy : numL (byt b) with
    | none =>
      rw [hy] at hnb
      have mk : True := trivial
      go_enter Tryz.func6, Tryz.ntmps6
      go_wp2_with (first
        | (go_at_call 12; clear mk; refine (hna _).mono ?_; rintro e w2 ⟨rfl, hf2⟩; simp only [numAns])
        | (go_at_call 12; refine (hnb _).mono ?_; rintro e w3 ⟨rfl, hf3⟩; simp only [numAns]))
      go_ret2
      exact ⟨ret_none HN.out, ((hf2.then (Fr.one _)).then hf3).then (Fr.one _)⟩
    | some y =>
      rw [hy] at hnb
      have mk : True := trivial
      go_enter Tryz.func6, Tryz.ntmps6
      go_wp2_with (first
        | (go_at_call 12; clear mk; refine (hna _).mono ?_; rintro e w2 ⟨rfl, hf2⟩; simp only [numAns])
        | (go_at_call 12; refine (hnb _).mono ?_; rintro e w3 ⟨rfl, hf3⟩; simp only [numAns]))
      go_ret2
      exact ⟨ret_none HN.out, ((hf2.then (Fr.one _)).then hf3).then (Fr.one _)⟩
  | some x =>
    rw [hx] at hna
    cases hy : numL (byt b) with
    | none =>
      have HN : Hid (addL (byt a) (byt b) = none) := by show addL _ _ = none; unfold addL; rw [hx, hy]
      rw [hy] at hnb
      have mk : True := trivial
      go_enter Tryz.func6, Tryz.ntmps6
      go_wp2_with (first
        | (go_at_call 12; clear mk; refine (hna _).mono ?_; rintro e w2 ⟨rfl, hf2⟩; simp only [numAns])
        | (go_at_call 12; refine (hnb _).mono ?_; rintro e w3 ⟨rfl, hf3⟩; simp only [numAns]))
      go_ret2
      exact ⟨ret_none HN.out, ((hf2.then (Fr.one _)).then hf3).then (Fr.one _)⟩
    | some y =>
      rw [hy] at hnb
      have ox := numL_ok hx
      have oy := numL_ok hy
      have hpl := plusN_len x y ox oy 65536 ox.2.2 oy.2.2
      have HT : Hid _ := text_plus x y ox oy
      have HA : Hid (addL (byt a) (byt b) = if (textN (plusN x y)).length ≤ 65536 then some (textN (plusN x y)) else none) := by
        show addL _ _ = _
        rw [HT.out]; unfold addL; rw [hx, hy]
      have hpp := fun w => plus_any w x y ox oy
      have hxt := fun w => text_any w (plusN x y) (by omega)
      obtain ⟨bx, dx⟩ := x
      obtain ⟨b2, dy⟩ := y
      obtain ⟨T, hT⟩ : ∃ T, Hid (T = str (textN (plusN (bx, dx) (b2, dy)))) := ⟨str (textN (plusN (bx, dx) (b2, dy))), rfl⟩
      have hTs : (textN (plusN (bx, dx) (b2, dy))).length = T.size := by rw [hT.out, str_size]
      rw [hTs] at HA
      simp only [numVal] at hpp hxt
      generalize plusN (bx, dx) (b2, dy) = pl at *
      clear ox oy hx hy
      by_cases hsz : T.size ≤ 65536
      · have hsz' : ¬ (65536 : Int) < (T.size : Int) := by omega
        have mk : True := trivial
        go_enter Tryz.func6, Tryz.ntmps6
        go_wp2_with (first
          | (go_at_call 12; clear mk; refine (hna _).mono ?_; rintro e w2 ⟨rfl, hf2⟩; simp only [numAns])
          | (go_at_call 12; refine (hnb _).mono ?_; rintro e w3 ⟨rfl, hf3⟩; simp only [numAns]; have hcx : ∀ o, (w3.alloc o).cell? ⟨w2.heap.size, 0, none⟩ = some (.bool bx) := fun o => ((hf3.then (Fr.one o)).1.cell (p := ⟨w2.heap.size, 0, none⟩) (by simp)).trans (heap_cellN (heap_alloc_new w2 _) 0); have hcy : ∀ o, (w3.alloc o).cell? ⟨w2.heap.size, 1, none⟩ = some (.string (str dx)) := fun o => ((hf3.then (Fr.one o)).1.cell (p := ⟨w2.heap.size, 1, none⟩) (by simp)).trans (heap_cellN (heap_alloc_new w2 _) 1))
          | (go_at_call 13; refine (hpp _).mono ?_; rintro e w4 ⟨rfl, hf4⟩)
          | (go_at_call 14; refine (hxt _).mono ?_; rintro e w5 ⟨rfl, hf5⟩; rw [← hT.out]))
        go_ret2
        exact ⟨ret_some (by rw [HA.out, if_pos hsz]) hT.out, ((((hf2.then (Fr.one _)).then hf3).then (Fr.one _)).then hf4).then hf5⟩
      · have hsz' : (65536 : Int) < (T.size : Int) := by omega
        have mk : True := trivial
        go_enter Tryz.func6, Tryz.ntmps6
        go_wp2_with (first
          | (go_at_call 12; clear mk; refine (hna _).mono ?_; rintro e w2 ⟨rfl, hf2⟩; simp only [numAns])
          | (go_at_call 12; refine (hnb _).mono ?_; rintro e w3 ⟨rfl, hf3⟩; simp only [numAns]; have hcx : ∀ o, (w3.alloc o).cell? ⟨w2.heap.size, 0, none⟩ = some (.bool bx) := fun o => ((hf3.then (Fr.one o)).1.cell (p := ⟨w2.heap.size, 0, none⟩) (by simp)).trans (heap_cellN (heap_alloc_new w2 _) 0); have hcy : ∀ o, (w3.alloc o).cell? ⟨w2.heap.size, 1, none⟩ = some (.string (str dx)) := fun o => ((hf3.then (Fr.one o)).1.cell (p := ⟨w2.heap.size, 1, none⟩) (by simp)).trans (heap_cellN (heap_alloc_new w2 _) 1))
          | (go_at_call 13; refine (hpp _).mono ?_; rintro e w4 ⟨rfl, hf4⟩)
          | (go_at_call 14; refine (hxt _).mono ?_; rintro e w5 ⟨rfl, hf5⟩; rw [← hT.out]))
        go_ret2
        exact ⟨ret_none (by rw [HA.out, if_neg hsz]), ((((hf2.then (Fr.one _)).then hf3).then (Fr.one _)).then hf4).then hf5⟩
end Go.Proofs.YtimjmecogbkgfabGreatDoor

/-
  The calendar: a day and its number.
-/
namespace Go.Proofs.YtimjmecogbkgfabGreatDoor

def leapB (y : Int) : Bool := (decide (y % 4 = 0) && decide (y % 100 ≠ 0)) || decide (y % 400 = 0)
/-- how many days a month has -/
def dim (y m : Int) : Int := if m = 4 ∨ m = 6 ∨ m = 9 ∨ m = 11 then 30 else if m = 2 then (if leapB y then 29 else 28) else 31
def okDay (y m d : Int) : Prop := 1 ≤ m ∧ m ≤ 12 ∧ 1 ≤ d ∧ d ≤ dim y m

theorem dTY_succ (y : Int) : dTY (y + 1) = dTY y + 365 + (if leapB (y + 1) then 1 else 0) := by
  unfold dTY leapB
  by_cases h4 : (y + 1) % 4 = 0 <;> by_cases h100 : (y + 1) % 100 = 0 <;> by_cases h400 : (y + 1) % 400 = 0 <;> simp [h4, h100, h400] <;> omega
theorem dTY_lt {a b : Int} (h : a < b) : dTY (a + 1) ≤ dTY b := by unfold dTY; omega
theorem leap_400 (y : Int) : leapB (y + 400) = leapB y := by
  unfold leapB
  have h1 : (y + 400) % 4 = y % 4 := by omega
  have h2 : (y + 400) % 100 = y % 100 := by omega
  have h3 : (y + 400) % 400 = y % 400 := by omega
  rw [h1, h2, h3]
theorem yr_uniq {n a b : Int} (h1 : dTY a ≤ n) (h2 : n < dTY (a + 1)) (h3 : dTY b ≤ n) (h4 : n < dTY (b + 1)) : a = b := by
  rcases Int.lt_trichotomy a b with h | h | h
  · have := dTY_lt h; omega
  · exact h
  · have := dTY_lt h; omega
theorem yrGo_step (f : Nat) (y n : Int) (h : n < dTY y) : yrGo (f + 1) y n = yrGo f (y - 1) n := by rw [yrGo, if_pos h]
theorem yrGo_stop (f : Nat) (y n : Int) (h : ¬ n < dTY y) : yrGo (f + 1) y n = y := by rw [yrGo, if_neg h]
theorem yr_start (n : Int) : n < dTY (n * 400 / 146097 + 1 + 1) := by unfold dTY; omega
theorem yr_end (n : Int) : dTY (n * 400 / 146097 + 1 - 1 - 1) ≤ n := by unfold dTY; omega
theorem yearOf_spec (n : Int) : dTY (yearOf n) ≤ n ∧ n < dTY (yearOf n + 1) := by
  have h0 := yr_start n
  have h3 := yr_end n
  unfold yearOf
  generalize n * 400 / 146097 + 1 = y at *
  by_cases h1 : n < dTY y
  · rw [yrGo_step _ _ _ h1]
    by_cases h2 : n < dTY (y - 1)
    · rw [yrGo_step _ _ _ h2, yrGo_stop _ _ _ (by omega)]
      exact ⟨h3, by rw [show y - 1 - 1 + 1 = y - 1 by omega]; exact h2⟩
    · rw [yrGo_stop _ _ _ h2]
      exact ⟨by omega, by rw [show y - 1 + 1 = y by omega]; exact h1⟩
  · rw [yrGo_stop _ _ _ h1]
    exact ⟨by omega, h0⟩
theorem yearOf_eq {n y : Int} (h1 : dTY y ≤ n) (h2 : n < dTY (y + 1)) : yearOf n = y := yr_uniq (yearOf_spec n).1 (yearOf_spec n).2 h1 h2
theorem yearOf_pos {n : Int} (h : 0 ≤ n) : 0 ≤ yearOf n := by
  have := (yearOf_spec n).2
  unfold dTY at this
  omega

/-- what the day is that a year from March on and the days behind its beginning tell -/
theorem dayOf_at {n Y : Int} (h1 : dTY Y ≤ n) (h2 : n < dTY (Y + 1)) {r mo : Int} (hr : r = n - dTY Y) (hm : mo = (5 * r + 2) / 153) :
    dayOf n = if 9 < mo then (Y + 1 - 400, mo + 3 - 12, r - dTM mo + 1) else (Y - 400, mo + 3, r - dTM mo + 1) := by
  have e := yearOf_eq h1 h2
  subst hr hm
  unfold dayOf monOf
  rw [e]

theorem rest_bd {n Y : Int} (h1 : dTY Y ≤ n) (h2 : n < dTY (Y + 1)) : 0 ≤ n - dTY Y ∧ n - dTY Y ≤ 365 ∧ (leapB (Y + 1) = false → n - dTY Y ≤ 364) := by
  have := dTY_succ Y
  refine ⟨by omega, ?_, fun hl => ?_⟩
  · split at this <;> omega
  · rw [hl] at this; simp at this; omega

theorem dayOf_ok (n : Int) : okDay (dayOf n).1 (dayOf n).2.1 (dayOf n).2.2 ∧ dnum (dayOf n).1 (dayOf n).2.1 (dayOf n).2.2 = n := by
  obtain ⟨h1, h2⟩ := yearOf_spec n
  obtain ⟨b1, b2, b3⟩ := rest_bd h1 h2
  have e := dayOf_at h1 h2 rfl rfl
  generalize yearOf n = Y at *
  obtain ⟨r, hr⟩ : ∃ r, r = n - dTY Y := ⟨_, rfl⟩
  obtain ⟨mo, hm⟩ : ∃ mo, mo = (5 * r + 2) / 153 := ⟨_, rfl⟩
  rw [← hr] at b1 b2 b3 e
  rw [← hm] at e
  rw [e]
  have hmo : mo = 0 ∨ mo = 1 ∨ mo = 2 ∨ mo = 3 ∨ mo = 4 ∨ mo = 5 ∨ mo = 6 ∨ mo = 7 ∨ mo = 8 ∨ mo = 9 ∨ mo = 10 ∨ mo = 11 := by omega
  have hl : leapB (Y + 1 - 400) = leapB (Y + 1) := by rw [← leap_400 (Y + 1 - 400)]; congr 1; omega
  rcases hmo with h | h | h | h | h | h | h | h | h | h | h | h <;> subst h
  all_goals
    simp only [dTM, okDay, dim, dnum]
    simp only [show ¬ ((9:Int) < 0) by omega, Int.reduceMul, Int.reduceAdd, Int.reduceDiv, Int.reduceLT, Int.reduceEq, Int.reduceSub, if_true, if_false, or_self, or_false, or_true, Int.reduceLE, true_and]
    try rw [hl]
    try rw [show Y - 400 + 400 = Y by omega]
    try rw [show Y + 1 - 400 + 399 = Y by omega]
    first
      | omega
      | (cases hq : leapB (Y + 1) with
         | false => have := b3 hq; simp; omega
         | true => simp; omega)

theorem day_num {y m d : Int} (h : okDay y m d) : dayOf (dnum y m d) = (y, m, d) := by
  obtain ⟨m1, m2, d1, d2⟩ := h
  have hmm : m = 1 ∨ m = 2 ∨ m = 3 ∨ m = 4 ∨ m = 5 ∨ m = 6 ∨ m = 7 ∨ m = 8 ∨ m = 9 ∨ m = 10 ∨ m = 11 ∨ m = 12 := by omega
  have hs1 := dTY_succ (y + 399)
  have hs2 := dTY_succ (y + 400)
  rw [show y + 399 + 1 = y + 400 by omega, leap_400] at hs1
  have hg2 : 0 ≤ (if leapB (y + 400 + 1) then (1 : Int) else 0) := by split <;> omega
  have hg1 : 0 ≤ (if leapB y then (1 : Int) else 0) ∧ (if leapB y then (1 : Int) else 0) ≤ 1 := by split <;> omega
  have hd : d ≤ 31 := by unfold dim at d2; split at d2 <;> (try split at d2) <;> (try split at d2) <;> omega
  have hd2 : m = 2 → d ≤ 28 + (if leapB y then (1 : Int) else 0) := by
    intro hm; subst hm; unfold dim at d2; simp at d2; split at d2 <;> simp_all
  have hd3 : m = 4 ∨ m = 6 ∨ m = 9 ∨ m = 11 → d ≤ 30 := by intro hm; unfold dim at d2; rw [if_pos hm] at d2; exact d2
  generalize (if leapB y then (1 : Int) else 0) = L at *
  generalize (if leapB (y + 400 + 1) then (1 : Int) else 0) = L2 at *
  clear d2
  rcases hmm with h | h | h | h | h | h | h | h | h | h | h | h <;> subst h
  all_goals
    simp only [dnum, dTM] at *
    simp at *
  all_goals
    first
      | (rw [dayOf_at (Y := y + 399) (by omega) (by rw [show y + 399 + 1 = y + 400 by omega]; omega) rfl rfl]
         simp only [dTM]
         rw [if_pos (by omega)]
         refine Prod.ext (by simp; omega) (Prod.ext (by simp; omega) (by simp; omega)))
      | (rw [dayOf_at (Y := y + 400) (by omega) (by omega) rfl rfl]
         simp only [dTM]
         rw [if_neg (by omega)]
         refine Prod.ext (by simp) (Prod.ext (by simp; omega) (by simp; omega)))
/-- a day is one of the calendar just if its number tells it -/
theorem day_iff (y m d : Int) : dayOf (dnum y m d) = (y, m, d) ↔ okDay y m d := by
  refine ⟨fun h => ?_, day_num⟩
  have := (dayOf_ok (dnum y m d)).1
  rw [h] at this
  exact this
/-- the number is what the day is sought by -/
theorem dnum_uniq {n y m d : Int} (h : okDay y m d) (e : dnum y m d = n) : dayOf n = (y, m, d) := by rw [← e]; exact day_num h
end Go.Proofs.YtimjmecogbkgfabGreatDoor
