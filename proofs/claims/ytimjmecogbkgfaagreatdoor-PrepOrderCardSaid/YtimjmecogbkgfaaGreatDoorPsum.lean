/-
  Sums as they are written: their laws.
-/
import Derived.Test.YtimjmecogbkgfaaGreatDoorPlToJoin
namespace Go.Proofs.YtimjmecogbkgfaaGreatDoor

theorem show_num (l : List UInt8) (x : Bool × List UInt8) (h : numL l = some x) : showI (numV x) = l := by
  unfold numL at h
  split at h
  · rename_i hh
    split at h
    · rename_i hc
      cases h
      simp only [Bool.and_eq_true, decide_eq_true_eq, bne_iff_ne, ne_eq] at hc
      have hp := cnt_pos l.tail hc.1.1 hc.1.2
      unfold showI numV
      simp only [if_true]
      rw [if_pos (by omega), show (-(digV l.tail : Int)).natAbs = digV l.tail by omega, show_dig _ hc.1.1]
      cases l with
      | nil => simp at hh
      | cons a t => simp at hh; subst hh; rfl
    · cases h
  · split at h
    · rename_i hc
      cases h
      simp only [Bool.and_eq_true, decide_eq_true_eq] at hc
      unfold showI numV
      simp only [Bool.false_eq_true, if_false]
      rw [if_neg (by omega), show ((digV l : Int)).natAbs = digV l by omega, show_dig _ hc.1]
    · cases h
theorem cnt_head (l : List UInt8) (h : isCnt l = true) : l.head? ≠ some 45 := by
  have hd := ((isCnt_iff l).1 h).1
  cases l with
  | nil => simp
  | cons a t =>
    rw [List.all_cons, Bool.and_eq_true, isDig_iff] at hd
    intro e
    simp at e
    subst e
    exact absurd hd.1.1 (by decide)
theorem num_show (z : Int) (h : (showI z).length ≤ 65536) : ∃ y, numL (showI z) = some y ∧ numV y = z := by
  unfold showI at h ⊢
  split at h
  · rename_i hz
    rw [if_pos hz]
    refine ⟨(true, showN z.natAbs), ?_, ?_⟩
    · unfold numL
      rw [if_pos (show (45 :: showN z.natAbs).head? = some 45 from rfl), if_pos]
      · rfl
      · simp only [List.tail_cons, Bool.and_eq_true, decide_eq_true_eq, bne_iff_ne, ne_eq]
        refine ⟨⟨show_cnt _, fun e => ?_⟩, h⟩
        have := congrArg digV e
        rw [dig_show] at this
        have h48 : digV [48] = 0 := rfl
        omega
    · unfold numV
      simp only [if_true]
      rw [dig_show]; omega
  · rename_i hz
    rw [if_neg hz]
    refine ⟨(false, showN z.natAbs), ?_, ?_⟩
    · unfold numL
      rw [if_neg (cnt_head _ (show_cnt _)), if_pos]
      simp only [Bool.and_eq_true, decide_eq_true_eq]
      exact ⟨show_cnt _, h⟩
    · unfold numV
      simp only [Bool.false_eq_true, if_false]
      rw [dig_show]; omega
theorem add_comm (a b : List UInt8) : addL a b = addL b a := by
  unfold addL
  cases numL a <;> cases numL b <;> simp only [Int.add_comm]
theorem add_some {a b r : List UInt8} (h : addL a b = some r) : ∃ x y, numL a = some x ∧ numL b = some y ∧ r = showI (numV x + numV y) ∧ r.length ≤ 65536 := by
  unfold addL at h
  cases hx : numL a with
  | none => rw [hx] at h; cases h
  | some x =>
    cases hy : numL b with
    | none => rw [hx, hy] at h; cases h
    | some y =>
      rw [hx, hy] at h
      dsimp only at h
      split at h
      · rename_i hl
        cases h
        exact ⟨x, y, rfl, rfl, rfl, hl⟩
      · cases h
theorem add_assoc {a b c x y l r : List UInt8} (h1 : addL a b = some x) (h2 : addL b c = some y) (h3 : addL x c = some l) (h4 : addL a y = some r) : l = r := by
  obtain ⟨xa, xb, ha, hb, rfl, hl1⟩ := add_some h1
  obtain ⟨xb', xc, hb', hc, rfl, hl2⟩ := add_some h2
  obtain ⟨p, xc', hp, hc', rfl, _⟩ := add_some h3
  obtain ⟨xa', q, ha', hq, rfl, _⟩ := add_some h4
  rw [hb] at hb'; cases hb'
  rw [hc] at hc'; cases hc'
  rw [ha] at ha'; cases ha'
  obtain ⟨p', hp', ep⟩ := num_show _ hl1
  obtain ⟨q', hq', eq⟩ := num_show _ hl2
  rw [hp] at hp'; cases hp'
  rw [hq] at hq'; cases hq'
  rw [ep, eq, Int.add_assoc]
theorem add_zero {a b x : List UInt8} (h : addL a b = some x) : addL a [48] = some a := by
  obtain ⟨xa, xb, ha, _, _, _⟩ := add_some h
  have h0 : numL [48] = some (false, [48]) := by decide
  have hl : a.length ≤ 65536 := by
    unfold numL at ha
    split at ha
    · split at ha
      · rename_i hc
        simp only [Bool.and_eq_true, decide_eq_true_eq] at hc
        exact hc.2
      · cases ha
    · split at ha
      · rename_i hc
        simp only [Bool.and_eq_true, decide_eq_true_eq] at hc
        exact hc.2
      · cases ha
  have hs := show_num a xa ha
  unfold addL
  rw [ha, h0]
  dsimp only
  have e : numV xa + numV (false, [48]) = numV xa := by
    have : numV (false, [48]) = 0 := by decide
    rw [this, Int.add_zero]
  rw [e, hs, if_pos hl]
/-- with the other sign -/
def oppL (l : List UInt8) : List UInt8 := if l = [48] ∨ l = [] then l else if l.head? = some 45 then l.tail else 45 :: l
theorem opp_num (a : List UInt8) (xa y : Bool × List UInt8) (ha : numL a = some xa) (hy : numL (oppL a) = some y) : numV y = - numV xa := by
  have e1 := show_num a xa ha
  unfold oppL at hy
  by_cases h0 : a = [48] ∨ a = []
  · rw [if_pos h0, ha] at hy
    cases hy
    rcases h0 with h | h
    · subst h
      have : numL [48] = some (false, [48]) := by decide
      rw [this] at ha; cases ha; decide
    · subst h
      have : numL [] = none := by decide
      rw [this] at ha; cases ha
  · rw [if_neg h0] at hy
    by_cases hm : a.head? = some 45
    · rw [if_pos hm] at hy
      unfold numL at ha
      rw [if_pos hm] at ha
      split at ha
      · rename_i hc
        cases ha
        simp only [Bool.and_eq_true, decide_eq_true_eq, bne_iff_ne, ne_eq] at hc
        unfold numL at hy
        rw [if_neg (cnt_head _ hc.1.1)] at hy
        split at hy
        · cases hy; unfold numV; simp
        · cases hy
      · cases ha
    · rw [if_neg hm] at hy
      unfold numL at ha
      rw [if_neg hm] at ha
      split at ha
      · cases ha
        unfold numL at hy
        rw [if_pos (show (45 :: a).head? = some 45 from rfl)] at hy
        split at hy
        · cases hy; unfold numV; simp
        · cases hy
      · cases ha
theorem add_opp {a n : List UInt8} (h : addL a (oppL a) = some n) : n = [48] := by
  obtain ⟨xa, y, ha, hy, rfl, _⟩ := add_some h
  rw [opp_num a xa y ha hy, Int.add_right_neg]; rfl
end Go.Proofs.YtimjmecogbkgfaaGreatDoor
