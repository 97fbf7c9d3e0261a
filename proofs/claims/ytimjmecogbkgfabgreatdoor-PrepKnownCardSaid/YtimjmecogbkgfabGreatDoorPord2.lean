/-
  The order of moments' keys; what a difference says: plain.
-/
import Derived.Test.YtimjmecogbkgfabGreatDoorPadToPord
namespace Go.Proofs.YtimjmecogbkgfabGreatDoor
open Go.Op (bytesLess)

theorem dnum_year {y m d : Int} (h : okDay y m d) : dTY (y + 399) + 306 ≤ dnum y m d ∧ dnum y m d ≤ dTY (y + 400) + 305 := by
  obtain ⟨h1, h2, h3, h4⟩ := h
  have hs := dTY_succ (y + 399)
  rw [show y + 399 + 1 = y + 400 by omega, leap_400] at hs
  unfold dnum
  have hm : m = 1 ∨ m = 2 ∨ m = 3 ∨ m = 4 ∨ m = 5 ∨ m = 6 ∨ m = 7 ∨ m = 8 ∨ m = 9 ∨ m = 10 ∨ m = 11 ∨ m = 12 := by omega
  unfold dim at h4
  rcases hm with rfl | rfl | rfl | rfl | rfl | rfl | rfl | rfl | rfl | rfl | rfl | rfl <;> simp at h4 <;> simp [dTM] <;> (try (split at hs <;> simp_all <;> omega)) <;> omega
theorem day_lt {y m d y' m' d' : Int} (h : okDay y m d) (h' : okDay y' m' d') (hlt : y < y' ∨ (y = y' ∧ (m < m' ∨ (m = m' ∧ d < d')))) : dnum y m d < dnum y' m' d' := by
  rcases hlt with hy | ⟨rfl, hm | ⟨rfl, hd⟩⟩
  · have a := (dnum_year h).2
    have b := (dnum_year h').1
    have c : dTY (y + 400) ≤ dTY (y' + 399) := by unfold dTY; omega
    omega
  · obtain ⟨h1, h2, h3, h4⟩ := h
    obtain ⟨k1, k2, k3, k4⟩ := h'
    have hs := dTY_succ (y + 399)
    rw [show y + 399 + 1 = y + 400 by omega, leap_400] at hs
    have hdim : d ≤ 31 ∧ (m = 4 ∨ m = 6 ∨ m = 9 ∨ m = 11 → d ≤ 30) ∧ (m = 2 → d ≤ 28 ∨ (d = 29 ∧ leapB y = true)) := by
      unfold dim at h4
      split at h4
      · rename_i hh
        refine ⟨by omega, fun _ => h4, fun e => by omega⟩
      · rename_i hh
        split at h4
        · refine ⟨by split at h4 <;> omega, fun e => absurd e hh, fun _ => ?_⟩
          split at h4
          · rename_i hl; rcases Int.lt_or_le d 29 with q | q
            · exact .inl (by omega)
            · exact .inr ⟨by omega, hl⟩
          · exact .inl h4
        · rename_i h22
          exact ⟨h4, fun e => absurd e hh, fun e => absurd e h22⟩
    obtain ⟨g1, g2, g3⟩ := hdim
    clear h4 k4
    have hm1 : m = 1 ∨ m = 2 ∨ m = 3 ∨ m = 4 ∨ m = 5 ∨ m = 6 ∨ m = 7 ∨ m = 8 ∨ m = 9 ∨ m = 10 ∨ m = 11 := by omega
    unfold dnum dTM
    by_cases hl : leapB y = true
    · rw [if_pos hl] at hs
      rcases hm1 with rfl | rfl | rfl | rfl | rfl | rfl | rfl | rfl | rfl | rfl | rfl <;> (split <;> split <;> omega)
    · rw [if_neg hl] at hs
      have g3' : m = 2 → d ≤ 28 := fun e => (g3 e).elim (fun q => q) (fun q => absurd q.2 hl)
      clear g3
      rcases hm1 with rfl | rfl | rfl | rfl | rfl | rfl | rfl | rfl | rfl | rfl | rfl <;> (split <;> split <;> omega)
  · unfold dnum
    split <;> omega
theorem padL_app (k j a b : Nat) (hb : b < 10 ^ j) : padL k a ++ padL j b = padL (k + j) (a * 10 ^ j + b) := by
  induction j generalizing b with
  | zero =>
    have : b = 0 := by simp at hb; omega
    subst this
    simp [padL]
  | succ j ih =>
    rw [padL_succ, ← List.append_assoc, ih (b / 10) (by rw [Nat.pow_succ] at hb; omega), show k + (j + 1) = (k + j) + 1 by omega, padL_succ]
    have e1 : (a * 10 ^ (j + 1) + b) / 10 = a * 10 ^ j + b / 10 := by
      rw [Nat.pow_succ, ← Nat.mul_assoc]; omega
    have e2 : dg (a * 10 ^ (j + 1) + b) = dg b := by
      unfold dg
      congr 2
      rw [Nat.pow_succ, ← Nat.mul_assoc]; omega
    rw [e1, e2]
/-- the fourteen digits as one number -/
def stampN (n : Int) : Nat := (((((dayOf (n / 86400)).1.toNat * 100 + (dayOf (n / 86400)).2.1.toNat) * 100 + (dayOf (n / 86400)).2.2.toNat) * 100 + (n % 86400 / 3600).toNat) * 100 + (n % 86400 % 3600 / 60).toNat) * 100 + (n % 86400 % 60).toNat
def okMom (n : Int) : Prop := 0 ≤ (dayOf (n / 86400)).1 ∧ (dayOf (n / 86400)).1 ≤ 9999
theorem dim_le (y m : Int) : dim y m ≤ 31 := by
  unfold dim
  split
  · omega
  · split
    · split <;> omega
    · omega
theorem stamp_parts (n : Int) (h : okMom n) : ∃ y mo d a b c : Nat, (dayOf (n / 86400)).1 = y ∧ (dayOf (n / 86400)).2.1 = mo ∧ (dayOf (n / 86400)).2.2 = d ∧ n % 86400 / 3600 = a ∧ n % 86400 % 3600 / 60 = b ∧ n % 86400 % 60 = c ∧ y ≤ 9999 ∧ mo ≤ 12 ∧ d ≤ 31 ∧ a ≤ 23 ∧ b ≤ 59 ∧ c ≤ 59 ∧ okDay y mo d ∧ dnum y mo d = n / 86400 := by
  have ho := dayOf_ok (n / 86400)
  have hk := ho.1
  obtain ⟨h1, h2, h3, h4⟩ := hk
  have h5 := dim_le (dayOf (n / 86400)).1 (dayOf (n / 86400)).2.1
  obtain ⟨k1, k2⟩ := h
  refine ⟨(dayOf (n / 86400)).1.toNat, (dayOf (n / 86400)).2.1.toNat, (dayOf (n / 86400)).2.2.toNat, (n % 86400 / 3600).toNat, (n % 86400 % 3600 / 60).toNat, (n % 86400 % 60).toNat, by omega, by omega, by omega, by omega, by omega, by omega, by omega, by omega, by omega, by omega, by omega, by omega, ?_, ?_⟩
  · rw [Int.toNat_of_nonneg k1, Int.toNat_of_nonneg (by omega), Int.toNat_of_nonneg (by omega)]
    exact ho.1
  · rw [Int.toNat_of_nonneg k1, Int.toNat_of_nonneg (by omega), Int.toNat_of_nonneg (by omega)]
    exact ho.2
theorem stamp_lt {n n' : Int} (h : okMom n) (h' : okMom n') (hlt : n < n') : stampN n < stampN n' := by
  obtain ⟨y, mo, d, a, b, c, e1, e2, e3, e4, e5, e6, b1, b2, b3, b4, b5, b6, ho, hd⟩ := stamp_parts n h
  obtain ⟨y', mo', d', a', b', c', e1', e2', e3', e4', e5', e6', b1', b2', b3', b4', b5', b6', ho', hd'⟩ := stamp_parts n' h'
  unfold stampN
  rw [e1, e2, e3, e4, e5, e6, e1', e2', e3', e4', e5', e6']
  simp only [Int.toNat_natCast]
  rcases Int.lt_or_le (n / 86400) (n' / 86400) with hD | hD
  · have hlex : y < y' ∨ (y = y' ∧ (mo < mo' ∨ (mo = mo' ∧ d < d'))) := by
      rcases Nat.lt_trichotomy y y' with q | q | q
      · exact .inl q
      · refine .inr ⟨q, ?_⟩
        rcases Nat.lt_trichotomy mo mo' with r | r | r
        · exact .inl r
        · refine .inr ⟨r, ?_⟩
          rcases Nat.lt_trichotomy d d' with s | s | s
          · exact s
          · subst q r s; omega
          · have := day_lt ho' ho (.inr ⟨by omega, .inr ⟨by omega, by omega⟩⟩)
            omega
        · have := day_lt ho' ho (.inr ⟨by omega, .inl (by omega)⟩)
          omega
      · have := day_lt ho' ho (.inl (by omega))
        omega
    omega
  · have hDD : n / 86400 = n' / 86400 := by omega
    have hy : y = y' ∧ mo = mo' ∧ d = d' := by
      rw [hDD, e1'] at e1
      rw [hDD, e2'] at e2
      rw [hDD, e3'] at e3
      omega
    obtain ⟨rfl, rfl, rfl⟩ := hy
    have hc : n % 86400 < n' % 86400 := by omega
    omega
theorem timeK_eq (m : Int × List UInt8) (h : okMom m.1) : timeK m = padL 14 (stampN m.1) ++ m.2 ∧ stampN m.1 < 10 ^ 14 := by
  obtain ⟨y, mo, d, a, b, c, e1, e2, e3, e4, e5, e6, b1, b2, b3, b4, b5, b6, _, _⟩ := stamp_parts m.1 h
  unfold timeK stampN
  rw [e1, e2, e3, e4, e5, e6]
  simp only [Int.toNat_natCast]
  rw [padL_app 4 2 y mo (by omega), padL_app 6 2 _ d (by omega), padL_app 8 2 _ a (by omega), padL_app 10 2 _ b (by omega), padL_app 12 2 _ c (by omega)]
  exact ⟨rfl, by omega⟩
theorem pad_lt {N M : Nat} (hN : N < 10 ^ 14) (hM : M < 10 ^ 14) (h : N < M) (x y : List UInt8) : bytesLess (padL 14 N ++ x) (padL 14 M ++ y) = true ∧ bytesLess (padL 14 M ++ y) (padL 14 N ++ x) = false := by
  have vN : digV (padL 14 N) = N := by rw [digV_pad, Nat.mod_eq_of_lt hN]
  have vM : digV (padL 14 M) = M := by rw [digV_pad, Nat.mod_eq_of_lt hM]
  have hl : (padL 14 N).length = (padL 14 M).length := by rw [padL_length, padL_length]
  have hne : padL 14 N ≠ padL 14 M := fun e => by have := congrArg digV e; omega
  rw [less_ahead _ _ _ _ hl hne, less_ahead _ _ _ _ hl.symm (fun e => hne e.symm), less_dig _ _ (padL_dig 14 N) (padL_dig 14 M) hl, less_dig _ _ (padL_dig 14 M) (padL_dig 14 N) hl.symm, vN, vM]
  exact ⟨decide_eq_true h, decide_eq_false (by omega)⟩
/-- -1, 0, 1 -/
def signL (a b : List UInt8) : Int := if bytesLess a b then -1 else if bytesLess b a then 1 else 0
theorem time_sign (m m' : Int × List UInt8) (h : okMom m.1) (h' : okMom m'.1) : signL (timeK m) (timeK m') = if m.1 = m'.1 then signL m.2 m'.2 else if m.1 < m'.1 then -1 else 1 := by
  obtain ⟨e, b⟩ := timeK_eq m h
  obtain ⟨e', b'⟩ := timeK_eq m' h'
  unfold signL
  rw [e, e']
  rcases Int.lt_trichotomy m.1 m'.1 with hl | hl | hl
  · obtain ⟨p, q⟩ := pad_lt b b' (stamp_lt h h' hl) m.2 m'.2
    rw [p, if_pos rfl, if_neg (by omega), if_pos hl]
  · rw [if_pos hl, hl, less_app, less_app]
  · obtain ⟨p, q⟩ := pad_lt b' b (stamp_lt h' h hl) m'.2 m.2
    simp only [q, p, Bool.false_eq_true, if_false, if_true]
    rw [if_neg (by omega), if_neg (by omega)]
theorem num_sign (x y : Bool × List UInt8) (hx : okNumO x) (hy : okNumO y) : signL (numKey x) (numKey y) = if numV x < numV y then -1 else if numV y < numV x then 1 else 0 := by
  unfold signL
  rw [key_less x y hx hy, key_less y x hy hx]
  simp only [decide_eq_true_eq]
/-- a number's text turned round -/
def oppLO (l : List UInt8) : List UInt8 := if l = [48] ∨ l = [] then l else if l.head? = some 45 then l.tail else 45 :: l
theorem opp_val (l : List UInt8) (y y' : Bool × List UInt8) (h : numL l = some y) (h' : numL (oppLO l) = some y') : numV y' = - numV y := by
  obtain ⟨ho, hl⟩ := numL_is l y h
  obtain ⟨ho', hl'⟩ := numL_is _ y' h'
  obtain ⟨s, d⟩ := y
  obtain ⟨s', d'⟩ := y'
  have hd := ((isCnt_iff d).1 ho.1).1
  have hne := cnt_ne d ho.1
  cases s
  · simp only [Bool.false_eq_true, if_false] at hl
    subst hl
    unfold oppLO at hl'
    by_cases h0 : l = [48] ∨ l = []
    · rw [if_pos h0] at hl'
      rcases h0 with h0 | h0
      · subst h0
        cases s'
        · simp only [Bool.false_eq_true, if_false] at hl'
          rw [← hl']; decide
        · simp only [if_true] at hl'
          simp at hl'
      · exact absurd h0 hne
    · rw [if_neg h0] at hl'
      have hh : l.head? ≠ some 45 := by
        match l, hne with
        | a :: t, _ =>
          rw [List.all_cons, Bool.and_eq_true] at hd
          have := (isDig_iff a).1 hd.1
          intro e
          simp only [List.head?_cons, Option.some.injEq] at e
          subst e
          simp at this
      rw [if_neg hh] at hl'
      cases s'
      · simp only [Bool.false_eq_true, if_false] at hl'
        have hd' := ((isCnt_iff d').1 ho'.1).1
        rw [← hl', List.all_cons, Bool.and_eq_true] at hd'
        have := (isDig_iff 45).1 hd'.1
        simp at this
      · simp only [if_true, List.cons.injEq, true_and] at hl'
        subst hl'
        simp [numV]
  · simp only [if_true] at hl
    subst hl
    unfold oppLO at hl'
    rw [if_neg (by simp), if_pos (by simp), List.tail_cons] at hl'
    cases s'
    · simp only [Bool.false_eq_true, if_false] at hl'
      subst hl'
      simp [numV]
    · simp only [if_true] at hl'
      rw [hl', List.all_cons, Bool.and_eq_true] at hd
      have := (isDig_iff 45).1 hd.1
      simp at this
theorem show_zero (z : Int) : showI z = [48] ↔ z = 0 := by
  unfold showI
  constructor
  · intro h
    split at h
    · simp at h
    · have := congrArg digV h
      rw [dig_show] at this
      have h48 : digV [48] = 0 := by decide
      omega
  · rintro rfl
    decide
theorem show_neg (z : Int) : (showI z).head? = some 45 ↔ z < 0 := by
  unfold showI
  constructor
  · intro h
    split at h
    · assumption
    · have hc := show_cnt z.natAbs
      have hd := ((isCnt_iff _).1 hc).1
      match hs : showN z.natAbs, h with
      | a :: t, h =>
        rw [hs, List.all_cons, Bool.and_eq_true] at hd
        have := (isDig_iff a).1 hd.1
        simp only [List.head?_cons, Option.some.injEq] at h
        subst h
        simp at this
      | [], h => simp at h
  · intro h
    rw [if_pos h]; rfl
end Go.Proofs.YtimjmecogbkgfabGreatDoor
