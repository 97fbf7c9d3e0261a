/-
  A moment's text is short.
-/
import Derived.Test.YtimjmecogbkgfaaGreatDoorMathEToLeaf
import Derived.Test.YtimjmecogbkgfaaGreatDoorRBeh
import Derived.Test.YtimjmecogbkgfaaGreatDoorRDateToPyear
namespace Go.Proofs.YtimjmecogbkgfaaGreatDoor

/-- what stands behind the second is short -/
theorem rest_short (l r b : List UInt8) (h : restL l = some (r, b)) (o : Int) (ho : offL b = some o) : l.length ≤ 15 := by
  have hb : b.length ≤ 5 := by
    unfold offL at ho
    split at ho
    · rename_i e; subst e; decide
    · split at ho
      · rename_i e; omega
      · split at ho
        · rename_i e; omega
        · cases ho
  unfold restL at h
  split at h
  · split at h
    · cases h
    · rename_i hd
      simp only [Option.some.injEq, Prod.mk.injEq] at h
      have := h.2
      have h2 : l.tail.length - digN l.tail = b.length := by rw [← this, List.length_drop]
      have h3 : l.tail.length = l.length - 1 := by simp
      omega
  · simp only [Option.some.injEq, Prod.mk.injEq] at h
    rw [h.2]; omega
theorem mom_short (l : List UInt8) (h : momL l ≠ none) : 14 ≤ l.length ∧ l.length ≤ 29 := by
  unfold momL at h
  split at h
  · exact absurd rfl h
  · rename_i h14
    split at h
    · rename_i s r b hs hr
      cases ho : offL b with
      | none => rw [ho] at h; exact absurd rfl h
      | some o =>
        have := rest_short _ _ _ hr o ho
        rw [List.length_drop] at this
        omega
    · exact absurd rfl h
end Go.Proofs.YtimjmecogbkgfaaGreatDoor

/-
  The document's own moment is the program's.
-/
namespace Go.Proofs.YtimjmecogbkgfaaGreatDoor

theorem digs2 (a b : UInt8) : digsL [a, b] = if isDig a && isDig b then some (10 * (a.toNat - 48) + (b.toNat - 48)) else none := by
  simp [digsL, digV]
theorem digs4 (a b c d : UInt8) : digsL [a, b, c, d] = match digsL [a, b], digsL [c, d] with
    | some x, some y => some (100 * x + y)
    | _, _ => none := by
  simp only [digsL, digV, List.all_cons, List.all_nil, List.foldl_cons, List.foldl_nil, Bool.and_true]
  cases isDig a <;> cases isDig b <;> cases isDig c <;> cases isDig d <;> simp
  omega
theorem clock2 (a b c d : UInt8) : clockL [a, b, c, d] = match digsL [a, b], digsL [c, d] with
    | some h, some m => if h ≤ 23 ∧ m ≤ 59 then some (h * 3600 + m * 60) else none
    | _, _ => none := by
  simp only [clockL, clockGo]
  cases digsL [a, b] <;> cases digsL [c, d] <;> simp
  rename_i h m
  by_cases h1 : h ≤ 23 <;> by_cases h2 : m ≤ 59 <;> simp [h1, h2]
theorem clock3 (a b c d e f : UInt8) : clockL [a, b, c, d, e, f] = match digsL [a, b], digsL [c, d], digsL [e, f] with
    | some h, some m, some s => if h ≤ 23 ∧ m ≤ 59 ∧ s ≤ 59 then some (h * 3600 + m * 60 + s) else none
    | _, _, _ => none := by
  simp only [clockL, clockGo]
  cases digsL [a, b] <;> cases digsL [c, d] <;> cases digsL [e, f] <;> simp
  rename_i h m s
  by_cases h1 : h ≤ 23 <;> by_cases h2 : m ≤ 59 <;> by_cases h3 : s ≤ 59 <;> simp [h1, h2, h3]
  omega
theorem five {α : Type} (l : List α) (h : l.length = 5) : ∃ a b c d e, l = [a, b, c, d, e] := by
  match l, h with
  | [a, b, c, d, e], _ => exact ⟨a, b, c, d, e, rfl⟩
theorem off_two (b : List UInt8) : offL b = (offM b).map (fun m => 60 * m) := by
  unfold offL offM
  by_cases h : b = [90]
  · simp [h]
  · simp only [h, if_false]
    by_cases h5 : b.length = 5
    · obtain ⟨s, x, y, z, t, rfl⟩ := five b h5
      simp only [List.length_cons, List.length_nil, List.head?_cons, List.tail_cons, List.drop_succ_cons, List.drop_zero, List.take_succ_cons, List.take_zero, Option.some.injEq, true_and, Nat.reduceAdd, clock2, twoI]
      by_cases h43 : s = 43
      · subst h43
        simp only [if_true, true_or, show ¬ ((43 : UInt8) = 45) by decide, if_false]
        cases hx : digsL [x, y] with
        | none => cases hz : digsL [z, t] <;> simp
        | some h => cases hz : digsL [z, t] with
          | none => simp
          | some m =>
            simp only []
            by_cases hh : h ≤ 23 ∧ m ≤ 59
            · rw [if_pos hh, if_neg (show ¬ ((h : Int) < 0 ∨ 23 < (h : Int) ∨ (m : Int) < 0 ∨ 59 < (m : Int)) by omega)]
              simp
              omega
            · rw [if_neg hh, if_pos (show (h : Int) < 0 ∨ 23 < (h : Int) ∨ (m : Int) < 0 ∨ 59 < (m : Int) by omega)]
              rfl
      · by_cases h45 : s = 45
        · subst h45
          simp only [if_true, or_true, show ¬ ((45 : UInt8) = 43) by decide, if_false]
          cases hx : digsL [x, y] with
          | none => cases hz : digsL [z, t] <;> simp
          | some h => cases hz : digsL [z, t] with
            | none => simp
            | some m =>
              simp only []
              by_cases hh : h ≤ 23 ∧ m ≤ 59
              · rw [if_pos hh, if_neg (show ¬ ((h : Int) < 0 ∨ 23 < (h : Int) ∨ (m : Int) < 0 ∨ 59 < (m : Int)) by omega)]
                simp
                omega
              · rw [if_neg hh, if_pos (show (h : Int) < 0 ∨ 23 < (h : Int) ∨ (m : Int) < 0 ∨ 59 < (m : Int) by omega)]
                rfl
        · simp [h43, h45]
    · simp [h5]
/-- the document's moment -/
def timeL (l : List UInt8) : Option (Int × List UInt8) :=
  if twoI (l.take 2) < 0 ∨ twoI ((l.drop 2).take 2) < 0 then none
  else if twoI ((l.drop 4).take 2) < 1 ∨ 12 < twoI ((l.drop 4).take 2) ∨ twoI ((l.drop 6).take 2) < 1 ∨ dim (100 * twoI (l.take 2) + twoI ((l.drop 2).take 2)) (twoI ((l.drop 4).take 2)) < twoI ((l.drop 6).take 2) ∨
      twoI ((l.drop 8).take 2) < 0 ∨ 23 < twoI ((l.drop 8).take 2) ∨ twoI ((l.drop 10).take 2) < 0 ∨ 59 < twoI ((l.drop 10).take 2) ∨ twoI ((l.drop 12).take 2) < 0 ∨ 59 < twoI ((l.drop 12).take 2) then none
  else match behL (l.drop 14) with
    | none => none
    | some (r, o) =>
      if (dnum (100 * twoI (l.take 2) + twoI ((l.drop 2).take 2)) (twoI ((l.drop 4).take 2)) (twoI ((l.drop 6).take 2)) - 865565) * 86400 + (twoI ((l.drop 8).take 2) * 3600 + twoI ((l.drop 10).take 2) * 60 + twoI ((l.drop 12).take 2)) - o * 60 < (dnum 0 1 1 - 865565) * 86400 ∨
         (dnum 10000 1 1 - 865565) * 86400 ≤ (dnum (100 * twoI (l.take 2) + twoI ((l.drop 2).take 2)) (twoI ((l.drop 4).take 2)) (twoI ((l.drop 6).take 2)) - 865565) * 86400 + (twoI ((l.drop 8).take 2) * 3600 + twoI ((l.drop 10).take 2) * 60 + twoI ((l.drop 12).take 2)) - o * 60 then none
      else some ((dnum (100 * twoI (l.take 2) + twoI ((l.drop 2).take 2)) (twoI ((l.drop 4).take 2)) (twoI ((l.drop 6).take 2)) - 865565) * 86400 + (twoI ((l.drop 8).take 2) * 3600 + twoI ((l.drop 10).take 2) * 60 + twoI ((l.drop 12).take 2)) - o * 60, r)
theorem two_none {l : List UInt8} (h : digsL l = none) : twoI l = -1 := by unfold twoI; rw [h]
theorem two_some {l : List UInt8} {n : Nat} (h : digsL l = some n) : twoI l = n := by unfold twoI; rw [h]
theorem epoch_eq : epoch = 865565 * 86400 := by decide
theorem mom_fourteen (a b c d e f g h i j k l m n : UInt8) (t : List UInt8) : (momL (a :: b :: c :: d :: e :: f :: g :: h :: i :: j :: k :: l :: m :: n :: t)).map (fun x => (x.1 - epoch, x.2)) = timeL (a :: b :: c :: d :: e :: f :: g :: h :: i :: j :: k :: l :: m :: n :: t) := by
  have hst : stampL [a, b, c, d, e, f, g, h, i, j, k, l, m, n] = match digsL [a, b], digsL [c, d], digsL [e, f], digsL [g, h], digsL [i, j], digsL [k, l], digsL [m, n] with
      | some y, some c, some mo, some da, some ho, some mi, some se => if dayOf (dnum (100 * y + c : Nat) mo da) = (((100 * y + c : Nat) : Int), (mo : Int), (da : Int)) ∧ ho ≤ 23 ∧ mi ≤ 59 ∧ se ≤ 59 then some (dnum (100 * y + c : Nat) mo da * 86400 + (ho * 3600 + mi * 60 + se : Nat)) else none
      | _, _, _, _, _, _, _ => none := by
    simp only [stampL, List.take_succ_cons, List.take_zero, List.drop_succ_cons, List.drop_zero, digs4, clock3]
    cases digsL [a, b] <;> cases digsL [c, d] <;> cases digsL [e, f] <;> cases digsL [g, h] <;> cases digsL [i, j] <;> cases digsL [k, l] <;> cases digsL [m, n] <;> simp
    rename_i y c mo da ho mi se
    by_cases h1 : ho ≤ 23 ∧ mi ≤ 59 ∧ se ≤ 59 <;> simp [h1]
  unfold momL timeL
  simp only [List.length_cons, List.take_succ_cons, List.take_zero, List.drop_succ_cons, List.drop_zero, hst]
  rw [if_neg (by omega)]
  unfold behL
  cases q1 : digsL [a, b] with
  | none => simp [two_none q1]
  | some y =>
  cases q2 : digsL [c, d] with
  | none => simp [two_none q2]
  | some c' =>
  cases q3 : digsL [e, f] with
  | none => simp [two_none q3]
  | some mo =>
  cases q4 : digsL [g, h] with
  | none => simp [two_none q4]
  | some da =>
  cases q5 : digsL [i, j] with
  | none => simp [two_none q5]
  | some ho =>
  cases q6 : digsL [k, l] with
  | none => simp [two_none q6]
  | some mi =>
  cases q7 : digsL [m, n] with
  | none => simp [two_none q7]
  | some se =>
  rw [two_some q1, two_some q2, two_some q3, two_some q4, two_some q5, two_some q6, two_some q7]
  clear hst q1 q2 q3 q4 q5 q6 q7
  rw [if_neg (show ¬ ((y : Int) < 0 ∨ (c' : Int) < 0) by omega)]
  have hY : (((100 * y + c' : Nat) : Int)) = 100 * (y : Int) + c' := by omega
  simp only [hY]
  generalize 100 * (y : Int) + c' = Y at *
  by_cases hok : dayOf (dnum Y mo da) = (Y, (mo : Int), (da : Int)) ∧ ho ≤ 23 ∧ mi ≤ 59 ∧ se ≤ 59
  · rw [if_pos hok]
    obtain ⟨o0, o5, o6, o7⟩ := hok
    obtain ⟨o1, o2, o3, o4⟩ := (day_iff _ _ _).1 o0
    rw [if_neg (show ¬ ((mo : Int) < 1 ∨ 12 < (mo : Int) ∨ (da : Int) < 1 ∨ dim Y mo < da ∨ (ho : Int) < 0 ∨ 23 < (ho : Int) ∨ (mi : Int) < 0 ∨ 59 < (mi : Int) ∨ (se : Int) < 0 ∨ 59 < (se : Int)) by omega)]
    cases hr : restL t with
    | none => rfl
    | some x =>
      obtain ⟨r, z⟩ := x
      simp only [off_two]
      cases ho' : offM z with
      | none => rfl
      | some o =>
        simp only [Option.map_some, year_in, epoch_eq]
        generalize dnum Y mo da = D
        have e0 : dnum 0 1 1 = 146037 := by decide
        have e1 : dnum 10000 1 1 = 3798462 := by decide
        simp only [e0, e1]
        have hc : (((ho * 3600 + mi * 60 + se : Nat) : Int)) = (ho : Int) * 3600 + mi * 60 + se := by omega
        simp only [hc]
        generalize (ho : Int) * 3600 + mi * 60 + se = C
        by_cases hb : 146037 ≤ (D * 86400 + C - 60 * o) / 86400 ∧ (D * 86400 + C - 60 * o) / 86400 < 3798462
        · rw [if_pos hb, if_neg (by omega)]
          simp only [Option.map_some, Option.some.injEq, Prod.mk.injEq, and_true]
          omega
        · rw [if_neg hb, if_pos (by omega)]
          rfl
  · rw [if_neg hok, if_pos]
    · rfl
    · apply Classical.byContradiction
      intro hn
      apply hok
      refine ⟨(day_iff _ _ _).2 ?_, by omega, by omega, by omega⟩
      unfold okDay
      omega
theorem fourteen {α : Type} (l : List α) (h : 14 ≤ l.length) : ∃ a b c d e f g h i j k m n o t, l = a :: b :: c :: d :: e :: f :: g :: h :: i :: j :: k :: m :: n :: o :: t := by
  match l, h with
  | a :: b :: c :: d :: e :: f :: g :: h :: i :: j :: k :: m :: n :: o :: t, _ => exact ⟨a, b, c, d, e, f, g, h, i, j, k, m, n, o, t, rfl⟩
theorem mom_time (l : List UInt8) (h : 14 ≤ l.length) : (momL l).map (fun x => (x.1 - epoch, x.2)) = timeL l := by
  obtain ⟨a, b, c, d, e, f, g, h, i, j, k, m, n, o, t, rfl⟩ := fourteen l h
  exact mom_fourteen _ _ _ _ _ _ _ _ _ _ _ _ _ _ _
theorem time_at (l : List UInt8) (h : l.length ≤ 14) : momL l = none := by
  rcases Nat.lt_or_ge l.length 14 with h1 | h1
  · unfold momL; rw [if_pos h1]
  · obtain ⟨a, b, c, d, e, f, g, h', i, j, k, m, n, o, t, rfl⟩ := fourteen l h1
    have : t = [] := List.eq_nil_of_length_eq_zero (by simp only [List.length_cons] at h; omega)
    subst this
    unfold momL
    simp only [List.drop_succ_cons, List.drop_zero]
    have hr : restL [] = some ([], []) := by decide
    have ho : offL [] = none := by decide
    rw [hr]
    split
    · rfl
    · split
      · rename_i r b h1 h2
        cases h2
        rw [ho]
      · rfl
end Go.Proofs.YtimjmecogbkgfaaGreatDoor
