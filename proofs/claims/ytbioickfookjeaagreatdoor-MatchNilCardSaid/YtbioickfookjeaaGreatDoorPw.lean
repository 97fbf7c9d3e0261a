/-
  The width of a character at a text's beginning, and texts of characters alone.
-/
import Derived.Test.YtbioickfookjeaaGreatDoorMathE
namespace Go.Proofs.YtbioickfookjeaaGreatDoor
theorem widGo_cases (l : List UInt8) (a : Nat) : ∀ n k, widGo l a n k = 0 ∨ ∃ j, inRow j a = true ∧ widGo l a n k = widAt l j ∧ ∀ l', widGo l' a n k = widAt l' j := by
  intro n
  induction n with
  | zero => intro k; exact .inl rfl
  | succ n ih =>
    intro k
    cases h : inRow k a with
    | true => exact .inr ⟨k, h, by rw [widGo, if_pos h], fun l' => by rw [widGo, if_pos h]⟩
    | false =>
      rcases ih (k + 1) with h0 | ⟨j, hj, h1, h2⟩
      · left; rw [widGo, h]; exact h0
      · exact .inr ⟨j, hj, by rw [widGo, h]; exact h1, fun l' => by rw [widGo, h]; exact h2 l'⟩
/-- what a character's width says -/
theorem wid_row_of (a : UInt8) (t : List UInt8) (h : wid (a :: t) ≠ 0) : ∃ k, inRow k a.toNat = true ∧ wid (a :: t) = rowW k ∧ rowW k ≤ (a :: t).length ∧ (∀ j, 1 ≤ j → j < rowW k → tl (a :: t) k j = true) ∧ ∀ t', wid (a :: t') = widAt (a :: t') k := by
  have hc : ∃ k, inRow k a.toNat = true ∧ wid (a :: t) = widAt (a :: t) k ∧ ∀ t', wid (a :: t') = widAt (a :: t') k := by
    rcases widGo_cases (a :: t) a.toNat 9 0 with h0 | ⟨k, hk, h1, h2⟩
    · exact absurd h0 h
    · exact ⟨k, hk, h1, fun t' => h2 (a :: t')⟩
  obtain ⟨k, hk, h1, h2⟩ := hc
  have hw : widAt (a :: t) k ≠ 0 := by rw [← h1]; exact h
  have hl : rowW k ≤ (a :: t).length := by
    by_cases hl : rowW k ≤ (a :: t).length
    · exact hl
    · exact absurd (widAt_short _ _ (by omega)) hw
  have ht : ∀ j, 1 ≤ j → j < rowW k → tl (a :: t) k j = true := by
    intro j h1 h2
    cases hj : tl (a :: t) k j with
    | true => rfl
    | false => exact absurd (widAt_bad _ _ j h1 h2 hj) hw
  exact ⟨k, hk, by rw [h1]; exact widAt_good _ _ hl ht, hl, ht, h2⟩
theorem tl_app (l m : List UInt8) (k j : Nat) (h : tl l k j = true) : tl (l ++ m) k j = true := by
  unfold tl at h ⊢
  cases hj : l[j]? with
  | none => rw [hj] at h; cases h
  | some b =>
    have : (l ++ m)[j]? = some b := by
      rw [List.getElem?_append_left (List.getElem?_eq_some_iff.1 hj).1]; exact hj
    rw [this]; rw [hj] at h; exact h
theorem tl_take (l : List UInt8) (n k j : Nat) (hj : j < n) (h : tl l k j = true) : tl (l.take n) k j = true := by
  unfold tl at h ⊢
  rw [List.getElem?_take, if_pos hj]; exact h
/-- a character stands at the beginning, whatever follows it -/
theorem wid_app (l m : List UInt8) (h : wid l ≠ 0) : wid (l ++ m) = wid l := by
  cases l with
  | nil => exact absurd rfl h
  | cons a t =>
    obtain ⟨k, _, h1, h2, h3, h4⟩ := wid_row_of a t h
    rw [List.cons_append, h4, h1, ← List.cons_append]
    exact widAt_good _ _ (by rw [List.length_append]; omega) (fun j ha hb => tl_app _ _ _ _ (h3 j ha hb))
theorem wid_chunk (l m : List UInt8) (h : wid l ≠ 0) : wid (l.take (wid l) ++ m) = wid l := by
  have hc : wid (l.take (wid l)) = wid l := by
    cases l with
    | nil => exact absurd rfl h
    | cons a t =>
      obtain ⟨k, _, h1, h2, h3, h4⟩ := wid_row_of a t h
      rw [h1]
      obtain ⟨w, hw⟩ : ∃ w, rowW k = w + 1 := ⟨rowW k - 1, by omega⟩
      have e : (a :: t).take (rowW k) = a :: t.take w := by rw [hw]; rfl
      rw [e, h4, ← e]
      exact widAt_good _ _ (by rw [List.length_take]; omega) (fun j ha hb => tl_take _ _ _ _ hb (h3 j ha hb))
  rw [wid_app _ _ (by rw [hc]; exact h), hc]
theorem wid_ascii (a : UInt8) (t : List UInt8) (h : a.toNat < 128) : wid (a :: t) = 1 := by
  rw [wid_row a t 0 (by omega) (Nat.zero_le _) (by show a.toNat ≤ 127; omega)]
  exact widAt_good _ _ (by show 1 ≤ _; simp) (fun j h1 h2 => by have : rowW 0 = 1 := rfl; omega)
theorem validGo_nil (n : Nat) : validGo n [] = true := by cases n <;> rfl
theorem validGo_cons (n : Nat) (a : UInt8) (t : List UInt8) (h : wid (a :: t) ≠ 0) : validGo (n + 1) (a :: t) = validGo n ((a :: t).drop (wid (a :: t))) := by
  rw [validGo, if_neg (by simp), if_neg h]
  have : stp (a :: t) = wid (a :: t) := by unfold stp; omega
  rw [this]
theorem validGo_ascii (n : Nat) (a : UInt8) (t : List UInt8) (h : a.toNat < 128) : validGo (n + 1) (a :: t) = validGo n t := by
  have := wid_ascii a t h
  rw [validGo_cons n a t (by omega), this]; rfl
theorem rowA_high (k : Nat) (h : 2 ≤ rowW k) : 128 ≤ rowA k := by
  by_cases hk : k < 9
  · rcases (show k = 0 ∨ k = 1 ∨ k = 2 ∨ k = 3 ∨ k = 4 ∨ k = 5 ∨ k = 6 ∨ k = 7 ∨ k = 8 by omega) with h | h | h | h | h | h | h | h | h <;> subst h <;> first | decide | (exact absurd h (by decide))
  · have e : rowW k = 0 := by unfold rowW; simp [List.getD, List.getElem?_eq_none (show [1, 2, 3, 3, 3, 3, 4, 4, 4].length ≤ k by simp; omega)]
    omega
end Go.Proofs.YtbioickfookjeaaGreatDoor
