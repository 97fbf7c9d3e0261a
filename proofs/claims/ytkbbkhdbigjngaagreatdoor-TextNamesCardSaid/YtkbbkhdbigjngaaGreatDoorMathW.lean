/-
  Plain functions on bytes: how many bytes the character at a text's beginning has.
-/
import Derived.Test.YtkbbkhdbigjngaaGreatDoorMath
namespace Go.Proofs.YtkbbkhdbigjngaaGreatDoor
/-! the table of characters -/
def rowF (k : Nat) : Nat := [0, 194, 224, 225, 237, 238, 240, 241, 244].getD k 0
def rowL (k : Nat) : Nat := [127, 223, 224, 236, 237, 239, 240, 243, 244].getD k 0
def rowA (k : Nat) : Nat := [0, 128, 160, 128, 128, 128, 144, 128, 128].getD k 0
def rowZ (k : Nat) : Nat := [0, 191, 191, 191, 159, 191, 191, 191, 143].getD k 0
def rowW (k : Nat) : Nat := [1, 2, 3, 3, 3, 3, 4, 4, 4].getD k 0
theorem row_bd (k : Nat) : rowF k ≤ 244 ∧ rowL k ≤ 244 ∧ rowA k ≤ 160 ∧ rowZ k ≤ 191 ∧ rowW k ≤ 4 := by
  rcases (show k = 0 ∨ k = 1 ∨ k = 2 ∨ k = 3 ∨ k = 4 ∨ k = 5 ∨ k = 6 ∨ k = 7 ∨ k = 8 ∨ 9 ≤ k by omega) with h | h | h | h | h | h | h | h | h | h
  all_goals first
    | (subst h; decide)
    | (have e : ∀ (l : List Nat), l.length = 9 → l.getD k 0 = 0 := fun l hl => by simp [List.getD, List.getElem?_eq_none (show l.length ≤ k by omega)]
       simp only [rowF, rowL, rowA, rowZ, rowW]
       rw [e _ rfl, e _ rfl, e _ rfl, e _ rfl, e _ rfl]; omega)
theorem rowW_pos (k : Nat) (h : k < 9) : 1 ≤ rowW k := by
  rcases (show k = 0 ∨ k = 1 ∨ k = 2 ∨ k = 3 ∨ k = 4 ∨ k = 5 ∨ k = 6 ∨ k = 7 ∨ k = 8 by omega) with h | h | h | h | h | h | h | h | h <;> subst h <;> decide
def lowOf (k j : Nat) : Nat := if j = 1 then rowA k else 128
def highOf (k j : Nat) : Nat := if j = 1 then rowZ k else 191
/-- does the byte at j go on a character of row k? -/
def tl (l : List UInt8) (k j : Nat) : Bool := match l[j]? with
  | some b => decide (lowOf k j ≤ b.toNat) && decide (b.toNat ≤ highOf k j)
  | none => false
def widAt (l : List UInt8) (k : Nat) : Nat := if decide (rowW k ≤ l.length) && ([1, 2, 3].all fun j => !decide (j < rowW k) || tl l k j) then rowW k else 0
def inRow (k a : Nat) : Bool := decide (rowF k ≤ a) && decide (a ≤ rowL k)
def widGo (l : List UInt8) (a : Nat) : Nat → Nat → Nat
  | 0, _ => 0
  | n + 1, k => if inRow k a then widAt l k else widGo l a n (k + 1)
/-- how many bytes the character at the beginning has; 0: the first byte stands alone -/
def wid (l : List UInt8) : Nat := match l with
  | [] => 0
  | a :: _ => widGo l a.toNat 9 0
theorem widAt_short (l : List UInt8) (k : Nat) (h : l.length < rowW k) : widAt l k = 0 := by
  unfold widAt; rw [decide_eq_false (by omega)]; rfl
theorem widAt_bad (l : List UInt8) (k j : Nat) (h1 : 1 ≤ j) (h2 : j < rowW k) (h : tl l k j = false) : widAt l k = 0 := by
  have hb := row_bd k
  have hj : j = 1 ∨ j = 2 ∨ j = 3 := by omega
  unfold widAt
  have : ([1, 2, 3].all fun j => !decide (j < rowW k) || tl l k j) = false := by
    rw [List.all_eq_false]
    exact ⟨j, by rcases hj with h | h | h <;> simp [h], by simp [h, h2]⟩
  rw [this]; simp
theorem widAt_good (l : List UInt8) (k : Nat) (hl : rowW k ≤ l.length) (h : ∀ j, 1 ≤ j → j < rowW k → tl l k j = true) : widAt l k = rowW k := by
  unfold widAt
  have : ([1, 2, 3].all fun j => !decide (j < rowW k) || tl l k j) = true := by
    rw [List.all_eq_true]
    intro j hj
    by_cases hw : j < rowW k
    · rw [h j (by simp at hj; omega) hw]; simp
    · simp [hw]
  rw [this, decide_eq_true hl]; simp
theorem wid_byt (s : ByteArray) (h : 0 < s.size) : wid (byt s) = widGo (byt s) s[0].toNat 9 0 := by
  have e := drop_one s 0 h
  simp only [List.drop_zero] at e
  rw [e]; rfl
theorem tl_byt (s : ByteArray) (k j : Nat) (h : j < s.size) : tl (byt s) k j = (decide (lowOf k j ≤ s[j].toNat) && decide (s[j].toNat ≤ highOf k j)) := by
  unfold tl; rw [byt_get s j h]
end Go.Proofs.YtkbbkhdbigjngaaGreatDoor
