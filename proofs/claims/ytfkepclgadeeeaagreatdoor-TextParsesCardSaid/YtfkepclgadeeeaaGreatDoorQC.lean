/-
  Plain functions on bytes: how many bytes the character at a text's beginning has.
-/
import Derived.Test.YtfkepclgadeeeaaGreatDoorMath
import GoSem.Core.Utf8
namespace Go.Proofs.YtfkepclgadeeeaaGreatDoor
/-! the table of characters -/
def rowF (k : Nat) : Nat := [0, 194, 224, 225, 237, 238, 240, 241, 244].getD k 0
def rowL (k : Nat) : Nat := [127, 223, 224, 236, 237, 239, 240, 243, 244].getD k 0
def rowA (k : Nat) : Nat := [0, 128, 160, 128, 128, 128, 144, 128, 128].getD k 0
def rowZ (k : Nat) : Nat := [0, 191, 191, 191, 159, 191, 191, 191, 143].getD k 0
def rowW (k : Nat) : Nat := [1, 2, 3, 3, 3, 3, 4, 4, 4].getD k 0
theorem row_bd (k : Nat) : rowF k ≤ 244 ∧ rowL k ≤ 244 ∧ rowA k ≤ 160 ∧ rowZ k ≤ 191 ∧ rowW k ≤ 4 := by
  rcases (show k = 0 ∨ k = 1 ∨ k = 2 ∨ k = 3 ∨ k = 4 ∨ k = 5 ∨ k = 6 ∨ k = 7 ∨ k = 8 ∨ 9 ≤ k by omega) with h | h | h | h | h | h | h | h | h | h
  all_goals first
    | (subst h; decide)
    | (have e : ∀ (l : List Nat), l.length = 9 → l.getD k 0 = 0 := fun l hl => by simp [List.getD, List.getElem?_eq_none (show l.length ≤ k by omega)]
       simp only [rowF, rowL, rowA, rowZ, rowW]
       rw [e _ rfl, e _ rfl, e _ rfl, e _ rfl, e _ rfl]; omega)
theorem rowW_pos (k : Nat) (h : k < 9) : 1 ≤ rowW k := by
  rcases (show k = 0 ∨ k = 1 ∨ k = 2 ∨ k = 3 ∨ k = 4 ∨ k = 5 ∨ k = 6 ∨ k = 7 ∨ k = 8 by omega) with h | h | h | h | h | h | h | h | h <;> subst h <;> decide
def lowOf (k j : Nat) : Nat := if j = 1 then rowA k else 128
def highOf (k j : Nat) : Nat := if j = 1 then rowZ k else 191
/-- does the byte at j go on a character of row k? -/
def tl (l : List UInt8) (k j : Nat) : Bool := match l[j]? with
  | some b => decide (lowOf k j ≤ b.toNat) && decide (b.toNat ≤ highOf k j)
  | none => false
def widAt (l : List UInt8) (k : Nat) : Nat := if decide (rowW k ≤ l.length) && ([1, 2, 3].all fun j => !decide (j < rowW k) || tl l k j) then rowW k else 0
def inRow (k a : Nat) : Bool := decide (rowF k ≤ a) && decide (a ≤ rowL k)
def widGo (l : List UInt8) (a : Nat) : Nat → Nat → Nat
  | 0, _ => 0
  | n + 1, k => if inRow k a then widAt l k else widGo l a n (k + 1)
/-- how many bytes the character at the beginning has; 0: the first byte stands alone -/
def wid (l : List UInt8) : Nat := match l with
  | [] => 0
  | a :: _ => widGo l a.toNat 9 0
theorem widAt_short (l : List UInt8) (k : Nat) (h : l.length < rowW k) : widAt l k = 0 := by
  unfold widAt; rw [decide_eq_false (by omega)]; rfl
theorem widAt_bad (l : List UInt8) (k j : Nat) (h1 : 1 ≤ j) (h2 : j < rowW k) (h : tl l k j = false) : widAt l k = 0 := by
  have hb := row_bd k
  have hj : j = 1 ∨ j = 2 ∨ j = 3 := by omega
  unfold widAt
  have : ([1, 2, 3].all fun j => !decide (j < rowW k) || tl l k j) = false := by
    rw [List.all_eq_false]
    exact ⟨j, by rcases hj with h | h | h <;> simp [h], by simp [h, h2]⟩
  rw [this]; simp
theorem widAt_good (l : List UInt8) (k : Nat) (hl : rowW k ≤ l.length) (h : ∀ j, 1 ≤ j → j < rowW k → tl l k j = true) : widAt l k = rowW k := by
  unfold widAt
  have : ([1, 2, 3].all fun j => !decide (j < rowW k) || tl l k j) = true := by
    rw [List.all_eq_true]
    intro j hj
    by_cases hw : j < rowW k
    · rw [h j (by simp at hj; omega) hw]; simp
    · simp [hw]
  rw [this, decide_eq_true hl]; simp
theorem wid_byt (s : ByteArray) (h : 0 < s.size) : wid (byt s) = widGo (byt s) s[0].toNat 9 0 := by
  have e := drop_one s 0 h
  simp only [List.drop_zero] at e
  rw [e]; rfl
theorem tl_byt (s : ByteArray) (k j : Nat) (h : j < s.size) : tl (byt s) k j = (decide (lowOf k j ≤ s[j].toNat) && decide (s[j].toNat ≤ highOf k j)) := by
  unfold tl; rw [byt_get s j h]
end Go.Proofs.YtfkepclgadeeeaaGreatDoor

/-
  A range over a text takes steps of just the widths of its characters, and of one byte where a byte stands alone.
-/
namespace Go.Proofs.YtfkepclgadeeeaaGreatDoor

theorem row_lt (i k : Nat) (h : i < k) (hk : k < 9) : rowL i < rowF k := by
  have : ∀ i k : Fin 9, i < k → rowL i.val < rowF k.val := by decide
  exact this ⟨i, by omega⟩ ⟨k, hk⟩ h
theorem widGo_row (l : List UInt8) (a k : Nat) (hk : k < 9) (h : inRow k a = true) : ∀ n j, j ≤ k → n = 9 - j → widGo l a n j = widAt l k := by
  intro n
  induction n with
  | zero => intro j h1 h2; omega
  | succ n ih =>
    intro j h1 h2
    rw [widGo]
    by_cases hj : j = k
    · subst hj; rw [if_pos h]
    · have hl := row_lt j k (by omega) hk
      rw [if_neg (by simp [inRow] at h ⊢; omega)]
      exact ih (j + 1) (by omega) (by omega)
theorem wid_row (a : UInt8) (t : List UInt8) (k : Nat) (hk : k < 9) (h1 : rowF k ≤ a.toNat) (h2 : a.toNat ≤ rowL k) : wid (a :: t) = widAt (a :: t) k :=
  widGo_row _ _ k hk (by simp [inRow, h1, h2]) 9 0 (by omega) rfl
theorem wid_none (a : UInt8) (t : List UInt8) (h : (128 ≤ a.toNat ∧ a.toNat ≤ 193) ∨ 245 ≤ a.toNat) : wid (a :: t) = 0 := by
  have : ∀ n j, widGo (a :: t) a.toNat n j = 0 ∨ 9 ≤ j ∨ True := fun _ _ => .inr (.inr trivial)
  have e : ∀ k, k < 9 → inRow k a.toNat = false := by
    intro k hk
    rcases (show k = 0 ∨ k = 1 ∨ k = 2 ∨ k = 3 ∨ k = 4 ∨ k = 5 ∨ k = 6 ∨ k = 7 ∨ k = 8 by omega) with h | h | h | h | h | h | h | h | h <;> subst h <;> simp [inRow, rowF, rowL] <;> omega
  show widGo _ _ 9 0 = 0
  simp only [widGo, e 0 (by omega), e (0 + 1) (by omega), e (0 + 1 + 1) (by omega), e (0 + 1 + 1 + 1) (by omega), e (0 + 1 + 1 + 1 + 1) (by omega), e (0 + 1 + 1 + 1 + 1 + 1) (by omega), e (0 + 1 + 1 + 1 + 1 + 1 + 1) (by omega), e (0 + 1 + 1 + 1 + 1 + 1 + 1 + 1) (by omega), e (0 + 1 + 1 + 1 + 1 + 1 + 1 + 1 + 1) (by omega)]
  rfl

theorem get!_lt (s : ByteArray) (i : Nat) (h : i < s.size) : s.get! i = s[i] := by
  simp [ByteArray.get!, getElem!_pos, h]; rfl
theorem tl_get (s : ByteArray) (pos k j : Nat) (h : pos + j < s.size) : tl ((byt s).drop pos) k j = (decide (lowOf k j ≤ (s.get! (pos + j)).toNat) && decide ((s.get! (pos + j)).toNat ≤ highOf k j)) := by
  unfold tl; rw [List.getElem?_drop, byt_get s (pos + j) h, get!_lt s _ h]
theorem widAt_eq (s : ByteArray) (pos k : Nat) : widAt ((byt s).drop pos) k = if rowW k ≤ s.size - pos ∧ (1 < rowW k → lowOf k 1 ≤ (s.get! (pos + 1)).toNat ∧ (s.get! (pos + 1)).toNat ≤ highOf k 1) ∧
    (2 < rowW k → lowOf k 2 ≤ (s.get! (pos + 2)).toNat ∧ (s.get! (pos + 2)).toNat ≤ highOf k 2) ∧ (3 < rowW k → lowOf k 3 ≤ (s.get! (pos + 3)).toNat ∧ (s.get! (pos + 3)).toNat ≤ highOf k 3) then rowW k else 0 := by
  have hb := row_bd k
  have hlen : ((byt s).drop pos).length = s.size - pos := by rw [List.length_drop, byt_length]
  by_cases hl : rowW k ≤ s.size - pos
  · split
    · rename_i h
      refine widAt_good _ _ (by omega) ?_
      intro j h1 h2
      rw [tl_get s pos k j (by omega)]
      rcases (show j = 1 ∨ j = 2 ∨ j = 3 by omega) with e | e | e <;> subst e <;> simp <;> omega
    · rename_i h
      rcases (show (1 < rowW k ∧ ¬ (lowOf k 1 ≤ (s.get! (pos + 1)).toNat ∧ (s.get! (pos + 1)).toNat ≤ highOf k 1)) ∨ (2 < rowW k ∧ ¬ (lowOf k 2 ≤ (s.get! (pos + 2)).toNat ∧ (s.get! (pos + 2)).toNat ≤ highOf k 2)) ∨ (3 < rowW k ∧ ¬ (lowOf k 3 ≤ (s.get! (pos + 3)).toNat ∧ (s.get! (pos + 3)).toNat ≤ highOf k 3)) by omega) with ⟨h1, h2⟩ | ⟨h1, h2⟩ | ⟨h1, h2⟩
      · exact widAt_bad _ _ 1 (by omega) h1 (by rw [tl_get s pos k 1 (by omega)]; simp; omega)
      · exact widAt_bad _ _ 2 (by omega) h1 (by rw [tl_get s pos k 2 (by omega)]; simp; omega)
      · exact widAt_bad _ _ 3 (by omega) h1 (by rw [tl_get s pos k 3 (by omega)]; simp; omega)
  · rw [widAt_short _ _ (by omega), if_neg (by omega)]

theorem valid_iff (c : Nat) : Utf8.valid (c : Int) = true ↔ c < 0xD800 ∨ (0xE000 ≤ c ∧ c ≤ 0x10FFFF) := by
  unfold Utf8.valid
  rw [Bool.or_eq_true, Bool.and_eq_true, Bool.and_eq_true, decide_eq_true_eq, decide_eq_true_eq, decide_eq_true_eq, decide_eq_true_eq]
  omega
/-- the width that decode tells, over four numbers and how many bytes are left -/
def decW (b0 b1 b2 b3 n : Nat) : Nat := if b0 < 128 then 1
      else if b0 / 32 = 6 ∧ 1 < n ∧ b1 / 64 = 2 then (if (b0 % 32) * 64 + b1 % 64 ≥ 0x80 then 2 else 1)
      else if b0 / 16 = 14 ∧ 1 < n ∧ b1 / 64 = 2 ∧ 2 < n ∧ b2 / 64 = 2 then (if (b0 % 16) * 4096 + (b1 % 64) * 64 + b2 % 64 ≥ 0x800 ∧ ((b0 % 16) * 4096 + (b1 % 64) * 64 + b2 % 64 < 0xD800 ∨ 0xE000 ≤ (b0 % 16) * 4096 + (b1 % 64) * 64 + b2 % 64) then 3 else 1)
      else if b0 / 8 = 30 ∧ 1 < n ∧ b1 / 64 = 2 ∧ 2 < n ∧ b2 / 64 = 2 ∧ 3 < n ∧ b3 / 64 = 2 then (if (b0 % 8) * 262144 + (b1 % 64) * 4096 + (b2 % 64) * 64 + b3 % 64 ≥ 0x10000 ∧ (b0 % 8) * 262144 + (b1 % 64) * 4096 + (b2 % 64) * 64 + b3 % 64 ≤ 0x10FFFF then 4 else 1)
      else 1

theorem dec_core (b0 b1 b2 b3 n : Nat) (p1 p2 p3 : Bool) (l1 : p1 = true ↔ 1 < n) (l2 : p2 = true ↔ 2 < n) (l3 : p3 = true ↔ 3 < n) :
    (if b0 < 0x80 then (b0, 1)
      else if b0 / 32 == 6 && (p1 && b1 / 64 == 2) then
        (if (b0 % 32) * 64 + b1 % 64 ≥ 0x80 then ((b0 % 32) * 64 + b1 % 64, 2) else (Utf8.runeError, 1))
      else if b0 / 16 == 14 && (p1 && b1 / 64 == 2) && (p2 && b2 / 64 == 2) then
        (if (b0 % 16) * 4096 + (b1 % 64) * 64 + b2 % 64 ≥ 0x800 && Utf8.valid (((b0 % 16) * 4096 + (b1 % 64) * 64 + b2 % 64 : Nat) : Int) then ((b0 % 16) * 4096 + (b1 % 64) * 64 + b2 % 64, 3) else (Utf8.runeError, 1))
      else if b0 / 8 == 30 && (p1 && b1 / 64 == 2) && (p2 && b2 / 64 == 2) && (p3 && b3 / 64 == 2) then
        (if (b0 % 8) * 262144 + (b1 % 64) * 4096 + (b2 % 64) * 64 + b3 % 64 ≥ 0x10000 && Utf8.valid (((b0 % 8) * 262144 + (b1 % 64) * 4096 + (b2 % 64) * 64 + b3 % 64 : Nat) : Int) then ((b0 % 8) * 262144 + (b1 % 64) * 4096 + (b2 % 64) * 64 + b3 % 64, 4) else (Utf8.runeError, 1))
      else (Utf8.runeError, 1)).2 = decW b0 b1 b2 b3 n := by
  unfold decW
  by_cases h0 : b0 < 128
  · rw [if_pos h0, if_pos h0]
  rw [if_neg h0, if_neg h0]
  by_cases h2 : b0 / 32 = 6 ∧ 1 < n ∧ b1 / 64 = 2
  · rw [if_pos (by simp [l1]; omega), if_pos h2]
    split <;> rfl
  rw [if_neg (by simp [l1]; omega), if_neg h2]
  by_cases h3 : b0 / 16 = 14 ∧ 1 < n ∧ b1 / 64 = 2 ∧ 2 < n ∧ b2 / 64 = 2
  · rw [if_pos (by simp [l1, l2]; omega), if_pos h3]
    split
    · rename_i h; rw [Bool.and_eq_true, decide_eq_true_eq, valid_iff] at h; rw [if_pos (by omega)]
    · rename_i h; rw [Bool.and_eq_true, decide_eq_true_eq, valid_iff] at h; rw [if_neg (by omega)]
  rw [if_neg (by simp [l1, l2]; omega), if_neg h3]
  by_cases h4 : b0 / 8 = 30 ∧ 1 < n ∧ b1 / 64 = 2 ∧ 2 < n ∧ b2 / 64 = 2 ∧ 3 < n ∧ b3 / 64 = 2
  · rw [if_pos (by simp [l1, l2, l3]; omega), if_pos h4]
    split
    · rename_i h; rw [Bool.and_eq_true, decide_eq_true_eq, valid_iff] at h; rw [if_pos (by omega)]
    · rename_i h; rw [Bool.and_eq_true, decide_eq_true_eq, valid_iff] at h; rw [if_neg (by omega)]
  rw [if_neg (by simp [l1, l2, l3]; omega), if_neg h4]

theorem dec_2 (s : ByteArray) (pos : Nat) : (Utf8.decode s pos).2 = decW (s.get! (pos + 0)).toNat (s.get! (pos + 1)).toNat (s.get! (pos + 2)).toNat (s.get! (pos + 3)).toNat (s.size - pos) :=
  dec_core _ _ _ _ _ (decide (pos + 1 < s.size)) (decide (pos + 2 < s.size)) (decide (pos + 3 < s.size)) (by simp; omega) (by simp; omega) (by simp; omega)

theorem decW_row (b0 b1 b2 b3 n k : Nat) (g1 : b1 < 256) (g2 : b2 < 256) (g3 : b3 < 256) (_hn : 1 ≤ n) (hk : k < 9) (h1 : rowF k ≤ b0) (h2 : b0 ≤ rowL k) :
    decW b0 b1 b2 b3 n = max 1 (if rowW k ≤ n ∧ (1 < rowW k → lowOf k 1 ≤ b1 ∧ b1 ≤ highOf k 1) ∧ (2 < rowW k → lowOf k 2 ≤ b2 ∧ b2 ≤ highOf k 2) ∧ (3 < rowW k → lowOf k 3 ≤ b3 ∧ b3 ≤ highOf k 3) then rowW k else 0) := by
  unfold decW
  have l2 : lowOf k 2 = 128 := rfl
  have l3 : lowOf k 3 = 128 := rfl
  have z2 : highOf k 2 = 191 := rfl
  have z3 : highOf k 3 = 191 := rfl
  have l1 : lowOf k 1 = rowA k := rfl
  have z1 : highOf k 1 = rowZ k := rfl
  rw [l1, l2, l3, z1, z2, z3]
  clear l1 l2 l3 z1 z2 z3
  rcases (show k = 0 ∨ k = 1 ∨ k = 2 ∨ k = 3 ∨ k = 4 ∨ k = 5 ∨ k = 6 ∨ k = 7 ∨ k = 8 by omega) with h | h | h | h | h | h | h | h | h
  all_goals subst h
  · have a1 : rowF 0 = 0 := rfl
    have a2 : rowL 0 = 127 := rfl
    have a5 : rowW 0 = 1 := rfl
    rw [a1] at h1; rw [a2] at h2; rw [a5]
    rw [if_pos (by omega)]; split <;> omega
  · have a1 : rowF 1 = 194 := rfl
    have a2 : rowL 1 = 223 := rfl
    have a3 : rowA 1 = 128 := rfl
    have a4 : rowZ 1 = 191 := rfl
    have a5 : rowW 1 = 2 := rfl
    rw [a1] at h1; rw [a2] at h2; rw [a3, a4, a5]
    repeat' split
    all_goals omega
  · have a1 : rowF 2 = 224 := rfl
    have a2 : rowL 2 = 224 := rfl
    have a3 : rowA 2 = 160 := rfl
    have a4 : rowZ 2 = 191 := rfl
    have a5 : rowW 2 = 3 := rfl
    rw [a1] at h1; rw [a2] at h2; rw [a3, a4, a5]
    repeat' split
    all_goals omega
  · have a1 : rowF 3 = 225 := rfl
    have a2 : rowL 3 = 236 := rfl
    have a3 : rowA 3 = 128 := rfl
    have a4 : rowZ 3 = 191 := rfl
    have a5 : rowW 3 = 3 := rfl
    rw [a1] at h1; rw [a2] at h2; rw [a3, a4, a5]
    repeat' split
    all_goals omega
  · have a1 : rowF 4 = 237 := rfl
    have a2 : rowL 4 = 237 := rfl
    have a3 : rowA 4 = 128 := rfl
    have a4 : rowZ 4 = 159 := rfl
    have a5 : rowW 4 = 3 := rfl
    rw [a1] at h1; rw [a2] at h2; rw [a3, a4, a5]
    repeat' split
    all_goals omega
  · have a1 : rowF 5 = 238 := rfl
    have a2 : rowL 5 = 239 := rfl
    have a3 : rowA 5 = 128 := rfl
    have a4 : rowZ 5 = 191 := rfl
    have a5 : rowW 5 = 3 := rfl
    rw [a1] at h1; rw [a2] at h2; rw [a3, a4, a5]
    repeat' split
    all_goals omega
  · have a1 : rowF 6 = 240 := rfl
    have a2 : rowL 6 = 240 := rfl
    have a3 : rowA 6 = 144 := rfl
    have a4 : rowZ 6 = 191 := rfl
    have a5 : rowW 6 = 4 := rfl
    rw [a1] at h1; rw [a2] at h2; rw [a3, a4, a5]
    repeat' split
    all_goals omega
  · have a1 : rowF 7 = 241 := rfl
    have a2 : rowL 7 = 243 := rfl
    have a3 : rowA 7 = 128 := rfl
    have a4 : rowZ 7 = 191 := rfl
    have a5 : rowW 7 = 4 := rfl
    rw [a1] at h1; rw [a2] at h2; rw [a3, a4, a5]
    repeat' split
    all_goals omega
  · have a1 : rowF 8 = 244 := rfl
    have a2 : rowL 8 = 244 := rfl
    have a3 : rowA 8 = 128 := rfl
    have a4 : rowZ 8 = 143 := rfl
    have a5 : rowW 8 = 4 := rfl
    rw [a1] at h1; rw [a2] at h2; rw [a3, a4, a5]
    repeat' split
    all_goals omega
theorem decW_none (b0 b1 b2 b3 n : Nat) (h : (128 ≤ b0 ∧ b0 ≤ 193) ∨ 245 ≤ b0) (g0 : b0 < 256) (_g1 : b1 < 256) : decW b0 b1 b2 b3 n = 1 := by
  unfold decW
  repeat' split
  all_goals omega
theorem some_row (b0 : Nat) (g0 : b0 < 256) (h : ¬ ((128 ≤ b0 ∧ b0 ≤ 193) ∨ 245 ≤ b0)) : ∃ k, k < 9 ∧ rowF k ≤ b0 ∧ b0 ≤ rowL k := by
  rcases (show b0 ≤ 127 ∨ (194 ≤ b0 ∧ b0 ≤ 223) ∨ b0 = 224 ∨ (225 ≤ b0 ∧ b0 ≤ 236) ∨ b0 = 237 ∨ (238 ≤ b0 ∧ b0 ≤ 239) ∨ b0 = 240 ∨ (241 ≤ b0 ∧ b0 ≤ 243) ∨ b0 = 244 by omega) with h | h | h | h | h | h | h | h | h
  · exact ⟨0, by omega, by show 0 ≤ b0; omega, by show b0 ≤ 127; omega⟩
  · exact ⟨1, by omega, by show 194 ≤ b0; omega, by show b0 ≤ 223; omega⟩
  · exact ⟨2, by omega, by show 224 ≤ b0; omega, by show b0 ≤ 224; omega⟩
  · exact ⟨3, by omega, by show 225 ≤ b0; omega, by show b0 ≤ 236; omega⟩
  · exact ⟨4, by omega, by show 237 ≤ b0; omega, by show b0 ≤ 237; omega⟩
  · exact ⟨5, by omega, by show 238 ≤ b0; omega, by show b0 ≤ 239; omega⟩
  · exact ⟨6, by omega, by show 240 ≤ b0; omega, by show b0 ≤ 240; omega⟩
  · exact ⟨7, by omega, by show 241 ≤ b0; omega, by show b0 ≤ 243; omega⟩
  · exact ⟨8, by omega, by show 244 ≤ b0; omega, by show b0 ≤ 244; omega⟩
theorem get_bd (s : ByteArray) (k : Nat) : (s.get! k).toNat < 256 := UInt8.toNat_lt _
/-- THE STEP OF A RANGE -/
theorem decode_wid (s : ByteArray) (pos : Nat) (h : pos < s.size) : (Utf8.decode s pos).2 = max 1 (wid ((byt s).drop pos)) := by
  have e0 : s.get! (pos + 0) = s[pos] := get!_lt s pos h
  have hd := drop_one s pos h
  rw [dec_2]
  have g0 := get_bd s (pos + 0)
  by_cases hb : (128 ≤ (s.get! (pos + 0)).toNat ∧ (s.get! (pos + 0)).toNat ≤ 193) ∨ 245 ≤ (s.get! (pos + 0)).toNat
  · rw [decW_none _ _ _ _ _ hb g0 (get_bd s _), hd, wid_none _ _ (by rw [← e0]; exact hb)]; rfl
  · obtain ⟨k, hk, h1, h2⟩ := some_row _ g0 hb
    rw [decW_row _ _ _ _ _ k (get_bd s _) (get_bd s _) (get_bd s _) (by omega) hk h1 h2, ← widAt_eq s pos k]
    rw [e0] at h1 h2
    rw [hd, wid_row _ _ k hk h1 h2]
end Go.Proofs.YtfkepclgadeeeaaGreatDoor

/-
  Plain functions on bytes: Valid, Escape, Unescape, by fuel.
-/
namespace Go.Proofs.YtfkepclgadeeeaaGreatDoor

def stp (l : List UInt8) : Nat := max 1 (wid l)
def validGo : Nat → List UInt8 → Bool
  | 0, _ => true
  | n + 1, l => if l.isEmpty then true else if wid l = 0 then false else validGo n (l.drop (stp l))
def validL (l : List UInt8) : Bool := validGo l.length l
/-- what stands for the character or the byte at the beginning -/
def escC : List UInt8 → List UInt8
  | [] => []
  | a :: t => if wid (a :: t) = 0 ∨ resv a.toNat = true then 92 :: hex1 a else (a :: t).take (wid (a :: t))
def escGo : Nat → List UInt8 → List UInt8
  | 0, _ => []
  | n + 1, l => if l.isEmpty then [] else escC l ++ escGo n (l.drop (stp l))
def escL (l : List UInt8) : List UInt8 := escGo l.length l
def unescGo : Nat → List UInt8 → Except Nat (List UInt8)
  | 0, _ => .ok []
  | _ + 1, [] => .ok []
  | n + 1, a :: t =>
    if a.toNat = 92 then match t with
      | x :: y :: r => if adigB x.toNat && adigB y.toNat then (unescGo n r).map (byte2 (adigV x.toNat) (adigV y.toNat) :: ·) else .error 11
      | _ => .error 11
    else if wid (a :: t) = 0 then .error 10
    else if resv a.toNat then .error 12
    else (unescGo n ((a :: t).drop (wid (a :: t)))).map ((a :: t).take (wid (a :: t)) ++ ·)
def unescL (l : List UInt8) : Except Nat (List UInt8) := unescGo l.length l
def exV : Except Nat (List UInt8) → List UInt8 | .ok l => l | .error _ => []
def exE : Except Nat (List UInt8) → Nat | .ok _ => 0 | .error e => e

theorem byt_extract (s : ByteArray) (a b : Nat) : byt (s.extract a b) = ((byt s).drop a).take (b - a) := by
  unfold byt
  rw [ByteArray.data_extract, Array.toList_extract, List.extract_eq_take_drop]
theorem byt_from (s : ByteArray) (a : Nat) : byt (s.extract a s.size) = (byt s).drop a := by
  rw [byt_extract, List.take_of_length_le (by rw [List.length_drop, byt_length]; omega)]
theorem size_from (s : ByteArray) (a : Nat) : (s.extract a s.size).size = s.size - a := by
  rw [← byt_length, byt_from, List.length_drop, byt_length]

theorem widAt_le (l : List UInt8) (k : Nat) : widAt l k ≤ l.length := by
  unfold widAt; split
  · rename_i h; simp only [Bool.and_eq_true, decide_eq_true_eq] at h; exact h.1
  · exact Nat.zero_le _
theorem widGo_le (l : List UInt8) (a : Nat) : ∀ n k, widGo l a n k ≤ l.length := by
  intro n
  induction n with
  | zero => intro k; exact Nat.zero_le _
  | succ n ih => intro k; rw [widGo]; split; exact widAt_le l k; exact ih (k + 1)
theorem wid_le (l : List UInt8) : wid l ≤ l.length := by
  cases l with
  | nil => exact Nat.le_refl _
  | cons a t => exact widGo_le _ _ 9 0
theorem stp_le (l : List UInt8) (h : l ≠ []) : stp l ≤ l.length := by
  have := wid_le l
  have : 1 ≤ l.length := List.length_pos_iff.2 h
  unfold stp; omega
theorem stp_drop (s : ByteArray) (pos : Nat) (h : pos < s.size) : stp ((byt s).drop pos) ≤ s.size - pos := by
  have := stp_le ((byt s).drop pos) (by rw [drop_one s pos h]; simp)
  rw [List.length_drop, byt_length] at this
  exact this
theorem one_stp (l : List UInt8) : 1 ≤ stp l := Nat.le_max_left _ _
end Go.Proofs.YtfkepclgadeeeaaGreatDoor

/-
  Plain functions on bytes: base 64.
-/
namespace Go.Proofs.YtfkepclgadeeeaaGreatDoor

def sgnN (i : Nat) : Nat := if i < 26 then 65 + i else if i < 52 then 71 + i else if i < 62 then i - 4 else if i = 62 then 43 else 47
def sgn (i : Nat) : UInt8 := UInt8.ofNat (sgnN i)
def val (c : Nat) : Option Nat := if 65 ≤ c ∧ c ≤ 90 then some (c - 65) else if 97 ≤ c ∧ c ≤ 122 then some (c - 71) else if 48 ≤ c ∧ c ≤ 57 then some (c + 4) else if c = 43 then some 62 else if c = 47 then some 63 else none
def valV (c : Nat) : Nat := (val c).getD 0
def valB (c : Nat) : Bool := (val c).isSome
theorem val_lt (c x : Nat) (h : val c = some x) : x < 64 := by
  unfold val at h
  repeat' split at h
  all_goals first | (cases h; omega) | cases h
theorem valV_lt (c : Nat) : valV c < 64 := by
  unfold valV; cases h : val c with
  | none => exact (by decide)
  | some x => exact val_lt c x h
/-- the signs of 24 bits -/
def four (n : Nat) : List UInt8 := [sgn (n / 262144), sgn (n / 4096 % 64), sgn (n / 64 % 64), sgn (n % 64)]
def b64L : List UInt8 → List UInt8
  | [] => []
  | [a] => [sgn (a.toNat / 4), sgn (a.toNat % 4 * 16), 61, 61]
  | [a, b] => [sgn (a.toNat / 4), sgn (a.toNat % 4 * 16 + b.toNat / 16), sgn (b.toNat % 16 * 4), 61]
  | a :: b :: c :: l => four (a.toNat * 65536 + b.toNat * 256 + c.toNat) ++ b64L l
/-- the bits of two to four signs, the first one highest -/
def bitN : List UInt8 → Nat → Nat
  | [], _ => 0
  | a :: l, m => valV a.toNat * m + bitN l (m / 64)
def bitV (l : List UInt8) : Nat := if l.all (fun a => valB a.toNat) then bitN l 262144 else 0
def bitB (l : List UInt8) : Bool := l.all (fun a => valB a.toNat) && decide (bitN l 262144 % 2 ^ (32 - 8 * l.length) = 0)
def by3 (n : Nat) : List UInt8 := [UInt8.ofNat (n / 65536), UInt8.ofNat (n / 256), UInt8.ofNat n]
/-- how many of the last four bytes are signs -/
def atEnd (l : List UInt8) : Nat := if l.drop 2 = [61, 61] then 2 else if l.drop 3 = [61] then 3 else 4
/-- one group of four: how many signs it has, and whether it is right -/
def grpN (l : List UInt8) (last : Bool) : Nat := if last then atEnd l else 4
def unb64L : Nat → List UInt8 → Option (List UInt8)
  | 0, _ => some []
  | n + 1, l => if l.isEmpty then some [] else
      if bitB (l.take (grpN (l.take 4) (l.length == 4))) then
        (unb64L n (l.drop 4)).map ((by3 (bitV (l.take (grpN (l.take 4) (l.length == 4))))).take (grpN (l.take 4) (l.length == 4) - 1) ++ ·)
      else none
def unb64 (l : List UInt8) : Option (List UInt8) := if l.length % 4 = 0 then unb64L l.length l else none
def unbV (l : List UInt8) : List UInt8 := (unb64 l).getD []
def unbE (l : List UInt8) : Int := if (unb64 l).isSome then 0 else 13
end Go.Proofs.YtfkepclgadeeeaaGreatDoor

/-
  What follows of the plain functions: there and back; only what was written is read; piece by piece.
-/
namespace Go.Proofs.YtfkepclgadeeeaaGreatDoor

theorem hexd_sdig (k : Nat) (h : k < 16) : sdig (hexd k).toNat = some k := by
  have : ∀ j : Fin 16, sdig (hexd j.val).toNat = some j.val := by decide
  exact this ⟨k, h⟩
theorem byte2_back (b : UInt8) : byte2 (b.toNat / 16) (b.toNat % 16) = b := by
  have h := b.toNat_lt
  apply UInt8.toNat_inj.1
  rw [byte2_toNat _ _ (by omega) (by omega)]; omega
/-- Unhex(Hex(s)) is s -/
theorem unhex_hex (l : List UInt8) : unhexL (hexL l) = some l := by
  induction l with
  | nil => rfl
  | cons b l ih =>
    have e : hexL (b :: l) = hexd (b.toNat / 16) :: hexd (b.toNat % 16) :: hexL l := by simp [hexL, hex1]
    have h := b.toNat_lt
    rw [e, unhexL_two _ _ _ _ _ (hexd_sdig _ (by omega)) (hexd_sdig _ (by omega)), ih, byte2_back]; rfl
theorem hexd_toNat (x : Nat) (h : x < 16) : (hexd x).toNat = if x < 10 then 48 + x else 87 + x := by
  have : ∀ j : Fin 16, (hexd j.val).toNat = if j.val < 10 then 48 + j.val else 87 + j.val := by decide
  exact this ⟨x, h⟩
theorem sdig_hexd (c : UInt8) (x : Nat) (h : sdig c.toNat = some x) : hexd x = c := by
  have hx := sdig_lt _ _ h
  apply UInt8.toNat_inj.1
  rw [hexd_toNat x hx]
  unfold sdig at h
  split at h
  · cases h; rw [if_pos (by omega)]; omega
  · split at h
    · cases h; rw [if_neg (by omega)]; omega
    · cases h
/-- what Unhex takes is written as it was -/
theorem hex_unhex : (l r : List UInt8) → unhexL l = some r → hexL r = l
  | [], r, h => by cases h; rfl
  | [_], r, h => by cases h
  | a :: b :: l, r, h => by
    cases ha : sdig a.toNat with
    | none => rw [unhexL_bad a b l (by simp [sdigB, ha])] at h; cases h
    | some x =>
      cases hb : sdig b.toNat with
      | none => rw [unhexL_bad a b l (by simp [sdigB, hb])] at h; cases h
      | some y =>
        rw [unhexL_two a b l x y ha hb] at h
        cases hu : unhexL l with
        | none => rw [hu] at h; cases h
        | some r' =>
          rw [hu] at h
          cases h
          have hx := sdig_lt _ _ ha
          have hy := sdig_lt _ _ hb
          have e : hexL (byte2 x y :: r') = hexd ((byte2 x y).toNat / 16) :: hexd ((byte2 x y).toNat % 16) :: hexL r' := by simp [hexL, hex1]
          rw [e, byte2_toNat x y hx hy, show (16 * x + y) / 16 = x by omega, show (16 * x + y) % 16 = y by omega, sdig_hexd a x ha, sdig_hexd b y hb, hex_unhex l r' hu]
theorem hexL_app (a b : List UInt8) : hexL (a ++ b) = hexL a ++ hexL b := by simp [hexL]

/-! ### base 64 -/
theorem sgn_toNat (i : Nat) (h : i < 64) : (sgn i).toNat = sgnN i := by
  have : sgnN i < 256 := by unfold sgnN; split <;> (try split) <;> (try split) <;> (try split) <;> omega
  unfold sgn; rw [UInt8.toNat_ofNat']; omega
theorem val_sgn (i : Nat) (h : i < 64) : val (sgn i).toNat = some i := by
  rw [sgn_toNat i h]
  unfold sgnN val
  repeat' split
  all_goals first | omega | (congr 1; omega) | (exfalso; omega)
theorem sgn_val (c : UInt8) (x : Nat) (h : val c.toNat = some x) : sgn x = c := by
  have hx := val_lt _ _ h
  apply UInt8.toNat_inj.1
  rw [sgn_toNat x hx]
  unfold val at h
  unfold sgnN
  repeat' split at h
  all_goals first
    | cases h
    | skip
  all_goals repeat' split
  all_goals omega
theorem valB_sgn (i : Nat) (h : i < 64) : valB (sgn i).toNat = true := by unfold valB; rw [val_sgn i h]; rfl
theorem valV_sgn (i : Nat) (h : i < 64) : valV (sgn i).toNat = i := by unfold valV; rw [val_sgn i h]; rfl
theorem sgn_ne (i : Nat) (h : i < 64) : sgn i ≠ 61 := by
  intro e
  have := val_sgn i h
  have n : val (UInt8.toNat 61) = none := by decide
  rw [e, n] at this
  cases this
theorem sgn_valV (c : UInt8) (h : valB c.toNat = true) : sgn (valV c.toNat) = c := by
  unfold valB at h
  cases hv : val c.toNat with
  | none => rw [hv] at h; cases h
  | some x => unfold valV; rw [hv]; exact sgn_val c x hv
theorem bitN2 (a b : UInt8) : bitN [a, b] 262144 = valV a.toNat * 262144 + valV b.toNat * 4096 := by simp [bitN]
theorem bitN3 (a b c : UInt8) : bitN [a, b, c] 262144 = valV a.toNat * 262144 + valV b.toNat * 4096 + valV c.toNat * 64 := by simp [bitN]; omega
theorem bitN4 (a b c d : UInt8) : bitN [a, b, c, d] 262144 = valV a.toNat * 262144 + valV b.toNat * 4096 + valV c.toNat * 64 + valV d.toNat := by simp [bitN]; omega
end Go.Proofs.YtfkepclgadeeeaaGreatDoor
