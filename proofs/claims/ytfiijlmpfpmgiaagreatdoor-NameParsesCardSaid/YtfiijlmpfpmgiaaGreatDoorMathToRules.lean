/-
  Plain functions on bytes that say what package octet's calls answer. No dump is imported here.
-/
import GoSem.Core.Utf8
import Derived.Test.YtfiijlmpfpmgiaaGreatDoorChecked
import Derived.WalkKit
import Derived.WalkSpells
import Derived.WalkLawsBesides
import Derived.Deep.RegionHeld3
import Derived.Deep.AppendLies
import Derived.Deep.DrawnRows
import Derived.Lib.OthersKept
import Derived.MapKept
namespace Go.Proofs.YtfiijlmpfpmgiaaGreatDoor

/-- what a small digit to the base 16 counts -/
def sdig (c : Nat) : Option Nat := if 48 ≤ c ∧ c ≤ 57 then some (c - 48) else if 97 ≤ c ∧ c ≤ 102 then some (c - 87) else none
/-- great letters too -/
def adig (c : Nat) : Option Nat := if 65 ≤ c ∧ c ≤ 70 then some (c - 55) else sdig c
def sdigV (c : Nat) : Nat := (sdig c).getD 0
def sdigB (c : Nat) : Bool := (sdig c).isSome
def adigV (c : Nat) : Nat := (adig c).getD 0
def adigB (c : Nat) : Bool := (adig c).isSome
/-- the bytes that never stand for themselves -/
def resv (c : Nat) : Bool := c == 0 || c == 40 || c == 41 || c == 42 || c == 92

/-- the digit that counts k -/
def hexd (k : Nat) : UInt8 := if k < 10 then UInt8.ofNat (48 + k) else UInt8.ofNat (87 + k)

theorem sdig_num {c : Nat} (h1 : 48 ≤ c) (h2 : c ≤ 57) : sdig c = some (c - 48) := by simp [sdig, h1, h2]
theorem sdig_let {c : Nat} (h1 : 97 ≤ c) (h2 : c ≤ 102) : sdig c = some (c - 87) := by
  unfold sdig; rw [if_neg (by omega), if_pos ⟨h1, h2⟩]
theorem sdig_no {c : Nat} (h1 : ¬ (48 ≤ c ∧ c ≤ 57)) (h2 : ¬ (97 ≤ c ∧ c ≤ 102)) : sdig c = none := by
  unfold sdig; rw [if_neg h1, if_neg h2]

/-- a text of these bytes -/
def str (l : List UInt8) : ByteArray := ⟨l.toArray⟩
/-- the bytes of a text -/
def byt (s : ByteArray) : List UInt8 := s.data.toList
theorem byt_str (l : List UInt8) : byt (str l) = l := by simp [byt, str]
theorem str_byt (s : ByteArray) : str (byt s) = s := by simp [byt, str]
theorem byt_length (s : ByteArray) : (byt s).length = s.size := Array.length_toList
theorem take_snoc (s : ByteArray) (k : Nat) (h : k < s.size) : (byt s).take (k + 1) = (byt s).take k ++ [s[k]] := by
  unfold byt; rw [List.take_succ_eq_append_getElem (by simpa using h)]; rfl
theorem byt_get (s : ByteArray) (k : Nat) (h : k < s.size) : (byt s)[k]? = some s[k] := by
  unfold byt; rw [List.getElem?_eq_getElem (by simpa using h)]; rfl

def hex1 (b : UInt8) : List UInt8 := [hexd (b.toNat / 16), hexd (b.toNat % 16)]
def hexL (l : List UInt8) : List UInt8 := l.flatMap hex1
theorem hexL_snoc (l : List UInt8) (b : UInt8) : hexL (l ++ [b]) = hexL l ++ [hexd (b.toNat / 16), hexd (b.toNat % 16)] := by simp [hexL, hex1]
theorem hexL_length (l : List UInt8) : (hexL l).length = 2 * l.length := by
  induction l with
  | nil => rfl
  | cons b l ih =>
    have e : hexL (b :: l) = hex1 b ++ hexL l := by simp [hexL]
    rw [e, List.length_append, ih, List.length_cons]
    have : (hex1 b).length = 2 := rfl
    omega

/-- the byte of two digits -/
def byte2 (x y : Nat) : UInt8 := UInt8.ofNat (16 * x + y)
theorem byte2_toNat (x y : Nat) (hx : x < 16) (hy : y < 16) : (byte2 x y).toNat = 16 * x + y := by simp [byte2]; omega
/-- Unhex: the text, if there is one -/
def unhexL : List UInt8 → Option (List UInt8)
  | [] => some []
  | [_] => none
  | a :: b :: l => match sdig a.toNat, sdig b.toNat, unhexL l with
    | some x, some y, some r => some (byte2 x y :: r)
    | _, _, _ => none
def unhexV (l : List UInt8) : List UInt8 := (unhexL l).getD []
def unhexE (l : List UInt8) : Int := if (unhexL l).isSome then 0 else 11

theorem drop_one (s : ByteArray) (k : Nat) (h : k < s.size) : (byt s).drop k = s[k] :: (byt s).drop (k + 1) :=
  List.drop_eq_getElem_cons (by rw [byt_length]; exact h)
theorem drop_two (s : ByteArray) (k : Nat) (h : k + 1 < s.size) : (byt s).drop k = s[k] :: s[k + 1] :: (byt s).drop (k + 2) := by
  rw [drop_one s k (by omega), drop_one s (k + 1) h]
theorem drop_end (s : ByteArray) (k : Nat) (h : ¬ k < s.size) : (byt s).drop k = [] := List.drop_eq_nil_of_le (by rw [byt_length]; omega)

theorem unhexL_two (a b : UInt8) (l : List UInt8) (x y : Nat) (hx : sdig a.toNat = some x) (hy : sdig b.toNat = some y) : unhexL (a :: b :: l) = (unhexL l).map (byte2 x y :: ·) := by
  rw [unhexL, hx, hy]; cases unhexL l <;> rfl
theorem unhexL_bad (a b : UInt8) (l : List UInt8) (h : (sdigB a.toNat && sdigB b.toNat) = false) : unhexL (a :: b :: l) = none := by
  rw [unhexL]
  unfold sdigB at h
  cases ha : sdig a.toNat <;> cases hb : sdig b.toNat <;> simp_all
theorem unhexL_odd : (l : List UInt8) → l.length % 2 ≠ 0 → unhexL l = none
  | [], h => absurd rfl h
  | [_], _ => rfl
  | a :: b :: l, h => by
    have := unhexL_odd l (by simp only [List.length_cons] at h; omega)
    rw [unhexL, this]; split <;> simp_all
theorem sdig_lt (c x : Nat) (h : sdig c = some x) : x < 16 := by
  unfold sdig at h; split at h
  · cases h; omega
  · split at h
    · cases h; omega
    · cases h
theorem sdig_of (c : Nat) (h : sdigB c = true) : sdig c = some (sdigV c) ∧ sdigV c < 16 := by
  unfold sdigB at h
  cases hc : sdig c with
  | none => rw [hc] at h; cases h
  | some x => exact ⟨by simp [sdigV, hc], by simpa [sdigV, hc] using sdig_lt c x hc⟩
end Go.Proofs.YtfiijlmpfpmgiaaGreatDoor

/-
  Plain functions on bytes: how many bytes the character at a text's beginning has.
-/
namespace Go.Proofs.YtfiijlmpfpmgiaaGreatDoor
/-! the table of characters -/
def rowF (k : Nat) : Nat := [0, 194, 224, 225, 237, 238, 240, 241, 244].getD k 0
def rowL (k : Nat) : Nat := [127, 223, 224, 236, 237, 239, 240, 243, 244].getD k 0
def rowA (k : Nat) : Nat := [0, 128, 160, 128, 128, 128, 144, 128, 128].getD k 0
def rowZ (k : Nat) : Nat := [0, 191, 191, 191, 159, 191, 191, 191, 143].getD k 0
def rowW (k : Nat) : Nat := [1, 2, 3, 3, 3, 3, 4, 4, 4].getD k 0
theorem row_bd (k : Nat) : rowF k ≤ 244 ∧ rowL k ≤ 244 ∧ rowA k ≤ 160 ∧ rowZ k ≤ 191 ∧ rowW k ≤ 4 := by
  rcases (show k = 0 ∨ k = 1 ∨ k = 2 ∨ k = 3 ∨ k = 4 ∨ k = 5 ∨ k = 6 ∨ k = 7 ∨ k = 8 ∨ 9 ≤ k by omega) with h | h | h | h | h | h | h | h | h | h
  all_goals first
    | (subst h; decide)
    | (have e : ∀ (l : List Nat), l.length = 9 → l.getD k 0 = 0 := fun l hl => by simp [List.getD, List.getElem?_eq_none (show l.length ≤ k by omega)]
       simp only [rowF, rowL, rowA, rowZ, rowW]
       rw [e _ rfl, e _ rfl, e _ rfl, e _ rfl, e _ rfl]; omega)
theorem rowW_pos (k : Nat) (h : k < 9) : 1 ≤ rowW k := by
  rcases (show k = 0 ∨ k = 1 ∨ k = 2 ∨ k = 3 ∨ k = 4 ∨ k = 5 ∨ k = 6 ∨ k = 7 ∨ k = 8 by omega) with h | h | h | h | h | h | h | h | h <;> subst h <;> decide
def lowOf (k j : Nat) : Nat := if j = 1 then rowA k else 128
def highOf (k j : Nat) : Nat := if j = 1 then rowZ k else 191
/-- does the byte at j go on a character of row k? -/
def tl (l : List UInt8) (k j : Nat) : Bool := match l[j]? with
  | some b => decide (lowOf k j ≤ b.toNat) && decide (b.toNat ≤ highOf k j)
  | none => false
def widAt (l : List UInt8) (k : Nat) : Nat := if decide (rowW k ≤ l.length) && ([1, 2, 3].all fun j => !decide (j < rowW k) || tl l k j) then rowW k else 0
def inRow (k a : Nat) : Bool := decide (rowF k ≤ a) && decide (a ≤ rowL k)
def widGo (l : List UInt8) (a : Nat) : Nat → Nat → Nat
  | 0, _ => 0
  | n + 1, k => if inRow k a then widAt l k else widGo l a n (k + 1)
/-- how many bytes the character at the beginning has; 0: the first byte stands alone -/
def wid (l : List UInt8) : Nat := match l with
  | [] => 0
  | a :: _ => widGo l a.toNat 9 0
theorem widAt_short (l : List UInt8) (k : Nat) (h : l.length < rowW k) : widAt l k = 0 := by
  unfold widAt; rw [decide_eq_false (by omega)]; rfl
theorem widAt_bad (l : List UInt8) (k j : Nat) (h1 : 1 ≤ j) (h2 : j < rowW k) (h : tl l k j = false) : widAt l k = 0 := by
  have hb := row_bd k
  have hj : j = 1 ∨ j = 2 ∨ j = 3 := by omega
  unfold widAt
  have : ([1, 2, 3].all fun j => !decide (j < rowW k) || tl l k j) = false := by
    rw [List.all_eq_false]
    exact ⟨j, by rcases hj with h | h | h <;> simp [h], by simp [h, h2]⟩
  rw [this]; simp
theorem widAt_good (l : List UInt8) (k : Nat) (hl : rowW k ≤ l.length) (h : ∀ j, 1 ≤ j → j < rowW k → tl l k j = true) : widAt l k = rowW k := by
  unfold widAt
  have : ([1, 2, 3].all fun j => !decide (j < rowW k) || tl l k j) = true := by
    rw [List.all_eq_true]
    intro j hj
    by_cases hw : j < rowW k
    · rw [h j (by simp at hj; omega) hw]; simp
    · simp [hw]
  rw [this, decide_eq_true hl]; simp
theorem wid_byt (s : ByteArray) (h : 0 < s.size) : wid (byt s) = widGo (byt s) s[0].toNat 9 0 := by
  have e := drop_one s 0 h
  simp only [List.drop_zero] at e
  rw [e]; rfl
theorem tl_byt (s : ByteArray) (k j : Nat) (h : j < s.size) : tl (byt s) k j = (decide (lowOf k j ≤ s[j].toNat) && decide (s[j].toNat ≤ highOf k j)) := by
  unfold tl; rw [byt_get s j h]
end Go.Proofs.YtfiijlmpfpmgiaaGreatDoor

/-
  A range over a text takes steps of just the widths of its characters, and of one byte where a byte stands alone.
-/
namespace Go.Proofs.YtfiijlmpfpmgiaaGreatDoor

theorem row_lt (i k : Nat) (h : i < k) (hk : k < 9) : rowL i < rowF k := by
  have : ∀ i k : Fin 9, i < k → rowL i.val < rowF k.val := by decide
  exact this ⟨i, by omega⟩ ⟨k, hk⟩ h
theorem widGo_row (l : List UInt8) (a k : Nat) (hk : k < 9) (h : inRow k a = true) : ∀ n j, j ≤ k → n = 9 - j → widGo l a n j = widAt l k := by
  intro n
  induction n with
  | zero => intro j h1 h2; omega
  | succ n ih =>
    intro j h1 h2
    rw [widGo]
    by_cases hj : j = k
    · subst hj; rw [if_pos h]
    · have hl := row_lt j k (by omega) hk
      rw [if_neg (by simp [inRow] at h ⊢; omega)]
      exact ih (j + 1) (by omega) (by omega)
theorem wid_row (a : UInt8) (t : List UInt8) (k : Nat) (hk : k < 9) (h1 : rowF k ≤ a.toNat) (h2 : a.toNat ≤ rowL k) : wid (a :: t) = widAt (a :: t) k :=
  widGo_row _ _ k hk (by simp [inRow, h1, h2]) 9 0 (by omega) rfl
theorem wid_none (a : UInt8) (t : List UInt8) (h : (128 ≤ a.toNat ∧ a.toNat ≤ 193) ∨ 245 ≤ a.toNat) : wid (a :: t) = 0 := by
  have : ∀ n j, widGo (a :: t) a.toNat n j = 0 ∨ 9 ≤ j ∨ True := fun _ _ => .inr (.inr trivial)
  have e : ∀ k, k < 9 → inRow k a.toNat = false := by
    intro k hk
    rcases (show k = 0 ∨ k = 1 ∨ k = 2 ∨ k = 3 ∨ k = 4 ∨ k = 5 ∨ k = 6 ∨ k = 7 ∨ k = 8 by omega) with h | h | h | h | h | h | h | h | h <;> subst h <;> simp [inRow, rowF, rowL] <;> omega
  show widGo _ _ 9 0 = 0
  simp only [widGo, e 0 (by omega), e (0 + 1) (by omega), e (0 + 1 + 1) (by omega), e (0 + 1 + 1 + 1) (by omega), e (0 + 1 + 1 + 1 + 1) (by omega), e (0 + 1 + 1 + 1 + 1 + 1) (by omega), e (0 + 1 + 1 + 1 + 1 + 1 + 1) (by omega), e (0 + 1 + 1 + 1 + 1 + 1 + 1 + 1) (by omega), e (0 + 1 + 1 + 1 + 1 + 1 + 1 + 1 + 1) (by omega)]
  rfl

theorem get!_lt (s : ByteArray) (i : Nat) (h : i < s.size) : s.get! i = s[i] := by
  simp [ByteArray.get!, getElem!_pos, h]; rfl
theorem tl_get (s : ByteArray) (pos k j : Nat) (h : pos + j < s.size) : tl ((byt s).drop pos) k j = (decide (lowOf k j ≤ (s.get! (pos + j)).toNat) && decide ((s.get! (pos + j)).toNat ≤ highOf k j)) := by
  unfold tl; rw [List.getElem?_drop, byt_get s (pos + j) h, get!_lt s _ h]
theorem widAt_eq (s : ByteArray) (pos k : Nat) : widAt ((byt s).drop pos) k = if rowW k ≤ s.size - pos ∧ (1 < rowW k → lowOf k 1 ≤ (s.get! (pos + 1)).toNat ∧ (s.get! (pos + 1)).toNat ≤ highOf k 1) ∧
    (2 < rowW k → lowOf k 2 ≤ (s.get! (pos + 2)).toNat ∧ (s.get! (pos + 2)).toNat ≤ highOf k 2) ∧ (3 < rowW k → lowOf k 3 ≤ (s.get! (pos + 3)).toNat ∧ (s.get! (pos + 3)).toNat ≤ highOf k 3) then rowW k else 0 := by
  have hb := row_bd k
  have hlen : ((byt s).drop pos).length = s.size - pos := by rw [List.length_drop, byt_length]
  by_cases hl : rowW k ≤ s.size - pos
  · split
    · rename_i h
      refine widAt_good _ _ (by omega) ?_
      intro j h1 h2
      rw [tl_get s pos k j (by omega)]
      rcases (show j = 1 ∨ j = 2 ∨ j = 3 by omega) with e | e | e <;> subst e <;> simp <;> omega
    · rename_i h
      rcases (show (1 < rowW k ∧ ¬ (lowOf k 1 ≤ (s.get! (pos + 1)).toNat ∧ (s.get! (pos + 1)).toNat ≤ highOf k 1)) ∨ (2 < rowW k ∧ ¬ (lowOf k 2 ≤ (s.get! (pos + 2)).toNat ∧ (s.get! (pos + 2)).toNat ≤ highOf k 2)) ∨ (3 < rowW k ∧ ¬ (lowOf k 3 ≤ (s.get! (pos + 3)).toNat ∧ (s.get! (pos + 3)).toNat ≤ highOf k 3)) by omega) with ⟨h1, h2⟩ | ⟨h1, h2⟩ | ⟨h1, h2⟩
      · exact widAt_bad _ _ 1 (by omega) h1 (by rw [tl_get s pos k 1 (by omega)]; simp; omega)
      · exact widAt_bad _ _ 2 (by omega) h1 (by rw [tl_get s pos k 2 (by omega)]; simp; omega)
      · exact widAt_bad _ _ 3 (by omega) h1 (by rw [tl_get s pos k 3 (by omega)]; simp; omega)
  · rw [widAt_short _ _ (by omega), if_neg (by omega)]

theorem valid_iff (c : Nat) : Utf8.valid (c : Int) = true ↔ c < 0xD800 ∨ (0xE000 ≤ c ∧ c ≤ 0x10FFFF) := by
  unfold Utf8.valid
  rw [Bool.or_eq_true, Bool.and_eq_true, Bool.and_eq_true, decide_eq_true_eq, decide_eq_true_eq, decide_eq_true_eq, decide_eq_true_eq]
  omega
/-- the width that decode tells, over four numbers and how many bytes are left -/
def decW (b0 b1 b2 b3 n : Nat) : Nat := if b0 < 128 then 1
      else if b0 / 32 = 6 ∧ 1 < n ∧ b1 / 64 = 2 then (if (b0 % 32) * 64 + b1 % 64 ≥ 0x80 then 2 else 1)
      else if b0 / 16 = 14 ∧ 1 < n ∧ b1 / 64 = 2 ∧ 2 < n ∧ b2 / 64 = 2 then (if (b0 % 16) * 4096 + (b1 % 64) * 64 + b2 % 64 ≥ 0x800 ∧ ((b0 % 16) * 4096 + (b1 % 64) * 64 + b2 % 64 < 0xD800 ∨ 0xE000 ≤ (b0 % 16) * 4096 + (b1 % 64) * 64 + b2 % 64) then 3 else 1)
      else if b0 / 8 = 30 ∧ 1 < n ∧ b1 / 64 = 2 ∧ 2 < n ∧ b2 / 64 = 2 ∧ 3 < n ∧ b3 / 64 = 2 then (if (b0 % 8) * 262144 + (b1 % 64) * 4096 + (b2 % 64) * 64 + b3 % 64 ≥ 0x10000 ∧ (b0 % 8) * 262144 + (b1 % 64) * 4096 + (b2 % 64) * 64 + b3 % 64 ≤ 0x10FFFF then 4 else 1)
      else 1

theorem dec_core (b0 b1 b2 b3 n : Nat) (p1 p2 p3 : Bool) (l1 : p1 = true ↔ 1 < n) (l2 : p2 = true ↔ 2 < n) (l3 : p3 = true ↔ 3 < n) :
    (if b0 < 0x80 then (b0, 1)
      else if b0 / 32 == 6 && (p1 && b1 / 64 == 2) then
        (if (b0 % 32) * 64 + b1 % 64 ≥ 0x80 then ((b0 % 32) * 64 + b1 % 64, 2) else (Utf8.runeError, 1))
      else if b0 / 16 == 14 && (p1 && b1 / 64 == 2) && (p2 && b2 / 64 == 2) then
        (if (b0 % 16) * 4096 + (b1 % 64) * 64 + b2 % 64 ≥ 0x800 && Utf8.valid (((b0 % 16) * 4096 + (b1 % 64) * 64 + b2 % 64 : Nat) : Int) then ((b0 % 16) * 4096 + (b1 % 64) * 64 + b2 % 64, 3) else (Utf8.runeError, 1))
      else if b0 / 8 == 30 && (p1 && b1 / 64 == 2) && (p2 && b2 / 64 == 2) && (p3 && b3 / 64 == 2) then
        (if (b0 % 8) * 262144 + (b1 % 64) * 4096 + (b2 % 64) * 64 + b3 % 64 ≥ 0x10000 && Utf8.valid (((b0 % 8) * 262144 + (b1 % 64) * 4096 + (b2 % 64) * 64 + b3 % 64 : Nat) : Int) then ((b0 % 8) * 262144 + (b1 % 64) * 4096 + (b2 % 64) * 64 + b3 % 64, 4) else (Utf8.runeError, 1))
      else (Utf8.runeError, 1)).2 = decW b0 b1 b2 b3 n := by
  unfold decW
  by_cases h0 : b0 < 128
  · rw [if_pos h0, if_pos h0]
  rw [if_neg h0, if_neg h0]
  by_cases h2 : b0 / 32 = 6 ∧ 1 < n ∧ b1 / 64 = 2
  · rw [if_pos (by simp [l1]; omega), if_pos h2]
    split <;> rfl
  rw [if_neg (by simp [l1]; omega), if_neg h2]
  by_cases h3 : b0 / 16 = 14 ∧ 1 < n ∧ b1 / 64 = 2 ∧ 2 < n ∧ b2 / 64 = 2
  · rw [if_pos (by simp [l1, l2]; omega), if_pos h3]
    split
    · rename_i h; rw [Bool.and_eq_true, decide_eq_true_eq, valid_iff] at h; rw [if_pos (by omega)]
    · rename_i h; rw [Bool.and_eq_true, decide_eq_true_eq, valid_iff] at h; rw [if_neg (by omega)]
  rw [if_neg (by simp [l1, l2]; omega), if_neg h3]
  by_cases h4 : b0 / 8 = 30 ∧ 1 < n ∧ b1 / 64 = 2 ∧ 2 < n ∧ b2 / 64 = 2 ∧ 3 < n ∧ b3 / 64 = 2
  · rw [if_pos (by simp [l1, l2, l3]; omega), if_pos h4]
    split
    · rename_i h; rw [Bool.and_eq_true, decide_eq_true_eq, valid_iff] at h; rw [if_pos (by omega)]
    · rename_i h; rw [Bool.and_eq_true, decide_eq_true_eq, valid_iff] at h; rw [if_neg (by omega)]
  rw [if_neg (by simp [l1, l2, l3]; omega), if_neg h4]

theorem dec_2 (s : ByteArray) (pos : Nat) : (Utf8.decode s pos).2 = decW (s.get! (pos + 0)).toNat (s.get! (pos + 1)).toNat (s.get! (pos + 2)).toNat (s.get! (pos + 3)).toNat (s.size - pos) :=
  dec_core _ _ _ _ _ (decide (pos + 1 < s.size)) (decide (pos + 2 < s.size)) (decide (pos + 3 < s.size)) (by simp; omega) (by simp; omega) (by simp; omega)

theorem decW_row (b0 b1 b2 b3 n k : Nat) (g1 : b1 < 256) (g2 : b2 < 256) (g3 : b3 < 256) (_hn : 1 ≤ n) (hk : k < 9) (h1 : rowF k ≤ b0) (h2 : b0 ≤ rowL k) :
    decW b0 b1 b2 b3 n = max 1 (if rowW k ≤ n ∧ (1 < rowW k → lowOf k 1 ≤ b1 ∧ b1 ≤ highOf k 1) ∧ (2 < rowW k → lowOf k 2 ≤ b2 ∧ b2 ≤ highOf k 2) ∧ (3 < rowW k → lowOf k 3 ≤ b3 ∧ b3 ≤ highOf k 3) then rowW k else 0) := by
  unfold decW
  have l2 : lowOf k 2 = 128 := rfl
  have l3 : lowOf k 3 = 128 := rfl
  have z2 : highOf k 2 = 191 := rfl
  have z3 : highOf k 3 = 191 := rfl
  have l1 : lowOf k 1 = rowA k := rfl
  have z1 : highOf k 1 = rowZ k := rfl
  rw [l1, l2, l3, z1, z2, z3]
  clear l1 l2 l3 z1 z2 z3
  rcases (show k = 0 ∨ k = 1 ∨ k = 2 ∨ k = 3 ∨ k = 4 ∨ k = 5 ∨ k = 6 ∨ k = 7 ∨ k = 8 by omega) with h | h | h | h | h | h | h | h | h
  all_goals subst h
  · have a1 : rowF 0 = 0 := rfl
    have a2 : rowL 0 = 127 := rfl
    have a5 : rowW 0 = 1 := rfl
    rw [a1] at h1; rw [a2] at h2; rw [a5]
    rw [if_pos (by omega)]; split <;> omega
  · have a1 : rowF 1 = 194 := rfl
    have a2 : rowL 1 = 223 := rfl
    have a3 : rowA 1 = 128 := rfl
    have a4 : rowZ 1 = 191 := rfl
    have a5 : rowW 1 = 2 := rfl
    rw [a1] at h1; rw [a2] at h2; rw [a3, a4, a5]
    repeat' split
    all_goals omega
  · have a1 : rowF 2 = 224 := rfl
    have a2 : rowL 2 = 224 := rfl
    have a3 : rowA 2 = 160 := rfl
    have a4 : rowZ 2 = 191 := rfl
    have a5 : rowW 2 = 3 := rfl
    rw [a1] at h1; rw [a2] at h2; rw [a3, a4, a5]
    repeat' split
    all_goals omega
  · have a1 : rowF 3 = 225 := rfl
    have a2 : rowL 3 = 236 := rfl
    have a3 : rowA 3 = 128 := rfl
    have a4 : rowZ 3 = 191 := rfl
    have a5 : rowW 3 = 3 := rfl
    rw [a1] at h1; rw [a2] at h2; rw [a3, a4, a5]
    repeat' split
    all_goals omega
  · have a1 : rowF 4 = 237 := rfl
    have a2 : rowL 4 = 237 := rfl
    have a3 : rowA 4 = 128 := rfl
    have a4 : rowZ 4 = 159 := rfl
    have a5 : rowW 4 = 3 := rfl
    rw [a1] at h1; rw [a2] at h2; rw [a3, a4, a5]
    repeat' split
    all_goals omega
  · have a1 : rowF 5 = 238 := rfl
    have a2 : rowL 5 = 239 := rfl
    have a3 : rowA 5 = 128 := rfl
    have a4 : rowZ 5 = 191 := rfl
    have a5 : rowW 5 = 3 := rfl
    rw [a1] at h1; rw [a2] at h2; rw [a3, a4, a5]
    repeat' split
    all_goals omega
  · have a1 : rowF 6 = 240 := rfl
    have a2 : rowL 6 = 240 := rfl
    have a3 : rowA 6 = 144 := rfl
    have a4 : rowZ 6 = 191 := rfl
    have a5 : rowW 6 = 4 := rfl
    rw [a1] at h1; rw [a2] at h2; rw [a3, a4, a5]
    repeat' split
    all_goals omega
  · have a1 : rowF 7 = 241 := rfl
    have a2 : rowL 7 = 243 := rfl
    have a3 : rowA 7 = 128 := rfl
    have a4 : rowZ 7 = 191 := rfl
    have a5 : rowW 7 = 4 := rfl
    rw [a1] at h1; rw [a2] at h2; rw [a3, a4, a5]
    repeat' split
    all_goals omega
  · have a1 : rowF 8 = 244 := rfl
    have a2 : rowL 8 = 244 := rfl
    have a3 : rowA 8 = 128 := rfl
    have a4 : rowZ 8 = 143 := rfl
    have a5 : rowW 8 = 4 := rfl
    rw [a1] at h1; rw [a2] at h2; rw [a3, a4, a5]
    repeat' split
    all_goals omega
theorem decW_none (b0 b1 b2 b3 n : Nat) (h : (128 ≤ b0 ∧ b0 ≤ 193) ∨ 245 ≤ b0) (g0 : b0 < 256) (_g1 : b1 < 256) : decW b0 b1 b2 b3 n = 1 := by
  unfold decW
  repeat' split
  all_goals omega
theorem some_row (b0 : Nat) (g0 : b0 < 256) (h : ¬ ((128 ≤ b0 ∧ b0 ≤ 193) ∨ 245 ≤ b0)) : ∃ k, k < 9 ∧ rowF k ≤ b0 ∧ b0 ≤ rowL k := by
  rcases (show b0 ≤ 127 ∨ (194 ≤ b0 ∧ b0 ≤ 223) ∨ b0 = 224 ∨ (225 ≤ b0 ∧ b0 ≤ 236) ∨ b0 = 237 ∨ (238 ≤ b0 ∧ b0 ≤ 239) ∨ b0 = 240 ∨ (241 ≤ b0 ∧ b0 ≤ 243) ∨ b0 = 244 by omega) with h | h | h | h | h | h | h | h | h
  · exact ⟨0, by omega, by show 0 ≤ b0; omega, by show b0 ≤ 127; omega⟩
  · exact ⟨1, by omega, by show 194 ≤ b0; omega, by show b0 ≤ 223; omega⟩
  · exact ⟨2, by omega, by show 224 ≤ b0; omega, by show b0 ≤ 224; omega⟩
  · exact ⟨3, by omega, by show 225 ≤ b0; omega, by show b0 ≤ 236; omega⟩
  · exact ⟨4, by omega, by show 237 ≤ b0; omega, by show b0 ≤ 237; omega⟩
  · exact ⟨5, by omega, by show 238 ≤ b0; omega, by show b0 ≤ 239; omega⟩
  · exact ⟨6, by omega, by show 240 ≤ b0; omega, by show b0 ≤ 240; omega⟩
  · exact ⟨7, by omega, by show 241 ≤ b0; omega, by show b0 ≤ 243; omega⟩
  · exact ⟨8, by omega, by show 244 ≤ b0; omega, by show b0 ≤ 244; omega⟩
theorem get_bd (s : ByteArray) (k : Nat) : (s.get! k).toNat < 256 := UInt8.toNat_lt _
/-- THE STEP OF A RANGE -/
theorem decode_wid (s : ByteArray) (pos : Nat) (h : pos < s.size) : (Utf8.decode s pos).2 = max 1 (wid ((byt s).drop pos)) := by
  have e0 : s.get! (pos + 0) = s[pos] := get!_lt s pos h
  have hd := drop_one s pos h
  rw [dec_2]
  have g0 := get_bd s (pos + 0)
  by_cases hb : (128 ≤ (s.get! (pos + 0)).toNat ∧ (s.get! (pos + 0)).toNat ≤ 193) ∨ 245 ≤ (s.get! (pos + 0)).toNat
  · rw [decW_none _ _ _ _ _ hb g0 (get_bd s _), hd, wid_none _ _ (by rw [← e0]; exact hb)]; rfl
  · obtain ⟨k, hk, h1, h2⟩ := some_row _ g0 hb
    rw [decW_row _ _ _ _ _ k (get_bd s _) (get_bd s _) (get_bd s _) (by omega) hk h1 h2, ← widAt_eq s pos k]
    rw [e0] at h1 h2
    rw [hd, wid_row _ _ k hk h1 h2]
end Go.Proofs.YtfiijlmpfpmgiaaGreatDoor

/-
  Plain functions on bytes: Valid, Escape, Unescape, by fuel.
-/
namespace Go.Proofs.YtfiijlmpfpmgiaaGreatDoor

def stp (l : List UInt8) : Nat := max 1 (wid l)
def validGo : Nat → List UInt8 → Bool
  | 0, _ => true
  | n + 1, l => if l.isEmpty then true else if wid l = 0 then false else validGo n (l.drop (stp l))
def validL (l : List UInt8) : Bool := validGo l.length l
/-- what stands for the character or the byte at the beginning -/
def escC : List UInt8 → List UInt8
  | [] => []
  | a :: t => if wid (a :: t) = 0 ∨ resv a.toNat = true then 92 :: hex1 a else (a :: t).take (wid (a :: t))
def escGo : Nat → List UInt8 → List UInt8
  | 0, _ => []
  | n + 1, l => if l.isEmpty then [] else escC l ++ escGo n (l.drop (stp l))
def escL (l : List UInt8) : List UInt8 := escGo l.length l
def unescGo : Nat → List UInt8 → Except Nat (List UInt8)
  | 0, _ => .ok []
  | _ + 1, [] => .ok []
  | n + 1, a :: t =>
    if a.toNat = 92 then match t with
      | x :: y :: r => if adigB x.toNat && adigB y.toNat then (unescGo n r).map (byte2 (adigV x.toNat) (adigV y.toNat) :: ·) else .error 11
      | _ => .error 11
    else if wid (a :: t) = 0 then .error 10
    else if resv a.toNat then .error 12
    else (unescGo n ((a :: t).drop (wid (a :: t)))).map ((a :: t).take (wid (a :: t)) ++ ·)
def unescL (l : List UInt8) : Except Nat (List UInt8) := unescGo l.length l
def exV : Except Nat (List UInt8) → List UInt8 | .ok l => l | .error _ => []
def exE : Except Nat (List UInt8) → Nat | .ok _ => 0 | .error e => e

theorem byt_extract (s : ByteArray) (a b : Nat) : byt (s.extract a b) = ((byt s).drop a).take (b - a) := by
  unfold byt
  rw [ByteArray.data_extract, Array.toList_extract, List.extract_eq_take_drop]
theorem byt_from (s : ByteArray) (a : Nat) : byt (s.extract a s.size) = (byt s).drop a := by
  rw [byt_extract, List.take_of_length_le (by rw [List.length_drop, byt_length]; omega)]
theorem size_from (s : ByteArray) (a : Nat) : (s.extract a s.size).size = s.size - a := by
  rw [← byt_length, byt_from, List.length_drop, byt_length]

theorem widAt_le (l : List UInt8) (k : Nat) : widAt l k ≤ l.length := by
  unfold widAt; split
  · rename_i h; simp only [Bool.and_eq_true, decide_eq_true_eq] at h; exact h.1
  · exact Nat.zero_le _
theorem widGo_le (l : List UInt8) (a : Nat) : ∀ n k, widGo l a n k ≤ l.length := by
  intro n
  induction n with
  | zero => intro k; exact Nat.zero_le _
  | succ n ih => intro k; rw [widGo]; split; exact widAt_le l k; exact ih (k + 1)
theorem wid_le (l : List UInt8) : wid l ≤ l.length := by
  cases l with
  | nil => exact Nat.le_refl _
  | cons a t => exact widGo_le _ _ 9 0
theorem stp_le (l : List UInt8) (h : l ≠ []) : stp l ≤ l.length := by
  have := wid_le l
  have : 1 ≤ l.length := List.length_pos_iff.2 h
  unfold stp; omega
theorem stp_drop (s : ByteArray) (pos : Nat) (h : pos < s.size) : stp ((byt s).drop pos) ≤ s.size - pos := by
  have := stp_le ((byt s).drop pos) (by rw [drop_one s pos h]; simp)
  rw [List.length_drop, byt_length] at this
  exact this
theorem one_stp (l : List UInt8) : 1 ≤ stp l := Nat.le_max_left _ _
end Go.Proofs.YtfiijlmpfpmgiaaGreatDoor

/-
  Plain functions on bytes that say what package prep's calls answer. No dump is imported here.
-/
namespace Go.Proofs.YtfiijlmpfpmgiaaGreatDoor

def isDig (b : UInt8) : Bool := decide (48 ≤ b.toNat) && decide (b.toNat ≤ 57)
def isLet (b : UInt8) : Bool := (decide (97 ≤ b.toNat) && decide (b.toNat ≤ 122)) || (decide (65 ≤ b.toNat) && decide (b.toNat ≤ 90))
/-- a great letter's small one -/
def lowB (b : UInt8) : UInt8 := if decide (65 ≤ b.toNat) && decide (b.toNat ≤ 90) then UInt8.ofNat (b.toNat + 32) else b
/-- letters small, if sm -/
def smB (sm : Bool) (b : UInt8) : UInt8 := if sm then lowB b else b
/-- one blank for each run of blanks; p: a blank stands ahead -/
def joinL (sm : Bool) : Bool → List UInt8 → List UInt8
  | _, [] => []
  | p, b :: t => if (b == 32) && p then joinL sm true t else smB sm b :: joinL sm (b == 32) t
def trimA (l : List UInt8) : List UInt8 := l.dropWhile (· == 32)
def trimZ (l : List UInt8) : List UInt8 := (l.reverse.dropWhile (· == 32)).reverse
/-- without one blank at the beginning -/
def cutA (l : List UInt8) : List UInt8 := if l.head? = some 32 then l.tail else l
def cutZ (l : List UInt8) : List UInt8 := if l.getLast? = some 32 then l.dropLast else l
def keySp (sm : Bool) (l : List UInt8) : Option (List UInt8) :=
  if l = [] ∨ validL l = false then none else some (if trimA (trimZ (joinL sm false l)) = [] then [32] else trimA (trimZ (joinL sm false l)))
def pieceSp (sm : Bool) (wh : Int) (l : List UInt8) : Option (List UInt8) :=
  if validL l = false then none else some (if wh = 0 then cutA (joinL sm false l) else if wh = 2 then cutZ (joinL sm false l) else joinL sm false l)
def digK (l : List UInt8) : Option (List UInt8) := if l.all (fun b => isDig b || b == 32) then some (l.filter isDig) else none
/-- the signs of a phone's number: blank and - among them -/
def phS (b : UInt8) : Bool := b == 39 || b == 40 || b == 41 || b == 43 || b == 44 || b == 45 || b == 46 || b == 47 || b == 58 || b == 63 || b == 61
def phK (l : List UInt8) : Option (List UInt8) := if l.all (fun b => isLet b || isDig b || phS b || b == 32) then some ((l.filter (fun b => !(b == 32 || b == 45))).map lowB) else none
/-- none where nothing is left -/
def some1 (o : Option (List UInt8)) : Option (List UInt8) := if o = some [] then none else o

def isCnt (l : List UInt8) : Bool := l.all isDig && (l == [48] || (l != [] && l.head? != some 48))
/-- a number's sign and its digits -/
def numL (l : List UInt8) : Option (Bool × List UInt8) :=
  if l.head? = some 45 then (if isCnt l.tail && l.tail != [48] && decide (l.length ≤ 65536) then some (true, l.tail) else none)
  else (if isCnt l && decide (l.length ≤ 65536) then some (false, l) else none)
def cnt3 (n : Nat) : List UInt8 := [UInt8.ofNat (n / 65536), UInt8.ofNat (n / 256), UInt8.ofNat n]
def numKey (x : Bool × List UInt8) : List UInt8 :=
  if x.1 then 110 :: (cnt3 (16777215 - x.2.length) ++ x.2.map (fun d => UInt8.ofNat (105 - d.toNat))) else 112 :: (cnt3 x.2.length ++ x.2)
def flagK (l : List UInt8) : Option (List UInt8) := if l = [84, 82, 85, 69] ∨ l = [70, 65, 76, 83, 69] then some l else none
def wordB (l : List UInt8) : Bool := match l with
  | [] => false
  | a :: t => isLet a && t.all (fun b => isLet b || isDig b || b == 45)
/-- the rows between dots -/
def splitD : List UInt8 → List (List UInt8)
  | [] => [[]]
  | b :: t => if b = 46 then [] :: splitD t else match splitD t with
    | [] => [[b]]
    | r :: rs => (b :: r) :: rs
def dotB (l : List UInt8) : Bool := (splitD l).all isCnt && decide (2 ≤ (splitD l).length)
def oidK (l : List UInt8) : Option (List UInt8) := if wordB l || dotB l then some (l.map lowB) else none

/-! numbers -/
/-- k digits of n, the last ones -/
def padL : Nat → Nat → List UInt8
  | 0, _ => []
  | k + 1, n => padL k (n / 10) ++ [UInt8.ofNat (48 + n % 10)]
def digV (l : List UInt8) : Nat := l.foldl (fun n b => 10 * n + (b.toNat - 48)) 0
def showN (n : Nat) : List UInt8 := if n = 0 then [48] else (padL (n.log2 + 1) n).dropWhile (· == 48)
def showI (z : Int) : List UInt8 := if z < 0 then 45 :: showN z.natAbs else showN z.natAbs
def numV (x : Bool × List UInt8) : Int := if x.1 then - (digV x.2 : Int) else digV x.2
def addL (a b : List UInt8) : Option (List UInt8) := match numL a, numL b with
  | some x, some y => if (showI (numV x + numV y)).length ≤ 65536 then some (showI (numV x + numV y)) else none
  | _, _ => none
end Go.Proofs.YtfiijlmpfpmgiaaGreatDoor

/-
  Plain functions on bytes: how words sound, and moments.
-/
namespace Go.Proofs.YtfiijlmpfpmgiaaGreatDoor

def sndTab : List UInt8 := [45, 49, 50, 51, 45, 49, 50, 42, 45, 50, 50, 52, 53, 53, 45, 49, 50, 54, 50, 51, 45, 49, 42, 50, 45, 50]
def snd (b : UInt8) : UInt8 := sndTab.getD (b.toNat - 97) 45
/-- the digits that letters give, behind a letter of the digit 'last' -/
def codeGo : UInt8 → List UInt8 → List UInt8
  | _, [] => []
  | last, b :: t => if snd b = 42 then codeGo last t else if snd b ≠ 45 ∧ snd b ≠ last then snd b :: codeGo (snd b) t else codeGo (snd b) t
def codeL (row : List UInt8) : List UInt8 := match row with
  | [] => []
  | a :: t => UInt8.ofNat (a.toNat - 32) :: (codeGo (snd a) t ++ [48, 48, 48]).take 3
def appC (codes row : List UInt8) : List UInt8 := if row = [] then codes else if codes = [] then codeL row else codes ++ 32 :: codeL row
def soundGo : List UInt8 → List UInt8 → List UInt8 → List UInt8
  | codes, row, [] => appC codes row
  | codes, row, b :: t => if isLet b then soundGo codes (row ++ [lowB b]) t else soundGo (appC codes row) [] t
def soundL (l : List UInt8) : List UInt8 := soundGo [] [] l

/-! days -/
def dTY (y : Int) : Int := 365 * y + y / 4 - y / 100 + y / 400
def dTM (m : Int) : Int := (153 * m + 2) / 5
def dnum (y m d : Int) : Int := if m < 3 then dTY (y + 399) + dTM (m + 9) + d - 1 else dTY (y + 400) + dTM (m - 3) + d - 1
def yrGo : Nat → Int → Int → Int
  | 0, y, _ => y
  | f + 1, y, n => if n < dTY y then yrGo f (y - 1) n else y
/-- the year that begins in March and has the day n -/
def yearOf (n : Int) : Int := yrGo 3 (n * 400 / 146097 + 1) n
def monOf (n : Int) : Int := (5 * (n - dTY (yearOf n)) + 2) / 153
def dayOf (n : Int) : Int × Int × Int :=
  if 9 < monOf n then (yearOf n + 1 - 400, monOf n + 3 - 12, n - dTY (yearOf n) - dTM (monOf n) + 1)
  else (yearOf n - 400, monOf n + 3, n - dTY (yearOf n) - dTM (monOf n) + 1)
def digsL (l : List UInt8) : Option Nat := if l.all isDig then some (digV l) else none
/-- hours, minutes, seconds -/
def clockGo : Nat → Nat → List UInt8 → Option Nat
  | _, _, [] => some 0
  | _, _, [_] => none
  | unit, most, a :: b :: t => match digsL [a, b], clockGo (unit / 60) 59 t with
    | some n, some r => if n ≤ most then some (n * unit + r) else none
    | _, _ => none
def clockL (l : List UInt8) : Option Nat := clockGo 3600 23 l
def stampL (l : List UInt8) : Option Int := match digsL (l.take 4), digsL ((l.drop 4).take 2), digsL ((l.drop 6).take 2), clockL (l.drop 8) with
  | some y, some m, some d, some c => if dayOf (dnum y m d) = ((y : Int), (m : Int), (d : Int)) then some (dnum y m d * 86400 + c) else none
  | _, _, _, _ => none
/-- how many digits stand at the beginning -/
def digN (l : List UInt8) : Nat := (l.takeWhile isDig).length
def trimO (l : List UInt8) : List UInt8 := (l.reverse.dropWhile (· == 48)).reverse
/-- the fraction, and what stands behind it -/
def restL (l : List UInt8) : Option (List UInt8 × List UInt8) :=
  if l.head? = some 46 ∨ l.head? = some 44 then (if digN l.tail = 0 ∨ 9 < digN l.tail then none else some (trimO (l.tail.take (digN l.tail)), l.tail.drop (digN l.tail)))
  else some ([], l)
def offL (l : List UInt8) : Option Int :=
  if l = [90] then some 0
  else if l.length = 5 ∧ l.head? = some 43 then (clockL l.tail).map (fun n => (n : Int))
  else if l.length = 5 ∧ l.head? = some 45 then (clockL l.tail).map (fun n => - (n : Int))
  else none
def momL (l : List UInt8) : Option (Int × List UInt8) :=
  if l.length < 14 then none else
  match stampL (l.take 14), restL (l.drop 14) with
  | some s, some (r, b) => match offL b with
    | some o => if 0 ≤ (dayOf ((s - o) / 86400)).1 ∧ (dayOf ((s - o) / 86400)).1 ≤ 9999 then some (s - o, r) else none
    | none => none
  | _, _ => none
def epoch : Int := dnum 1970 1 1 * 86400
def timeK (m : Int × List UInt8) : List UInt8 :=
  padL 4 (dayOf (m.1 / 86400)).1.toNat ++ padL 2 (dayOf (m.1 / 86400)).2.1.toNat ++ padL 2 (dayOf (m.1 / 86400)).2.2.toNat ++
  padL 2 (m.1 % 86400 / 3600).toNat ++ padL 2 (m.1 % 86400 % 3600 / 60).toNat ++ padL 2 (m.1 % 86400 % 60).toNat ++ m.2

/-! the two that go by the form -/
def keyL (form : Int) (l : List UInt8) : Option (List UInt8) :=
  if 65536 < l.length then none
  else if form = 0 then keySp true l
  else if form = 1 then keySp false l
  else if form = 2 then some1 (digK l)
  else if form = 3 then some1 (phK l)
  else if form = 4 then (numL l).map numKey
  else if form = 5 then flagK l
  else if form = 6 then (momL l).map timeK
  else if form = 7 then some l
  else if form = 8 then oidK l
  else none
def pieceL (form wh : Int) (l : List UInt8) : Option (List UInt8) :=
  if 65536 < l.length ∨ ¬ (wh = 0 ∨ wh = 1 ∨ wh = 2) then none
  else if form = 0 then pieceSp true wh l
  else if form = 1 then pieceSp false wh l
  else if form = 2 then digK l
  else if form = 3 then phK l
  else none

def bytesOf (s : String) : List UInt8 := s.toUTF8.data.toList
example : keyL 0 [32, 65, 98, 32, 32, 67, 32] = some [97, 98, 32, 99] := by decide
example : keyL 4 [45, 55] = some [110, 255, 255, 254, 50] := by decide
example : pieceL 0 0 [32, 65, 32] = some [97, 32] := by decide
example : addL [57, 57] [49] = some [49, 48, 48] := by decide
example : (momL [50,48,48,48,48,50,50,57,49,50,48,48,48,48,44,50,53,48,45,48,49,48,48]).map (fun m => (m.1 - epoch, m.2)) = some (951829200, [50, 53]) := by decide
example : soundL [84, 121, 109, 99, 122, 97, 107] = [84, 53, 50, 50] := by decide
end Go.Proofs.YtfiijlmpfpmgiaaGreatDoor

/-
  The contracts of package prep's small functions: digits, letters.
-/
namespace Go.Proofs.YtfiijlmpfpmgiaaGreatDoor
open Go.RowKit

theorem ret_ib {k : IntKind} {a b : Int} {x y : Bool} (h : a = b) (hx : x = y) : Ending.returned (.tuple #[.int k a, .bool x]) = .returned (.tuple #[.int k b, .bool y]) := by rw [h, hx]
theorem ret_i {k : IntKind} {a b : Int} (h : a = b) : Ending.returned (.int k a) = .returned (.int k b) := by rw [h]
theorem ret_s {a b : ByteArray} (h : a = b) : Ending.returned (.string a) = .returned (.string b) := by rw [h]
theorem ret_sb {a b : ByteArray} {x y : Bool} (h : a = b) (hx : x = y) : Ending.returned (.tuple #[.string a, .bool x]) = .returned (.tuple #[.string b, .bool y]) := by rw [h, hx]
theorem ret_b {x y : Bool} (h : x = y) : Ending.returned (.bool x) = .returned (.bool y) := by rw [h]

def rDig (r : Int) : Bool := decide (48 ≤ r) && decide (r ≤ 57)
def rLet (r : Int) : Bool := (decide (97 ≤ r) && decide (r ≤ 122)) || (decide (65 ≤ r) && decide (r ≤ 90))
def rLow (r : Int) : Int := if decide (65 ≤ r) && decide (r ≤ 90) then r + 32 else r

set_option maxHeartbeats 400000 in
theorem isDigit_any (r : Int) (w : World) :
    Calls Tryz.prog 231 #[.int .i32 r] w fun e w' => e = .returned (.bool (rDig r)) ∧ w' = w := by
  rcases (show r < 48 ∨ (48 ≤ r ∧ r ≤ 57) ∨ 58 ≤ r by omega) with h | ⟨h1, h2⟩ | h
  · have hv : Hid (rDig r = false) := by simp [Hid, rDig]; omega
    go_enter Tryz.func231, Tryz.ntmps231
    go_wp2
    go_ret
    exact ⟨ret_b (by first | exact hv.out.symm | (rw [hv.out]; simp; omega)), rfl⟩
  · have hv : Hid (rDig r = true) := by simp [Hid, rDig]; omega
    go_enter Tryz.func231, Tryz.ntmps231
    go_wp2
    go_ret
    exact ⟨ret_b (by first | exact hv.out.symm | (rw [hv.out]; simp; omega)), rfl⟩
  · have hv : Hid (rDig r = false) := by simp [Hid, rDig]; omega
    go_enter Tryz.func231, Tryz.ntmps231
    go_wp2
    go_ret
    exact ⟨ret_b (by first | exact hv.out.symm | (rw [hv.out]; simp; omega)), rfl⟩

set_option maxHeartbeats 400000 in
theorem isLetter_any (r : Int) (w : World) :
    Calls Tryz.prog 232 #[.int .i32 r] w fun e w' => e = .returned (.bool (rLet r)) ∧ w' = w := by
  rcases (show r < 65 ∨ (65 ≤ r ∧ r ≤ 90) ∨ (91 ≤ r ∧ r < 97) ∨ (97 ≤ r ∧ r ≤ 122) ∨ 123 ≤ r by omega) with h | ⟨h1, h2⟩ | ⟨h1, h2⟩ | ⟨h1, h2⟩ | h
  · have hv : Hid (rLet r = false) := by simp [Hid, rLet]; omega
    go_enter Tryz.func232, Tryz.ntmps232
    go_wp2
    go_ret
    exact ⟨ret_b (by first | exact hv.out.symm | (rw [hv.out]; simp; omega)), rfl⟩
  · have hv : Hid (rLet r = true) := by simp [Hid, rLet]; omega
    go_enter Tryz.func232, Tryz.ntmps232
    go_wp2
    go_ret
    exact ⟨ret_b (by first | exact hv.out.symm | (rw [hv.out]; simp; omega)), rfl⟩
  · have hv : Hid (rLet r = false) := by simp [Hid, rLet]; omega
    go_enter Tryz.func232, Tryz.ntmps232
    go_wp2
    go_ret
    exact ⟨ret_b (by first | exact hv.out.symm | (rw [hv.out]; simp; omega)), rfl⟩
  · have hv : Hid (rLet r = true) := by simp [Hid, rLet]; omega
    go_enter Tryz.func232, Tryz.ntmps232
    go_wp2
    go_ret
    exact ⟨ret_b (by first | exact hv.out.symm | (rw [hv.out]; simp; omega)), rfl⟩
  · have hv : Hid (rLet r = false) := by simp [Hid, rLet]; omega
    go_enter Tryz.func232, Tryz.ntmps232
    go_wp2
    go_ret
    exact ⟨ret_b (by first | exact hv.out.symm | (rw [hv.out]; simp; omega)), rfl⟩

set_option maxHeartbeats 400000 in
theorem smallLetter_any (r : Int) (w : World) (h1 : -2147483648 ≤ r) (h2 : r ≤ 2147483647) :
    Calls Tryz.prog 229 #[.int .i32 r] w fun e w' => e = .returned (.int .i32 (rLow r)) ∧ w' = w := by
  rcases (show r < 65 ∨ (65 ≤ r ∧ r ≤ 90) ∨ 91 ≤ r by omega) with h | ⟨h1, h2⟩ | h
  · have hv : Hid (rLow r = r) := by show rLow r = r; unfold rLow; rw [if_neg]; simp; omega
    go_enter Tryz.func229, Tryz.ntmps229
    go_wp2
    go_ret
    exact ⟨ret_i hv.out.symm, rfl⟩
  · have hv : Hid (rLow r = r + 32) := by show rLow r = r + 32; unfold rLow; rw [if_pos]; simp; omega
    go_enter Tryz.func229, Tryz.ntmps229
    go_wp2
    go_ret
    exact ⟨ret_i (by rw [hv.out]; omega), rfl⟩
  · have hv : Hid (rLow r = r) := by show rLow r = r; unfold rLow; rw [if_neg]; simp; omega
    go_enter Tryz.func229, Tryz.ntmps229
    go_wp2
    go_ret
    exact ⟨ret_i hv.out.symm, rfl⟩
/-- of a byte -/
theorem rDig_byte (b : UInt8) : rDig (b.toNat : Int) = isDig b := by
  unfold rDig isDig
  congr 1 <;> (rw [decide_eq_decide]; omega)
theorem rLet_byte (b : UInt8) : rLet (b.toNat : Int) = isLet b := by
  unfold rLet isLet
  congr 1 <;> (congr 1 <;> (rw [decide_eq_decide]; omega))
theorem rLow_byte (b : UInt8) : rLow (b.toNat : Int) = ((lowB b).toNat : Int) := by
  unfold rLow lowB
  by_cases h : 65 ≤ b.toNat ∧ b.toNat ≤ 90
  · rw [if_pos (by simp; omega), if_pos (by simp; omega)]
    have : b.toNat + 32 < 256 := by omega
    simp [Nat.mod_eq_of_lt this]
  · rw [if_neg (by simp; omega), if_neg (by simp; omega)]
theorem rLet_high (r : Int) (h : 128 ≤ r) : rLet r = false := by unfold rLet; simp; omega
theorem rDig_high (r : Int) (h : 128 ≤ r) : rDig r = false := by unfold rDig; simp; omega
theorem rLow_high (r : Int) (h : 128 ≤ r) : rLow r = r := by unfold rLow; rw [if_neg]; simp; omega
end Go.Proofs.YtfiijlmpfpmgiaaGreatDoor

/-
  What a slice of bytes that a call made itself holds; what a call leaves of the blocks that are not such slices.
-/
namespace Go.Proofs.YtfiijlmpfpmgiaaGreatDoor
open Go.RowKit

/-- a byte as a value -/
def B8 (b : UInt8) : Value := .int .u8 b.toNat
/-- the slice value v owns the bytes l, in a block from B on -/
def Own (w : World) (B : Nat) (v : Value) (l : List UInt8) : Prop := w.ownsRow B 5 1 v l.length (l.map B8)
/-- blocks below B, and all blocks that are no rows of bytes, stand as they stood -/
def Fr (B : Nat) (w w' : World) : Prop := Below B w w' ∧ Lib.OthersKept 5 none w w'

theorem Fr.refl (B : Nat) (w : World) : Fr B w w := ⟨Below.refl _ _, Lib.OthersKept.refl _ _ _⟩
theorem Fr.trans {B : Nat} {a b c : World} (h : Fr B a b) (k : Fr B b c) : Fr B a c := ⟨h.1.trans k.1, h.2.trans k.2⟩
theorem Fr.mono {B C : Nat} {a b : World} (h : Fr B a b) (k : C ≤ B) : Fr C a b := ⟨h.1.mono k, h.2⟩
theorem Fr.drew {B : Nat} {a w : World} (h : Fr B a w) : Fr B a w.drew := ⟨h.1.drew, h.2.drew⟩
theorem Fr.alloc {B : Nat} {a w : World} (h : Fr B a w) (hB : B ≤ w.heap.size) (o : Obj) : Fr B a (w.alloc o) := ⟨h.1.alloc hB o, h.2.alloc o⟩
theorem Fr.size {B : Nat} {a w : World} (h : Fr B a w) : a.heap.size ≤ w.heap.size := h.1.size

theorem Own.kind {w : World} {B : Nat} {v : Value} {l : List UInt8} (h : Own w B v l) : ∀ g, v.ownBlock = some g → ∃ c fz, w.heap[g]? = some (.cells c 5 fz) := by
  intro g hg
  rcases h.2 with ⟨rfl, _⟩ | ⟨g', cap, cur, rfl, _, hgg, _⟩
  · simp [Value.ownBlock] at hg
  · simp [Value.ownBlock] at hg
    subst hg
    exact ⟨cur, _, hgg⟩
/-- an append to v's own row -/
theorem Own.grown {w a w' : World} {B : Nat} {v : Value} {l : List UInt8} (h : Own w B v l) (hB : B ≤ w.heap.size) (hf : Fr B a w) (hg : w.grownBy w' v.ownBlock) : Fr B a w' :=
  ⟨hf.1.grown hg hB (fun k hk => (World.ownsRow.lt h k hk).1), hf.2.grown hg h.kind⟩
theorem Own.alloc {w : World} {B : Nat} {v : Value} {l : List UInt8} (h : Own w B v l) (o : Obj) : Own (w.alloc o) B v l := World.ownsRow.alloc h o
theorem Own.drew {w : World} {B : Nat} {v : Value} {l : List UInt8} (h : Own w B v l) : Own w.drew B v l := World.ownsRow.drew h

theorem Own.drewAlloc {w : World} {B : Nat} {v : Value} {l : List UInt8} (h : Own w B v l) {o : Obj} : Own (w.alloc o).drew B v l := (h.alloc o).drew
theorem own_of {w : World} {B : Nat} {v : Value} {l : List UInt8} {n : Nat} {xs : List Value} (h : w.ownsRow B 5 1 v n xs) (hn : n = l.length) (hx : xs = l.map B8) : Own w B v l := by
  subst hn hx; exact h

theorem Own.conv {w : World} {B : Nat} {v : Value} {l : List UInt8} (h : Own w B v l) : (convert 67 9 v).run Tryz.prog w = .ok (.string (str l)) w := by
  have hc := fun g hg => World.ownsRow.cells h (g := g) hg
  rcases h.2 with ⟨rfl, hl⟩ | ⟨g, cap, cur, rfl, _⟩
  · have : l = [] := List.eq_nil_of_length_eq_zero hl
    subst this
    exact run_convert_bytes_nil w 67 5 Tryz.underlying67 Tryz.underlying5 0 0 9 Tryz.underlying9
  · exact run_convert_bytes_back w 67 9 5 ⟨g, 0, none⟩ cap l Tryz.underlying67 Tryz.underlying5 Tryz.underlying9
      (fun j hj => hc g rfl j _ (by simp [B8, List.getElem?_eq_getElem hj]))

theorem info8 : (Tryz.prog.info? 5).map (fun i => (i.zero, i.size, i.bytes)) = some (some (.int .u8 0), 1, 1) := by kernel_rfl

/-- 'append(v, ..)' where the new elements have just been laid into a block of their own -/
theorem wpList_push {ops : Array Oper} {rest : List Oper} {o : Oper} {a : Act} {Q : Exit → Act → World → Prop} (hgd : o.guard = none) (s x : Operand)
    (ho : o.op = .call { callee := .builtin .append, args := #[s, x], argTypes := #[67, 67] })
    (w0 : World) (B : Nat) (v : Value) (l m : List UInt8) (cs : Array Value) (hown : Own w0 B v l) (hB : B ≤ w0.heap.size) (hs : a.eval s = v) (n c : Nat)
    (hx : a.eval x = .slice (some ⟨w0.heap.size, 0, none⟩) n c) (hn : n = m.length) (hcs : cs = (m.map B8).toArray) (hlen : l.length + m.length ≤ 140737488355328)
    (h : ∀ v' w', Own w' B v' (l ++ m) → Fr B w0 w' → wpList Tryz.prog ops Q rest (a.put o.dst v') w') :
    wpList Tryz.prog ops Q (o :: rest) a (w0.alloc (.cells cs 5)) := by
  obtain ⟨i0, hi0, hz0, hz1, hz2⟩ := info_parts info8
  subst hn
  refine wpList_append_own _ hgd s x 67 ho B 5 i0 (.int .u8 0) 1 1 Tryz.underlying67 hi0 hz0 hz1 hz2 rfl (by decide) v l.length (l.map B8) hs (hown.alloc _) ⟨w0.heap.size, 0, none⟩ m.length c (m.map B8) hx (by simp) ?_ ?_ ?_ ?_ ?_ ?_
  · have := World.news_of_block (w := w0.alloc (.cells cs 5)) (B := w0.heap.size) (cs := cs) (t := 5) (fr := (0, 0)) (heap_alloc_new w0 _)
    subst hcs
    simpa using this
  · intro u hu
    obtain ⟨b, _, rfl⟩ := List.mem_map.1 hu
    rfl
  · unfold maxLen; omega
  · omega
  · simp; omega
  · intro v' w' h1 h2 _
    exact h v' w' (own_of h1 (by simp) (by simp)) ((hown.alloc _).grown (by simp; omega) ((Fr.refl B w0).alloc hB _) h2)

/-- 'make([]byte, 0, n)' -/
theorem wpList_make8 {w : World} {ops : Array Oper} {rest : List Oper} {o : Oper} {a : Act} {Q : Exit → Act → World → Prop} (hg : o.guard = none) (l c : Operand)
    (hop : o.op = Op.makeSlice 67 l c) (C : Int) (n : Nat) (hl : a.eval l = .int .i64 0) (hc : a.eval c = .int .i64 C) (hC : C = (n : Int)) (b2 : n ≤ 281474976710656)
    (hK : ∀ v w', Own w' w.heap.size v [] → Fr w.heap.size w w' → wpList Tryz.prog ops Q rest (a.put o.dst v) w') : wpList Tryz.prog ops Q (o :: rest) a w := by
  obtain ⟨i0, hi0, hz0, hz1, hz2⟩ := info_parts info8
  refine wpList_make_own _ hg l c 67 hop w.heap.size 5 i0 (.int .u8 0) 1 Tryz.underlying67 hi0 hz0 hz1 .i64 .i64 C n hl hc hC (by rw [hz2]; omega) (by unfold maxLen; omega) (Nat.le_refl _) ?_
  intro w1 hown0 hgrow0
  exact hK _ w1 hown0 ⟨(Below.refl _ _).grown hgrow0 (Nat.le_refl _) (fun k hk => by cases hk), (Lib.OthersKept.refl _ _ _).grown hgrow0 (fun k hk => by cases hk)⟩

theorem Own.mono {w : World} {B C : Nat} {v : Value} {l : List UInt8} (h : Own w B v l) (k : C ≤ B) : Own w C v l := by
  obtain ⟨h1, h2⟩ := h
  refine ⟨h1, h2.imp id ?_⟩
  rintro ⟨g, cap, cur, e, hg, r⟩
  exact ⟨g, cap, cur, e, Nat.le_trans k hg, r⟩
end Go.Proofs.YtfiijlmpfpmgiaaGreatDoor

/-
  The two maps of rules.
-/
namespace Go.Proofs.YtfiijlmpfpmgiaaGreatDoor
open Go.RowKit

def mapRow (kv : Nat → Value) : Nat → Array MapEntry
  | 0 => #[]
  | n + 1 => (mapRow kv n).push { key := .int .i8 (n : Int), val := kv n, born := n }
theorem mapRow_list (kv : Nat → Value) (n : Nat) : (mapRow kv n).toList = (List.range n).map (fun i : Nat => ({ key := .int .i8 (i : Int), val := kv i, born := i } : MapEntry)) := by
  induction n with
  | zero => rfl
  | succ n ih => rw [mapRow, Array.toList_push, ih, List.range_succ, List.map_append]; rfl
theorem find_range (kv : Nat → Value) (k : Int) (n : Nat) : ∀ m, Instr.findNow (.int .i8) (.int .i8 k) ((List.range' m n).map (fun i : Nat => ({ key := .int .i8 (i : Int), val := kv i, born := i } : MapEntry))) m = some (if (m : Int) ≤ k ∧ k < (m + n : Nat) then some (k.toNat, kv k.toNat) else none) := by
  induction n with
  | zero => intro m; rw [if_neg (by omega)]; rfl
  | succ n ih =>
    intro m
    rw [List.range'_succ, List.map_cons, Instr.findNow]
    simp only [Instr.sameNow, if_true]
    by_cases h : k = (m : Int)
    · subst h
      rw [show (((m : Int) == (m : Int))) = true by simp, if_pos (by omega)]
      simp
    · rw [show ((k == (m : Int))) = false by simpa using h]
      dsimp only
      rw [ih (m + 1)]
      congr 1
      by_cases h2 : (m : Int) ≤ k ∧ k < ((m + (n + 1) : Nat) : Int)
      · rw [if_pos h2, if_pos (by omega)]
      · rw [if_neg h2, if_neg (by omega)]
theorem find_row (kv : Nat → Value) (k : Int) (n : Nat) : Instr.findNow (.int .i8) (.int .i8 k) (mapRow kv n).toList 0 = some (if 0 ≤ k ∧ k < n then some (k.toNat, kv k.toNat) else none) := by
  rw [mapRow_list, List.range_eq_range', find_range kv k n 0]; simp
theorem heap_alloc_set (w : World) (o o' : Obj) : ({ (w.alloc o) with heap := (w.alloc o).heap.setIfInBounds w.heap.size o' } : World) = w.alloc o' := by
  have e : (w.alloc o).heap = w.heap.push o := rfl
  rw [e]
  show ({ w with heap := (w.heap.push o).setIfInBounds w.heap.size o' } : World) = { w with heap := w.heap.push o' }
  congr 1
  apply Array.ext_getElem?
  intro i
  by_cases hi : i = w.heap.size
  · subst hi; simp
  · simp [Array.getElem?_push, hi, Ne.symm hi]
theorem run_put (mty kt et : TypeId) (hm : Tryz.prog.underlying mty = some (.map kt et)) (hk : Tryz.prog.underlying kt = some (.int .i8)) (kv : Nat → Value) (w : World) (n : Nat) :
    (Instr.mapUpdate mty (.map (some w.heap.size)) (.int .i8 (n : Int)) (kv n)).run Tryz.prog (w.alloc (.map (mapRow kv n) n)) = .ok () (w.alloc (.map (mapRow kv (n + 1)) (n + 1))) := by
  have hb : (w.alloc (.map (mapRow kv n) n)).heap[w.heap.size]? = some (.map (mapRow kv n) n) := (MapKept.heap_alloc w _).1
  have hf := find_row kv (n : Int) n
  rw [if_neg (by omega)] at hf
  have hc : (Instr.checkKey false 10000 kt (.int .i8 (n : Int))).run Tryz.prog (w.alloc (.map (mapRow kv n) n)) = .ok () (w.alloc (.map (mapRow kv n) n)) := MapKept.run_checkKey (k := .int .i8 (n : Int)) hk (by simp [MapKept.IsKey]) false 9999
  simp only [Instr.mapUpdate, Sem.run_bind, run_underlying hm, MapKept.run_getObj_map hb, hc, MapKept.run_findKey hk hf, MapKept.run_setObj_map _ hb, Result.andThen]
  rw [heap_alloc_set]
  rfl
theorem run_look (mty kt et : TypeId) (hm : Tryz.prog.underlying mty = some (.map kt et)) (hk : Tryz.prog.underlying kt = some (.int .i8)) (z : Value) (kv : Nat → Value) (n c r : Nat) (w : World) (hz : (zeroValue et).run Tryz.prog w = .ok z w) (hb : w.heap[r]? = some (.map (mapRow kv n) c)) (k : Int) :
    (Instr.lookup mty (.map (some r)) (.int .i8 k) true).run Tryz.prog w = .ok (.tuple #[if 0 ≤ k ∧ k < n then kv k.toNat else z, .bool (decide (0 ≤ k ∧ k < n))]) w := by
  have hf := find_row kv k n
  have hc : (Instr.checkKey (mapRow kv n).isEmpty 10000 kt (.int .i8 k)).run Tryz.prog w = .ok () w := MapKept.run_checkKey (k := .int .i8 k) hk (by simp [MapKept.IsKey]) _ 9999
  simp only [Instr.lookup, Sem.run_bind, run_underlying hm, MapKept.run_getObj_map hb, hc, MapKept.run_findKey hk hf, Result.andThen, Sem.run_pure]
  by_cases h : 0 ≤ k ∧ k < n
  · simp [h]
  · simp [h, hz, Result.andThen]

/-- the rules of keys, by the form -/
def keyV : Nat → Value
  | 0 => .func (.func 177) #[.agg #[.bool true]] #[]
  | 1 => .func (.func 177) #[.agg #[.bool false]] #[]
  | 2 => .func (.func 178) #[.agg #[]] #[]
  | 3 => .func (.func 179) #[.agg #[]] #[]
  | 4 => .func (.func 180) #[.agg #[]] #[]
  | 5 => .func (.func 181) #[.agg #[]] #[]
  | 6 => .func (.func 182) #[.agg #[]] #[]
  | 7 => .func (.func 183) #[.agg #[]] #[]
  | _ => .func (.func 184) #[.agg #[]] #[]
set_option maxRecDepth 100000 in
set_option maxHeartbeats 1000000 in
theorem keyRules_any (w : World) :
    Calls Tryz.prog 159 #[] w fun e w' => e = .returned (.map (some w.heap.size)) ∧ w' = w.alloc (.map (mapRow keyV 9) 9) := by
  have hmm := @run_makeMap Tryz.prog
  have hp := run_put 235 135 233 Tryz.underlying235 Tryz.underlying135 keyV w
  have p0 : (Instr.mapUpdate 235 (.map (some w.heap.size)) (.int .i8 0) (.func (.func 177) #[.agg #[.bool true]] #[])).run Tryz.prog (w.alloc (.map #[] 0)) = _ := hp 0
  have p1 : (Instr.mapUpdate 235 (.map (some w.heap.size)) (.int .i8 1) (.func (.func 177) #[.agg #[.bool false]] #[])).run Tryz.prog _ = _ := hp 1
  have p2 : (Instr.mapUpdate 235 (.map (some w.heap.size)) (.int .i8 2) (.func (.func 178) #[.agg #[]] #[])).run Tryz.prog _ = _ := hp 2
  have p3 : (Instr.mapUpdate 235 (.map (some w.heap.size)) (.int .i8 3) (.func (.func 179) #[.agg #[]] #[])).run Tryz.prog _ = _ := hp 3
  have p4 : (Instr.mapUpdate 235 (.map (some w.heap.size)) (.int .i8 4) (.func (.func 180) #[.agg #[]] #[])).run Tryz.prog _ = _ := hp 4
  have p5 : (Instr.mapUpdate 235 (.map (some w.heap.size)) (.int .i8 5) (.func (.func 181) #[.agg #[]] #[])).run Tryz.prog _ = _ := hp 5
  have p6 : (Instr.mapUpdate 235 (.map (some w.heap.size)) (.int .i8 6) (.func (.func 182) #[.agg #[]] #[])).run Tryz.prog _ = _ := hp 6
  have p7 : (Instr.mapUpdate 235 (.map (some w.heap.size)) (.int .i8 7) (.func (.func 183) #[.agg #[]] #[])).run Tryz.prog _ = _ := hp 7
  have p8 : (Instr.mapUpdate 235 (.map (some w.heap.size)) (.int .i8 8) (.func (.func 184) #[.agg #[]] #[])).run Tryz.prog _ = _ := hp 8
  clear hp
  generalize mapRow keyV (0 + 1) = m1 at *
  generalize mapRow keyV (1 + 1) = m2 at *
  generalize mapRow keyV (2 + 1) = m3 at *
  generalize mapRow keyV (3 + 1) = m4 at *
  generalize mapRow keyV (4 + 1) = m5 at *
  generalize mapRow keyV (5 + 1) = m6 at *
  generalize mapRow keyV (6 + 1) = m7 at *
  generalize mapRow keyV (7 + 1) = m8 at *
  go_enter Tryz.func159, Tryz.ntmps159
  go_wp2
  go_ret
  exact ⟨rfl, rfl⟩

theorem keyZero (w : World) : (zeroValue 233).run Tryz.prog w = .ok .nilFunc w := by kernel_rfl
end Go.Proofs.YtfiijlmpfpmgiaaGreatDoor
