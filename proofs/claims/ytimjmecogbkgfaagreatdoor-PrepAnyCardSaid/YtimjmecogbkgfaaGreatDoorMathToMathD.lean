/-
  Plain functions on bytes that say what package octet's calls answer. No dump is imported here.
-/
import GoSem.Core.Utf8
namespace Go.Proofs.YtimjmecogbkgfaaGreatDoor

/-- what a small digit to the base 16 counts -/
def sdig (c : Nat) : Option Nat := if 48 ≤ c ∧ c ≤ 57 then some (c - 48) else if 97 ≤ c ∧ c ≤ 102 then some (c - 87) else none
/-- great letters too -/
def adig (c : Nat) : Option Nat := if 65 ≤ c ∧ c ≤ 70 then some (c - 55) else sdig c
def sdigV (c : Nat) : Nat := (sdig c).getD 0
def sdigB (c : Nat) : Bool := (sdig c).isSome
def adigV (c : Nat) : Nat := (adig c).getD 0
def adigB (c : Nat) : Bool := (adig c).isSome
/-- the bytes that never stand for themselves -/
def resv (c : Nat) : Bool := c == 0 || c == 40 || c == 41 || c == 42 || c == 92

/-- the digit that counts k -/
def hexd (k : Nat) : UInt8 := if k < 10 then UInt8.ofNat (48 + k) else UInt8.ofNat (87 + k)

theorem sdig_num {c : Nat} (h1 : 48 ≤ c) (h2 : c ≤ 57) : sdig c = some (c - 48) := by simp [sdig, h1, h2]
theorem sdig_let {c : Nat} (h1 : 97 ≤ c) (h2 : c ≤ 102) : sdig c = some (c - 87) := by
  unfold sdig; rw [if_neg (by omega), if_pos ⟨h1, h2⟩]
theorem sdig_no {c : Nat} (h1 : ¬ (48 ≤ c ∧ c ≤ 57)) (h2 : ¬ (97 ≤ c ∧ c ≤ 102)) : sdig c = none := by
  unfold sdig; rw [if_neg h1, if_neg h2]

/-- a text of these bytes -/
def str (l : List UInt8) : ByteArray := ⟨l.toArray⟩
/-- the bytes of a text -/
def byt (s : ByteArray) : List UInt8 := s.data.toList
theorem byt_str (l : List UInt8) : byt (str l) = l := by simp [byt, str]
theorem str_byt (s : ByteArray) : str (byt s) = s := by simp [byt, str]
theorem byt_length (s : ByteArray) : (byt s).length = s.size := Array.length_toList
theorem take_snoc (s : ByteArray) (k : Nat) (h : k < s.size) : (byt s).take (k + 1) = (byt s).take k ++ [s[k]] := by
  unfold byt; rw [List.take_succ_eq_append_getElem (by simpa using h)]; rfl
theorem byt_get (s : ByteArray) (k : Nat) (h : k < s.size) : (byt s)[k]? = some s[k] := by
  unfold byt; rw [List.getElem?_eq_getElem (by simpa using h)]; rfl

def hex1 (b : UInt8) : List UInt8 := [hexd (b.toNat / 16), hexd (b.toNat % 16)]
def hexL (l : List UInt8) : List UInt8 := l.flatMap hex1
theorem hexL_snoc (l : List UInt8) (b : UInt8) : hexL (l ++ [b]) = hexL l ++ [hexd (b.toNat / 16), hexd (b.toNat % 16)] := by simp [hexL, hex1]
theorem hexL_length (l : List UInt8) : (hexL l).length = 2 * l.length := by
  induction l with
  | nil => rfl
  | cons b l ih =>
    have e : hexL (b :: l) = hex1 b ++ hexL l := by simp [hexL]
    rw [e, List.length_append, ih, List.length_cons]
    have : (hex1 b).length = 2 := rfl
    omega

/-- the byte of two digits -/
def byte2 (x y : Nat) : UInt8 := UInt8.ofNat (16 * x + y)
theorem byte2_toNat (x y : Nat) (hx : x < 16) (hy : y < 16) : (byte2 x y).toNat = 16 * x + y := by simp [byte2]; omega
/-- Unhex: the text, if there is one -/
def unhexL : List UInt8 → Option (List UInt8)
  | [] => some []
  | [_] => none
  | a :: b :: l => match sdig a.toNat, sdig b.toNat, unhexL l with
    | some x, some y, some r => some (byte2 x y :: r)
    | _, _, _ => none
def unhexV (l : List UInt8) : List UInt8 := (unhexL l).getD []
def unhexE (l : List UInt8) : Int := if (unhexL l).isSome then 0 else 11

theorem drop_one (s : ByteArray) (k : Nat) (h : k < s.size) : (byt s).drop k = s[k] :: (byt s).drop (k + 1) :=
  List.drop_eq_getElem_cons (by rw [byt_length]; exact h)
theorem drop_two (s : ByteArray) (k : Nat) (h : k + 1 < s.size) : (byt s).drop k = s[k] :: s[k + 1] :: (byt s).drop (k + 2) := by
  rw [drop_one s k (by omega), drop_one s (k + 1) h]
theorem drop_end (s : ByteArray) (k : Nat) (h : ¬ k < s.size) : (byt s).drop k = [] := List.drop_eq_nil_of_le (by rw [byt_length]; omega)

theorem unhexL_two (a b : UInt8) (l : List UInt8) (x y : Nat) (hx : sdig a.toNat = some x) (hy : sdig b.toNat = some y) : unhexL (a :: b :: l) = (unhexL l).map (byte2 x y :: ·) := by
  rw [unhexL, hx, hy]; cases unhexL l <;> rfl
theorem unhexL_bad (a b : UInt8) (l : List UInt8) (h : (sdigB a.toNat && sdigB b.toNat) = false) : unhexL (a :: b :: l) = none := by
  rw [unhexL]
  unfold sdigB at h
  cases ha : sdig a.toNat <;> cases hb : sdig b.toNat <;> simp_all
theorem unhexL_odd : (l : List UInt8) → l.length % 2 ≠ 0 → unhexL l = none
  | [], h => absurd rfl h
  | [_], _ => rfl
  | a :: b :: l, h => by
    have := unhexL_odd l (by simp only [List.length_cons] at h; omega)
    rw [unhexL, this]; split <;> simp_all
theorem sdig_lt (c x : Nat) (h : sdig c = some x) : x < 16 := by
  unfold sdig at h; split at h
  · cases h; omega
  · split at h
    · cases h; omega
    · cases h
theorem sdig_of (c : Nat) (h : sdigB c = true) : sdig c = some (sdigV c) ∧ sdigV c < 16 := by
  unfold sdigB at h
  cases hc : sdig c with
  | none => rw [hc] at h; cases h
  | some x => exact ⟨by simp [sdigV, hc], by simpa [sdigV, hc] using sdig_lt c x hc⟩
end Go.Proofs.YtimjmecogbkgfaaGreatDoor

/-
  Plain functions on bytes: how many bytes the character at a text's beginning has.
-/
namespace Go.Proofs.YtimjmecogbkgfaaGreatDoor
/-! the table of characters -/
def rowF (k : Nat) : Nat := [0, 194, 224, 225, 237, 238, 240, 241, 244].getD k 0
def rowL (k : Nat) : Nat := [127, 223, 224, 236, 237, 239, 240, 243, 244].getD k 0
def rowA (k : Nat) : Nat := [0, 128, 160, 128, 128, 128, 144, 128, 128].getD k 0
def rowZ (k : Nat) : Nat := [0, 191, 191, 191, 159, 191, 191, 191, 143].getD k 0
def rowW (k : Nat) : Nat := [1, 2, 3, 3, 3, 3, 4, 4, 4].getD k 0
theorem row_bd (k : Nat) : rowF k ≤ 244 ∧ rowL k ≤ 244 ∧ rowA k ≤ 160 ∧ rowZ k ≤ 191 ∧ rowW k ≤ 4 := by
  rcases (show k = 0 ∨ k = 1 ∨ k = 2 ∨ k = 3 ∨ k = 4 ∨ k = 5 ∨ k = 6 ∨ k = 7 ∨ k = 8 ∨ 9 ≤ k by omega) with h | h | h | h | h | h | h | h | h | h
  all_goals first
    | (subst h; decide)
    | (have e : ∀ (l : List Nat), l.length = 9 → l.getD k 0 = 0 := fun l hl => by simp [List.getD, List.getElem?_eq_none (show l.length ≤ k by omega)]
       simp only [rowF, rowL, rowA, rowZ, rowW]
       rw [e _ rfl, e _ rfl, e _ rfl, e _ rfl, e _ rfl]; omega)
theorem rowW_pos (k : Nat) (h : k < 9) : 1 ≤ rowW k := by
  rcases (show k = 0 ∨ k = 1 ∨ k = 2 ∨ k = 3 ∨ k = 4 ∨ k = 5 ∨ k = 6 ∨ k = 7 ∨ k = 8 by omega) with h | h | h | h | h | h | h | h | h <;> subst h <;> decide
def lowOf (k j : Nat) : Nat := if j = 1 then rowA k else 128
def highOf (k j : Nat) : Nat := if j = 1 then rowZ k else 191
/-- does the byte at j go on a character of row k? -/
def tl (l : List UInt8) (k j : Nat) : Bool := match l[j]? with
  | some b => decide (lowOf k j ≤ b.toNat) && decide (b.toNat ≤ highOf k j)
  | none => false
def widAt (l : List UInt8) (k : Nat) : Nat := if decide (rowW k ≤ l.length) && ([1, 2, 3].all fun j => !decide (j < rowW k) || tl l k j) then rowW k else 0
def inRow (k a : Nat) : Bool := decide (rowF k ≤ a) && decide (a ≤ rowL k)
def widGo (l : List UInt8) (a : Nat) : Nat → Nat → Nat
  | 0, _ => 0
  | n + 1, k => if inRow k a then widAt l k else widGo l a n (k + 1)
/-- how many bytes the character at the beginning has; 0: the first byte stands alone -/
def wid (l : List UInt8) : Nat := match l with
  | [] => 0
  | a :: _ => widGo l a.toNat 9 0
theorem widAt_short (l : List UInt8) (k : Nat) (h : l.length < rowW k) : widAt l k = 0 := by
  unfold widAt; rw [decide_eq_false (by omega)]; rfl
theorem widAt_bad (l : List UInt8) (k j : Nat) (h1 : 1 ≤ j) (h2 : j < rowW k) (h : tl l k j = false) : widAt l k = 0 := by
  have hb := row_bd k
  have hj : j = 1 ∨ j = 2 ∨ j = 3 := by omega
  unfold widAt
  have : ([1, 2, 3].all fun j => !decide (j < rowW k) || tl l k j) = false := by
    rw [List.all_eq_false]
    exact ⟨j, by rcases hj with h | h | h <;> simp [h], by simp [h, h2]⟩
  rw [this]; simp
theorem widAt_good (l : List UInt8) (k : Nat) (hl : rowW k ≤ l.length) (h : ∀ j, 1 ≤ j → j < rowW k → tl l k j = true) : widAt l k = rowW k := by
  unfold widAt
  have : ([1, 2, 3].all fun j => !decide (j < rowW k) || tl l k j) = true := by
    rw [List.all_eq_true]
    intro j hj
    by_cases hw : j < rowW k
    · rw [h j (by simp at hj; omega) hw]; simp
    · simp [hw]
  rw [this, decide_eq_true hl]; simp
theorem wid_byt (s : ByteArray) (h : 0 < s.size) : wid (byt s) = widGo (byt s) s[0].toNat 9 0 := by
  have e := drop_one s 0 h
  simp only [List.drop_zero] at e
  rw [e]; rfl
theorem tl_byt (s : ByteArray) (k j : Nat) (h : j < s.size) : tl (byt s) k j = (decide (lowOf k j ≤ s[j].toNat) && decide (s[j].toNat ≤ highOf k j)) := by
  unfold tl; rw [byt_get s j h]
end Go.Proofs.YtimjmecogbkgfaaGreatDoor

/-
  A range over a text takes steps of just the widths of its characters, and of one byte where a byte stands alone.
-/
namespace Go.Proofs.YtimjmecogbkgfaaGreatDoor

theorem row_lt (i k : Nat) (h : i < k) (hk : k < 9) : rowL i < rowF k := by
  have : ∀ i k : Fin 9, i < k → rowL i.val < rowF k.val := by decide
  exact this ⟨i, by omega⟩ ⟨k, hk⟩ h
theorem widGo_row (l : List UInt8) (a k : Nat) (hk : k < 9) (h : inRow k a = true) : ∀ n j, j ≤ k → n = 9 - j → widGo l a n j = widAt l k := by
  intro n
  induction n with
  | zero => intro j h1 h2; omega
  | succ n ih =>
    intro j h1 h2
    rw [widGo]
    by_cases hj : j = k
    · subst hj; rw [if_pos h]
    · have hl := row_lt j k (by omega) hk
      rw [if_neg (by simp [inRow] at h ⊢; omega)]
      exact ih (j + 1) (by omega) (by omega)
theorem wid_row (a : UInt8) (t : List UInt8) (k : Nat) (hk : k < 9) (h1 : rowF k ≤ a.toNat) (h2 : a.toNat ≤ rowL k) : wid (a :: t) = widAt (a :: t) k :=
  widGo_row _ _ k hk (by simp [inRow, h1, h2]) 9 0 (by omega) rfl
theorem wid_none (a : UInt8) (t : List UInt8) (h : (128 ≤ a.toNat ∧ a.toNat ≤ 193) ∨ 245 ≤ a.toNat) : wid (a :: t) = 0 := by
  have : ∀ n j, widGo (a :: t) a.toNat n j = 0 ∨ 9 ≤ j ∨ True := fun _ _ => .inr (.inr trivial)
  have e : ∀ k, k < 9 → inRow k a.toNat = false := by
    intro k hk
    rcases (show k = 0 ∨ k = 1 ∨ k = 2 ∨ k = 3 ∨ k = 4 ∨ k = 5 ∨ k = 6 ∨ k = 7 ∨ k = 8 by omega) with h | h | h | h | h | h | h | h | h <;> subst h <;> simp [inRow, rowF, rowL] <;> omega
  show widGo _ _ 9 0 = 0
  simp only [widGo, e 0 (by omega), e (0 + 1) (by omega), e (0 + 1 + 1) (by omega), e (0 + 1 + 1 + 1) (by omega), e (0 + 1 + 1 + 1 + 1) (by omega), e (0 + 1 + 1 + 1 + 1 + 1) (by omega), e (0 + 1 + 1 + 1 + 1 + 1 + 1) (by omega), e (0 + 1 + 1 + 1 + 1 + 1 + 1 + 1) (by omega), e (0 + 1 + 1 + 1 + 1 + 1 + 1 + 1 + 1) (by omega)]
  rfl

theorem get!_lt (s : ByteArray) (i : Nat) (h : i < s.size) : s.get! i = s[i] := by
  simp [ByteArray.get!, getElem!_pos, h]; rfl
theorem tl_get (s : ByteArray) (pos k j : Nat) (h : pos + j < s.size) : tl ((byt s).drop pos) k j = (decide (lowOf k j ≤ (s.get! (pos + j)).toNat) && decide ((s.get! (pos + j)).toNat ≤ highOf k j)) := by
  unfold tl; rw [List.getElem?_drop, byt_get s (pos + j) h, get!_lt s _ h]
theorem widAt_eq (s : ByteArray) (pos k : Nat) : widAt ((byt s).drop pos) k = if rowW k ≤ s.size - pos ∧ (1 < rowW k → lowOf k 1 ≤ (s.get! (pos + 1)).toNat ∧ (s.get! (pos + 1)).toNat ≤ highOf k 1) ∧
    (2 < rowW k → lowOf k 2 ≤ (s.get! (pos + 2)).toNat ∧ (s.get! (pos + 2)).toNat ≤ highOf k 2) ∧ (3 < rowW k → lowOf k 3 ≤ (s.get! (pos + 3)).toNat ∧ (s.get! (pos + 3)).toNat ≤ highOf k 3) then rowW k else 0 := by
  have hb := row_bd k
  have hlen : ((byt s).drop pos).length = s.size - pos := by rw [List.length_drop, byt_length]
  by_cases hl : rowW k ≤ s.size - pos
  · split
    · rename_i h
      refine widAt_good _ _ (by omega) ?_
      intro j h1 h2
      rw [tl_get s pos k j (by omega)]
      rcases (show j = 1 ∨ j = 2 ∨ j = 3 by omega) with e | e | e <;> subst e <;> simp <;> omega
    · rename_i h
      rcases (show (1 < rowW k ∧ ¬ (lowOf k 1 ≤ (s.get! (pos + 1)).toNat ∧ (s.get! (pos + 1)).toNat ≤ highOf k 1)) ∨ (2 < rowW k ∧ ¬ (lowOf k 2 ≤ (s.get! (pos + 2)).toNat ∧ (s.get! (pos + 2)).toNat ≤ highOf k 2)) ∨ (3 < rowW k ∧ ¬ (lowOf k 3 ≤ (s.get! (pos + 3)).toNat ∧ (s.get! (pos + 3)).toNat ≤ highOf k 3)) by omega) with ⟨h1, h2⟩ | ⟨h1, h2⟩ | ⟨h1, h2⟩
      · exact widAt_bad _ _ 1 (by omega) h1 (by rw [tl_get s pos k 1 (by omega)]; simp; omega)
      · exact widAt_bad _ _ 2 (by omega) h1 (by rw [tl_get s pos k 2 (by omega)]; simp; omega)
      · exact widAt_bad _ _ 3 (by omega) h1 (by rw [tl_get s pos k 3 (by omega)]; simp; omega)
  · rw [widAt_short _ _ (by omega), if_neg (by omega)]

theorem valid_iff (c : Nat) : Utf8.valid (c : Int) = true ↔ c < 0xD800 ∨ (0xE000 ≤ c ∧ c ≤ 0x10FFFF) := by
  unfold Utf8.valid
  rw [Bool.or_eq_true, Bool.and_eq_true, Bool.and_eq_true, decide_eq_true_eq, decide_eq_true_eq, decide_eq_true_eq, decide_eq_true_eq]
  omega
/-- the width that decode tells, over four numbers and how many bytes are left -/
def decW (b0 b1 b2 b3 n : Nat) : Nat := if b0 < 128 then 1
      else if b0 / 32 = 6 ∧ 1 < n ∧ b1 / 64 = 2 then (if (b0 % 32) * 64 + b1 % 64 ≥ 0x80 then 2 else 1)
      else if b0 / 16 = 14 ∧ 1 < n ∧ b1 / 64 = 2 ∧ 2 < n ∧ b2 / 64 = 2 then (if (b0 % 16) * 4096 + (b1 % 64) * 64 + b2 % 64 ≥ 0x800 ∧ ((b0 % 16) * 4096 + (b1 % 64) * 64 + b2 % 64 < 0xD800 ∨ 0xE000 ≤ (b0 % 16) * 4096 + (b1 % 64) * 64 + b2 % 64) then 3 else 1)
      else if b0 / 8 = 30 ∧ 1 < n ∧ b1 / 64 = 2 ∧ 2 < n ∧ b2 / 64 = 2 ∧ 3 < n ∧ b3 / 64 = 2 then (if (b0 % 8) * 262144 + (b1 % 64) * 4096 + (b2 % 64) * 64 + b3 % 64 ≥ 0x10000 ∧ (b0 % 8) * 262144 + (b1 % 64) * 4096 + (b2 % 64) * 64 + b3 % 64 ≤ 0x10FFFF then 4 else 1)
      else 1

theorem dec_core (b0 b1 b2 b3 n : Nat) (p1 p2 p3 : Bool) (l1 : p1 = true ↔ 1 < n) (l2 : p2 = true ↔ 2 < n) (l3 : p3 = true ↔ 3 < n) :
    (if b0 < 0x80 then (b0, 1)
      else if b0 / 32 == 6 && (p1 && b1 / 64 == 2) then
        (if (b0 % 32) * 64 + b1 % 64 ≥ 0x80 then ((b0 % 32) * 64 + b1 % 64, 2) else (Utf8.runeError, 1))
      else if b0 / 16 == 14 && (p1 && b1 / 64 == 2) && (p2 && b2 / 64 == 2) then
        (if (b0 % 16) * 4096 + (b1 % 64) * 64 + b2 % 64 ≥ 0x800 && Utf8.valid (((b0 % 16) * 4096 + (b1 % 64) * 64 + b2 % 64 : Nat) : Int) then ((b0 % 16) * 4096 + (b1 % 64) * 64 + b2 % 64, 3) else (Utf8.runeError, 1))
      else if b0 / 8 == 30 && (p1 && b1 / 64 == 2) && (p2 && b2 / 64 == 2) && (p3 && b3 / 64 == 2) then
        (if (b0 % 8) * 262144 + (b1 % 64) * 4096 + (b2 % 64) * 64 + b3 % 64 ≥ 0x10000 && Utf8.valid (((b0 % 8) * 262144 + (b1 % 64) * 4096 + (b2 % 64) * 64 + b3 % 64 : Nat) : Int) then ((b0 % 8) * 262144 + (b1 % 64) * 4096 + (b2 % 64) * 64 + b3 % 64, 4) else (Utf8.runeError, 1))
      else (Utf8.runeError, 1)).2 = decW b0 b1 b2 b3 n := by
  unfold decW
  by_cases h0 : b0 < 128
  · rw [if_pos h0, if_pos h0]
  rw [if_neg h0, if_neg h0]
  by_cases h2 : b0 / 32 = 6 ∧ 1 < n ∧ b1 / 64 = 2
  · rw [if_pos (by simp [l1]; omega), if_pos h2]
    split <;> rfl
  rw [if_neg (by simp [l1]; omega), if_neg h2]
  by_cases h3 : b0 / 16 = 14 ∧ 1 < n ∧ b1 / 64 = 2 ∧ 2 < n ∧ b2 / 64 = 2
  · rw [if_pos (by simp [l1, l2]; omega), if_pos h3]
    split
    · rename_i h; rw [Bool.and_eq_true, decide_eq_true_eq, valid_iff] at h; rw [if_pos (by omega)]
    · rename_i h; rw [Bool.and_eq_true, decide_eq_true_eq, valid_iff] at h; rw [if_neg (by omega)]
  rw [if_neg (by simp [l1, l2]; omega), if_neg h3]
  by_cases h4 : b0 / 8 = 30 ∧ 1 < n ∧ b1 / 64 = 2 ∧ 2 < n ∧ b2 / 64 = 2 ∧ 3 < n ∧ b3 / 64 = 2
  · rw [if_pos (by simp [l1, l2, l3]; omega), if_pos h4]
    split
    · rename_i h; rw [Bool.and_eq_true, decide_eq_true_eq, valid_iff] at h; rw [if_pos (by omega)]
    · rename_i h; rw [Bool.and_eq_true, decide_eq_true_eq, valid_iff] at h; rw [if_neg (by omega)]
  rw [if_neg (by simp [l1, l2, l3]; omega), if_neg h4]

theorem dec_2 (s : ByteArray) (pos : Nat) : (Utf8.decode s pos).2 = decW (s.get! (pos + 0)).toNat (s.get! (pos + 1)).toNat (s.get! (pos + 2)).toNat (s.get! (pos + 3)).toNat (s.size - pos) :=
  dec_core _ _ _ _ _ (decide (pos + 1 < s.size)) (decide (pos + 2 < s.size)) (decide (pos + 3 < s.size)) (by simp; omega) (by simp; omega) (by simp; omega)

theorem decW_row (b0 b1 b2 b3 n k : Nat) (g1 : b1 < 256) (g2 : b2 < 256) (g3 : b3 < 256) (_hn : 1 ≤ n) (hk : k < 9) (h1 : rowF k ≤ b0) (h2 : b0 ≤ rowL k) :
    decW b0 b1 b2 b3 n = max 1 (if rowW k ≤ n ∧ (1 < rowW k → lowOf k 1 ≤ b1 ∧ b1 ≤ highOf k 1) ∧ (2 < rowW k → lowOf k 2 ≤ b2 ∧ b2 ≤ highOf k 2) ∧ (3 < rowW k → lowOf k 3 ≤ b3 ∧ b3 ≤ highOf k 3) then rowW k else 0) := by
  unfold decW
  have l2 : lowOf k 2 = 128 := rfl
  have l3 : lowOf k 3 = 128 := rfl
  have z2 : highOf k 2 = 191 := rfl
  have z3 : highOf k 3 = 191 := rfl
  have l1 : lowOf k 1 = rowA k := rfl
  have z1 : highOf k 1 = rowZ k := rfl
  rw [l1, l2, l3, z1, z2, z3]
  clear l1 l2 l3 z1 z2 z3
  rcases (show k = 0 ∨ k = 1 ∨ k = 2 ∨ k = 3 ∨ k = 4 ∨ k = 5 ∨ k = 6 ∨ k = 7 ∨ k = 8 by omega) with h | h | h | h | h | h | h | h | h
  all_goals subst h
  · have a1 : rowF 0 = 0 := rfl
    have a2 : rowL 0 = 127 := rfl
    have a5 : rowW 0 = 1 := rfl
    rw [a1] at h1; rw [a2] at h2; rw [a5]
    rw [if_pos (by omega)]; split <;> omega
  · have a1 : rowF 1 = 194 := rfl
    have a2 : rowL 1 = 223 := rfl
    have a3 : rowA 1 = 128 := rfl
    have a4 : rowZ 1 = 191 := rfl
    have a5 : rowW 1 = 2 := rfl
    rw [a1] at h1; rw [a2] at h2; rw [a3, a4, a5]
    repeat' split
    all_goals omega
  · have a1 : rowF 2 = 224 := rfl
    have a2 : rowL 2 = 224 := rfl
    have a3 : rowA 2 = 160 := rfl
    have a4 : rowZ 2 = 191 := rfl
    have a5 : rowW 2 = 3 := rfl
    rw [a1] at h1; rw [a2] at h2; rw [a3, a4, a5]
    repeat' split
    all_goals omega
  · have a1 : rowF 3 = 225 := rfl
    have a2 : rowL 3 = 236 := rfl
    have a3 : rowA 3 = 128 := rfl
    have a4 : rowZ 3 = 191 := rfl
    have a5 : rowW 3 = 3 := rfl
    rw [a1] at h1; rw [a2] at h2; rw [a3, a4, a5]
    repeat' split
    all_goals omega
  · have a1 : rowF 4 = 237 := rfl
    have a2 : rowL 4 = 237 := rfl
    have a3 : rowA 4 = 128 := rfl
    have a4 : rowZ 4 = 159 := rfl
    have a5 : rowW 4 = 3 := rfl
    rw [a1] at h1; rw [a2] at h2; rw [a3, a4, a5]
    repeat' split
    all_goals omega
  · have a1 : rowF 5 = 238 := rfl
    have a2 : rowL 5 = 239 := rfl
    have a3 : rowA 5 = 128 := rfl
    have a4 : rowZ 5 = 191 := rfl
    have a5 : rowW 5 = 3 := rfl
    rw [a1] at h1; rw [a2] at h2; rw [a3, a4, a5]
    repeat' split
    all_goals omega
  · have a1 : rowF 6 = 240 := rfl
    have a2 : rowL 6 = 240 := rfl
    have a3 : rowA 6 = 144 := rfl
    have a4 : rowZ 6 = 191 := rfl
    have a5 : rowW 6 = 4 := rfl
    rw [a1] at h1; rw [a2] at h2; rw [a3, a4, a5]
    repeat' split
    all_goals omega
  · have a1 : rowF 7 = 241 := rfl
    have a2 : rowL 7 = 243 := rfl
    have a3 : rowA 7 = 128 := rfl
    have a4 : rowZ 7 = 191 := rfl
    have a5 : rowW 7 = 4 := rfl
    rw [a1] at h1; rw [a2] at h2; rw [a3, a4, a5]
    repeat' split
    all_goals omega
  · have a1 : rowF 8 = 244 := rfl
    have a2 : rowL 8 = 244 := rfl
    have a3 : rowA 8 = 128 := rfl
    have a4 : rowZ 8 = 143 := rfl
    have a5 : rowW 8 = 4 := rfl
    rw [a1] at h1; rw [a2] at h2; rw [a3, a4, a5]
    repeat' split
    all_goals omega
theorem decW_none (b0 b1 b2 b3 n : Nat) (h : (128 ≤ b0 ∧ b0 ≤ 193) ∨ 245 ≤ b0) (g0 : b0 < 256) (_g1 : b1 < 256) : decW b0 b1 b2 b3 n = 1 := by
  unfold decW
  repeat' split
  all_goals omega
theorem some_row (b0 : Nat) (g0 : b0 < 256) (h : ¬ ((128 ≤ b0 ∧ b0 ≤ 193) ∨ 245 ≤ b0)) : ∃ k, k < 9 ∧ rowF k ≤ b0 ∧ b0 ≤ rowL k := by
  rcases (show b0 ≤ 127 ∨ (194 ≤ b0 ∧ b0 ≤ 223) ∨ b0 = 224 ∨ (225 ≤ b0 ∧ b0 ≤ 236) ∨ b0 = 237 ∨ (238 ≤ b0 ∧ b0 ≤ 239) ∨ b0 = 240 ∨ (241 ≤ b0 ∧ b0 ≤ 243) ∨ b0 = 244 by omega) with h | h | h | h | h | h | h | h | h
  · exact ⟨0, by omega, by show 0 ≤ b0; omega, by show b0 ≤ 127; omega⟩
  · exact ⟨1, by omega, by show 194 ≤ b0; omega, by show b0 ≤ 223; omega⟩
  · exact ⟨2, by omega, by show 224 ≤ b0; omega, by show b0 ≤ 224; omega⟩
  · exact ⟨3, by omega, by show 225 ≤ b0; omega, by show b0 ≤ 236; omega⟩
  · exact ⟨4, by omega, by show 237 ≤ b0; omega, by show b0 ≤ 237; omega⟩
  · exact ⟨5, by omega, by show 238 ≤ b0; omega, by show b0 ≤ 239; omega⟩
  · exact ⟨6, by omega, by show 240 ≤ b0; omega, by show b0 ≤ 240; omega⟩
  · exact ⟨7, by omega, by show 241 ≤ b0; omega, by show b0 ≤ 243; omega⟩
  · exact ⟨8, by omega, by show 244 ≤ b0; omega, by show b0 ≤ 244; omega⟩
theorem get_bd (s : ByteArray) (k : Nat) : (s.get! k).toNat < 256 := UInt8.toNat_lt _
/-- THE STEP OF A RANGE -/
theorem decode_wid (s : ByteArray) (pos : Nat) (h : pos < s.size) : (Utf8.decode s pos).2 = max 1 (wid ((byt s).drop pos)) := by
  have e0 : s.get! (pos + 0) = s[pos] := get!_lt s pos h
  have hd := drop_one s pos h
  rw [dec_2]
  have g0 := get_bd s (pos + 0)
  by_cases hb : (128 ≤ (s.get! (pos + 0)).toNat ∧ (s.get! (pos + 0)).toNat ≤ 193) ∨ 245 ≤ (s.get! (pos + 0)).toNat
  · rw [decW_none _ _ _ _ _ hb g0 (get_bd s _), hd, wid_none _ _ (by rw [← e0]; exact hb)]; rfl
  · obtain ⟨k, hk, h1, h2⟩ := some_row _ g0 hb
    rw [decW_row _ _ _ _ _ k (get_bd s _) (get_bd s _) (get_bd s _) (by omega) hk h1 h2, ← widAt_eq s pos k]
    rw [e0] at h1 h2
    rw [hd, wid_row _ _ k hk h1 h2]
end Go.Proofs.YtimjmecogbkgfaaGreatDoor
