/-
  Plain functions on bytes that say what package octet's calls answer. No dump is imported here.
-/

namespace Go.Proofs.Ytbgoddcpgogpdaa

/-- what a small digit to the base 16 counts -/
def sdig (c : Nat) : Option Nat := if 48 ≤ c ∧ c ≤ 57 then some (c - 48) else if 97 ≤ c ∧ c ≤ 102 then some (c - 87) else none
/-- great letters too -/
def adig (c : Nat) : Option Nat := if 65 ≤ c ∧ c ≤ 70 then some (c - 55) else sdig c
def sdigV (c : Nat) : Nat := (sdig c).getD 0
def sdigB (c : Nat) : Bool := (sdig c).isSome
def adigV (c : Nat) : Nat := (adig c).getD 0
def adigB (c : Nat) : Bool := (adig c).isSome
/-- the bytes that never stand for themselves -/
def resv (c : Nat) : Bool := c == 0 || c == 40 || c == 41 || c == 42 || c == 92

/-- the digit that counts k -/
def hexd (k : Nat) : UInt8 := if k < 10 then UInt8.ofNat (48 + k) else UInt8.ofNat (87 + k)

theorem sdig_num {c : Nat} (h1 : 48 ≤ c) (h2 : c ≤ 57) : sdig c = some (c - 48) := by simp [sdig, h1, h2]
theorem sdig_let {c : Nat} (h1 : 97 ≤ c) (h2 : c ≤ 102) : sdig c = some (c - 87) := by
  unfold sdig; rw [if_neg (by omega), if_pos ⟨h1, h2⟩]
theorem sdig_no {c : Nat} (h1 : ¬ (48 ≤ c ∧ c ≤ 57)) (h2 : ¬ (97 ≤ c ∧ c ≤ 102)) : sdig c = none := by
  unfold sdig; rw [if_neg h1, if_neg h2]

/-- a text of these bytes -/
def str (l : List UInt8) : ByteArray := ⟨l.toArray⟩
/-- the bytes of a text -/
def byt (s : ByteArray) : List UInt8 := s.data.toList
theorem byt_str (l : List UInt8) : byt (str l) = l := by simp [byt, str]
theorem str_byt (s : ByteArray) : str (byt s) = s := by simp [byt, str]
theorem byt_length (s : ByteArray) : (byt s).length = s.size := Array.length_toList
theorem take_snoc (s : ByteArray) (k : Nat) (h : k < s.size) : (byt s).take (k + 1) = (byt s).take k ++ [s[k]] := by
  unfold byt; rw [List.take_succ_eq_append_getElem (by simpa using h)]; rfl
theorem byt_get (s : ByteArray) (k : Nat) (h : k < s.size) : (byt s)[k]? = some s[k] := by
  unfold byt; rw [List.getElem?_eq_getElem (by simpa using h)]; rfl

def hex1 (b : UInt8) : List UInt8 := [hexd (b.toNat / 16), hexd (b.toNat % 16)]
def hexL (l : List UInt8) : List UInt8 := l.flatMap hex1
theorem hexL_snoc (l : List UInt8) (b : UInt8) : hexL (l ++ [b]) = hexL l ++ [hexd (b.toNat / 16), hexd (b.toNat % 16)] := by simp [hexL, hex1]
theorem hexL_length (l : List UInt8) : (hexL l).length = 2 * l.length := by
  induction l with
  | nil => rfl
  | cons b l ih =>
    have e : hexL (b :: l) = hex1 b ++ hexL l := by simp [hexL]
    rw [e, List.length_append, ih, List.length_cons]
    have : (hex1 b).length = 2 := rfl
    omega

/-- the byte of two digits -/
def byte2 (x y : Nat) : UInt8 := UInt8.ofNat (16 * x + y)
theorem byte2_toNat (x y : Nat) (hx : x < 16) (hy : y < 16) : (byte2 x y).toNat = 16 * x + y := by simp [byte2]; omega
/-- Unhex: the text, if there is one -/
def unhexL : List UInt8 → Option (List UInt8)
  | [] => some []
  | [_] => none
  | a :: b :: l => match sdig a.toNat, sdig b.toNat, unhexL l with
    | some x, some y, some r => some (byte2 x y :: r)
    | _, _, _ => none
def unhexV (l : List UInt8) : List UInt8 := (unhexL l).getD []
def unhexE (l : List UInt8) : Int := if (unhexL l).isSome then 0 else 11

theorem drop_one (s : ByteArray) (k : Nat) (h : k < s.size) : (byt s).drop k = s[k] :: (byt s).drop (k + 1) :=
  List.drop_eq_getElem_cons (by rw [byt_length]; exact h)
theorem drop_two (s : ByteArray) (k : Nat) (h : k + 1 < s.size) : (byt s).drop k = s[k] :: s[k + 1] :: (byt s).drop (k + 2) := by
  rw [drop_one s k (by omega), drop_one s (k + 1) h]
theorem drop_end (s : ByteArray) (k : Nat) (h : ¬ k < s.size) : (byt s).drop k = [] := List.drop_eq_nil_of_le (by rw [byt_length]; omega)

theorem unhexL_two (a b : UInt8) (l : List UInt8) (x y : Nat) (hx : sdig a.toNat = some x) (hy : sdig b.toNat = some y) : unhexL (a :: b :: l) = (unhexL l).map (byte2 x y :: ·) := by
  rw [unhexL, hx, hy]; cases unhexL l <;> rfl
theorem unhexL_bad (a b : UInt8) (l : List UInt8) (h : (sdigB a.toNat && sdigB b.toNat) = false) : unhexL (a :: b :: l) = none := by
  rw [unhexL]
  unfold sdigB at h
  cases ha : sdig a.toNat <;> cases hb : sdig b.toNat <;> simp_all
theorem unhexL_odd : (l : List UInt8) → l.length % 2 ≠ 0 → unhexL l = none
  | [], h => absurd rfl h
  | [_], _ => rfl
  | a :: b :: l, h => by
    have := unhexL_odd l (by simp only [List.length_cons] at h; omega)
    rw [unhexL, this]; split <;> simp_all
theorem sdig_lt (c x : Nat) (h : sdig c = some x) : x < 16 := by
  unfold sdig at h; split at h
  · cases h; omega
  · split at h
    · cases h; omega
    · cases h
theorem sdig_of (c : Nat) (h : sdigB c = true) : sdig c = some (sdigV c) ∧ sdigV c < 16 := by
  unfold sdigB at h
  cases hc : sdig c with
  | none => rw [hc] at h; cases h
  | some x => exact ⟨by simp [sdigV, hc], by simpa [sdigV, hc] using sdig_lt c x hc⟩
end Go.Proofs.Ytbgoddcpgogpdaa

/-
  Plain functions on bytes: how many bytes the character at a text's beginning has.
-/
namespace Go.Proofs.Ytbgoddcpgogpdaa
/-! the table of characters -/
def rowF (k : Nat) : Nat := [0, 194, 224, 225, 237, 238, 240, 241, 244].getD k 0
def rowL (k : Nat) : Nat := [127, 223, 224, 236, 237, 239, 240, 243, 244].getD k 0
def rowA (k : Nat) : Nat := [0, 128, 160, 128, 128, 128, 144, 128, 128].getD k 0
def rowZ (k : Nat) : Nat := [0, 191, 191, 191, 159, 191, 191, 191, 143].getD k 0
def rowW (k : Nat) : Nat := [1, 2, 3, 3, 3, 3, 4, 4, 4].getD k 0
theorem row_bd (k : Nat) : rowF k ≤ 244 ∧ rowL k ≤ 244 ∧ rowA k ≤ 160 ∧ rowZ k ≤ 191 ∧ rowW k ≤ 4 := by
  rcases (show k = 0 ∨ k = 1 ∨ k = 2 ∨ k = 3 ∨ k = 4 ∨ k = 5 ∨ k = 6 ∨ k = 7 ∨ k = 8 ∨ 9 ≤ k by omega) with h | h | h | h | h | h | h | h | h | h
  all_goals first
    | (subst h; decide)
    | (have e : ∀ (l : List Nat), l.length = 9 → l.getD k 0 = 0 := fun l hl => by simp [List.getD, List.getElem?_eq_none (show l.length ≤ k by omega)]
       simp only [rowF, rowL, rowA, rowZ, rowW]
       rw [e _ rfl, e _ rfl, e _ rfl, e _ rfl, e _ rfl]; omega)
theorem rowW_pos (k : Nat) (h : k < 9) : 1 ≤ rowW k := by
  rcases (show k = 0 ∨ k = 1 ∨ k = 2 ∨ k = 3 ∨ k = 4 ∨ k = 5 ∨ k = 6 ∨ k = 7 ∨ k = 8 by omega) with h | h | h | h | h | h | h | h | h <;> subst h <;> decide
def lowOf (k j : Nat) : Nat := if j = 1 then rowA k else 128
def highOf (k j : Nat) : Nat := if j = 1 then rowZ k else 191
/-- does the byte at j go on a character of row k? -/
def tl (l : List UInt8) (k j : Nat) : Bool := match l[j]? with
  | some b => decide (lowOf k j ≤ b.toNat) && decide (b.toNat ≤ highOf k j)
  | none => false
def widAt (l : List UInt8) (k : Nat) : Nat := if decide (rowW k ≤ l.length) && ([1, 2, 3].all fun j => !decide (j < rowW k) || tl l k j) then rowW k else 0
def inRow (k a : Nat) : Bool := decide (rowF k ≤ a) && decide (a ≤ rowL k)
def widGo (l : List UInt8) (a : Nat) : Nat → Nat → Nat
  | 0, _ => 0
  | n + 1, k => if inRow k a then widAt l k else widGo l a n (k + 1)
/-- how many bytes the character at the beginning has; 0: the first byte stands alone -/
def wid (l : List UInt8) : Nat := match l with
  | [] => 0
  | a :: _ => widGo l a.toNat 9 0
theorem widAt_short (l : List UInt8) (k : Nat) (h : l.length < rowW k) : widAt l k = 0 := by
  unfold widAt; rw [decide_eq_false (by omega)]; rfl
theorem widAt_bad (l : List UInt8) (k j : Nat) (h1 : 1 ≤ j) (h2 : j < rowW k) (h : tl l k j = false) : widAt l k = 0 := by
  have hb := row_bd k
  have hj : j = 1 ∨ j = 2 ∨ j = 3 := by omega
  unfold widAt
  have : ([1, 2, 3].all fun j => !decide (j < rowW k) || tl l k j) = false := by
    rw [List.all_eq_false]
    exact ⟨j, by rcases hj with h | h | h <;> simp [h], by simp [h, h2]⟩
  rw [this]; simp
theorem widAt_good (l : List UInt8) (k : Nat) (hl : rowW k ≤ l.length) (h : ∀ j, 1 ≤ j → j < rowW k → tl l k j = true) : widAt l k = rowW k := by
  unfold widAt
  have : ([1, 2, 3].all fun j => !decide (j < rowW k) || tl l k j) = true := by
    rw [List.all_eq_true]
    intro j hj
    by_cases hw : j < rowW k
    · rw [h j (by simp at hj; omega) hw]; simp
    · simp [hw]
  rw [this, decide_eq_true hl]; simp
theorem wid_byt (s : ByteArray) (h : 0 < s.size) : wid (byt s) = widGo (byt s) s[0].toNat 9 0 := by
  have e := drop_one s 0 h
  simp only [List.drop_zero] at e
  rw [e]; rfl
theorem tl_byt (s : ByteArray) (k j : Nat) (h : j < s.size) : tl (byt s) k j = (decide (lowOf k j ≤ s[j].toNat) && decide (s[j].toNat ≤ highOf k j)) := by
  unfold tl; rw [byt_get s j h]
end Go.Proofs.Ytbgoddcpgogpdaa
