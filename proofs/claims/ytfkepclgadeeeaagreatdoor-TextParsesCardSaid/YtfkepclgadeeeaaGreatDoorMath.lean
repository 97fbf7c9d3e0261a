/-
  Plain functions on bytes that say what package octet's calls answer. No dump is imported here.
-/
namespace Go.Proofs.YtfkepclgadeeeaaGreatDoor

/-- what a small digit to the base 16 counts -/
def sdig (c : Nat) : Option Nat := if 48 ≤ c ∧ c ≤ 57 then some (c - 48) else if 97 ≤ c ∧ c ≤ 102 then some (c - 87) else none
/-- great letters too -/
def adig (c : Nat) : Option Nat := if 65 ≤ c ∧ c ≤ 70 then some (c - 55) else sdig c
def sdigV (c : Nat) : Nat := (sdig c).getD 0
def sdigB (c : Nat) : Bool := (sdig c).isSome
def adigV (c : Nat) : Nat := (adig c).getD 0
def adigB (c : Nat) : Bool := (adig c).isSome
/-- the bytes that never stand for themselves -/
def resv (c : Nat) : Bool := c == 0 || c == 40 || c == 41 || c == 42 || c == 92

/-- the digit that counts k -/
def hexd (k : Nat) : UInt8 := if k < 10 then UInt8.ofNat (48 + k) else UInt8.ofNat (87 + k)

theorem sdig_num {c : Nat} (h1 : 48 ≤ c) (h2 : c ≤ 57) : sdig c = some (c - 48) := by simp [sdig, h1, h2]
theorem sdig_let {c : Nat} (h1 : 97 ≤ c) (h2 : c ≤ 102) : sdig c = some (c - 87) := by
  unfold sdig; rw [if_neg (by omega), if_pos ⟨h1, h2⟩]
theorem sdig_no {c : Nat} (h1 : ¬ (48 ≤ c ∧ c ≤ 57)) (h2 : ¬ (97 ≤ c ∧ c ≤ 102)) : sdig c = none := by
  unfold sdig; rw [if_neg h1, if_neg h2]

/-- a text of these bytes -/
def str (l : List UInt8) : ByteArray := ⟨l.toArray⟩
/-- the bytes of a text -/
def byt (s : ByteArray) : List UInt8 := s.data.toList
theorem byt_str (l : List UInt8) : byt (str l) = l := by simp [byt, str]
theorem str_byt (s : ByteArray) : str (byt s) = s := by simp [byt, str]
theorem byt_length (s : ByteArray) : (byt s).length = s.size := Array.length_toList
theorem take_snoc (s : ByteArray) (k : Nat) (h : k < s.size) : (byt s).take (k + 1) = (byt s).take k ++ [s[k]] := by
  unfold byt; rw [List.take_succ_eq_append_getElem (by simpa using h)]; rfl
theorem byt_get (s : ByteArray) (k : Nat) (h : k < s.size) : (byt s)[k]? = some s[k] := by
  unfold byt; rw [List.getElem?_eq_getElem (by simpa using h)]; rfl

def hex1 (b : UInt8) : List UInt8 := [hexd (b.toNat / 16), hexd (b.toNat % 16)]
def hexL (l : List UInt8) : List UInt8 := l.flatMap hex1
theorem hexL_snoc (l : List UInt8) (b : UInt8) : hexL (l ++ [b]) = hexL l ++ [hexd (b.toNat / 16), hexd (b.toNat % 16)] := by simp [hexL, hex1]
theorem hexL_length (l : List UInt8) : (hexL l).length = 2 * l.length := by
  induction l with
  | nil => rfl
  | cons b l ih =>
    have e : hexL (b :: l) = hex1 b ++ hexL l := by simp [hexL]
    rw [e, List.length_append, ih, List.length_cons]
    have : (hex1 b).length = 2 := rfl
    omega

/-- the byte of two digits -/
def byte2 (x y : Nat) : UInt8 := UInt8.ofNat (16 * x + y)
theorem byte2_toNat (x y : Nat) (hx : x < 16) (hy : y < 16) : (byte2 x y).toNat = 16 * x + y := by simp [byte2]; omega
/-- Unhex: the text, if there is one -/
def unhexL : List UInt8 → Option (List UInt8)
  | [] => some []
  | [_] => none
  | a :: b :: l => match sdig a.toNat, sdig b.toNat, unhexL l with
    | some x, some y, some r => some (byte2 x y :: r)
    | _, _, _ => none
def unhexV (l : List UInt8) : List UInt8 := (unhexL l).getD []
def unhexE (l : List UInt8) : Int := if (unhexL l).isSome then 0 else 11

theorem drop_one (s : ByteArray) (k : Nat) (h : k < s.size) : (byt s).drop k = s[k] :: (byt s).drop (k + 1) :=
  List.drop_eq_getElem_cons (by rw [byt_length]; exact h)
theorem drop_two (s : ByteArray) (k : Nat) (h : k + 1 < s.size) : (byt s).drop k = s[k] :: s[k + 1] :: (byt s).drop (k + 2) := by
  rw [drop_one s k (by omega), drop_one s (k + 1) h]
theorem drop_end (s : ByteArray) (k : Nat) (h : ¬ k < s.size) : (byt s).drop k = [] := List.drop_eq_nil_of_le (by rw [byt_length]; omega)

theorem unhexL_two (a b : UInt8) (l : List UInt8) (x y : Nat) (hx : sdig a.toNat = some x) (hy : sdig b.toNat = some y) : unhexL (a :: b :: l) = (unhexL l).map (byte2 x y :: ·) := by
  rw [unhexL, hx, hy]; cases unhexL l <;> rfl
theorem unhexL_bad (a b : UInt8) (l : List UInt8) (h : (sdigB a.toNat && sdigB b.toNat) = false) : unhexL (a :: b :: l) = none := by
  rw [unhexL]
  unfold sdigB at h
  cases ha : sdig a.toNat <;> cases hb : sdig b.toNat <;> simp_all
theorem unhexL_odd : (l : List UInt8) → l.length % 2 ≠ 0 → unhexL l = none
  | [], h => absurd rfl h
  | [_], _ => rfl
  | a :: b :: l, h => by
    have := unhexL_odd l (by simp only [List.length_cons] at h; omega)
    rw [unhexL, this]; split <;> simp_all
theorem sdig_lt (c x : Nat) (h : sdig c = some x) : x < 16 := by
  unfold sdig at h; split at h
  · cases h; omega
  · split at h
    · cases h; omega
    · cases h
theorem sdig_of (c : Nat) (h : sdigB c = true) : sdig c = some (sdigV c) ∧ sdigV c < 16 := by
  unfold sdigB at h
  cases hc : sdig c with
  | none => rw [hc] at h; cases h
  | some x => exact ⟨by simp [sdigV, hc], by simpa [sdigV, hc] using sdig_lt c x hc⟩
end Go.Proofs.YtfkepclgadeeeaaGreatDoor
