/-
  Plain functions on bytes that say what package ber's readers answer. No dump is imported here.
-/
namespace Go.Proofs.YtdcfiphffbgocaaGreatDoor

/-- a text of these bytes -/
def str (l : List UInt8) : ByteArray := ⟨l.toArray⟩
/-- the bytes of a text -/
def byt (s : ByteArray) : List UInt8 := s.data.toList
theorem byt_str (l : List UInt8) : byt (str l) = l := by simp [byt, str]
theorem str_byt (s : ByteArray) : str (byt s) = s := by simp [byt, str]
theorem byt_length (s : ByteArray) : (byt s).length = s.size := Array.length_toList

/-- an item's header as it is told -/
structure Tl where
  cls : Nat
  cons : Bool
  num : Nat
  fro : Nat
  til : Nat
  deriving DecidableEq
def Tl.zero : Tl := ⟨0, false, 0, 0, 0⟩

/-- the number that octets say, the highest first -/
def big (l : List UInt8) : Nat := l.foldl (fun n b => 256 * n + b.toNat) 0
theorem big_nil : big [] = 0 := rfl
theorem big_snoc (l : List UInt8) (b : UInt8) : big (l ++ [b]) = 256 * big l + b.toNat := by simp [big]
theorem big_append_ge (l m : List UInt8) : big l ≤ big (l ++ m) := by
  induction m generalizing l with
  | nil => simp
  | cons b m ih =>
    have h := ih (l ++ [b])
    rw [big_snoc] at h
    rw [List.append_assoc] at h
    exact Nat.le_trans (by omega) h
theorem big_take_le (l : List UInt8) (k : Nat) : big (l.take k) ≤ big l := by
  have h := big_append_ge (l.take k) (l.drop k)
  rwa [List.take_append_drop] at h
theorem big_take_succ (l : List UInt8) (k : Nat) (h : k < l.length) : big (l.take (k + 1)) = 256 * big (l.take k) + l[k].toNat := by
  rw [List.take_succ_eq_append_getElem h, big_snoc]

/-- the length at the beginning of rest: in how many octets, what it says, or the error -/
def bodyLen : List UInt8 → Nat × Nat × Nat
  | [] => (0, 0, 5)
  | f :: r =>
    if f.toNat = 128 ∨ f.toNat = 255 then (0, 0, 21)
    else if f.toNat < 128 then (if r.length < f.toNat then (0, 0, 5) else (1, f.toNat, 0))
    else if r.length < f.toNat - 128 then (0, 0, 5)
    else if r.length - (f.toNat - 128) < big (r.take (f.toNat - 128)) then (0, 0, 5)
    else (1 + (f.toNat - 128), big (r.take (f.toNat - 128)), 0)

/-- the item that begins with these bytes, at the place a -/
def headB (a : Nat) : List UInt8 → Tl × Nat
  | [] => (.zero, 5)
  | t :: r =>
    if t.toNat % 32 = 31 then (.zero, 20)
    else if (bodyLen r).2.2 ≠ 0 then (.zero, (bodyLen r).2.2)
    else (⟨t.toNat / 64, t.toNat / 32 % 2 == 1, t.toNat % 32, a + 1 + (bodyLen r).1, a + 1 + (bodyLen r).1 + (bodyLen r).2.1⟩, 0)
def cutB (l : List UInt8) (a e : Nat) : List UInt8 := (l.take e).drop a
/-- Head -/
def headL (l : List UInt8) (a e : Int) : Tl × Nat :=
  if 0 ≤ a ∧ a ≤ e ∧ e ≤ l.length then headB a.toNat (cutB l a.toNat e.toNat) else (.zero, 2)

theorem cutB_length (l : List UInt8) (a e : Nat) (h : e ≤ l.length) : (cutB l a e).length = e - a := by simp [cutB]; omega

theorem bodyLen_ok (r : List UInt8) (h : (bodyLen r).2.2 = 0) : 1 ≤ (bodyLen r).1 ∧ (bodyLen r).1 + (bodyLen r).2.1 ≤ r.length := by
  match r with
  | [] => simp [bodyLen] at h
  | f :: r =>
    simp only [bodyLen, List.length_cons] at h ⊢
    by_cases h1 : f.toNat = 128 ∨ f.toNat = 255
    · simp [h1] at h
    · by_cases h2 : f.toNat < 128
      · by_cases h3 : r.length < f.toNat
        · simp [h1, h2, h3] at h
        · simp only [h1, h2, h3, if_true, if_false]; omega
      · by_cases h3 : r.length < f.toNat - 128
        · simp [h1, h2, h3] at h
        · by_cases h4 : r.length - (f.toNat - 128) < big (r.take (f.toNat - 128))
          · simp [h1, h2, h3, h4] at h
          · simp only [h1, h2, h3, h4, if_false]; omega
theorem headB_ok (a : Nat) (l : List UInt8) (h : (headB a l).2 = 0) : a + 2 ≤ (headB a l).1.fro ∧ (headB a l).1.fro ≤ (headB a l).1.til ∧ (headB a l).1.til ≤ a + l.length := by
  match l with
  | [] => simp [headB] at h
  | t :: r =>
    simp only [headB, List.length_cons] at h ⊢
    by_cases h1 : t.toNat % 32 = 31
    · simp [h1] at h
    · by_cases h2 : (bodyLen r).2.2 = 0
      · have h3 := bodyLen_ok r h2
        simp only [h1, h2, if_false, ne_eq, not_true]
        omega
      · simp [h1, h2] at h
theorem headL_ok (l : List UInt8) (a e : Int) (h : (headL l a e).2 = 0) : 0 ≤ a ∧ a ≤ e ∧ e ≤ l.length ∧ a.toNat + 2 ≤ (headL l a e).1.fro ∧ (headL l a e).1.fro ≤ (headL l a e).1.til ∧ (headL l a e).1.til ≤ e.toNat := by
  unfold headL at h ⊢
  split at h
  · rename_i h1
    have h2 := headB_ok _ _ h
    rw [cutB_length _ _ _ (by omega)] at h2
    rw [if_pos h1]
    omega
  · simp at h
end Go.Proofs.YtdcfiphffbgocaaGreatDoor
