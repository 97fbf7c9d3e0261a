/-
  Descriptions of filters' texts, in plain words: how many bytes are read, and whether they may stand.
-/
import Derived.Test.YtfkepclgadeeeaaGreatDoorMath
namespace Go.Proofs.YtfkepclgadeeeaaGreatDoor

def tLet (b : UInt8) : Bool := (decide (97 ≤ b.toNat) && decide (b.toNat ≤ 122)) || (decide (65 ≤ b.toNat) && decide (b.toNat ≤ 90))
def tDig (b : UInt8) : Bool := decide (48 ≤ b.toNat) && decide (b.toNat ≤ 57)
def tInn (b : UInt8) : Bool := tLet b || tDig b || b == 45
/-- how many bytes of a kind stand at the beginning -/
def spanN (q : UInt8 → Bool) : List UInt8 → Nat
  | [] => 0
  | b :: l => if q b then spanN q l + 1 else 0
/-- does that byte stand at the beginning? -/
def hdIs (c : UInt8) : List UInt8 → Bool
  | [] => false
  | b :: _ => b == c
def numN (l : List UInt8) : Nat := if hdIs 48 l then 1 else spanN tDig l
/-- behind a number: dots and numbers -/
def numsGo : Nat → List UInt8 → Nat × Bool
  | 0, _ => (0, true)
  | f + 1, l => if hdIs 46 l then
      if numN (l.drop 1) = 0 then (1, false) else (1 + numN (l.drop 1) + (numsGo f (l.drop (1 + numN (l.drop 1)))).1, (numsGo f (l.drop (1 + numN (l.drop 1)))).2)
    else (0, true)
def numbersP (l : List UInt8) : Nat × Bool :=
  if numN l = 0 then (0, false)
  else if hdIs 46 (l.drop (numN l)) then
    if numN (l.drop (numN l + 1)) = 0 then (numN l + 1, false)
    else (numN l + 1 + numN (l.drop (numN l + 1)) + (numsGo l.length (l.drop (numN l + 1 + numN (l.drop (numN l + 1))))).1, (numsGo l.length (l.drop (numN l + 1 + numN (l.drop (numN l + 1))))).2)
  else (numN l, false)
def hdLet : List UInt8 → Bool
  | [] => false
  | b :: _ => tLet b
def wordP (l : List UInt8) : Nat × Bool := if hdLet l then (spanN tInn l, true) else numbersP l
/-- behind a word: options -/
def optsGo : Nat → List UInt8 → Nat × Bool
  | 0, _ => (0, true)
  | f + 1, l => if hdIs 59 l then
      if spanN tInn (l.drop 1) = 0 then (1, false) else (1 + spanN tInn (l.drop 1) + (optsGo f (l.drop (1 + spanN tInn (l.drop 1)))).1, (optsGo f (l.drop (1 + spanN tInn (l.drop 1)))).2)
    else (0, true)
def descP (l : List UInt8) : Nat × Bool :=
  if (wordP l).2 then ((wordP l).1 + (optsGo l.length (l.drop (wordP l).1)).1, (optsGo l.length (l.drop (wordP l).1)).2) else wordP l

theorem spanN_le (q : UInt8 → Bool) : ∀ l, spanN q l ≤ l.length
  | [] => Nat.le_refl _
  | b :: l => by
    have := spanN_le q l
    rw [spanN]; split <;> simp only [List.length_cons] <;> omega
theorem hdIs_pos {c : UInt8} {l : List UInt8} (h : hdIs c l = true) : 0 < l.length := by
  cases l with
  | nil => cases h
  | cons b l => simp
theorem numN_le (l : List UInt8) : numN l ≤ l.length := by
  unfold numN; split
  · rename_i h; exact hdIs_pos h
  · exact spanN_le _ _
theorem numsGo_le : ∀ f l, (numsGo f l).1 ≤ l.length
  | 0, _ => Nat.zero_le _
  | f + 1, l => by
    rw [numsGo]
    split
    · rename_i h
      have := hdIs_pos h
      split
      · exact this
      · have h1 := numN_le (l.drop 1)
        have h2 := numsGo_le f (l.drop (1 + numN (l.drop 1)))
        rw [List.length_drop] at h1 h2
        simp only
        omega
    · exact Nat.zero_le _
theorem numbersP_le (l : List UInt8) : (numbersP l).1 ≤ l.length := by
  have h0 := numN_le l
  unfold numbersP
  split
  · exact Nat.zero_le _
  · split
    · rename_i h
      have hp := hdIs_pos h
      have h1 := numN_le (l.drop (numN l + 1))
      rw [List.length_drop] at hp h1
      split
      · simp only; omega
      · have h2 := numsGo_le l.length (l.drop (numN l + 1 + numN (l.drop (numN l + 1))))
        rw [List.length_drop] at h2
        simp only
        omega
    · exact h0
theorem wordP_le (l : List UInt8) : (wordP l).1 ≤ l.length := by
  unfold wordP; split
  · exact spanN_le _ _
  · exact numbersP_le _
theorem optsGo_le : ∀ f l, (optsGo f l).1 ≤ l.length
  | 0, _ => Nat.zero_le _
  | f + 1, l => by
    rw [optsGo]
    split
    · rename_i h
      have := hdIs_pos h
      split
      · exact this
      · have h1 := spanN_le tInn (l.drop 1)
        have h2 := optsGo_le f (l.drop (1 + spanN tInn (l.drop 1)))
        rw [List.length_drop] at h1 h2
        simp only
        omega
    · exact Nat.zero_le _
theorem descP_le (l : List UInt8) : (descP l).1 ≤ l.length := by
  have h0 := wordP_le l
  unfold descP
  split
  · have h2 := optsGo_le l.length (l.drop (wordP l).1)
    rw [List.length_drop] at h2
    simp only
    omega
  · exact h0

theorem drop_cons_of (s : ByteArray) (p : Nat) (h : p < s.size) : (byt s).drop p = s[p] :: (byt s).drop (p + 1) := drop_one s p h
theorem hdIs_in (s : ByteArray) (p : Nat) (h : p < s.size) (c : UInt8) : hdIs c ((byt s).drop p) = (s[p] == c) := by rw [drop_one s p h]; rfl
theorem hdIs_out (s : ByteArray) (p : Nat) (h : ¬ p < s.size) (c : UInt8) : hdIs c ((byt s).drop p) = false := by rw [drop_end s p h]; rfl
theorem hdLet_in (s : ByteArray) (p : Nat) (h : p < s.size) : hdLet ((byt s).drop p) = tLet s[p] := by rw [drop_one s p h]; rfl
theorem hdLet_out (s : ByteArray) (p : Nat) (h : ¬ p < s.size) : hdLet ((byt s).drop p) = false := by rw [drop_end s p h]; rfl
theorem spanN_in (q : UInt8 → Bool) (s : ByteArray) (p : Nat) (h : p < s.size) : spanN q ((byt s).drop p) = if q s[p] then spanN q ((byt s).drop (p + 1)) + 1 else 0 := by rw [drop_one s p h]; rfl
theorem spanN_out (q : UInt8 → Bool) (s : ByteArray) (p : Nat) (h : ¬ p < s.size) : spanN q ((byt s).drop p) = 0 := by rw [drop_end s p h]; rfl
theorem beq_int (a b : UInt8) : ((a.toNat : Int) == (b.toNat : Int)) = (a == b) := by
  by_cases h : a = b
  · subst h; simp
  · have : ¬ a.toNat = b.toNat := fun e => h (UInt8.toNat_inj.1 e)
    rw [beq_eq_false_iff_ne.2 (by omega), beq_eq_false_iff_ne.2 h]
end Go.Proofs.YtfkepclgadeeeaaGreatDoor
