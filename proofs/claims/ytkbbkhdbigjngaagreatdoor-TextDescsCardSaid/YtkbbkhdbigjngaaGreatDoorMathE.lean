/-
  Plain functions on bytes: Valid, Escape, Unescape, by fuel.
-/
import Derived.Test.YtkbbkhdbigjngaaGreatDoorMathD
namespace Go.Proofs.YtkbbkhdbigjngaaGreatDoor

def stp (l : List UInt8) : Nat := max 1 (wid l)
def validGo : Nat → List UInt8 → Bool
  | 0, _ => true
  | n + 1, l => if l.isEmpty then true else if wid l = 0 then false else validGo n (l.drop (stp l))
def validL (l : List UInt8) : Bool := validGo l.length l
/-- what stands for the character or the byte at the beginning -/
def escC : List UInt8 → List UInt8
  | [] => []
  | a :: t => if wid (a :: t) = 0 ∨ resv a.toNat = true then 92 :: hex1 a else (a :: t).take (wid (a :: t))
def escGo : Nat → List UInt8 → List UInt8
  | 0, _ => []
  | n + 1, l => if l.isEmpty then [] else escC l ++ escGo n (l.drop (stp l))
def escL (l : List UInt8) : List UInt8 := escGo l.length l
def unescGo : Nat → List UInt8 → Except Nat (List UInt8)
  | 0, _ => .ok []
  | _ + 1, [] => .ok []
  | n + 1, a :: t =>
    if a.toNat = 92 then match t with
      | x :: y :: r => if adigB x.toNat && adigB y.toNat then (unescGo n r).map (byte2 (adigV x.toNat) (adigV y.toNat) :: ·) else .error 11
      | _ => .error 11
    else if wid (a :: t) = 0 then .error 10
    else if resv a.toNat then .error 12
    else (unescGo n ((a :: t).drop (wid (a :: t)))).map ((a :: t).take (wid (a :: t)) ++ ·)
def unescL (l : List UInt8) : Except Nat (List UInt8) := unescGo l.length l
def exV : Except Nat (List UInt8) → List UInt8 | .ok l => l | .error _ => []
def exE : Except Nat (List UInt8) → Nat | .ok _ => 0 | .error e => e

theorem byt_extract (s : ByteArray) (a b : Nat) : byt (s.extract a b) = ((byt s).drop a).take (b - a) := by
  unfold byt
  rw [ByteArray.data_extract, Array.toList_extract, List.extract_eq_take_drop]
theorem byt_from (s : ByteArray) (a : Nat) : byt (s.extract a s.size) = (byt s).drop a := by
  rw [byt_extract, List.take_of_length_le (by rw [List.length_drop, byt_length]; omega)]
theorem size_from (s : ByteArray) (a : Nat) : (s.extract a s.size).size = s.size - a := by
  rw [← byt_length, byt_from, List.length_drop, byt_length]

theorem widAt_le (l : List UInt8) (k : Nat) : widAt l k ≤ l.length := by
  unfold widAt; split
  · rename_i h; simp only [Bool.and_eq_true, decide_eq_true_eq] at h; exact h.1
  · exact Nat.zero_le _
theorem widGo_le (l : List UInt8) (a : Nat) : ∀ n k, widGo l a n k ≤ l.length := by
  intro n
  induction n with
  | zero => intro k; exact Nat.zero_le _
  | succ n ih => intro k; rw [widGo]; split; exact widAt_le l k; exact ih (k + 1)
theorem wid_le (l : List UInt8) : wid l ≤ l.length := by
  cases l with
  | nil => exact Nat.le_refl _
  | cons a t => exact widGo_le _ _ 9 0
theorem stp_le (l : List UInt8) (h : l ≠ []) : stp l ≤ l.length := by
  have := wid_le l
  have : 1 ≤ l.length := List.length_pos_iff.2 h
  unfold stp; omega
theorem stp_drop (s : ByteArray) (pos : Nat) (h : pos < s.size) : stp ((byt s).drop pos) ≤ s.size - pos := by
  have := stp_le ((byt s).drop pos) (by rw [drop_one s pos h]; simp)
  rw [List.length_drop, byt_length] at this
  exact this
theorem one_stp (l : List UInt8) : 1 ≤ stp l := Nat.le_max_left _ _
end Go.Proofs.YtkbbkhdbigjngaaGreatDoor
