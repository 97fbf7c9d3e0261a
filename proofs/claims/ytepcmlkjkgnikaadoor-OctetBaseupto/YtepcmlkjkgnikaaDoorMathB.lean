/-
  Plain functions on bytes: base 64.
-/
import Derived.Test.YtepcmlkjkgnikaaDoorMath
namespace Go.Proofs.YtepcmlkjkgnikaaDoor

def sgnN (i : Nat) : Nat := if i < 26 then 65 + i else if i < 52 then 71 + i else if i < 62 then i - 4 else if i = 62 then 43 else 47
def sgn (i : Nat) : UInt8 := UInt8.ofNat (sgnN i)
def val (c : Nat) : Option Nat := if 65 ≤ c ∧ c ≤ 90 then some (c - 65) else if 97 ≤ c ∧ c ≤ 122 then some (c - 71) else if 48 ≤ c ∧ c ≤ 57 then some (c + 4) else if c = 43 then some 62 else if c = 47 then some 63 else none
def valV (c : Nat) : Nat := (val c).getD 0
def valB (c : Nat) : Bool := (val c).isSome
theorem val_lt (c x : Nat) (h : val c = some x) : x < 64 := by
  unfold val at h
  repeat' split at h
  all_goals first | (cases h; omega) | cases h
theorem valV_lt (c : Nat) : valV c < 64 := by
  unfold valV; cases h : val c with
  | none => exact (by decide)
  | some x => exact val_lt c x h
/-- the signs of 24 bits -/
def four (n : Nat) : List UInt8 := [sgn (n / 262144), sgn (n / 4096 % 64), sgn (n / 64 % 64), sgn (n % 64)]
def b64L : List UInt8 → List UInt8
  | [] => []
  | [a] => [sgn (a.toNat / 4), sgn (a.toNat % 4 * 16), 61, 61]
  | [a, b] => [sgn (a.toNat / 4), sgn (a.toNat % 4 * 16 + b.toNat / 16), sgn (b.toNat % 16 * 4), 61]
  | a :: b :: c :: l => four (a.toNat * 65536 + b.toNat * 256 + c.toNat) ++ b64L l
/-- the bits of two to four signs, the first one highest -/
def bitN : List UInt8 → Nat → Nat
  | [], _ => 0
  | a :: l, m => valV a.toNat * m + bitN l (m / 64)
def bitV (l : List UInt8) : Nat := if l.all (fun a => valB a.toNat) then bitN l 262144 else 0
def bitB (l : List UInt8) : Bool := l.all (fun a => valB a.toNat) && decide (bitN l 262144 % 2 ^ (32 - 8 * l.length) = 0)
def by3 (n : Nat) : List UInt8 := [UInt8.ofNat (n / 65536), UInt8.ofNat (n / 256), UInt8.ofNat n]
/-- how many of the last four bytes are signs -/
def atEnd (l : List UInt8) : Nat := if l.drop 2 = [61, 61] then 2 else if l.drop 3 = [61] then 3 else 4
/-- one group of four: how many signs it has, and whether it is right -/
def grpN (l : List UInt8) (last : Bool) : Nat := if last then atEnd l else 4
def unb64L : Nat → List UInt8 → Option (List UInt8)
  | 0, _ => some []
  | n + 1, l => if l.isEmpty then some [] else
      if bitB (l.take (grpN (l.take 4) (l.length == 4))) then
        (unb64L n (l.drop 4)).map ((by3 (bitV (l.take (grpN (l.take 4) (l.length == 4))))).take (grpN (l.take 4) (l.length == 4) - 1) ++ ·)
      else none
def unb64 (l : List UInt8) : Option (List UInt8) := if l.length % 4 = 0 then unb64L l.length l else none
def unbV (l : List UInt8) : List UInt8 := (unb64 l).getD []
def unbE (l : List UInt8) : Int := if (unb64 l).isSome then 0 else 13
end Go.Proofs.YtepcmlkjkgnikaaDoor
