/-
  Plain functions on bytes: Valid, Escape, Unescape, by fuel.
-/
import Derived.Test.YtbgoddcpgogpdaaMathD
namespace Go.Proofs.Ytbgoddcpgogpdaa

def stp (l : List UInt8) : Nat := max 1 (wid l)
def validGo : Nat → List UInt8 → Bool
  | 0, _ => true
  | n + 1, l => if l.isEmpty then true else if wid l = 0 then false else validGo n (l.drop (stp l))
def validL (l : List UInt8) : Bool := validGo l.length l
/-- what stands for the character or the byte at the beginning -/
def escC : List UInt8 → List UInt8
  | [] => []
  | a :: t => if wid (a :: t) = 0 ∨ resv a.toNat = true then 92 :: hex1 a else (a :: t).take (wid (a :: t))
def escGo : Nat → List UInt8 → List UInt8
  | 0, _ => []
  | n + 1, l => if l.isEmpty then [] else escC l ++ escGo n (l.drop (stp l))
def escL (l : List UInt8) : List UInt8 := escGo l.length l
def unescGo : Nat → List UInt8 → Except Nat (List UInt8)
  | 0, _ => .ok []
  | _ + 1, [] => .ok []
  | n + 1, a :: t =>
    if a.toNat = 92 then match t with
      | x :: y :: r => if adigB x.toNat && adigB y.toNat then (unescGo n r).map (byte2 (adigV x.toNat) (adigV y.toNat) :: ·) else .error 11
      | _ => .error 11
    else if wid (a :: t) = 0 then .error 10
    else if resv a.toNat then .error 12
    else (unescGo n ((a :: t).drop (wid (a :: t)))).map ((a :: t).take (wid (a :: t)) ++ ·)
def unescL (l : List UInt8) : Except Nat (List UInt8) := unescGo l.length l
def exV : Except Nat (List UInt8) → List UInt8 | .ok l => l | .error _ => []
def exE : Except Nat (List UInt8) → Nat | .ok _ => 0 | .error e => e

theorem byt_extract (s : ByteArray) (a b : Nat) : byt (s.extract a b) = ((byt s).drop a).take (b - a) := by
  unfold byt
  rw [ByteArray.data_extract, Array.toList_extract, List.extract_eq_take_drop]
theorem byt_from (s : ByteArray) (a : Nat) : byt (s.extract a s.size) = (byt s).drop a := by
  rw [byt_extract, List.take_of_length_le (by rw [List.length_drop, byt_length]; omega)]
theorem size_from (s : ByteArray) (a : Nat) : (s.extract a s.size).size = s.size - a := by
  rw [← byt_length, byt_from, List.length_drop, byt_length]

theorem widAt_le (l : List UInt8) (k : Nat) : widAt l k ≤ l.length := by
  unfold widAt; split
  · rename_i h; simp only [Bool.and_eq_true, decide_eq_true_eq] at h; exact h.1
  · exact Nat.zero_le _
theorem widGo_le (l : List UInt8) (a : Nat) : ∀ n k, widGo l a n k ≤ l.length := by
  intro n
  induction n with
  | zero => intro k; exact Nat.zero_le _
  | succ n ih => intro k; rw [widGo]; split; exact widAt_le l k; exact ih (k + 1)
theorem wid_le (l : List UInt8) : wid l ≤ l.length := by
  cases l with
  | nil => exact Nat.le_refl _
  | cons a t => exact widGo_le _ _ 9 0
theorem stp_le (l : List UInt8) (h : l ≠ []) : stp l ≤ l.length := by
  have := wid_le l
  have : 1 ≤ l.length := List.length_pos_iff.2 h
  unfold stp; omega
theorem stp_drop (s : ByteArray) (pos : Nat) (h : pos < s.size) : stp ((byt s).drop pos) ≤ s.size - pos := by
  have := stp_le ((byt s).drop pos) (by rw [drop_one s pos h]; simp)
  rw [List.length_drop, byt_length] at this
  exact this
theorem one_stp (l : List UInt8) : 1 ≤ stp l := Nat.le_max_left _ _
end Go.Proofs.Ytbgoddcpgogpdaa

/-
  Plain functions on bytes that say what package prep's calls answer. No dump is imported here.
-/
namespace Go.Proofs.Ytbgoddcpgogpdaa

def isDig (b : UInt8) : Bool := decide (48 ≤ b.toNat) && decide (b.toNat ≤ 57)
def isLet (b : UInt8) : Bool := (decide (97 ≤ b.toNat) && decide (b.toNat ≤ 122)) || (decide (65 ≤ b.toNat) && decide (b.toNat ≤ 90))
/-- a great letter's small one -/
def lowB (b : UInt8) : UInt8 := if decide (65 ≤ b.toNat) && decide (b.toNat ≤ 90) then UInt8.ofNat (b.toNat + 32) else b
/-- letters small, if sm -/
def smB (sm : Bool) (b : UInt8) : UInt8 := if sm then lowB b else b
/-- one blank for each run of blanks; p: a blank stands ahead -/
def joinL (sm : Bool) : Bool → List UInt8 → List UInt8
  | _, [] => []
  | p, b :: t => if (b == 32) && p then joinL sm true t else smB sm b :: joinL sm (b == 32) t
def trimA (l : List UInt8) : List UInt8 := l.dropWhile (· == 32)
def trimZ (l : List UInt8) : List UInt8 := (l.reverse.dropWhile (· == 32)).reverse
/-- without one blank at the beginning -/
def cutA (l : List UInt8) : List UInt8 := if l.head? = some 32 then l.tail else l
def cutZ (l : List UInt8) : List UInt8 := if l.getLast? = some 32 then l.dropLast else l
def keySp (sm : Bool) (l : List UInt8) : Option (List UInt8) :=
  if l = [] ∨ validL l = false then none else some (if trimA (trimZ (joinL sm false l)) = [] then [32] else trimA (trimZ (joinL sm false l)))
def pieceSp (sm : Bool) (wh : Int) (l : List UInt8) : Option (List UInt8) :=
  if validL l = false then none else some (if wh = 0 then cutA (joinL sm false l) else if wh = 2 then cutZ (joinL sm false l) else joinL sm false l)
def digK (l : List UInt8) : Option (List UInt8) := if l.all (fun b => isDig b || b == 32) then some (l.filter isDig) else none
/-- the signs of a phone's number: blank and - among them -/
def phS (b : UInt8) : Bool := b == 39 || b == 40 || b == 41 || b == 43 || b == 44 || b == 45 || b == 46 || b == 47 || b == 58 || b == 63 || b == 61
def phK (l : List UInt8) : Option (List UInt8) := if l.all (fun b => isLet b || isDig b || phS b || b == 32) then some ((l.filter (fun b => !(b == 32 || b == 45))).map lowB) else none
/-- none where nothing is left -/
def some1 (o : Option (List UInt8)) : Option (List UInt8) := if o = some [] then none else o

def isCnt (l : List UInt8) : Bool := l.all isDig && (l == [48] || (l != [] && l.head? != some 48))
/-- a number's sign and its digits -/
def numL (l : List UInt8) : Option (Bool × List UInt8) :=
  if l.head? = some 45 then (if isCnt l.tail && l.tail != [48] && decide (l.length ≤ 65536) then some (true, l.tail) else none)
  else (if isCnt l && decide (l.length ≤ 65536) then some (false, l) else none)
def cnt3 (n : Nat) : List UInt8 := [UInt8.ofNat (n / 65536), UInt8.ofNat (n / 256), UInt8.ofNat n]
def numKey (x : Bool × List UInt8) : List UInt8 :=
  if x.1 then 110 :: (cnt3 (16777215 - x.2.length) ++ x.2.map (fun d => UInt8.ofNat (105 - d.toNat))) else 112 :: (cnt3 x.2.length ++ x.2)
def flagK (l : List UInt8) : Option (List UInt8) := if l = [84, 82, 85, 69] ∨ l = [70, 65, 76, 83, 69] then some l else none
def wordB (l : List UInt8) : Bool := match l with
  | [] => false
  | a :: t => isLet a && t.all (fun b => isLet b || isDig b || b == 45)
/-- the rows between dots -/
def splitD : List UInt8 → List (List UInt8)
  | [] => [[]]
  | b :: t => if b = 46 then [] :: splitD t else match splitD t with
    | [] => [[b]]
    | r :: rs => (b :: r) :: rs
def dotB (l : List UInt8) : Bool := (splitD l).all isCnt && decide (2 ≤ (splitD l).length)
def oidK (l : List UInt8) : Option (List UInt8) := if wordB l || dotB l then some (l.map lowB) else none

/-! numbers -/
/-- k digits of n, the last ones -/
def padL : Nat → Nat → List UInt8
  | 0, _ => []
  | k + 1, n => padL k (n / 10) ++ [UInt8.ofNat (48 + n % 10)]
def digV (l : List UInt8) : Nat := l.foldl (fun n b => 10 * n + (b.toNat - 48)) 0
def showN (n : Nat) : List UInt8 := if n = 0 then [48] else (padL (n.log2 + 1) n).dropWhile (· == 48)
def showI (z : Int) : List UInt8 := if z < 0 then 45 :: showN z.natAbs else showN z.natAbs
def numV (x : Bool × List UInt8) : Int := if x.1 then - (digV x.2 : Int) else digV x.2
def addL (a b : List UInt8) : Option (List UInt8) := match numL a, numL b with
  | some x, some y => if (showI (numV x + numV y)).length ≤ 65536 then some (showI (numV x + numV y)) else none
  | _, _ => none
end Go.Proofs.Ytbgoddcpgogpdaa
