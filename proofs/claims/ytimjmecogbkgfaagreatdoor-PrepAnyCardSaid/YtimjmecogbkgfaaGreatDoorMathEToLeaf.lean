/-
  Plain functions on bytes: Valid, Escape, Unescape, by fuel.
-/
import Derived.Test.YtimjmecogbkgfaaGreatDoorMathToMathD
import Derived.Test.YtimjmecogbkgfaaGreatDoorChecked
import Derived.WalkKit
import Derived.WalkSpells
import Derived.WalkLawsBesides
namespace Go.Proofs.YtimjmecogbkgfaaGreatDoor

def stp (l : List UInt8) : Nat := max 1 (wid l)
def validGo : Nat → List UInt8 → Bool
  | 0, _ => true
  | n + 1, l => if l.isEmpty then true else if wid l = 0 then false else validGo n (l.drop (stp l))
def validL (l : List UInt8) : Bool := validGo l.length l
/-- what stands for the character or the byte at the beginning -/
def escC : List UInt8 → List UInt8
  | [] => []
  | a :: t => if wid (a :: t) = 0 ∨ resv a.toNat = true then 92 :: hex1 a else (a :: t).take (wid (a :: t))
def escGo : Nat → List UInt8 → List UInt8
  | 0, _ => []
  | n + 1, l => if l.isEmpty then [] else escC l ++ escGo n (l.drop (stp l))
def escL (l : List UInt8) : List UInt8 := escGo l.length l
def unescGo : Nat → List UInt8 → Except Nat (List UInt8)
  | 0, _ => .ok []
  | _ + 1, [] => .ok []
  | n + 1, a :: t =>
    if a.toNat = 92 then match t with
      | x :: y :: r => if adigB x.toNat && adigB y.toNat then (unescGo n r).map (byte2 (adigV x.toNat) (adigV y.toNat) :: ·) else .error 11
      | _ => .error 11
    else if wid (a :: t) = 0 then .error 10
    else if resv a.toNat then .error 12
    else (unescGo n ((a :: t).drop (wid (a :: t)))).map ((a :: t).take (wid (a :: t)) ++ ·)
def unescL (l : List UInt8) : Except Nat (List UInt8) := unescGo l.length l
def exV : Except Nat (List UInt8) → List UInt8 | .ok l => l | .error _ => []
def exE : Except Nat (List UInt8) → Nat | .ok _ => 0 | .error e => e

theorem byt_extract (s : ByteArray) (a b : Nat) : byt (s.extract a b) = ((byt s).drop a).take (b - a) := by
  unfold byt
  rw [ByteArray.data_extract, Array.toList_extract, List.extract_eq_take_drop]
theorem byt_from (s : ByteArray) (a : Nat) : byt (s.extract a s.size) = (byt s).drop a := by
  rw [byt_extract, List.take_of_length_le (by rw [List.length_drop, byt_length]; omega)]
theorem size_from (s : ByteArray) (a : Nat) : (s.extract a s.size).size = s.size - a := by
  rw [← byt_length, byt_from, List.length_drop, byt_length]

theorem widAt_le (l : List UInt8) (k : Nat) : widAt l k ≤ l.length := by
  unfold widAt; split
  · rename_i h; simp only [Bool.and_eq_true, decide_eq_true_eq] at h; exact h.1
  · exact Nat.zero_le _
theorem widGo_le (l : List UInt8) (a : Nat) : ∀ n k, widGo l a n k ≤ l.length := by
  intro n
  induction n with
  | zero => intro k; exact Nat.zero_le _
  | succ n ih => intro k; rw [widGo]; split; exact widAt_le l k; exact ih (k + 1)
theorem wid_le (l : List UInt8) : wid l ≤ l.length := by
  cases l with
  | nil => exact Nat.le_refl _
  | cons a t => exact widGo_le _ _ 9 0
theorem stp_le (l : List UInt8) (h : l ≠ []) : stp l ≤ l.length := by
  have := wid_le l
  have : 1 ≤ l.length := List.length_pos_iff.2 h
  unfold stp; omega
theorem stp_drop (s : ByteArray) (pos : Nat) (h : pos < s.size) : stp ((byt s).drop pos) ≤ s.size - pos := by
  have := stp_le ((byt s).drop pos) (by rw [drop_one s pos h]; simp)
  rw [List.length_drop, byt_length] at this
  exact this
theorem one_stp (l : List UInt8) : 1 ≤ stp l := Nat.le_max_left _ _
end Go.Proofs.YtimjmecogbkgfaaGreatDoor

/-
  Plain functions on bytes that say what package prep's calls answer. No dump is imported here.
-/
namespace Go.Proofs.YtimjmecogbkgfaaGreatDoor

def isDig (b : UInt8) : Bool := decide (48 ≤ b.toNat) && decide (b.toNat ≤ 57)
def isLet (b : UInt8) : Bool := (decide (97 ≤ b.toNat) && decide (b.toNat ≤ 122)) || (decide (65 ≤ b.toNat) && decide (b.toNat ≤ 90))
/-- a great letter's small one -/
def lowB (b : UInt8) : UInt8 := if decide (65 ≤ b.toNat) && decide (b.toNat ≤ 90) then UInt8.ofNat (b.toNat + 32) else b
/-- letters small, if sm -/
def smB (sm : Bool) (b : UInt8) : UInt8 := if sm then lowB b else b
/-- one blank for each run of blanks; p: a blank stands ahead -/
def joinL (sm : Bool) : Bool → List UInt8 → List UInt8
  | _, [] => []
  | p, b :: t => if (b == 32) && p then joinL sm true t else smB sm b :: joinL sm (b == 32) t
def trimA (l : List UInt8) : List UInt8 := l.dropWhile (· == 32)
def trimZ (l : List UInt8) : List UInt8 := (l.reverse.dropWhile (· == 32)).reverse
/-- without one blank at the beginning -/
def cutA (l : List UInt8) : List UInt8 := if l.head? = some 32 then l.tail else l
def cutZ (l : List UInt8) : List UInt8 := if l.getLast? = some 32 then l.dropLast else l
def keySp (sm : Bool) (l : List UInt8) : Option (List UInt8) :=
  if l = [] ∨ validL l = false then none else some (if trimA (trimZ (joinL sm false l)) = [] then [32] else trimA (trimZ (joinL sm false l)))
def pieceSp (sm : Bool) (wh : Int) (l : List UInt8) : Option (List UInt8) :=
  if validL l = false then none else some (if wh = 0 then cutA (joinL sm false l) else if wh = 2 then cutZ (joinL sm false l) else joinL sm false l)
def digK (l : List UInt8) : Option (List UInt8) := if l.all (fun b => isDig b || b == 32) then some (l.filter isDig) else none
/-- the signs of a phone's number: blank and - among them -/
def phS (b : UInt8) : Bool := b == 39 || b == 40 || b == 41 || b == 43 || b == 44 || b == 45 || b == 46 || b == 47 || b == 58 || b == 63 || b == 61
def phK (l : List UInt8) : Option (List UInt8) := if l.all (fun b => isLet b || isDig b || phS b || b == 32) then some ((l.filter (fun b => !(b == 32 || b == 45))).map lowB) else none
/-- none where nothing is left -/
def some1 (o : Option (List UInt8)) : Option (List UInt8) := if o = some [] then none else o

def isCnt (l : List UInt8) : Bool := l.all isDig && (l == [48] || (l != [] && l.head? != some 48))
/-- a number's sign and its digits -/
def numL (l : List UInt8) : Option (Bool × List UInt8) :=
  if l.head? = some 45 then (if isCnt l.tail && l.tail != [48] && decide (l.length ≤ 65536) then some (true, l.tail) else none)
  else (if isCnt l && decide (l.length ≤ 65536) then some (false, l) else none)
def cnt3 (n : Nat) : List UInt8 := [UInt8.ofNat (n / 65536), UInt8.ofNat (n / 256), UInt8.ofNat n]
def numKey (x : Bool × List UInt8) : List UInt8 :=
  if x.1 then 110 :: (cnt3 (16777215 - x.2.length) ++ x.2.map (fun d => UInt8.ofNat (105 - d.toNat))) else 112 :: (cnt3 x.2.length ++ x.2)
def flagK (l : List UInt8) : Option (List UInt8) := if l = [84, 82, 85, 69] ∨ l = [70, 65, 76, 83, 69] then some l else none
def wordB (l : List UInt8) : Bool := match l with
  | [] => false
  | a :: t => isLet a && t.all (fun b => isLet b || isDig b || b == 45)
/-- the rows between dots -/
def splitD : List UInt8 → List (List UInt8)
  | [] => [[]]
  | b :: t => if b = 46 then [] :: splitD t else match splitD t with
    | [] => [[b]]
    | r :: rs => (b :: r) :: rs
def dotB (l : List UInt8) : Bool := (splitD l).all isCnt && decide (2 ≤ (splitD l).length)
def oidK (l : List UInt8) : Option (List UInt8) := if wordB l || dotB l then some (l.map lowB) else none

/-! numbers -/
/-- k digits of n, the last ones -/
def padL : Nat → Nat → List UInt8
  | 0, _ => []
  | k + 1, n => padL k (n / 10) ++ [UInt8.ofNat (48 + n % 10)]
def digV (l : List UInt8) : Nat := l.foldl (fun n b => 10 * n + (b.toNat - 48)) 0
def showN (n : Nat) : List UInt8 := if n = 0 then [48] else (padL (n.log2 + 1) n).dropWhile (· == 48)
def showI (z : Int) : List UInt8 := if z < 0 then 45 :: showN z.natAbs else showN z.natAbs
def numV (x : Bool × List UInt8) : Int := if x.1 then - (digV x.2 : Int) else digV x.2
def addL (a b : List UInt8) : Option (List UInt8) := match numL a, numL b with
  | some x, some y => if (showI (numV x + numV y)).length ≤ 65536 then some (showI (numV x + numV y)) else none
  | _, _ => none
end Go.Proofs.YtimjmecogbkgfaaGreatDoor

/-
  Plain functions on bytes: how words sound, and moments.
-/
namespace Go.Proofs.YtimjmecogbkgfaaGreatDoor

def sndTab : List UInt8 := [45, 49, 50, 51, 45, 49, 50, 42, 45, 50, 50, 52, 53, 53, 45, 49, 50, 54, 50, 51, 45, 49, 42, 50, 45, 50]
def snd (b : UInt8) : UInt8 := sndTab.getD (b.toNat - 97) 45
/-- the digits that letters give, behind a letter of the digit 'last' -/
def codeGo : UInt8 → List UInt8 → List UInt8
  | _, [] => []
  | last, b :: t => if snd b = 42 then codeGo last t else if snd b ≠ 45 ∧ snd b ≠ last then snd b :: codeGo (snd b) t else codeGo (snd b) t
def codeL (row : List UInt8) : List UInt8 := match row with
  | [] => []
  | a :: t => UInt8.ofNat (a.toNat - 32) :: (codeGo (snd a) t ++ [48, 48, 48]).take 3
def appC (codes row : List UInt8) : List UInt8 := if row = [] then codes else if codes = [] then codeL row else codes ++ 32 :: codeL row
def soundGo : List UInt8 → List UInt8 → List UInt8 → List UInt8
  | codes, row, [] => appC codes row
  | codes, row, b :: t => if isLet b then soundGo codes (row ++ [lowB b]) t else soundGo (appC codes row) [] t
def soundL (l : List UInt8) : List UInt8 := soundGo [] [] l

/-! days -/
def dTY (y : Int) : Int := 365 * y + y / 4 - y / 100 + y / 400
def dTM (m : Int) : Int := (153 * m + 2) / 5
def dnum (y m d : Int) : Int := if m < 3 then dTY (y + 399) + dTM (m + 9) + d - 1 else dTY (y + 400) + dTM (m - 3) + d - 1
def yrGo : Nat → Int → Int → Int
  | 0, y, _ => y
  | f + 1, y, n => if n < dTY y then yrGo f (y - 1) n else y
/-- the year that begins in March and has the day n -/
def yearOf (n : Int) : Int := yrGo 3 (n * 400 / 146097 + 1) n
def monOf (n : Int) : Int := (5 * (n - dTY (yearOf n)) + 2) / 153
def dayOf (n : Int) : Int × Int × Int :=
  if 9 < monOf n then (yearOf n + 1 - 400, monOf n + 3 - 12, n - dTY (yearOf n) - dTM (monOf n) + 1)
  else (yearOf n - 400, monOf n + 3, n - dTY (yearOf n) - dTM (monOf n) + 1)
def digsL (l : List UInt8) : Option Nat := if l.all isDig then some (digV l) else none
/-- hours, minutes, seconds -/
def clockGo : Nat → Nat → List UInt8 → Option Nat
  | _, _, [] => some 0
  | _, _, [_] => none
  | unit, most, a :: b :: t => match digsL [a, b], clockGo (unit / 60) 59 t with
    | some n, some r => if n ≤ most then some (n * unit + r) else none
    | _, _ => none
def clockL (l : List UInt8) : Option Nat := clockGo 3600 23 l
def stampL (l : List UInt8) : Option Int := match digsL (l.take 4), digsL ((l.drop 4).take 2), digsL ((l.drop 6).take 2), clockL (l.drop 8) with
  | some y, some m, some d, some c => if dayOf (dnum y m d) = ((y : Int), (m : Int), (d : Int)) then some (dnum y m d * 86400 + c) else none
  | _, _, _, _ => none
/-- how many digits stand at the beginning -/
def digN (l : List UInt8) : Nat := (l.takeWhile isDig).length
def trimO (l : List UInt8) : List UInt8 := (l.reverse.dropWhile (· == 48)).reverse
/-- the fraction, and what stands behind it -/
def restL (l : List UInt8) : Option (List UInt8 × List UInt8) :=
  if l.head? = some 46 ∨ l.head? = some 44 then (if digN l.tail = 0 ∨ 9 < digN l.tail then none else some (trimO (l.tail.take (digN l.tail)), l.tail.drop (digN l.tail)))
  else some ([], l)
def offL (l : List UInt8) : Option Int :=
  if l = [90] then some 0
  else if l.length = 5 ∧ l.head? = some 43 then (clockL l.tail).map (fun n => (n : Int))
  else if l.length = 5 ∧ l.head? = some 45 then (clockL l.tail).map (fun n => - (n : Int))
  else none
def momL (l : List UInt8) : Option (Int × List UInt8) :=
  if l.length < 14 then none else
  match stampL (l.take 14), restL (l.drop 14) with
  | some s, some (r, b) => match offL b with
    | some o => if 0 ≤ (dayOf ((s - o) / 86400)).1 ∧ (dayOf ((s - o) / 86400)).1 ≤ 9999 then some (s - o, r) else none
    | none => none
  | _, _ => none
def epoch : Int := dnum 1970 1 1 * 86400
def timeK (m : Int × List UInt8) : List UInt8 :=
  padL 4 (dayOf (m.1 / 86400)).1.toNat ++ padL 2 (dayOf (m.1 / 86400)).2.1.toNat ++ padL 2 (dayOf (m.1 / 86400)).2.2.toNat ++
  padL 2 (m.1 % 86400 / 3600).toNat ++ padL 2 (m.1 % 86400 % 3600 / 60).toNat ++ padL 2 (m.1 % 86400 % 60).toNat ++ m.2

/-! the two that go by the form -/
def keyL (form : Int) (l : List UInt8) : Option (List UInt8) :=
  if 65536 < l.length then none
  else if form = 0 then keySp true l
  else if form = 1 then keySp false l
  else if form = 2 then some1 (digK l)
  else if form = 3 then some1 (phK l)
  else if form = 4 then (numL l).map numKey
  else if form = 5 then flagK l
  else if form = 6 then (momL l).map timeK
  else if form = 7 then some l
  else if form = 8 then oidK l
  else none
def pieceL (form wh : Int) (l : List UInt8) : Option (List UInt8) :=
  if 65536 < l.length ∨ ¬ (wh = 0 ∨ wh = 1 ∨ wh = 2) then none
  else if form = 0 then pieceSp true wh l
  else if form = 1 then pieceSp false wh l
  else if form = 2 then digK l
  else if form = 3 then phK l
  else none

def bytesOf (s : String) : List UInt8 := s.toUTF8.data.toList
example : keyL 0 [32, 65, 98, 32, 32, 67, 32] = some [97, 98, 32, 99] := by decide
example : keyL 4 [45, 55] = some [110, 255, 255, 254, 50] := by decide
example : pieceL 0 0 [32, 65, 32] = some [97, 32] := by decide
example : addL [57, 57] [49] = some [49, 48, 48] := by decide
example : (momL [50,48,48,48,48,50,50,57,49,50,48,48,48,48,44,50,53,48,45,48,49,48,48]).map (fun m => (m.1 - epoch, m.2)) = some (951829200, [50, 53]) := by decide
example : soundL [84, 121, 109, 99, 122, 97, 107] = [84, 53, 50, 50] := by decide
end Go.Proofs.YtimjmecogbkgfaaGreatDoor

/-
  The contracts of package prep's small functions: digits, letters.
-/
namespace Go.Proofs.YtimjmecogbkgfaaGreatDoor
open Go.RowKit

theorem ret_ib {k : IntKind} {a b : Int} {x y : Bool} (h : a = b) (hx : x = y) : Ending.returned (.tuple #[.int k a, .bool x]) = .returned (.tuple #[.int k b, .bool y]) := by rw [h, hx]
theorem ret_i {k : IntKind} {a b : Int} (h : a = b) : Ending.returned (.int k a) = .returned (.int k b) := by rw [h]
theorem ret_s {a b : ByteArray} (h : a = b) : Ending.returned (.string a) = .returned (.string b) := by rw [h]
theorem ret_sb {a b : ByteArray} {x y : Bool} (h : a = b) (hx : x = y) : Ending.returned (.tuple #[.string a, .bool x]) = .returned (.tuple #[.string b, .bool y]) := by rw [h, hx]
theorem ret_b {x y : Bool} (h : x = y) : Ending.returned (.bool x) = .returned (.bool y) := by rw [h]

def rDig (r : Int) : Bool := decide (48 ≤ r) && decide (r ≤ 57)
def rLet (r : Int) : Bool := (decide (97 ≤ r) && decide (r ≤ 122)) || (decide (65 ≤ r) && decide (r ≤ 90))
def rLow (r : Int) : Int := if decide (65 ≤ r) && decide (r ≤ 90) then r + 32 else r

set_option maxHeartbeats 400000 in
theorem isDigit_any (r : Int) (w : World) :
    Calls Tryz.prog 94 #[.int .i32 r] w fun e w' => e = .returned (.bool (rDig r)) ∧ w' = w := by
  rcases (show r < 48 ∨ (48 ≤ r ∧ r ≤ 57) ∨ 58 ≤ r by omega) with h | ⟨h1, h2⟩ | h
  · have hv : Hid (rDig r = false) := by simp [Hid, rDig]; omega
    go_enter Tryz.func94, Tryz.ntmps94
    go_wp2
    go_ret
    exact ⟨ret_b (by first | exact hv.out.symm | (rw [hv.out]; simp; omega)), rfl⟩
  · have hv : Hid (rDig r = true) := by simp [Hid, rDig]; omega
    go_enter Tryz.func94, Tryz.ntmps94
    go_wp2
    go_ret
    exact ⟨ret_b (by first | exact hv.out.symm | (rw [hv.out]; simp; omega)), rfl⟩
  · have hv : Hid (rDig r = false) := by simp [Hid, rDig]; omega
    go_enter Tryz.func94, Tryz.ntmps94
    go_wp2
    go_ret
    exact ⟨ret_b (by first | exact hv.out.symm | (rw [hv.out]; simp; omega)), rfl⟩

set_option maxHeartbeats 400000 in
theorem isLetter_any (r : Int) (w : World) :
    Calls Tryz.prog 57 #[.int .i32 r] w fun e w' => e = .returned (.bool (rLet r)) ∧ w' = w := by
  rcases (show r < 65 ∨ (65 ≤ r ∧ r ≤ 90) ∨ (91 ≤ r ∧ r < 97) ∨ (97 ≤ r ∧ r ≤ 122) ∨ 123 ≤ r by omega) with h | ⟨h1, h2⟩ | ⟨h1, h2⟩ | ⟨h1, h2⟩ | h
  · have hv : Hid (rLet r = false) := by simp [Hid, rLet]; omega
    go_enter Tryz.func57, Tryz.ntmps57
    go_wp2
    go_ret
    exact ⟨ret_b (by first | exact hv.out.symm | (rw [hv.out]; simp; omega)), rfl⟩
  · have hv : Hid (rLet r = true) := by simp [Hid, rLet]; omega
    go_enter Tryz.func57, Tryz.ntmps57
    go_wp2
    go_ret
    exact ⟨ret_b (by first | exact hv.out.symm | (rw [hv.out]; simp; omega)), rfl⟩
  · have hv : Hid (rLet r = false) := by simp [Hid, rLet]; omega
    go_enter Tryz.func57, Tryz.ntmps57
    go_wp2
    go_ret
    exact ⟨ret_b (by first | exact hv.out.symm | (rw [hv.out]; simp; omega)), rfl⟩
  · have hv : Hid (rLet r = true) := by simp [Hid, rLet]; omega
    go_enter Tryz.func57, Tryz.ntmps57
    go_wp2
    go_ret
    exact ⟨ret_b (by first | exact hv.out.symm | (rw [hv.out]; simp; omega)), rfl⟩
  · have hv : Hid (rLet r = false) := by simp [Hid, rLet]; omega
    go_enter Tryz.func57, Tryz.ntmps57
    go_wp2
    go_ret
    exact ⟨ret_b (by first | exact hv.out.symm | (rw [hv.out]; simp; omega)), rfl⟩

set_option maxHeartbeats 400000 in
theorem smallLetter_any (r : Int) (w : World) (h1 : -2147483648 ≤ r) (h2 : r ≤ 2147483647) :
    Calls Tryz.prog 58 #[.int .i32 r] w fun e w' => e = .returned (.int .i32 (rLow r)) ∧ w' = w := by
  rcases (show r < 65 ∨ (65 ≤ r ∧ r ≤ 90) ∨ 91 ≤ r by omega) with h | ⟨h1, h2⟩ | h
  · have hv : Hid (rLow r = r) := by show rLow r = r; unfold rLow; rw [if_neg]; simp; omega
    go_enter Tryz.func58, Tryz.ntmps58
    go_wp2
    go_ret
    exact ⟨ret_i hv.out.symm, rfl⟩
  · have hv : Hid (rLow r = r + 32) := by show rLow r = r + 32; unfold rLow; rw [if_pos]; simp; omega
    go_enter Tryz.func58, Tryz.ntmps58
    go_wp2
    go_ret
    exact ⟨ret_i (by rw [hv.out]; omega), rfl⟩
  · have hv : Hid (rLow r = r) := by show rLow r = r; unfold rLow; rw [if_neg]; simp; omega
    go_enter Tryz.func58, Tryz.ntmps58
    go_wp2
    go_ret
    exact ⟨ret_i hv.out.symm, rfl⟩
/-- of a byte -/
theorem rDig_byte (b : UInt8) : rDig (b.toNat : Int) = isDig b := by
  unfold rDig isDig
  congr 1 <;> (rw [decide_eq_decide]; omega)
theorem rLet_byte (b : UInt8) : rLet (b.toNat : Int) = isLet b := by
  unfold rLet isLet
  congr 1 <;> (congr 1 <;> (rw [decide_eq_decide]; omega))
theorem rLow_byte (b : UInt8) : rLow (b.toNat : Int) = ((lowB b).toNat : Int) := by
  unfold rLow lowB
  by_cases h : 65 ≤ b.toNat ∧ b.toNat ≤ 90
  · rw [if_pos (by simp; omega), if_pos (by simp; omega)]
    have : b.toNat + 32 < 256 := by omega
    simp [Nat.mod_eq_of_lt this]
  · rw [if_neg (by simp; omega), if_neg (by simp; omega)]
theorem rLet_high (r : Int) (h : 128 ≤ r) : rLet r = false := by unfold rLet; simp; omega
theorem rDig_high (r : Int) (h : 128 ≤ r) : rDig r = false := by unfold rDig; simp; omega
theorem rLow_high (r : Int) (h : 128 ≤ r) : rLow r = r := by unfold rLow; rw [if_neg]; simp; omega
end Go.Proofs.YtimjmecogbkgfaaGreatDoor
