/-
  Plain functions on bytes: how words sound, and moments.
-/
import Derived.Test.YtbgoddcpgogpdaaMathEToPm
namespace Go.Proofs.Ytbgoddcpgogpdaa

def sndTab : List UInt8 := [45, 49, 50, 51, 45, 49, 50, 42, 45, 50, 50, 52, 53, 53, 45, 49, 50, 54, 50, 51, 45, 49, 42, 50, 45, 50]
def snd (b : UInt8) : UInt8 := sndTab.getD (b.toNat - 97) 45
/-- the digits that letters give, behind a letter of the digit 'last' -/
def codeGo : UInt8 → List UInt8 → List UInt8
  | _, [] => []
  | last, b :: t => if snd b = 42 then codeGo last t else if snd b ≠ 45 ∧ snd b ≠ last then snd b :: codeGo (snd b) t else codeGo (snd b) t
def codeL (row : List UInt8) : List UInt8 := match row with
  | [] => []
  | a :: t => UInt8.ofNat (a.toNat - 32) :: (codeGo (snd a) t ++ [48, 48, 48]).take 3
def appC (codes row : List UInt8) : List UInt8 := if row = [] then codes else if codes = [] then codeL row else codes ++ 32 :: codeL row
def soundGo : List UInt8 → List UInt8 → List UInt8 → List UInt8
  | codes, row, [] => appC codes row
  | codes, row, b :: t => if isLet b then soundGo codes (row ++ [lowB b]) t else soundGo (appC codes row) [] t
def soundL (l : List UInt8) : List UInt8 := soundGo [] [] l

/-! days -/
def dTY (y : Int) : Int := 365 * y + y / 4 - y / 100 + y / 400
def dTM (m : Int) : Int := (153 * m + 2) / 5
def dnum (y m d : Int) : Int := if m < 3 then dTY (y + 399) + dTM (m + 9) + d - 1 else dTY (y + 400) + dTM (m - 3) + d - 1
def yrGo : Nat → Int → Int → Int
  | 0, y, _ => y
  | f + 1, y, n => if n < dTY y then yrGo f (y - 1) n else y
/-- the year that begins in March and has the day n -/
def yearOf (n : Int) : Int := yrGo 3 (n * 400 / 146097 + 1) n
def monOf (n : Int) : Int := (5 * (n - dTY (yearOf n)) + 2) / 153
def dayOf (n : Int) : Int × Int × Int :=
  if 9 < monOf n then (yearOf n + 1 - 400, monOf n + 3 - 12, n - dTY (yearOf n) - dTM (monOf n) + 1)
  else (yearOf n - 400, monOf n + 3, n - dTY (yearOf n) - dTM (monOf n) + 1)
def digsL (l : List UInt8) : Option Nat := if l.all isDig then some (digV l) else none
/-- hours, minutes, seconds -/
def clockGo : Nat → Nat → List UInt8 → Option Nat
  | _, _, [] => some 0
  | _, _, [_] => none
  | unit, most, a :: b :: t => match digsL [a, b], clockGo (unit / 60) 59 t with
    | some n, some r => if n ≤ most then some (n * unit + r) else none
    | _, _ => none
def clockL (l : List UInt8) : Option Nat := clockGo 3600 23 l
def stampL (l : List UInt8) : Option Int := match digsL (l.take 4), digsL ((l.drop 4).take 2), digsL ((l.drop 6).take 2), clockL (l.drop 8) with
  | some y, some m, some d, some c => if dayOf (dnum y m d) = ((y : Int), (m : Int), (d : Int)) then some (dnum y m d * 86400 + c) else none
  | _, _, _, _ => none
/-- how many digits stand at the beginning -/
def digN (l : List UInt8) : Nat := (l.takeWhile isDig).length
def trimO (l : List UInt8) : List UInt8 := (l.reverse.dropWhile (· == 48)).reverse
/-- the fraction, and what stands behind it -/
def restL (l : List UInt8) : Option (List UInt8 × List UInt8) :=
  if l.head? = some 46 ∨ l.head? = some 44 then (if digN l.tail = 0 ∨ 9 < digN l.tail then none else some (trimO (l.tail.take (digN l.tail)), l.tail.drop (digN l.tail)))
  else some ([], l)
def offL (l : List UInt8) : Option Int :=
  if l = [90] then some 0
  else if l.length = 5 ∧ l.head? = some 43 then (clockL l.tail).map (fun n => (n : Int))
  else if l.length = 5 ∧ l.head? = some 45 then (clockL l.tail).map (fun n => - (n : Int))
  else none
def momL (l : List UInt8) : Option (Int × List UInt8) :=
  if l.length < 14 then none else
  match stampL (l.take 14), restL (l.drop 14) with
  | some s, some (r, b) => match offL b with
    | some o => if 0 ≤ (dayOf ((s - o) / 86400)).1 ∧ (dayOf ((s - o) / 86400)).1 ≤ 9999 then some (s - o, r) else none
    | none => none
  | _, _ => none
def epoch : Int := dnum 1970 1 1 * 86400
def timeK (m : Int × List UInt8) : List UInt8 :=
  padL 4 (dayOf (m.1 / 86400)).1.toNat ++ padL 2 (dayOf (m.1 / 86400)).2.1.toNat ++ padL 2 (dayOf (m.1 / 86400)).2.2.toNat ++
  padL 2 (m.1 % 86400 / 3600).toNat ++ padL 2 (m.1 % 86400 % 3600 / 60).toNat ++ padL 2 (m.1 % 86400 % 60).toNat ++ m.2

/-! the two that go by the form -/
def keyL (form : Int) (l : List UInt8) : Option (List UInt8) :=
  if 65536 < l.length then none
  else if form = 0 then keySp true l
  else if form = 1 then keySp false l
  else if form = 2 then some1 (digK l)
  else if form = 3 then some1 (phK l)
  else if form = 4 then (numL l).map numKey
  else if form = 5 then flagK l
  else if form = 6 then (momL l).map timeK
  else if form = 7 then some l
  else if form = 8 then oidK l
  else none
def pieceL (form wh : Int) (l : List UInt8) : Option (List UInt8) :=
  if 65536 < l.length ∨ ¬ (wh = 0 ∨ wh = 1 ∨ wh = 2) then none
  else if form = 0 then pieceSp true wh l
  else if form = 1 then pieceSp false wh l
  else if form = 2 then digK l
  else if form = 3 then phK l
  else none

def bytesOf (s : String) : List UInt8 := s.toUTF8.data.toList
example : keyL 0 [32, 65, 98, 32, 32, 67, 32] = some [97, 98, 32, 99] := by decide
example : keyL 4 [45, 55] = some [110, 255, 255, 254, 50] := by decide
example : pieceL 0 0 [32, 65, 32] = some [97, 32] := by decide
example : addL [57, 57] [49] = some [49, 48, 48] := by decide
example : (momL [50,48,48,48,48,50,50,57,49,50,48,48,48,48,44,50,53,48,45,48,49,48,48]).map (fun m => (m.1 - epoch, m.2)) = some (951829200, [50, 53]) := by decide
example : soundL [84, 121, 109, 99, 122, 97, 107] = [84, 53, 50, 50] := by decide
end Go.Proofs.Ytbgoddcpgogpdaa
