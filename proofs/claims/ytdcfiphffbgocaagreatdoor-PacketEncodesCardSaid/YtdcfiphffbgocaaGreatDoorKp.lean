/-
  Plain functions that say what package filter answers of words and descriptions. No dump is imported here.
-/
import Derived.Test.YtdcfiphffbgocaaGreatDoorBm
namespace Go.Proofs.YtdcfiphffbgocaaGreatDoor

def kLet (b : UInt8) : Bool := (decide (97 ≤ b.toNat) && decide (b.toNat ≤ 122)) || (decide (65 ≤ b.toNat) && decide (b.toNat ≤ 90))
def kDig (b : UInt8) : Bool := decide (48 ≤ b.toNat) && decide (b.toNat ≤ 57)
def kInn (b : UInt8) : Bool := kLet b || kDig b || b == 45
def headK (p : UInt8 → Bool) (l : List UInt8) : Bool := match l with | [] => false | b :: _ => p b
/-- one or more letters, digits and - -/
def kRow (l : List UInt8) : Bool := l.all kInn && !l.isEmpty
/-- a number without noughts ahead -/
def kNum (l : List UInt8) : Bool := l.all kDig && !l.isEmpty && (!headK (· == 48) l || l == [48])
/-- a text cut at each c -/
def splitC (c : UInt8) : List UInt8 → List (List UInt8)
  | [] => [[]]
  | b :: t => if b = c then [] :: splitC c t else match splitC c t with | [] => [[b]] | r :: rs => (b :: r) :: rs
/-- two or more numbers with a dot between each two -/
def kNums (l : List UInt8) : Bool := (splitC 46 l).all kNum && l.contains 46
/-- a type's word -/
def kWord (l : List UInt8) : Bool := kRow l && headK kLet l || kNums l
/-- a description's form -/
def kDesc (l : List UInt8) : Bool := match splitC 59 l with | [] => false | w :: r => kWord w && r.all kRow

theorem splitC_none (c : UInt8) : ∀ l : List UInt8, c ∉ l → splitC c l = [l]
  | [], _ => rfl
  | b :: t, h => by
    rw [splitC, if_neg (fun e => h (by simp [e])), splitC_none c t (fun e => h (by simp [e]))]
theorem splitC_app (c : UInt8) : ∀ (p q : List UInt8), c ∉ p → splitC c (p ++ c :: q) = p :: splitC c q
  | [], q, _ => by rw [List.nil_append, splitC, if_pos rfl]
  | b :: p, q, h => by
    rw [List.cons_append, splitC, if_neg (fun e => h (by simp [e])), splitC_app c p q (fun e => h (by simp [e]))]

theorem byt_get (s : ByteArray) (k : Nat) (h : k < s.size) : (byt s)[k]? = some s[k] := by
  rw [List.getElem?_eq_getElem (by rw [byt_length]; exact h)]
  simp [byt]; rfl
theorem byt_at (s : ByteArray) (k : Nat) (h : k < s.size) : (byt s)[k]'(by rw [byt_length]; exact h) = s[k] := by simp [byt]; rfl
theorem byt_extract (s : ByteArray) (a b : Nat) : byt (s.extract a b) = ((byt s).drop a).take (b - a) := by
  unfold byt
  rw [ByteArray.data_extract, Array.toList_extract, List.extract_eq_take_drop]
theorem byt_from (s : ByteArray) (a : Nat) : byt (s.extract a s.size) = (byt s).drop a := by
  rw [byt_extract, List.take_of_length_le (by simp [byt_length])]
theorem beq_int (a b : UInt8) : ((a.toNat : Int) == (b.toNat : Int)) = (a == b) := by
  rw [Bool.eq_iff_iff]
  simp only [beq_iff_eq]
  rw [← UInt8.toNat_inj]
  omega
theorem headK_at (p : UInt8 → Bool) (s : ByteArray) (h : 0 < s.size) : headK p (byt s) = p s[0] := by
  have := byt_at s 0 h
  cases hb : byt s with
  | nil => rw [← byt_length, hb] at h; simp at h
  | cons a t =>
    simp only [hb, List.getElem_cons_zero] at this
    rw [← this]; rfl
theorem byt_empty (s : ByteArray) : (byt s).isEmpty = decide (s.size = 0) := by
  rw [← byt_length]
  cases byt s <;> simp
theorem all_take {l : List UInt8} {q : UInt8 → Bool} {i : Nat} {b : UInt8} (h : (l.take i).all q = true) (hb : l[i]? = some b) (hq : q b = true) : (l.take (i + 1)).all q = true := by
  rw [List.take_add_one, hb, List.all_append, h]; simp [hq]
theorem all_no {l : List UInt8} {q : UInt8 → Bool} {i : Nat} {b : UInt8} (hb : l[i]? = some b) (hq : q b = false) : l.all q = false := by
  rw [List.all_eq_false]
  exact ⟨b, List.mem_of_getElem? hb, by rw [hq]; decide⟩
end Go.Proofs.YtdcfiphffbgocaaGreatDoor
