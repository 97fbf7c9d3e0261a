/-
  Plain functions that say what package filter answers of words and descriptions. No dump is imported here.
-/
import Derived.Test.YtdcfiphffbgocaaGreatDoorQJ
import Derived.Test.YtdcfiphffbgocaaGreatDoorBread
import Derived.Deep.LoopGhost
namespace Go.Proofs.YtdcfiphffbgocaaGreatDoor

def kLet (b : UInt8) : Bool := (decide (97 ≤ b.toNat) && decide (b.toNat ≤ 122)) || (decide (65 ≤ b.toNat) && decide (b.toNat ≤ 90))
def kDig (b : UInt8) : Bool := decide (48 ≤ b.toNat) && decide (b.toNat ≤ 57)
def kInn (b : UInt8) : Bool := kLet b || kDig b || b == 45
def headK (p : UInt8 → Bool) (l : List UInt8) : Bool := match l with | [] => false | b :: _ => p b
/-- one or more letters, digits and - -/
def kRow (l : List UInt8) : Bool := l.all kInn && !l.isEmpty
/-- a number without noughts ahead -/
def kNum (l : List UInt8) : Bool := l.all kDig && !l.isEmpty && (!headK (· == 48) l || l == [48])
/-- a text cut at each c -/
def splitC (c : UInt8) : List UInt8 → List (List UInt8)
  | [] => [[]]
  | b :: t => if b = c then [] :: splitC c t else match splitC c t with | [] => [[b]] | r :: rs => (b :: r) :: rs
/-- two or more numbers with a dot between each two -/
def kNums (l : List UInt8) : Bool := (splitC 46 l).all kNum && l.contains 46
/-- a type's word -/
def kWord (l : List UInt8) : Bool := kRow l && headK kLet l || kNums l
/-- a description's form -/
def kDesc (l : List UInt8) : Bool := match splitC 59 l with | [] => false | w :: r => kWord w && r.all kRow

theorem splitC_none (c : UInt8) : ∀ l : List UInt8, c ∉ l → splitC c l = [l]
  | [], _ => rfl
  | b :: t, h => by
    rw [splitC, if_neg (fun e => h (by simp [e])), splitC_none c t (fun e => h (by simp [e]))]
theorem splitC_app (c : UInt8) : ∀ (p q : List UInt8), c ∉ p → splitC c (p ++ c :: q) = p :: splitC c q
  | [], q, _ => by rw [List.nil_append, splitC, if_pos rfl]
  | b :: p, q, h => by
    rw [List.cons_append, splitC, if_neg (fun e => h (by simp [e])), splitC_app c p q (fun e => h (by simp [e]))]

theorem byt_get (s : ByteArray) (k : Nat) (h : k < s.size) : (byt s)[k]? = some s[k] := by
  rw [List.getElem?_eq_getElem (by rw [byt_length]; exact h)]
  simp [byt]; rfl
theorem byt_at (s : ByteArray) (k : Nat) (h : k < s.size) : (byt s)[k]'(by rw [byt_length]; exact h) = s[k] := by simp [byt]; rfl
theorem byt_extract (s : ByteArray) (a b : Nat) : byt (s.extract a b) = ((byt s).drop a).take (b - a) := by
  unfold byt
  rw [ByteArray.data_extract, Array.toList_extract, List.extract_eq_take_drop]
theorem byt_from (s : ByteArray) (a : Nat) : byt (s.extract a s.size) = (byt s).drop a := by
  rw [byt_extract, List.take_of_length_le (by simp [byt_length])]
theorem beq_int (a b : UInt8) : ((a.toNat : Int) == (b.toNat : Int)) = (a == b) := by
  rw [Bool.eq_iff_iff]
  simp only [beq_iff_eq]
  rw [← UInt8.toNat_inj]
  omega
theorem headK_at (p : UInt8 → Bool) (s : ByteArray) (h : 0 < s.size) : headK p (byt s) = p s[0] := by
  have := byt_at s 0 h
  cases hb : byt s with
  | nil => rw [← byt_length, hb] at h; simp at h
  | cons a t =>
    simp only [hb, List.getElem_cons_zero] at this
    rw [← this]; rfl
theorem byt_empty (s : ByteArray) : (byt s).isEmpty = decide (s.size = 0) := by
  rw [← byt_length]
  cases byt s <;> simp
theorem all_take {l : List UInt8} {q : UInt8 → Bool} {i : Nat} {b : UInt8} (h : (l.take i).all q = true) (hb : l[i]? = some b) (hq : q b = true) : (l.take (i + 1)).all q = true := by
  rw [List.take_add_one, hb, List.all_append, h]; simp [hq]
theorem all_no {l : List UInt8} {q : UInt8 → Bool} {i : Nat} {b : UInt8} (hb : l[i]? = some b) (hq : q b = false) : l.all q = false := by
  rw [List.all_eq_false]
  exact ⟨b, List.mem_of_getElem? hb, by rw [hq]; decide⟩
end Go.Proofs.YtdcfiphffbgocaaGreatDoor

/-
  package filter's letters, digits, rows and numbers.
-/
namespace Go.Proofs.YtdcfiphffbgocaaGreatDoor
open Go.RowKit

theorem toList_byt (s : ByteArray) : s.toList = byt s := by unfold byt; exact ByteArray.toList_eq s
theorem str_nil_ne (s : ByteArray) (h : ¬ s.size = 0) : (s.toList == []) = false := by
  rw [toList_byt, beq_eq_false_iff_ne]
  intro e
  exact h (by rw [← byt_length, e]; rfl)
theorem idx_run (s : ByteArray) (k : Nat) (h : k < s.size) (wx : World) : (Instr.index 9 (.string s) (.int .i64 (k : Int))).run Tryz.prog wx = .ok (.int .u8 s[k].toNat) wx := by
  simp [go_sem, h]
set_option maxHeartbeats 400000 in
theorem kLet_any (b : UInt8) (w : World) : Calls Tryz.prog 144 #[.int .u8 b.toNat] w fun e w' => e = .returned (.bool (kLet b)) ∧ w' = w := by
  have hb := b.toNat_lt
  have hu : kLet b = ((decide (97 ≤ b.toNat) && decide (b.toNat ≤ 122)) || (decide (65 ≤ b.toNat) && decide (b.toNat ≤ 90))) := rfl
  rw [hu]; clear hu
  generalize b.toNat = c at *
  rcases (show c < 65 ∨ (65 ≤ c ∧ c ≤ 90) ∨ (91 ≤ c ∧ c < 97) ∨ (97 ≤ c ∧ c ≤ 122) ∨ 123 ≤ c by omega) with h | ⟨h1, h2⟩ | ⟨h1, h2⟩ | ⟨h1, h2⟩ | h
  all_goals
    go_enter Tryz.func144, Tryz.ntmps144
    go_wp2
    go_ret
    refine ⟨ret_b ?_, rfl⟩
    first | rfl | (rw [Bool.eq_iff_iff]; simp; omega) | (rw [Bool.eq_iff_iff]; simp; done)
set_option maxHeartbeats 400000 in
theorem kDig_any (b : UInt8) (w : World) : Calls Tryz.prog 149 #[.int .u8 b.toNat] w fun e w' => e = .returned (.bool (kDig b)) ∧ w' = w := by
  have hb := b.toNat_lt
  have hu : kDig b = (decide (48 ≤ b.toNat) && decide (b.toNat ≤ 57)) := rfl
  rw [hu]; clear hu
  generalize b.toNat = c at *
  rcases (show c < 48 ∨ (48 ≤ c ∧ c ≤ 57) ∨ 58 ≤ c by omega) with h | ⟨h1, h2⟩ | h
  all_goals
    go_enter Tryz.func149, Tryz.ntmps149
    go_wp2
    go_ret
    refine ⟨ret_b ?_, rfl⟩
    first | rfl | (rw [Bool.eq_iff_iff]; simp; omega) | (rw [Bool.eq_iff_iff]; simp; done)

set_option maxHeartbeats 2000000 in
theorem isRow_any (s : ByteArray) (hs : s.size ≤ 281474976710656) (w : World) : Calls Tryz.prog 143 #[.string s] w fun e w' => e = .returned (.bool (kRow (byt s))) ∧ w' = w := by
  have hu : kRow (byt s) = ((byt s).all kInn && !(byt s).isEmpty) := rfl
  have huh : Hid (kRow (byt s) = _) := hu
  clear hu
  go_enter Tryz.func143, Tryz.ntmps143
  go_wp2
  go_loopg [6] s.size (fun n v wr => ∃ i : Nat, i ≤ s.size ∧ s.size - i ≤ n ∧ v = .int .i64 i ∧ wr = w ∧ Hid (((byt s).take i).all kInn = true))
  case atStart => exact ⟨0, by omega, by omega, rfl, rfl, rfl⟩
  case round =>
    obtain ⟨i, hi, hn, rfl, rfl, hall⟩ := hrel
    by_cases hlt : i < s.size
    · have hlti : (i : Int) < (s.size : Int) := by omega
      have h1 := fun w => kLet_any s[i] w
      have h2 := fun w => kDig_any s[i] w
      have hb : Hid ((byt s)[i]? = some s[i]) := byt_get s i hlt
      have ht : kInn s[i] = (kLet s[i] || kDig s[i] || ((s[i].toNat : Int) == 45)) := by
        unfold kInn; rw [← beq_int s[i] 45]; rfl
      have hth : Hid (kInn s[i] = _) := ht
      clear ht
      cases hq : kInn s[i]
      · have hv : Hid (kRow (byt s) = false) := by
          show _ = _
          rw [huh.out, Bool.and_eq_false_iff]
          left
          exact all_no hb.out hq
        have h3 := hth.out
        rw [hq] at h3
        clear hth hb hall huh hq
        generalize kLet s[i] = x at *
        generalize kDig s[i] = y at *
        cases x
        · cases y
          · have h4 : ((s[i].toNat : Int) == 45) = false := by simpa using h3.symm
            clear h3
            go_wp2_with (first | (go_at_call 144; refine (h1 _).mono ?_; rintro _ _ ⟨rfl, rfl⟩) | (go_at_call 149; refine (h2 _).mono ?_; rintro _ _ ⟨rfl, rfl⟩))
            go_ret
            exact ⟨ret_b hv.out.symm, rfl⟩
          · cases h3
        · cases h3
      · have h3 := hth.out
        rw [hq] at h3
        obtain ⟨m, rfl⟩ : ∃ m, gk = m + 1 := ⟨gk - 1, by omega⟩
        have hall2 : Hid (((byt s).take (i + 1)).all kInn = true) := all_take hall.out hb.out hq
        clear hth hb hall hq
        generalize kLet s[i] = x at *
        generalize kDig s[i] = y at *
        cases x
        · cases y
          · have h4 : ((s[i].toNat : Int) == 45) = true := by simpa using h3.symm
            clear h3
            go_wp2_with (first | (go_at_call 144; refine (h1 _).mono ?_; rintro _ _ ⟨rfl, rfl⟩) | (go_at_call 149; refine (h2 _).mono ?_; rintro _ _ ⟨rfl, rfl⟩))
            go_roundg m
            case measure => omega
            case rel => exact ⟨i + 1, by omega, by omega, by go_num, rfl, hall2⟩
          · clear h3
            go_wp2_with (first | (go_at_call 144; refine (h1 _).mono ?_; rintro _ _ ⟨rfl, rfl⟩) | (go_at_call 149; refine (h2 _).mono ?_; rintro _ _ ⟨rfl, rfl⟩))
            go_roundg m
            case measure => omega
            case rel => exact ⟨i + 1, by omega, by omega, by go_num, rfl, hall2⟩
        · clear h3
          go_wp2_with (first | (go_at_call 144; refine (h1 _).mono ?_; rintro _ _ ⟨rfl, rfl⟩) | (go_at_call 149; refine (h2 _).mono ?_; rintro _ _ ⟨rfl, rfl⟩))
          go_roundg m
          case measure => omega
          case rel => exact ⟨i + 1, by omega, by omega, by go_num, rfl, hall2⟩
    · have hlti : ¬ (i : Int) < (s.size : Int) := by omega
      have hse : s.size = i := by omega
      have hall2 : (byt s).all kInn = true := by
        have := hall.out
        rwa [List.take_of_length_le (by rw [byt_length]; omega)] at this
      have hv : Hid (kRow (byt s) = !(byt s).isEmpty) := by show _ = _; rw [huh.out, hall2]; rfl
      have he : s.toList.isEmpty = (byt s).isEmpty := by rw [ByteArray.toList_eq]; rfl
      clear hse hall hall2 huh
      generalize (byt s).isEmpty = q at *
      go_wp2
      go_ret
      exact ⟨ret_b (by rw [hv.out]), rfl⟩

set_option maxRecDepth 100000 in
set_option maxHeartbeats 2000000 in
theorem isNumber_any (s : ByteArray) (hs : s.size ≤ 281474976710656) (w : World) :
    Calls Tryz.prog 150 #[.string s] w fun e w' => e = .returned (.bool (kNum (byt s))) ∧ w' = w := by
  go_enter Tryz.func150, Tryz.ntmps150
  go_wp2
  go_loopw [3, 6] (fun _ i wr => ∃ k : Nat, k ≤ s.size ∧ i = .int .i64 k ∧ Hid (((byt s).take k).all kDig = true) ∧ wr = w) (fun _ i _ => s.size - (intOf i).toNat)
  case atStart => exact ⟨0, Nat.zero_le _, rfl, rfl, rfl⟩
  case round =>
    obtain ⟨k, hk, rfl, HA, rfl⟩ := hrel
    by_cases hlt : k < s.size
    · have hlt' : (k : Int) < (s.size : Int) := by omega
      have HB : Hid ((byt s)[k]? = some s[k]) := byt_get s k hlt
      have hix : ∀ wx, (Instr.index 9 (.string s) (.int .i64 k)).run Tryz.prog wx = .ok (.int .u8 s[k].toNat) wx := idx_run s k hlt
      generalize s[k] = b at hix HB
      have hcD := kDig_any b
      cases h2 : kDig b with
      | true =>
        have hg : Hid (((byt s).take (k + 1)).all kDig = true) := all_take HA.out HB.out h2
        rw [h2] at hcD
        clear h2 HB
        go_wp2_with (go_at_call 149; refine (hcD _).mono ?_; rintro e w2 ⟨rfl, rfl⟩)
        go_roundw
        case rel => exact ⟨k + 1, by omega, by go_num, hg, by trivial⟩
        case measure => simp [intOf]; omega
      | false =>
        have hb : Hid (kNum (byt s) = false) := by show _ = _; rw [kNum, all_no HB.out h2]; rfl
        rw [h2] at hcD
        clear h2 HB
        go_wp2_with (go_at_call 149; refine (hcD _).mono ?_; rintro e w2 ⟨rfl, rfl⟩)
        go_ret
        exact ⟨ret_b hb.out.symm, rfl⟩
    · have hlt' : ¬ (k : Int) < (s.size : Int) := by omega
      have HB : Hid (kNum (byt s) = (!decide (s.size = 0) && (!headK (· == 48) (byt s) || byt s == [48]))) := by
        show _ = _
        have := HA.out
        rw [List.take_of_length_le (by rw [byt_length]; omega)] at this
        rw [kNum, this, byt_empty]; simp
      clear HA
      by_cases h0 : s.size = 0
      · have e0 : s = ByteArray.empty := by
          have : byt s = [] := List.eq_nil_of_length_eq_zero (by rw [byt_length]; exact h0)
          rw [← str_byt s, this]; rfl
        have n1 : (s.toList == []) = true := by rw [e0, ByteArray.toList_eq]; rfl
        clear e0
        have HB' : Hid (kNum (byt s) = false) := by show _ = _; rw [HB.out]; simp [h0]
        clear HB h0
        go_wp2
        go_ret
        exact ⟨ret_b HB'.out.symm, rfl⟩
      · have n1 := str_nil_ne s h0
        have h0' : 0 < s.size := by omega
        have hix : ∀ wx, (Instr.index 9 (.string s) (.int .i64 0)).run Tryz.prog wx = .ok (.int .u8 s[0].toNat) wx := idx_run s 0 h0'
        have hh := headK_at (· == 48) s h0'
        rw [hh] at HB
        generalize s[0] = b at hix HB
        clear hh
        by_cases h3 : b.toNat = 48
        · obtain rfl : b = 48 := UInt8.toNat_inj.1 h3
          have hix' : ∀ wx, (Instr.index 9 (.string s) (.int .i64 0)).run Tryz.prog wx = .ok (.int .u8 48) wx := hix
          have HB' : Hid (kNum (byt s) = (s.toList == [48])) := by show _ = _; rw [HB.out, ByteArray.toList_eq]; simp [h0]; rfl
          clear HB h0 hix h3 h0'
          cases n2 : (s.toList == [48]) with
          | true =>
            rw [n2] at HB'
            go_wp2
            go_ret
            exact ⟨ret_b HB'.out.symm, rfl⟩
          | false =>
            rw [n2] at HB'
            go_wp2
            go_ret
            exact ⟨ret_b HB'.out.symm, rfl⟩
        · have h3' : ¬ (b.toNat : Int) = 48 := by omega
          have HB' : Hid (kNum (byt s) = true) := by
            show _ = _; rw [HB.out]; simp [h0]
            left; intro e; exact h3 (by rw [e]; rfl)
          clear HB h0 h3 h0'
          go_wp2
          go_ret
          exact ⟨ret_b HB'.out.symm, rfl⟩
end Go.Proofs.YtdcfiphffbgocaaGreatDoor
