/-
  Package schema's small functions: letters, digits, words, numbers, small letters: what they answer of any text.
-/
import Derived.Test.YtbioickfookjeaaGreatDoorXsee
import Derived.Lib.ConvBytes
import Derived.Laws.IdiomStrings
namespace Go.Proofs.YtbioickfookjeaaGreatDoor
open Go.RowKit

/-! plain -/
def rowC (b : UInt8) : Bool := isLet b || isDig b || b == 45
def rowB (l : List UInt8) : Bool := l.all rowC && !l.isEmpty
def headB (p : UInt8 → Bool) (l : List UInt8) : Bool := match l with | [] => false | b :: _ => p b
def swordB (l : List UInt8) : Bool := rowB l && headB isLet l
def snumB (l : List UInt8) : Bool := l.all isDig && !l.isEmpty && (!headB (· == 48) l || l == [48])
def lowL (l : List UInt8) : List UInt8 := l.map lowB

set_option maxHeartbeats 400000 in
theorem sDigit_any (r : Int) (w : World) :
    Calls Tryz.prog 249 #[.int .u8 r] w fun e w' => e = .returned (.bool (rDig r)) ∧ w' = w := by
  rcases (show r < 48 ∨ (48 ≤ r ∧ r ≤ 57) ∨ 58 ≤ r by omega) with h | ⟨h1, h2⟩ | h
  · have hv : Hid (rDig r = false) := by simp [Hid, rDig]; omega
    go_enter Tryz.func249, Tryz.ntmps249
    go_wp2
    go_ret
    exact ⟨ret_b (by first | exact hv.out.symm | (rw [hv.out]; simp; omega)), rfl⟩
  · have hv : Hid (rDig r = true) := by simp [Hid, rDig]; omega
    go_enter Tryz.func249, Tryz.ntmps249
    go_wp2
    go_ret
    exact ⟨ret_b (by first | exact hv.out.symm | (rw [hv.out]; simp; omega)), rfl⟩
  · have hv : Hid (rDig r = false) := by simp [Hid, rDig]; omega
    go_enter Tryz.func249, Tryz.ntmps249
    go_wp2
    go_ret
    exact ⟨ret_b (by first | exact hv.out.symm | (rw [hv.out]; simp; omega)), rfl⟩

set_option maxHeartbeats 400000 in
theorem sLetter_any (r : Int) (w : World) :
    Calls Tryz.prog 213 #[.int .u8 r] w fun e w' => e = .returned (.bool (rLet r)) ∧ w' = w := by
  rcases (show r < 65 ∨ (65 ≤ r ∧ r ≤ 90) ∨ (91 ≤ r ∧ r < 97) ∨ (97 ≤ r ∧ r ≤ 122) ∨ 123 ≤ r by omega) with h | ⟨h1, h2⟩ | ⟨h1, h2⟩ | ⟨h1, h2⟩ | h
  · have hv : Hid (rLet r = false) := by simp [Hid, rLet]; omega
    go_enter Tryz.func213, Tryz.ntmps213
    go_wp2
    go_ret
    exact ⟨ret_b (by first | exact hv.out.symm | (rw [hv.out]; simp; omega)), rfl⟩
  · have hv : Hid (rLet r = true) := by simp [Hid, rLet]; omega
    go_enter Tryz.func213, Tryz.ntmps213
    go_wp2
    go_ret
    exact ⟨ret_b (by first | exact hv.out.symm | (rw [hv.out]; simp; omega)), rfl⟩
  · have hv : Hid (rLet r = false) := by simp [Hid, rLet]; omega
    go_enter Tryz.func213, Tryz.ntmps213
    go_wp2
    go_ret
    exact ⟨ret_b (by first | exact hv.out.symm | (rw [hv.out]; simp; omega)), rfl⟩
  · have hv : Hid (rLet r = true) := by simp [Hid, rLet]; omega
    go_enter Tryz.func213, Tryz.ntmps213
    go_wp2
    go_ret
    exact ⟨ret_b (by first | exact hv.out.symm | (rw [hv.out]; simp; omega)), rfl⟩
  · have hv : Hid (rLet r = false) := by simp [Hid, rLet]; omega
    go_enter Tryz.func213, Tryz.ntmps213
    go_wp2
    go_ret
    exact ⟨ret_b (by first | exact hv.out.symm | (rw [hv.out]; simp; omega)), rfl⟩
theorem sDigit_byte (b : UInt8) (w : World) : Calls Tryz.prog 249 #[.int .u8 b.toNat] w fun e w' => e = .returned (.bool (isDig b)) ∧ w' = w := by
  rw [← rDig_byte]; exact sDigit_any _ w
theorem sLetter_byte (b : UInt8) (w : World) : Calls Tryz.prog 213 #[.int .u8 b.toNat] w fun e w' => e = .returned (.bool (isLet b)) ∧ w' = w := by
  rw [← rLet_byte]; exact sLetter_any _ w

/-- a byte of a text, in its list -/
theorem byt_at (s : ByteArray) (k : Nat) (h : k < s.size) : (byt s)[k]'(by rw [byt_length]; exact h) = s[k] := by
  have := byt_get s k h
  rw [List.getElem?_eq_getElem (by rw [byt_length]; exact h)] at this
  exact Option.some.inj this
theorem all_take (p : UInt8 → Bool) (s : ByteArray) (k : Nat) (h : k < s.size) (ha : ((byt s).take k).all p = true) : ((byt s).take (k + 1)).all p = p s[k] := by
  rw [List.take_succ_eq_append_getElem (by rw [byt_length]; exact h), List.all_append, ha, byt_at s k h]; simp
theorem all_not (p : UInt8 → Bool) (s : ByteArray) (k : Nat) (h : k < s.size) (hp : p s[k] = false) : (byt s).all p = false := by
  rw [List.all_eq_false]
  exact ⟨s[k], by rw [← byt_at s k h]; exact List.getElem_mem _, by simp [hp]⟩
theorem byt_empty (s : ByteArray) : (byt s).isEmpty = decide (s.size = 0) := by
  rw [← byt_length]
  cases byt s <;> simp
theorem str_nil_ne (s : ByteArray) (h : s.size ≠ 0) : (s.toList == []) = false := by
  rw [ByteArray.toList_eq]
  cases hs : s.data.toList with
  | nil => exact absurd (by rw [← byt_length, byt, hs]; rfl) h
  | cons a t => rfl

set_option maxRecDepth 100000 in
set_option maxHeartbeats 2000000 in
theorem isRow_any (w : World) (s : ByteArray) (hs : s.size ≤ 281474976710656) :
    Calls Tryz.prog 212 #[.string s] w fun e w' => e = .returned (.bool (rowB (byt s))) ∧ w' = w := by
  go_enter Tryz.func212, Tryz.ntmps212
  go_wp2
  go_loopw [3, 6] (fun _ i wr => ∃ k : Nat, k ≤ s.size ∧ i = .int .i64 k ∧ Hid (((byt s).take k).all rowC = true) ∧ wr = w) (fun _ i _ => s.size - (intOf i).toNat)
  case atStart => exact ⟨0, Nat.zero_le _, rfl, rfl, rfl⟩
  case round =>
    obtain ⟨k, hk, rfl, HA, rfl⟩ := hrel
    by_cases hlt : k < s.size
    · have hlt' : (k : Int) < (s.size : Int) := by omega
      have HN := all_take rowC s k hlt HA.out
      have HF := all_not rowC s k hlt
      obtain ⟨b, hb⟩ : ∃ b, s[k] = b := ⟨_, rfl⟩
      have hix : ∀ wx, (Instr.index 9 (.string s) (.int .i64 k)).run Tryz.prog wx = .ok (.int .u8 b.toNat) wx := by
        intro wx
        rw [← hb]
        simp [go_sem, hlt]
      rw [hb] at HN HF
      have HNh : Hid _ := HN
      have HFh : Hid _ := HF
      clear HN HF hb
      have hcL := sLetter_byte b
      have hcD := sDigit_byte b
      have good : Hid (rowC b = true) → Hid (((byt s).take (k + 1)).all rowC = true) := fun h => HNh.out.trans h.out
      have bad : Hid (rowC b = false) → Hid (rowB (byt s) = false) := fun h => by show rowB _ = false; rw [rowB, HFh.out h.out]; rfl
      clear HNh HFh
      cases h1 : isLet b with
      | true =>
        have hg := good (by show rowC b = true; simp [rowC, h1])
        rw [h1] at hcL
        clear h1 good bad
        go_wp2_with (go_at_call 213; refine (hcL _).mono ?_; rintro e w2 ⟨rfl, rfl⟩)
        go_roundw
        case rel => exact ⟨k + 1, by omega, by go_num, hg, by trivial⟩
        case measure => simp [intOf]; omega
      | false =>
        rw [h1] at hcL
        cases h2 : isDig b with
        | true =>
          have hg := good (by show rowC b = true; simp [rowC, h2])
          rw [h2] at hcD
          clear h1 h2 good bad
          go_wp2_with (first
            | (go_at_call 213; refine (hcL _).mono ?_; rintro e w2 ⟨rfl, rfl⟩)
            | (go_at_call 249; refine (hcD _).mono ?_; rintro e w2 ⟨rfl, rfl⟩))
          go_roundw
          case rel => exact ⟨k + 1, by omega, by go_num, hg, by trivial⟩
          case measure => simp [intOf]; omega
        | false =>
          rw [h2] at hcD
          by_cases h3 : b.toNat = 45
          · have hg := good (by show rowC b = true; simp [rowC, h1, h2]; exact UInt8.toNat_inj.1 h3)
            obtain rfl : b = 45 := UInt8.toNat_inj.1 h3
            have hcL' : ∀ w, Calls Tryz.prog 213 #[.int .u8 45] w fun e w' => e = .returned (.bool false) ∧ w' = w := sLetter_any 45
            have hcD' : ∀ w, Calls Tryz.prog 249 #[.int .u8 45] w fun e w' => e = .returned (.bool false) ∧ w' = w := sDigit_any 45
            have hix' : ∀ wx, (Instr.index 9 (.string s) (.int .i64 k)).run Tryz.prog wx = .ok (.int .u8 45) wx := hix
            clear h1 h2 good bad h3 hcL hcD hix
            go_wp2_with (first
              | (go_at_call 213; refine (hcL' _).mono ?_; rintro e w2 ⟨rfl, rfl⟩)
              | (go_at_call 249; refine (hcD' _).mono ?_; rintro e w2 ⟨rfl, rfl⟩))
            go_roundw
            case rel => exact ⟨k + 1, by omega, by go_num, hg, by trivial⟩
            case measure => simp [intOf]; omega
          · have h3' : ¬ (b.toNat : Int) = 45 := by omega
            have hb := bad (by show rowC b = false; simp [rowC, h1, h2]; intro e; exact h3 (by rw [e]; rfl))
            clear h1 h2 good bad h3
            go_wp2_with (first
              | (go_at_call 213; refine (hcL _).mono ?_; rintro e w2 ⟨rfl, rfl⟩)
              | (go_at_call 249; refine (hcD _).mono ?_; rintro e w2 ⟨rfl, rfl⟩))
            go_ret
            exact ⟨ret_b hb.out.symm, rfl⟩
    · have hlt' : ¬ (k : Int) < (s.size : Int) := by omega
      have HB : Hid (rowB (byt s) = !decide (s.size = 0)) := by
        show rowB _ = _
        have := HA.out
        rw [List.take_of_length_le (by rw [byt_length]; omega)] at this
        rw [rowB, this, byt_empty]; rfl
      clear HA
      by_cases h0 : s.size = 0
      · have e0 : s = ByteArray.empty := by
          have : byt s = [] := List.eq_nil_of_length_eq_zero (by rw [byt_length]; exact h0)
          rw [← str_byt s, this]; rfl
        have n1 : (s.toList == []) = true := by rw [e0, ByteArray.toList_eq]; rfl
        clear e0
        have HB' : Hid (rowB (byt s) = false) := by show _ = _; rw [HB.out]; simp [h0]
        clear HB h0
        go_wp2
        go_ret
        exact ⟨ret_b HB'.out.symm, rfl⟩
      · have n1 := str_nil_ne s h0
        have HB' : Hid (rowB (byt s) = true) := by show _ = _; rw [HB.out]; simp [h0]
        clear HB h0
        go_wp2
        go_ret
        exact ⟨ret_b HB'.out.symm, rfl⟩
end Go.Proofs.YtbioickfookjeaaGreatDoor
