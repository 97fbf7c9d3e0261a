/-
  Whole numbers as they are written: whether one is, and its sign and digits.
-/
import Derived.Test.YtbioickfookjeaaGreatDoorSpK
namespace Go.Proofs.YtbioickfookjeaaGreatDoor
open Go.RowKit

theorem head_byt (s : ByteArray) (h : 0 < s.size) : (byt s).head? = some s[0] := by
  have := drop_one s 0 h
  rw [List.drop_zero] at this
  rw [this]; rfl
theorem toList_byt (s : ByteArray) : s.toList = byt s := ByteArray.toList_eq s

set_option maxRecDepth 100000 in
set_option maxHeartbeats 2000000 in
theorem isCount_any (w : World) (s : ByteArray) (hs : s.size ≤ 140737488355328) :
    Calls Tryz.prog 280 #[.string s] w fun e w' => e = .returned (.bool (isCnt (byt s))) ∧ w' = w := by
  go_enter Tryz.func280, Tryz.ntmps280
  go_wp2
  go_loopw [6] (fun i wr => ∃ k : Nat, k ≤ s.size ∧ i = .int .i64 k ∧ ((byt s).take k).all isDig = true ∧ wr = w) (fun i _ => s.size - (intOf i).toNat)
  case atStart => exact ⟨0, Nat.zero_le _, rfl, rfl, rfl⟩
  case round =>
    obtain ⟨k, hk, rfl, hall, rfl⟩ := hrel
    have HA : Hid _ := hall
    clear hall
    by_cases hlt : k < s.size
    · have hb := s[k].toNat_lt
      cases hd : isDig s[k] with
      | true =>
        have hr : rDig (s[k].toNat : Int) = true := by rw [rDig_byte]; exact hd
        have HN : Hid _ := all_take_step s k hlt isDig HA.out hd
        clear hd
        go_wp2_with (go_at_call 278; refine (isDigit_any _ _).mono ?_; rintro e w' ⟨rfl, rfl⟩; rw [hr])
        go_roundw
        case rel => exact ⟨k + 1, by omega, by go_num, HN.out, trivial⟩
        case measure => simp [intOf]; omega
      | false =>
        have hr : rDig (s[k].toNat : Int) = false := by rw [rDig_byte]; exact hd
        have HN : Hid (isCnt (byt s) = false) := by
          show isCnt (byt s) = false
          unfold isCnt
          rw [all_bad s k hlt isDig hd]; rfl
        clear hd
        go_wp2_with (go_at_call 278; refine (isDigit_any _ _).mono ?_; rintro e w' ⟨rfl, rfl⟩; rw [hr])
        go_ret
        exact ⟨ret_b HN.out.symm, rfl⟩
    · have hall : (byt s).all isDig = true := by have := HA.out; rw [take_whole s k hlt] at this; exact this
      have HC : Hid (isCnt (byt s) = (byt s == [48] || (byt s != [] && (byt s).head? != some 48))) := by
        show isCnt (byt s) = _
        unfold isCnt; rw [hall]; rfl
      clear HA hall
      by_cases h48 : byt s = [48]
      · have hes : (s.toList == [48]) = true := by rw [toList_byt, h48]; rfl
        have HQ : Hid (isCnt (byt s) = true) := by show isCnt (byt s) = true; rw [h48]; rfl
        clear h48 HC
        go_wp2
        go_ret
        exact ⟨ret_b HQ.out.symm, rfl⟩
      · have hne : (s.toList == [48]) = false := by rw [toList_byt]; simpa using h48
        cases hem : s.toList.isEmpty with
        | true =>
          have hb : byt s = [] := (byt_nil_iff s).2 hem
          have HQ : Hid (isCnt (byt s) = false) := by show isCnt (byt s) = false; rw [hb]; rfl
          clear hb h48 HC
          go_wp2
          go_ret
          exact ⟨ret_b HQ.out.symm, rfl⟩
        | false =>
          have h0 : 0 < s.size := by
            rcases Nat.eq_zero_or_pos s.size with h | h
            · have : byt s = [] := List.eq_nil_of_length_eq_zero (by rw [byt_length]; exact h)
              rw [byt_nil_iff, hem] at this; cases this
            · exact h
          have hH := head_byt s h0
          have hb : byt s ≠ [] := fun e => by rw [byt_nil_iff, hem] at e; cases e
          have hb0 := s[0].toNat_lt
          have HQ : Hid (isCnt (byt s) = ((s[0].toNat : Int) != 48)) := by
            show isCnt (byt s) = _
            rw [HC.out, hH]
            rw [show (byt s == [48]) = false by simpa using h48, show (byt s != []) = true by simpa using hb]
            rw [Bool.false_or, Bool.true_and, Bool.eq_iff_iff]
            simp only [bne_iff_ne, ne_eq, Option.some.injEq]
            constructor
            · intro h e; exact h (UInt8.toNat_inj.1 (by show s[0].toNat = 48; omega))
            · intro h e; rw [e] at h; exact h rfl
          clear hH hb HC h48
          go_wp2
          go_ret
          exact ⟨ret_b HQ.out.symm, rfl⟩
end Go.Proofs.YtbioickfookjeaaGreatDoor
