/-
  The document's own digit and digits.
-/
import Derived.Test.YtkiaacphkmajeaaGreatDoorAdd
import Derived.Test.YtkiaacphkmajeaaGreatDoorCode
namespace Go.Proofs.YtkiaacphkmajeaaGreatDoor
open Go.RowKit

set_option maxHeartbeats 400000 in
theorem digit_r (b : UInt8) (w : World) :
    Calls Tryz.prog 52 #[.int .u8 b.toNat] w fun e w' => e = .returned (.bool (isDig b)) ∧ w' = w := by
  have hb := b.toNat_lt
  rcases (show b.toNat < 48 ∨ (48 ≤ b.toNat ∧ b.toNat ≤ 57) ∨ 58 ≤ b.toNat by omega) with h | ⟨h1, h2⟩ | h
  · have hv : Hid (isDig b = false) := by simp [Hid, isDig]; omega
    go_enter Tryz.func52, Tryz.ntmps52
    go_wp2
    go_ret
    exact ⟨ret_b (by first | exact hv.out.symm | (rw [hv.out]; simp; omega)), rfl⟩
  · have hv : Hid (isDig b = true) := by simp [Hid, isDig]; omega
    go_enter Tryz.func52, Tryz.ntmps52
    go_wp2
    go_ret
    exact ⟨ret_b (by first | exact hv.out.symm | (rw [hv.out]; simp; omega)), rfl⟩
  · have hv : Hid (isDig b = false) := by simp [Hid, isDig]; omega
    go_enter Tryz.func52, Tryz.ntmps52
    go_wp2
    go_ret
    exact ⟨ret_b (by first | exact hv.out.symm | (rw [hv.out]; simp; omega)), rfl⟩
/-- one digit or more and nothing else -/
def digsB (l : List UInt8) : Bool := l.all isDig && l != []
set_option maxRecDepth 100000 in
set_option maxHeartbeats 2000000 in
theorem digits_r (w : World) (s : ByteArray) (hs : s.size ≤ 140737488355328) :
    Calls Tryz.prog 70 #[.string s] w fun e w' => e = .returned (.bool (digsB (byt s))) ∧ w' = w := by
  go_enter Tryz.func70, Tryz.ntmps70
  go_wp2
  go_loopw [3] (fun i wr => ∃ k : Nat, k ≤ s.size ∧ i = .int .i64 k ∧ ((byt s).take k).all isDig = true ∧ wr = w) (fun i _ => s.size - (intOf i).toNat)
  case atStart => exact ⟨0, Nat.zero_le _, rfl, rfl, rfl⟩
  case round =>
    obtain ⟨k, hk, rfl, hall, rfl⟩ := hrel
    have HA : Hid _ := hall
    clear hall
    by_cases hlt : k < s.size
    · have hb := s[k].toNat_lt
      cases hd : isDig s[k] with
      | true =>
        have HN : Hid _ := all_take_step s k hlt isDig HA.out hd
        have hdr := fun w => digit_r s[k] w
        rw [hd] at hdr
        clear hd
        go_wp2_with (go_at_call 52; refine (hdr _).mono ?_; rintro e w' ⟨rfl, rfl⟩)
        go_roundw
        case rel => exact ⟨k + 1, by omega, by go_num, HN.out, trivial⟩
        case measure => simp [intOf]; omega
      | false =>
        have HN : Hid (digsB (byt s) = false) := by
          show digsB (byt s) = false
          unfold digsB
          rw [all_bad s k hlt isDig hd]; rfl
        have hdr := fun w => digit_r s[k] w
        rw [hd] at hdr
        clear hd
        go_wp2_with (go_at_call 52; refine (hdr _).mono ?_; rintro e w' ⟨rfl, rfl⟩)
        go_ret
        exact ⟨ret_b HN.out.symm, rfl⟩
    · have hall : (byt s).all isDig = true := by have := HA.out; rw [take_whole s k hlt] at this; exact this
      have HC : Hid (digsB (byt s) = decide (0 < s.size)) := by
        show digsB (byt s) = _
        unfold digsB; rw [hall, Bool.true_and, Bool.eq_iff_iff, bne_iff_ne, decide_eq_true_eq, ← byt_length, List.length_pos_iff]
      clear HA hall
      go_wp2
      go_ret
      exact ⟨ret_b (by rw [HC.out]), rfl⟩
end Go.Proofs.YtkiaacphkmajeaaGreatDoor
