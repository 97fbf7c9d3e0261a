/-
  The contracts of the calls of package octet that touch no memory.
-/
import Derived.Test.YtkbbkhdbigjngaaGreatDoorMath
import Derived.Test.YtkbbkhdbigjngaaGreatDoorChecked
import Derived.WalkKit
import Derived.WalkSpells
import Derived.WalkLawsBesides
namespace Go.Proofs.YtkbbkhdbigjngaaGreatDoor
open Go.RowKit

theorem ret_ib {k : IntKind} {a b : Int} {x y : Bool} (h : a = b) (hx : x = y) : Ending.returned (.tuple #[.int k a, .bool x]) = .returned (.tuple #[.int k b, .bool y]) := by rw [h, hx]
theorem ret_i {k : IntKind} {a b : Int} (h : a = b) : Ending.returned (.int k a) = .returned (.int k b) := by rw [h]
theorem ret_s {a b : ByteArray} (h : a = b) : Ending.returned (.string a) = .returned (.string b) := by rw [h]
theorem ret_se {a b : ByteArray} {x y : Int} (h : a = b) (hx : x = y) : Ending.returned (.tuple #[.string a, .int .i64 x]) = .returned (.tuple #[.string b, .int .i64 y]) := by rw [h, hx]
theorem ret_b {x y : Bool} (h : x = y) : Ending.returned (.bool x) = .returned (.bool y) := by rw [h]

set_option maxHeartbeats 400000 in
theorem smallDigit_any (c : Nat) (hc : c < 256) (w : World) :
    Calls Tryz.prog 107 #[.int .u8 c] w fun e w' => e = .returned (.tuple #[.int .u8 (sdigV c), .bool (sdigB c)]) ∧ w' = w := by
  rcases (show c < 48 ∨ (48 ≤ c ∧ c ≤ 57) ∨ (58 ≤ c ∧ c ≤ 96) ∨ (97 ≤ c ∧ c ≤ 102) ∨ 103 ≤ c by omega) with h | ⟨h1, h2⟩ | ⟨h1, h2⟩ | ⟨h1, h2⟩ | h
  · have e := sdig_no (c := c) (by omega) (by omega)
    have hv : Hid (sdigV c = 0 ∧ sdigB c = false) := by simp [Hid, sdigV, sdigB, e]
    clear e
    go_enter Tryz.func107, Tryz.ntmps107
    go_wp2
    go_ret2
    exact ⟨ret_ib (by rw [hv.out.1]; rfl) hv.out.2.symm, rfl⟩
  · have e := sdig_num h1 h2
    have hv : Hid (sdigV c = c - 48 ∧ sdigB c = true) := by simp [Hid, sdigV, sdigB, e]
    clear e
    go_enter Tryz.func107, Tryz.ntmps107
    go_wp2
    go_ret2
    exact ⟨ret_ib (by rw [hv.out.1]; omega) hv.out.2.symm, rfl⟩
  · have e := sdig_no (c := c) (by omega) (by omega)
    have hv : Hid (sdigV c = 0 ∧ sdigB c = false) := by simp [Hid, sdigV, sdigB, e]
    clear e
    go_enter Tryz.func107, Tryz.ntmps107
    go_wp2
    go_ret2
    exact ⟨ret_ib (by rw [hv.out.1]; rfl) hv.out.2.symm, rfl⟩
  · have e := sdig_let h1 h2
    have hv : Hid (sdigV c = c - 87 ∧ sdigB c = true) := by simp [Hid, sdigV, sdigB, e]
    clear e
    go_enter Tryz.func107, Tryz.ntmps107
    go_wp2
    go_ret2
    exact ⟨ret_ib (by rw [hv.out.1]; omega) hv.out.2.symm, rfl⟩
  · have e := sdig_no (c := c) (by omega) (by omega)
    have hv : Hid (sdigV c = 0 ∧ sdigB c = false) := by simp [Hid, sdigV, sdigB, e]
    clear e
    go_enter Tryz.func107, Tryz.ntmps107
    go_wp2
    go_ret2
    exact ⟨ret_ib (by rw [hv.out.1]; rfl) hv.out.2.symm, rfl⟩

set_option maxHeartbeats 400000 in
theorem anyDigit_any (c : Nat) (hc : c < 256) (w : World) :
    Calls Tryz.prog 106 #[.int .u8 c] w fun e w' => e = .returned (.tuple #[.int .u8 (adigV c), .bool (adigB c)]) ∧ w' = w := by
  rcases (show c < 65 ∨ (65 ≤ c ∧ c ≤ 70) ∨ 71 ≤ c by omega) with h | ⟨h1, h2⟩ | h
  · have hv : Hid (adigV c = sdigV c ∧ adigB c = sdigB c) := by
      have : adig c = sdig c := by unfold adig; rw [if_neg (by omega)]
      simp [Hid, adigV, adigB, sdigV, sdigB, this]
    go_enter Tryz.func106, Tryz.ntmps106
    go_wp2_with (go_at_call 107; refine (smallDigit_any _ hc _).mono ?_; rintro e w' ⟨rfl, rfl⟩)
    go_ret2
    exact ⟨ret_ib (by rw [hv.out.1]) hv.out.2.symm, rfl⟩
  · have hv : Hid (adigV c = c - 55 ∧ adigB c = true) := by
      have : adig c = some (c - 55) := by unfold adig; rw [if_pos ⟨h1, h2⟩]
      simp [Hid, adigV, adigB, this]
    go_enter Tryz.func106, Tryz.ntmps106
    go_wp2
    go_ret2
    exact ⟨ret_ib (by rw [hv.out.1]; omega) hv.out.2.symm, rfl⟩
  · have hv : Hid (adigV c = sdigV c ∧ adigB c = sdigB c) := by
      have : adig c = sdig c := by unfold adig; rw [if_neg (by omega)]
      simp [Hid, adigV, adigB, sdigV, sdigB, this]
    go_enter Tryz.func106, Tryz.ntmps106
    go_wp2_with (go_at_call 107; refine (smallDigit_any _ hc _).mono ?_; rintro e w' ⟨rfl, rfl⟩)
    go_ret2
    exact ⟨ret_ib (by rw [hv.out.1]) hv.out.2.symm, rfl⟩

set_option maxHeartbeats 400000 in
theorem reserved_any (c : Nat) (hc : c < 256) (w : World) :
    Calls Tryz.prog 82 #[.int .u8 c] w fun e w' => e = .returned (.bool (resv c)) ∧ w' = w := by
  by_cases h0 : c = 0
  · subst h0; go_enter Tryz.func82, Tryz.ntmps82; go_wp2; go_ret; exact ⟨rfl, rfl⟩
  by_cases h1 : c = 40
  · subst h1; go_enter Tryz.func82, Tryz.ntmps82; go_wp2; go_ret; exact ⟨rfl, rfl⟩
  by_cases h2 : c = 41
  · subst h2; go_enter Tryz.func82, Tryz.ntmps82; go_wp2; go_ret; exact ⟨rfl, rfl⟩
  by_cases h3 : c = 42
  · subst h3; go_enter Tryz.func82, Tryz.ntmps82; go_wp2; go_ret; exact ⟨rfl, rfl⟩
  by_cases h4 : c = 92
  · subst h4; go_enter Tryz.func82, Tryz.ntmps82; go_wp2; go_ret; exact ⟨rfl, rfl⟩
  have hr : Hid (resv c = false) := by simp [Hid, resv, h0, h1, h2, h3, h4]
  have g0 : ((c : Int) == 0) = false := by simp; omega
  have g1 : ((c : Int) == 40) = false := by simp; omega
  have g2 : ((c : Int) == 41) = false := by simp; omega
  have g3 : ((c : Int) == 42) = false := by simp; omega
  have g4 : ((c : Int) == 92) = false := by simp; omega
  go_enter Tryz.func82, Tryz.ntmps82
  go_wp2
  go_ret
  exact ⟨ret_b hr.out.symm, rfl⟩

end Go.Proofs.YtkbbkhdbigjngaaGreatDoor
