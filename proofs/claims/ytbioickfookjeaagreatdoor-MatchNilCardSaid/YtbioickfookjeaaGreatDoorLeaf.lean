/-
  The contracts of package prep's small functions: digits, letters.
-/
import Derived.Test.YtbioickfookjeaaGreatDoorPt
import Derived.Test.YtbioickfookjeaaGreatDoorChecked
import Derived.WalkKit
import Derived.WalkSpells
import Derived.WalkLawsBesides
namespace Go.Proofs.YtbioickfookjeaaGreatDoor
open Go.RowKit

theorem ret_ib {k : IntKind} {a b : Int} {x y : Bool} (h : a = b) (hx : x = y) : Ending.returned (.tuple #[.int k a, .bool x]) = .returned (.tuple #[.int k b, .bool y]) := by rw [h, hx]
theorem ret_i {k : IntKind} {a b : Int} (h : a = b) : Ending.returned (.int k a) = .returned (.int k b) := by rw [h]
theorem ret_s {a b : ByteArray} (h : a = b) : Ending.returned (.string a) = .returned (.string b) := by rw [h]
theorem ret_sb {a b : ByteArray} {x y : Bool} (h : a = b) (hx : x = y) : Ending.returned (.tuple #[.string a, .bool x]) = .returned (.tuple #[.string b, .bool y]) := by rw [h, hx]
theorem ret_b {x y : Bool} (h : x = y) : Ending.returned (.bool x) = .returned (.bool y) := by rw [h]

def rDig (r : Int) : Bool := decide (48 ≤ r) && decide (r ≤ 57)
def rLet (r : Int) : Bool := (decide (97 ≤ r) && decide (r ≤ 122)) || (decide (65 ≤ r) && decide (r ≤ 90))
def rLow (r : Int) : Int := if decide (65 ≤ r) && decide (r ≤ 90) then r + 32 else r

set_option maxHeartbeats 400000 in
theorem isDigit_any (r : Int) (w : World) :
    Calls Tryz.prog 278 #[.int .i32 r] w fun e w' => e = .returned (.bool (rDig r)) ∧ w' = w := by
  rcases (show r < 48 ∨ (48 ≤ r ∧ r ≤ 57) ∨ 58 ≤ r by omega) with h | ⟨h1, h2⟩ | h
  · have hv : Hid (rDig r = false) := by simp [Hid, rDig]; omega
    go_enter Tryz.func278, Tryz.ntmps278
    go_wp2
    go_ret
    exact ⟨ret_b (by first | exact hv.out.symm | (rw [hv.out]; simp; omega)), rfl⟩
  · have hv : Hid (rDig r = true) := by simp [Hid, rDig]; omega
    go_enter Tryz.func278, Tryz.ntmps278
    go_wp2
    go_ret
    exact ⟨ret_b (by first | exact hv.out.symm | (rw [hv.out]; simp; omega)), rfl⟩
  · have hv : Hid (rDig r = false) := by simp [Hid, rDig]; omega
    go_enter Tryz.func278, Tryz.ntmps278
    go_wp2
    go_ret
    exact ⟨ret_b (by first | exact hv.out.symm | (rw [hv.out]; simp; omega)), rfl⟩

set_option maxHeartbeats 400000 in
theorem isLetter_any (r : Int) (w : World) :
    Calls Tryz.prog 150 #[.int .i32 r] w fun e w' => e = .returned (.bool (rLet r)) ∧ w' = w := by
  rcases (show r < 65 ∨ (65 ≤ r ∧ r ≤ 90) ∨ (91 ≤ r ∧ r < 97) ∨ (97 ≤ r ∧ r ≤ 122) ∨ 123 ≤ r by omega) with h | ⟨h1, h2⟩ | ⟨h1, h2⟩ | ⟨h1, h2⟩ | h
  · have hv : Hid (rLet r = false) := by simp [Hid, rLet]; omega
    go_enter Tryz.func150, Tryz.ntmps150
    go_wp2
    go_ret
    exact ⟨ret_b (by first | exact hv.out.symm | (rw [hv.out]; simp; omega)), rfl⟩
  · have hv : Hid (rLet r = true) := by simp [Hid, rLet]; omega
    go_enter Tryz.func150, Tryz.ntmps150
    go_wp2
    go_ret
    exact ⟨ret_b (by first | exact hv.out.symm | (rw [hv.out]; simp; omega)), rfl⟩
  · have hv : Hid (rLet r = false) := by simp [Hid, rLet]; omega
    go_enter Tryz.func150, Tryz.ntmps150
    go_wp2
    go_ret
    exact ⟨ret_b (by first | exact hv.out.symm | (rw [hv.out]; simp; omega)), rfl⟩
  · have hv : Hid (rLet r = true) := by simp [Hid, rLet]; omega
    go_enter Tryz.func150, Tryz.ntmps150
    go_wp2
    go_ret
    exact ⟨ret_b (by first | exact hv.out.symm | (rw [hv.out]; simp; omega)), rfl⟩
  · have hv : Hid (rLet r = false) := by simp [Hid, rLet]; omega
    go_enter Tryz.func150, Tryz.ntmps150
    go_wp2
    go_ret
    exact ⟨ret_b (by first | exact hv.out.symm | (rw [hv.out]; simp; omega)), rfl⟩

set_option maxHeartbeats 400000 in
theorem smallLetter_any (r : Int) (w : World) (h1 : -2147483648 ≤ r) (h2 : r ≤ 2147483647) :
    Calls Tryz.prog 151 #[.int .i32 r] w fun e w' => e = .returned (.int .i32 (rLow r)) ∧ w' = w := by
  rcases (show r < 65 ∨ (65 ≤ r ∧ r ≤ 90) ∨ 91 ≤ r by omega) with h | ⟨h1, h2⟩ | h
  · have hv : Hid (rLow r = r) := by show rLow r = r; unfold rLow; rw [if_neg]; simp; omega
    go_enter Tryz.func151, Tryz.ntmps151
    go_wp2
    go_ret
    exact ⟨ret_i hv.out.symm, rfl⟩
  · have hv : Hid (rLow r = r + 32) := by show rLow r = r + 32; unfold rLow; rw [if_pos]; simp; omega
    go_enter Tryz.func151, Tryz.ntmps151
    go_wp2
    go_ret
    exact ⟨ret_i (by rw [hv.out]; omega), rfl⟩
  · have hv : Hid (rLow r = r) := by show rLow r = r; unfold rLow; rw [if_neg]; simp; omega
    go_enter Tryz.func151, Tryz.ntmps151
    go_wp2
    go_ret
    exact ⟨ret_i hv.out.symm, rfl⟩
/-- of a byte -/
theorem rDig_byte (b : UInt8) : rDig (b.toNat : Int) = isDig b := by
  unfold rDig isDig
  congr 1 <;> (rw [decide_eq_decide]; omega)
theorem rLet_byte (b : UInt8) : rLet (b.toNat : Int) = isLet b := by
  unfold rLet isLet
  congr 1 <;> (congr 1 <;> (rw [decide_eq_decide]; omega))
theorem rLow_byte (b : UInt8) : rLow (b.toNat : Int) = ((lowB b).toNat : Int) := by
  unfold rLow lowB
  by_cases h : 65 ≤ b.toNat ∧ b.toNat ≤ 90
  · rw [if_pos (by simp; omega), if_pos (by simp; omega)]
    have : b.toNat + 32 < 256 := by omega
    simp [Nat.mod_eq_of_lt this]
  · rw [if_neg (by simp; omega), if_neg (by simp; omega)]
theorem rLet_high (r : Int) (h : 128 ≤ r) : rLet r = false := by unfold rLet; simp; omega
theorem rDig_high (r : Int) (h : 128 ≤ r) : rDig r = false := by unfold rDig; simp; omega
theorem rLow_high (r : Int) (h : 128 ≤ r) : rLow r = r := by unfold rLow; rw [if_neg]; simp; omega
end Go.Proofs.YtbioickfookjeaaGreatDoor
