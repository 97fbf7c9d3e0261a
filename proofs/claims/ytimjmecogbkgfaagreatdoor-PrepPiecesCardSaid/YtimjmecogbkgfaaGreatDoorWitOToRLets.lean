/-
  A world in which the listed tables read as their initialisers lay them: for the witness of each row.
-/
import Derived.Test.YtimjmecogbkgfaaGreatDoorAliveToReads
import Derived.Test.YtimjmecogbkgfaaGreatDoorAddToPd
import Derived.Test.YtimjmecogbkgfaaGreatDoorCode
import Derived.Test.YtimjmecogbkgfaaGreatDoorSndToSndW
namespace Go.Proofs.YtimjmecogbkgfaaGreatDoor
open Go.ChangeShapes Go.WideShapes Go.ChangeAt Go.RowKit

def tabCells : Array Value := ((List.range 9).flatMap fun k => [Value.int .u8 (rowF k), .int .u8 (rowL k), .int .u8 (rowA k), .int .u8 (rowZ k), .int .i64 (rowW k)]).toArray
/-- the cells of a table that is written out -/
def flatD : DataW Unit → List Value
  | .lit l => [l.value]
  | .agg ds => flatL ds
  | _ => []
where flatL : List (DataW Unit) → List Value
  | [] => []
  | d :: r => flatD d ++ flatL r
def layG (g : Nat) (cs : Array Value) (h : Array Obj) : Array Obj := h.modify g fun
  | .cells _ t frozen => .cells cs t frozen
  | o => o
noncomputable def baseWorld (os : Os) : World := World.holding Tryz.prog os ⟨#[.cells tabCells 92], #[], []⟩
noncomputable def heap1 (os : Os) : Array Obj := layG 0 #[.slice (some ⟨(World.settled Tryz.prog os).heap.size, 0, none⟩) 9 9] (baseWorld os).heap
noncomputable def heap2 (os : Os) : Array Obj := layG 5 (flatD Rows.laid_math_bits_deBruijn32tab).toArray (heap1 os)
noncomputable def heap3 (os : Os) : Array Obj := layG 6 (flatD Rows.laid_math_bits_deBruijn64tab).toArray (heap2 os)
noncomputable def heap4 (os : Os) : Array Obj := layG 4 (flatD Rows.laid_internal_strconv_uint64pow10).toArray (heap3 os)
noncomputable def heap5 (os : Os) : Array Obj := layG 2 (flatD Rows.laid_unicode_utf8_acceptRanges).toArray (heap4 os)
noncomputable def heap6 (os : Os) : Array Obj := layG 1 (flatD Rows.laid_unicode_utf8_first).toArray (heap5 os)
noncomputable def laidWorld (os : Os) : World := { baseWorld os with heap := heap6 os }
theorem laid_met (os : Os) (args : Array Value) : laidMet Tryz.prog Rows.prepOrderRow.laid ((laidWorld os).forCall (fun _ _ => 0) ⟨#[], args, []⟩).memory :=
  laidMet_of_run' 8 (by kernel_rfl) (by kernel_rfl)
end Go.Proofs.YtimjmecogbkgfaaGreatDoor

/-
  The document's own digit and digits.
-/
namespace Go.Proofs.YtimjmecogbkgfaaGreatDoor
open Go.RowKit

set_option maxHeartbeats 400000 in
theorem digit_r (b : UInt8) (w : World) :
    Calls Tryz.prog 50 #[.int .u8 b.toNat] w fun e w' => e = .returned (.bool (isDig b)) ∧ w' = w := by
  have hb := b.toNat_lt
  rcases (show b.toNat < 48 ∨ (48 ≤ b.toNat ∧ b.toNat ≤ 57) ∨ 58 ≤ b.toNat by omega) with h | ⟨h1, h2⟩ | h
  · have hv : Hid (isDig b = false) := by simp [Hid, isDig]; omega
    go_enter Tryz.func50, Tryz.ntmps50
    go_wp2
    go_ret
    exact ⟨ret_b (by first | exact hv.out.symm | (rw [hv.out]; simp; omega)), rfl⟩
  · have hv : Hid (isDig b = true) := by simp [Hid, isDig]; omega
    go_enter Tryz.func50, Tryz.ntmps50
    go_wp2
    go_ret
    exact ⟨ret_b (by first | exact hv.out.symm | (rw [hv.out]; simp; omega)), rfl⟩
  · have hv : Hid (isDig b = false) := by simp [Hid, isDig]; omega
    go_enter Tryz.func50, Tryz.ntmps50
    go_wp2
    go_ret
    exact ⟨ret_b (by first | exact hv.out.symm | (rw [hv.out]; simp; omega)), rfl⟩
/-- one digit or more and nothing else -/
def digsB (l : List UInt8) : Bool := l.all isDig && l != []
set_option maxRecDepth 100000 in
set_option maxHeartbeats 2000000 in
theorem digits_r (w : World) (s : ByteArray) (hs : s.size ≤ 140737488355328) :
    Calls Tryz.prog 84 #[.string s] w fun e w' => e = .returned (.bool (digsB (byt s))) ∧ w' = w := by
  go_enter Tryz.func84, Tryz.ntmps84
  go_wp2
  go_loopw [3] (fun i wr => ∃ k : Nat, k ≤ s.size ∧ i = .int .i64 k ∧ ((byt s).take k).all isDig = true ∧ wr = w) (fun i _ => s.size - (intOf i).toNat)
  case atStart => exact ⟨0, Nat.zero_le _, rfl, rfl, rfl⟩
  case round =>
    obtain ⟨k, hk, rfl, hall, rfl⟩ := hrel
    have HA : Hid _ := hall
    clear hall
    by_cases hlt : k < s.size
    · have hb := s[k].toNat_lt
      cases hd : isDig s[k] with
      | true =>
        have HN : Hid _ := all_take_step s k hlt isDig HA.out hd
        have hdr := fun w => digit_r s[k] w
        rw [hd] at hdr
        clear hd
        go_wp2_with (go_at_call 50; refine (hdr _).mono ?_; rintro e w' ⟨rfl, rfl⟩)
        go_roundw
        case rel => exact ⟨k + 1, by omega, by go_num, HN.out, trivial⟩
        case measure => simp [intOf]; omega
      | false =>
        have HN : Hid (digsB (byt s) = false) := by
          show digsB (byt s) = false
          unfold digsB
          rw [all_bad s k hlt isDig hd]; rfl
        have hdr := fun w => digit_r s[k] w
        rw [hd] at hdr
        clear hd
        go_wp2_with (go_at_call 50; refine (hdr _).mono ?_; rintro e w' ⟨rfl, rfl⟩)
        go_ret
        exact ⟨ret_b HN.out.symm, rfl⟩
    · have hall : (byt s).all isDig = true := by have := HA.out; rw [take_whole s k hlt] at this; exact this
      have HC : Hid (digsB (byt s) = decide (0 < s.size)) := by
        show digsB (byt s) = _
        unfold digsB; rw [hall, Bool.true_and, Bool.eq_iff_iff, bne_iff_ne, decide_eq_true_eq, ← byt_length, List.length_pos_iff]
      clear HA hall
      go_wp2
      go_ret
      exact ⟨ret_b (by rw [HC.out]), rfl⟩
end Go.Proofs.YtimjmecogbkgfaaGreatDoor

/-
  The document's own letter and small.
-/
namespace Go.Proofs.YtimjmecogbkgfaaGreatDoor
open Go.RowKit

set_option maxHeartbeats 1000000 in
theorem letter_r (b : UInt8) (w : World) :
    Calls Tryz.prog 51 #[.int .u8 b.toNat] w fun e w' => e = .returned (.bool (isLet b)) ∧ w' = w := by
  have hb := b.toNat_lt
  rcases (show b.toNat < 65 ∨ (65 ≤ b.toNat ∧ b.toNat ≤ 90) ∨ (91 ≤ b.toNat ∧ b.toNat < 97) ∨ (97 ≤ b.toNat ∧ b.toNat ≤ 122) ∨ 123 ≤ b.toNat by omega) with h | ⟨h1, h2⟩ | ⟨h1, h2⟩ | ⟨h1, h2⟩ | h
  · have hv : Hid (isLet b = false) := by simp [Hid, isLet]; omega
    go_enter Tryz.func51, Tryz.ntmps51
    go_wp2
    go_ret
    exact ⟨ret_b (by first | exact hv.out.symm | (rw [hv.out]; simp; omega)), rfl⟩
  · have hv : Hid (isLet b = true) := by simp [Hid, isLet]; omega
    go_enter Tryz.func51, Tryz.ntmps51
    go_wp2
    go_ret
    exact ⟨ret_b (by first | exact hv.out.symm | (rw [hv.out]; simp; omega)), rfl⟩
  · have hv : Hid (isLet b = false) := by simp [Hid, isLet]; omega
    go_enter Tryz.func51, Tryz.ntmps51
    go_wp2
    go_ret
    exact ⟨ret_b (by first | exact hv.out.symm | (rw [hv.out]; simp; omega)), rfl⟩
  · have hv : Hid (isLet b = true) := by simp [Hid, isLet]; omega
    go_enter Tryz.func51, Tryz.ntmps51
    go_wp2
    go_ret
    exact ⟨ret_b (by first | exact hv.out.symm | (rw [hv.out]; simp; omega)), rfl⟩
  · have hv : Hid (isLet b = false) := by simp [Hid, isLet]; omega
    go_enter Tryz.func51, Tryz.ntmps51
    go_wp2
    go_ret
    exact ⟨ret_b (by first | exact hv.out.symm | (rw [hv.out]; simp; omega)), rfl⟩
set_option maxHeartbeats 1000000 in
theorem small_r (b : UInt8) (w : World) :
    Calls Tryz.prog 48 #[.int .u8 b.toNat] w fun e w' => e = .returned (.int .u8 (lowB b).toNat) ∧ w' = w := by
  have hb := b.toNat_lt
  have hl := rLow_byte b
  rcases (show b.toNat < 65 ∨ (65 ≤ b.toNat ∧ b.toNat ≤ 90) ∨ 91 ≤ b.toNat by omega) with h | ⟨h1, h2⟩ | h
  · have hv : Hid (((lowB b).toNat : Int) = b.toNat) := by show _ = _; rw [← hl]; unfold rLow; rw [if_neg]; simp; omega
    clear hl
    go_enter Tryz.func48, Tryz.ntmps48
    go_wp2
    go_ret
    exact ⟨ret_i hv.out.symm, rfl⟩
  · have hv : Hid (((lowB b).toNat : Int) = b.toNat + 32) := by show _ = _; rw [← hl]; unfold rLow; rw [if_pos]; simp; omega
    clear hl
    go_enter Tryz.func48, Tryz.ntmps48
    go_wp2
    go_ret
    exact ⟨ret_i (by rw [hv.out]; omega), rfl⟩
  · have hv : Hid (((lowB b).toNat : Int) = b.toNat) := by show _ = _; rw [← hl]; unfold rLow; rw [if_neg]; simp; omega
    clear hl
    go_enter Tryz.func48, Tryz.ntmps48
    go_wp2
    go_ret
    exact ⟨ret_i hv.out.symm, rfl⟩
end Go.Proofs.YtimjmecogbkgfaaGreatDoor
