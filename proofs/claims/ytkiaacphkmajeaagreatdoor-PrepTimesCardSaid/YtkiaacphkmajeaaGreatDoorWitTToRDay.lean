/-
  A world in which the listed tables read as their initialisers lay them: for the witness of each row.
-/
import Derived.Test.YtkiaacphkmajeaaGreatDoorAliveToReads
import Derived.Test.YtkiaacphkmajeaaGreatDoorAdd
import Derived.Test.YtkiaacphkmajeaaGreatDoorCode
import Derived.Test.YtkiaacphkmajeaaGreatDoorPd
namespace Go.Proofs.YtkiaacphkmajeaaGreatDoor
open Go.ChangeShapes Go.WideShapes Go.ChangeAt Go.RowKit

def tabCells : Array Value := ((List.range 9).flatMap fun k => [Value.int .u8 (rowF k), .int .u8 (rowL k), .int .u8 (rowA k), .int .u8 (rowZ k), .int .i64 (rowW k)]).toArray
/-- the cells of a table that is written out -/
def flatD : DataW Unit → List Value
  | .lit l => [l.value]
  | .agg ds => flatL ds
  | _ => []
where flatL : List (DataW Unit) → List Value
  | [] => []
  | d :: r => flatD d ++ flatL r
def layG (g : Nat) (cs : Array Value) (h : Array Obj) : Array Obj := h.modify g fun
  | .cells _ t frozen => .cells cs t frozen
  | o => o
noncomputable def baseWorld (os : Os) : World := World.holding Tryz.prog os ⟨#[.cells tabCells 118], #[], []⟩
noncomputable def heap1 (os : Os) : Array Obj := layG 0 #[.slice (some ⟨(World.settled Tryz.prog os).heap.size, 0, none⟩) 9 9] (baseWorld os).heap
noncomputable def heap2 (os : Os) : Array Obj := layG 5 (flatD Rows.laid_math_bits_deBruijn32tab).toArray (heap1 os)
noncomputable def heap3 (os : Os) : Array Obj := layG 6 (flatD Rows.laid_math_bits_deBruijn64tab).toArray (heap2 os)
noncomputable def heap4 (os : Os) : Array Obj := layG 4 (flatD Rows.laid_internal_strconv_uint64pow10).toArray (heap3 os)
noncomputable def heap5 (os : Os) : Array Obj := layG 2 (flatD Rows.laid_unicode_utf8_acceptRanges).toArray (heap4 os)
noncomputable def heap6 (os : Os) : Array Obj := layG 1 (flatD Rows.laid_unicode_utf8_first).toArray (heap5 os)
noncomputable def laidWorld (os : Os) : World := { baseWorld os with heap := heap6 os }
theorem laid_met (os : Os) (args : Array Value) : laidMet Tryz.prog Rows.prepTimesRow.laid ((laidWorld os).forCall (fun _ _ => 0) ⟨#[], args, []⟩).memory :=
  laidMet_of_run' 8 (by kernel_rfl) (by kernel_rfl)
end Go.Proofs.YtkiaacphkmajeaaGreatDoor

/-
  The document's own digit and digits.
-/
namespace Go.Proofs.YtkiaacphkmajeaaGreatDoor
open Go.RowKit

set_option maxHeartbeats 400000 in
theorem digit_r (b : UInt8) (w : World) :
    Calls Tryz.prog 52 #[.int .u8 b.toNat] w fun e w' => e = .returned (.bool (isDig b)) ∧ w' = w := by
  have hb := b.toNat_lt
  rcases (show b.toNat < 48 ∨ (48 ≤ b.toNat ∧ b.toNat ≤ 57) ∨ 58 ≤ b.toNat by omega) with h | ⟨h1, h2⟩ | h
  · have hv : Hid (isDig b = false) := by simp [Hid, isDig]; omega
    go_enter Tryz.func52, Tryz.ntmps52
    go_wp2
    go_ret
    exact ⟨ret_b (by first | exact hv.out.symm | (rw [hv.out]; simp; omega)), rfl⟩
  · have hv : Hid (isDig b = true) := by simp [Hid, isDig]; omega
    go_enter Tryz.func52, Tryz.ntmps52
    go_wp2
    go_ret
    exact ⟨ret_b (by first | exact hv.out.symm | (rw [hv.out]; simp; omega)), rfl⟩
  · have hv : Hid (isDig b = false) := by simp [Hid, isDig]; omega
    go_enter Tryz.func52, Tryz.ntmps52
    go_wp2
    go_ret
    exact ⟨ret_b (by first | exact hv.out.symm | (rw [hv.out]; simp; omega)), rfl⟩
/-- one digit or more and nothing else -/
def digsB (l : List UInt8) : Bool := l.all isDig && l != []
set_option maxRecDepth 100000 in
set_option maxHeartbeats 2000000 in
theorem digits_r (w : World) (s : ByteArray) (hs : s.size ≤ 140737488355328) :
    Calls Tryz.prog 70 #[.string s] w fun e w' => e = .returned (.bool (digsB (byt s))) ∧ w' = w := by
  go_enter Tryz.func70, Tryz.ntmps70
  go_wp2
  go_loopw [3] (fun i wr => ∃ k : Nat, k ≤ s.size ∧ i = .int .i64 k ∧ ((byt s).take k).all isDig = true ∧ wr = w) (fun i _ => s.size - (intOf i).toNat)
  case atStart => exact ⟨0, Nat.zero_le _, rfl, rfl, rfl⟩
  case round =>
    obtain ⟨k, hk, rfl, hall, rfl⟩ := hrel
    have HA : Hid _ := hall
    clear hall
    by_cases hlt : k < s.size
    · have hb := s[k].toNat_lt
      cases hd : isDig s[k] with
      | true =>
        have HN : Hid _ := all_take_step s k hlt isDig HA.out hd
        have hdr := fun w => digit_r s[k] w
        rw [hd] at hdr
        clear hd
        go_wp2_with (go_at_call 52; refine (hdr _).mono ?_; rintro e w' ⟨rfl, rfl⟩)
        go_roundw
        case rel => exact ⟨k + 1, by omega, by go_num, HN.out, trivial⟩
        case measure => simp [intOf]; omega
      | false =>
        have HN : Hid (digsB (byt s) = false) := by
          show digsB (byt s) = false
          unfold digsB
          rw [all_bad s k hlt isDig hd]; rfl
        have hdr := fun w => digit_r s[k] w
        rw [hd] at hdr
        clear hd
        go_wp2_with (go_at_call 52; refine (hdr _).mono ?_; rintro e w' ⟨rfl, rfl⟩)
        go_ret
        exact ⟨ret_b HN.out.symm, rfl⟩
    · have hall : (byt s).all isDig = true := by have := HA.out; rw [take_whole s k hlt] at this; exact this
      have HC : Hid (digsB (byt s) = decide (0 < s.size)) := by
        show digsB (byt s) = _
        unfold digsB; rw [hall, Bool.true_and, Bool.eq_iff_iff, bne_iff_ne, decide_eq_true_eq, ← byt_length, List.length_pos_iff]
      clear HA hall
      go_wp2
      go_ret
      exact ⟨ret_b (by rw [HC.out]), rfl⟩
end Go.Proofs.YtkiaacphkmajeaaGreatDoor

/-
  The document's own days of a month, and two digits.
-/
namespace Go.Proofs.YtkiaacphkmajeaaGreatDoor
open Go.RowKit

set_option maxRecDepth 100000 in
set_option maxHeartbeats 2000000 in
theorem days_r (w : World) (y m : Nat) (hy : y ≤ 10000) (h1 : 1 ≤ m) (h2 : m ≤ 12) :
    Calls Tryz.prog 35 #[.int .i64 y, .int .i64 m] w fun e w' => e = .returned (.int .i64 (dim y m)) ∧ w' = w := by
  have hm : m = 1 ∨ m = 2 ∨ m = 3 ∨ m = 4 ∨ m = 5 ∨ m = 6 ∨ m = 7 ∨ m = 8 ∨ m = 9 ∨ m = 10 ∨ m = 11 ∨ m = 12 := by omega
  clear h1 h2
  rcases hm with rfl | rfl | rfl | rfl | rfl | rfl | rfl | rfl | rfl | rfl | rfl | rfl
  · have HR : Hid (dim y (1 : Nat) = 31) := by show dim _ _ = _; unfold dim; simp
    go_enter Tryz.func35, Tryz.ntmps35
    go_wp2
    go_ret
    exact ⟨ret_i HR.out.symm, rfl⟩
  · have HR : dim y (2 : Nat) = if leapB y then 29 else 28 := by unfold dim; simp
    have HL : Hid (leapB y = (decide ((y : Int) % 4 = 0) && decide ((y : Int) % 100 ≠ 0) || decide ((y : Int) % 400 = 0))) := rfl
    by_cases a4 : (y : Int) % 4 = 0
    · by_cases a100 : (y : Int) % 100 = 0
      · by_cases a400 : (y : Int) % 400 = 0
        · have HR : Hid (dim y (2 : Nat) = 29) := by show dim _ _ = _; rw [HR, HL.out]; simp [a4, a100, a400]
          go_enter Tryz.func35, Tryz.ntmps35
          go_wp2
          go_ret
          exact ⟨ret_i HR.out.symm, rfl⟩
        · have HR : Hid (dim y (2 : Nat) = 28) := by show dim _ _ = _; rw [HR, HL.out]; simp [a4, a100, a400]
          go_enter Tryz.func35, Tryz.ntmps35
          go_wp2
          go_ret
          exact ⟨ret_i HR.out.symm, rfl⟩
      · have HR : Hid (dim y (2 : Nat) = 29) := by show dim _ _ = _; rw [HR, HL.out]; simp [a4, a100]
        go_enter Tryz.func35, Tryz.ntmps35
        go_wp2
        go_ret
        exact ⟨ret_i HR.out.symm, rfl⟩
    · have a400 : ¬ (y : Int) % 400 = 0 := by omega
      have HR : Hid (dim y (2 : Nat) = 28) := by show dim _ _ = _; rw [HR, HL.out]; simp [a4, a400]
      go_enter Tryz.func35, Tryz.ntmps35
      go_wp2
      go_ret
      exact ⟨ret_i HR.out.symm, rfl⟩
  · have HR : Hid (dim y (3 : Nat) = 31) := by show dim _ _ = _; unfold dim; simp
    go_enter Tryz.func35, Tryz.ntmps35
    go_wp2
    go_ret
    exact ⟨ret_i HR.out.symm, rfl⟩
  · have HR : Hid (dim y (4 : Nat) = 30) := by show dim _ _ = _; unfold dim; simp
    go_enter Tryz.func35, Tryz.ntmps35
    go_wp2
    go_ret
    exact ⟨ret_i HR.out.symm, rfl⟩
  · have HR : Hid (dim y (5 : Nat) = 31) := by show dim _ _ = _; unfold dim; simp
    go_enter Tryz.func35, Tryz.ntmps35
    go_wp2
    go_ret
    exact ⟨ret_i HR.out.symm, rfl⟩
  · have HR : Hid (dim y (6 : Nat) = 30) := by show dim _ _ = _; unfold dim; simp
    go_enter Tryz.func35, Tryz.ntmps35
    go_wp2
    go_ret
    exact ⟨ret_i HR.out.symm, rfl⟩
  · have HR : Hid (dim y (7 : Nat) = 31) := by show dim _ _ = _; unfold dim; simp
    go_enter Tryz.func35, Tryz.ntmps35
    go_wp2
    go_ret
    exact ⟨ret_i HR.out.symm, rfl⟩
  · have HR : Hid (dim y (8 : Nat) = 31) := by show dim _ _ = _; unfold dim; simp
    go_enter Tryz.func35, Tryz.ntmps35
    go_wp2
    go_ret
    exact ⟨ret_i HR.out.symm, rfl⟩
  · have HR : Hid (dim y (9 : Nat) = 30) := by show dim _ _ = _; unfold dim; simp
    go_enter Tryz.func35, Tryz.ntmps35
    go_wp2
    go_ret
    exact ⟨ret_i HR.out.symm, rfl⟩
  · have HR : Hid (dim y (10 : Nat) = 31) := by show dim _ _ = _; unfold dim; simp
    go_enter Tryz.func35, Tryz.ntmps35
    go_wp2
    go_ret
    exact ⟨ret_i HR.out.symm, rfl⟩
  · have HR : Hid (dim y (11 : Nat) = 30) := by show dim _ _ = _; unfold dim; simp
    go_enter Tryz.func35, Tryz.ntmps35
    go_wp2
    go_ret
    exact ⟨ret_i HR.out.symm, rfl⟩
  · have HR : Hid (dim y (12 : Nat) = 31) := by show dim _ _ = _; unfold dim; simp
    go_enter Tryz.func35, Tryz.ntmps35
    go_wp2
    go_ret
    exact ⟨ret_i HR.out.symm, rfl⟩
/-- two digits as a number; -1: they are none -/
def twoI (l : List UInt8) : Int := match digsL l with
  | some n => n
  | none => -1
theorem byt_two (s : ByteArray) (h : s.size = 2) : byt s = [s[0], s[1]] := by
  have h1 := drop_one s 0 (by omega)
  have h2 := drop_one s 1 (by omega)
  rw [List.drop_zero] at h1
  rw [h1]
  show s[0] :: (byt s).drop 1 = _
  rw [h2, show (byt s).drop (1 + 1) = [] from List.drop_eq_nil_of_le (by rw [byt_length]; omega)]
set_option maxRecDepth 100000 in
set_option maxHeartbeats 2000000 in
theorem two_r (w : World) (s : ByteArray) (hs : s.size = 2) :
    Calls Tryz.prog 34 #[.string s] w fun e w' => e = .returned (.int .i64 (twoI (byt s))) ∧ Fr w.heap.size w w' := by
  have hdg := fun w => digits_r w s (by omega)
  have mixed := mixed
  have hne : (byt s != []) = true := by rw [byt_two s hs]; rfl
  cases hd : (byt s).all isDig with
  | false =>
    have hdb : digsB (byt s) = false := by unfold digsB; rw [hd]; rfl
    have HR : Hid (twoI (byt s) = -1) := by show twoI _ = _; unfold twoI digsL; rw [hd]; rfl
    rw [hdb] at hdg
    clear hd hne hdb
    go_enter Tryz.func34, Tryz.ntmps34
    go_wp2_with (go_at_call 70; refine (hdg _).mono ?_; rintro e w' ⟨rfl, rfl⟩)
    go_ret
    exact ⟨ret_i HR.out.symm, Fr.refl _ _⟩
  | true =>
    have hdb : digsB (byt s) = true := by unfold digsB; rw [hd, hne]; rfl
    have h0 : (0 : Nat) < s.size := by omega
    have h1 : (1 : Nat) < s.size := by omega
    have e2 := byt_two s hs
    have hd2 := hd
    rw [e2] at hd2
    simp only [List.all_cons, List.all_nil, Bool.and_true, Bool.and_eq_true] at hd2
    obtain ⟨da, db⟩ := hd2
    have ga := (isDig_iff _).1 da
    have gb := (isDig_iff _).1 db
    obtain ⟨ga1, ga2⟩ := ga
    obtain ⟨gb1, gb2⟩ := gb
    have HR : Hid (twoI (byt s) = 10 * ((s[0].toNat : Int) - 48) + ((s[1].toNat : Int) - 48)) := by
      show twoI _ = _
      unfold twoI digsL
      rw [if_pos hd, e2]
      show ((digV [s[0], s[1]] : Nat) : Int) = _
      unfold digV
      simp only [List.foldl_cons, List.foldl_nil]
      omega
    rw [hdb] at hdg
    clear hd hne hdb da db e2
    go_enter Tryz.func34, Tryz.ntmps34
    go_wp2_with (go_at_call 70; refine (hdg _).mono ?_; rintro e w' ⟨rfl, rfl⟩)
    go_quiet (fail)
    go_wp2
    go_ret
    exact ⟨ret_i HR.out.symm, (Fr.refl _ _).drewN nq⟩
end Go.Proofs.YtkiaacphkmajeaaGreatDoor
