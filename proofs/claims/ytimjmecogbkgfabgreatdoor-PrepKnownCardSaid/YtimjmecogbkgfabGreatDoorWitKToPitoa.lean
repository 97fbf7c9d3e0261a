/-
  A world in which the listed tables read as their initialisers lay them: for the witness of each row.
-/
import Derived.Test.YtimjmecogbkgfabGreatDoorAliveToReads
import Derived.Test.YtimjmecogbkgfabGreatDoorPn
import Derived.Lib.ItoaNum
namespace Go.Proofs.YtimjmecogbkgfabGreatDoor
open Go.ChangeShapes Go.WideShapes Go.ChangeAt Go.RowKit

def tabCells : Array Value := ((List.range 9).flatMap fun k => [Value.int .u8 (rowF k), .int .u8 (rowL k), .int .u8 (rowA k), .int .u8 (rowZ k), .int .i64 (rowW k)]).toArray
/-- the cells of a table that is written out -/
def flatD : DataW Unit → List Value
  | .lit l => [l.value]
  | .agg ds => flatL ds
  | _ => []
where flatL : List (DataW Unit) → List Value
  | [] => []
  | d :: r => flatD d ++ flatL r
def layG (g : Nat) (cs : Array Value) (h : Array Obj) : Array Obj := h.modify g fun
  | .cells _ t frozen => .cells cs t frozen
  | o => o
noncomputable def baseWorld (os : Os) : World := World.holding Tryz.prog os ⟨#[.cells tabCells 104], #[], []⟩
noncomputable def heap1 (os : Os) : Array Obj := layG 0 #[.slice (some ⟨(World.settled Tryz.prog os).heap.size, 0, none⟩) 9 9] (baseWorld os).heap
noncomputable def heap2 (os : Os) : Array Obj := layG 5 (flatD Rows.laid_math_bits_deBruijn32tab).toArray (heap1 os)
noncomputable def heap3 (os : Os) : Array Obj := layG 6 (flatD Rows.laid_math_bits_deBruijn64tab).toArray (heap2 os)
noncomputable def heap4 (os : Os) : Array Obj := layG 4 (flatD Rows.laid_internal_strconv_uint64pow10).toArray (heap3 os)
noncomputable def heap5 (os : Os) : Array Obj := layG 3 (flatD Rows.laid_unicode_utf8_acceptRanges).toArray (heap4 os)
noncomputable def heap6 (os : Os) : Array Obj := layG 2 (flatD Rows.laid_unicode_utf8_first).toArray (heap5 os)
noncomputable def laidWorld (os : Os) : World := { baseWorld os with heap := heap6 os }
theorem laid_met (os : Os) (args : Array Value) : laidMet Tryz.prog Rows.prepKnownRow.laid ((laidWorld os).forCall (fun _ _ => 0) ⟨#[], args, []⟩).memory :=
  laidMet_of_run' 8 (by kernel_rfl) (by kernel_rfl)
end Go.Proofs.YtimjmecogbkgfabGreatDoor

/-
  A number's digits with noughts ahead are its last digits.
-/
namespace Go.Proofs.YtimjmecogbkgfabGreatDoor

theorem padL_nought (k : Nat) : padL k 0 = List.replicate k 48 := by
  induction k with
  | zero => rfl
  | succ k ih => rw [padL, ih, List.replicate_succ']; rfl
theorem pad_dec : ∀ (k n : Nat), n < 10 ^ (k + 1) → (Lib.decDigits n).length ≤ k + 1 ∧ List.replicate (k + 1 - (Lib.decDigits n).length) 48 ++ Lib.decDigits n = padL (k + 1) n := by
  intro k
  induction k with
  | zero =>
    intro n hn
    have h : n < 10 := by simpa using hn
    rw [Lib.decDigits_one h]
    refine ⟨Nat.le_refl _, ?_⟩
    show [] ++ [UInt8.ofNat (48 + n)] = [] ++ [UInt8.ofNat (48 + n % 10)]
    rw [Nat.mod_eq_of_lt h]
  | succ k ih =>
    intro n hn
    by_cases h : n < 10
    · rw [Lib.decDigits_one h]
      refine ⟨by simp, ?_⟩
      rw [padL, Nat.div_eq_of_lt h, padL_nought, Nat.mod_eq_of_lt h]
      rfl
    · rw [Lib.decDigits, dif_neg h]
      obtain ⟨h1, h2⟩ := ih (n / 10) (by rw [Nat.pow_succ] at hn; omega)
      refine ⟨by simp; omega, ?_⟩
      rw [padL, ← h2, List.append_assoc, List.length_append]
      congr 2
      simp
theorem dec_pos (n : Nat) : 0 < (Lib.decDigits n).length := by
  by_cases h : n < 10
  · rw [Lib.decDigits_one h]; simp
  · rw [Lib.decDigits, dif_neg h]; simp
end Go.Proofs.YtimjmecogbkgfabGreatDoor
