/-
  The contract of Unhex: the text whose Hex it is handed, or ErrHex.
-/
import Derived.Test.YtkbbkhdbigjngaaGreatDoorOwn
namespace Go.Proofs.YtkbbkhdbigjngaaGreatDoor
open Go.RowKit

theorem shl4_or (h l : Nat) (hh : h < 16) (hl : l < 16) : bits .or .u8 ((h : Int) * 16) (l : Int) = ((16 * h + l : Nat) : Int) := by
  have e := u8_or_nat (h * 16) l (by omega) (by omega)
  rw [nat_join 4 (h * 16) l (by omega) (by omega)] at e
  rw [show ((h : Int) * 16) = ((h * 16 : Nat) : Int) by omega, e]
  omega

end Go.Proofs.YtkbbkhdbigjngaaGreatDoor
