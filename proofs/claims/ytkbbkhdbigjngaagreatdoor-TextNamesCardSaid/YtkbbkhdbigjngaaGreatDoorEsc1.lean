/-
  The contract of escaped: the byte that the two digits behind a backslash say.
-/
import Derived.Test.YtkbbkhdbigjngaaGreatDoorUnhex
import Derived.Test.YtkbbkhdbigjngaaGreatDoorMathE
namespace Go.Proofs.YtkbbkhdbigjngaaGreatDoor
open Go.RowKit

theorem adig_lt (c x : Nat) (h : adig c = some x) : x < 16 := by
  unfold adig at h; split at h
  · cases h; omega
  · exact sdig_lt c x h
theorem adigV_lt (c : Nat) : adigV c < 16 := by
  unfold adigV; cases h : adig c with
  | none => exact (by decide)
  | some x => exact adig_lt c x h

def escdB (l : List UInt8) : Bool := match l with | x :: y :: _ => adigB x.toNat && adigB y.toNat | _ => false
def escdV (l : List UInt8) : UInt8 := match l with | x :: y :: _ => byte2 (adigV x.toNat) (adigV y.toNat) | _ => 0

set_option maxRecDepth 100000 in
set_option maxHeartbeats 1000000 in
theorem escaped_any (w : World) (s : ByteArray) :
    Calls Tryz.prog 102 #[.string s] w fun e w' => e = .returned (.tuple #[.int .u8 (escdV (byt s)).toNat, .bool (escdB (byt s))]) ∧ w' = w := by
  by_cases hn : s.size < 2
  · have hn' : (s.size : Int) < 2 := by omega
    have HV : Hid (escdV (byt s) = 0 ∧ escdB (byt s) = false) := by
      have hl := byt_length s
      show escdV (byt s) = 0 ∧ escdB (byt s) = false
      cases hb : byt s with
      | nil => exact ⟨rfl, rfl⟩
      | cons a t => cases t with
        | nil => exact ⟨rfl, rfl⟩
        | cons b r => rw [hb] at hl; simp at hl; omega
    go_enter Tryz.func102, Tryz.ntmps102
    go_wp2
    go_ret2
    exact ⟨ret_ib (by rw [HV.out.1]; rfl) HV.out.2.symm, rfl⟩
  · have h0 : 0 < s.size := by omega
    have h1 : 1 < s.size := by omega
    have hn' : (2 : Int) ≤ (s.size : Int) := by omega
    have hb : byt s = s[0] :: s[1] :: (byt s).drop 2 := by have := drop_two s 0 h1; simpa using this
    have HV : Hid (escdV (byt s) = byte2 (adigV s[0].toNat) (adigV s[1].toNat) ∧ escdB (byt s) = (adigB s[0].toNat && adigB s[1].toNat)) := by
      show escdV (byt s) = _ ∧ escdB (byt s) = _
      rw [hb]; exact ⟨rfl, rfl⟩
    have hor := shl4_or (adigV s[0].toNat) (adigV s[1].toNat) (adigV_lt _) (adigV_lt _)
    have HB : Hid _ := byte2_toNat _ _ (adigV_lt s[0].toNat) (adigV_lt s[1].toNat)
    have b1 : (adigV s[0].toNat : Int) < 16 := by have := adigV_lt s[0].toNat; omega
    have b2 : (adigV s[1].toNat : Int) < 16 := by have := adigV_lt s[1].toNat; omega
    clear hb
    cases ha : adigB s[0].toNat
    all_goals
      rw [ha] at HV
      go_enter Tryz.func102, Tryz.ntmps102
      go_wp2_with (go_at_call 106; refine (anyDigit_any _ (UInt8.toNat_lt _) _).mono ?_; rintro e w' ⟨rfl, rfl⟩)
      go_ret2
      refine ⟨ret_ib ?_ ?_, rfl⟩
      · rw [HV.out.1, HB.out]; omega
      · rw [HV.out.2]; simp
end Go.Proofs.YtkbbkhdbigjngaaGreatDoor
