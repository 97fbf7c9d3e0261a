/-
  A reader: the byte that comes next.
-/
import Derived.Test.YtkbbkhdbigjngaaGreatDoorTl
namespace Go.Proofs.YtkbbkhdbigjngaaGreatDoor
open Go.RowKit

set_option maxRecDepth 100000 in
set_option maxHeartbeats 2000000 in
theorem isNext_any (w : World) (R : Nat) (s : ByteArray) (p k : Nat) (b : UInt8) (hr : RdT w R s p k) :
    Calls Tryz.prog 31 #[.pointer (some ⟨R, 0, none⟩), .int .u8 b.toNat] w fun e w' => e = .returned (.bool (hdIs b ((byt s).drop p))) ∧ ∃ m, w' = w.drewN m := by
  obtain ⟨c0, c1, c2, fz⟩ := hr.cells
  clear hr
  by_cases hlt : p < s.size
  · have hlti : (p : Int) < (s.size : Int) := by omega
    have hv : Hid (hdIs b ((byt s).drop p) = ((s[p].toNat : Int) == (b.toNat : Int))) := by show _ = _; rw [hdIs_in s p hlt, beq_int]
    go_enter Tryz.func31, Tryz.ntmps31
    go_wp2_with fail
    go_quiet (fail)
    go_wp2
    go_ret
    exact ⟨ret_b hv.out.symm, _, rfl⟩
  · have hlti : decide (p < s.size) = false := by simp; omega
    have hv : Hid (hdIs b ((byt s).drop p) = false) := hdIs_out s p hlt b
    go_enter Tryz.func31, Tryz.ntmps31
    go_wp2_with fail
    go_quiet (fail)
    go_wp2
    go_ret
    exact ⟨ret_b hv.out.symm, _, rfl⟩

set_option maxHeartbeats 1000000 in
theorem take_any (w : World) (R : Nat) (s : ByteArray) (p k : Nat) (b : UInt8) (hr : RdT w R s p k) (hs : s.size ≤ 140737488355328) :
    Calls Tryz.prog 14 #[.pointer (some ⟨R, 0, none⟩), .int .u8 b.toNat] w fun e w' => e = .returned (.bool (hdIs b ((byt s).drop p))) ∧ RdT w' R s (if hdIs b ((byt s).drop p) then p + 1 else p) k ∧ Only (fun g => g = R) w w' := by
  have hn := isNext_any w R s p k b hr
  have hp : hdIs b ((byt s).drop p) = true → p < s.size := fun h => by
    have := hdIs_pos h
    rw [List.length_drop, byt_length] at this
    omega
  generalize hdIs b ((byt s).drop p) = q at *
  cases q
  · have hrh : Hid (RdT w R s p k) := hr
    clear hr hp
    go_enter Tryz.func14, Tryz.ntmps14
    go_wp2_with (go_at_call 31; refine hn.mono ?_; rintro _ _ ⟨rfl, m, rfl⟩)
    go_ret
    exact ⟨rfl, hrh.out.drewN _, (Only.refl _ w).drewN _⟩
  · have hlt := hp rfl
    have hrh : Hid (RdT w R s p k) := hr
    obtain ⟨c0, c1, c2, fz⟩ := hr.cells
    clear hr hp c0 c2
    obtain ⟨q, hq⟩ : ∃ q, Hid (q = p + 1) := ⟨_, rfl⟩
    have hqi : (p : Int) + 1 = (q : Int) := by have := hq.out; omega
    go_enter Tryz.func14, Tryz.ntmps14
    go_wp2_with (go_at_call 31; refine hn.mono ?_; rintro _ _ ⟨rfl, m, rfl⟩)
    go_ret
    refine ⟨rfl, ?_, ((Only.refl _ w).drewN m).then (setOnly _ R 1 _)⟩
    rw [← hq.out]
    exact (hrh.out.drewN m).set1 q
end Go.Proofs.YtkbbkhdbigjngaaGreatDoor
