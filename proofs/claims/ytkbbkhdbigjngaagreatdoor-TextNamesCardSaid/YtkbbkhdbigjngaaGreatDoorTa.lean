/-
  A reader: all bytes of a kind that come next.
-/
import Derived.Test.YtkbbkhdbigjngaaGreatDoorTn
import Derived.Deep.LoopGhost
namespace Go.Proofs.YtkbbkhdbigjngaaGreatDoor
open Go.RowKit

set_option maxRecDepth 100000 in
set_option maxHeartbeats 4000000 in
theorem takeAll_inn (w : World) (R : Nat) (s : ByteArray) (p k : Nat) (hr : RdT w R s p k) (hs : s.size ≤ 140737488355328) (hp : p ≤ s.size) :
    Calls Tryz.prog 15 #[.pointer (some ⟨R, 0, none⟩), .func (.func 16) #[] #[]] w fun e w' => e = .returned (.bool (decide (0 < spanN tInn ((byt s).drop p)))) ∧ RdT w' R s (p + spanN tInn ((byt s).drop p)) k ∧ Only (fun g => g = R) w w' := by
  have hf := fun b w => tInn_any b w
  obtain ⟨c0, c1, c2, fz⟩ := hr.cells
  have hrh : Hid (RdT w R s p k) := hr
  clear c0 c2 hr
  go_enter Tryz.func15, Tryz.ntmps15
  go_wp2
  clear c1 fz
  go_loopg [] s.size (fun n wr => ∃ i : Nat, p ≤ i ∧ i ≤ s.size ∧ s.size - i ≤ n ∧ RdT wr R s i k ∧ Only (fun g => g = R) w wr ∧ Hid (p + spanN tInn ((byt s).drop p) = i + spanN tInn ((byt s).drop i)))
  case atStart => exact ⟨p, Nat.le_refl _, hp, by omega, hrh.out, Only.refl _ _, rfl⟩
  case round =>
    obtain ⟨i, hpi, his, hn, hr, ho, hsp⟩ := hrel
    obtain ⟨c0, c1, c2, fz⟩ := hr.cells
    have hrh : Hid (RdT wr R s i k) := hr
    have hoh : Hid (Only (fun g => g = R) w wr) := ho
    have hend : spanN tInn ((byt s).drop i) = 0 → ∀ n, decide (p < i) = decide (0 < spanN tInn ((byt s).drop p)) ∧ RdT (wr.drewN n) R s (p + spanN tInn ((byt s).drop p)) k := by
      intro h0 n
      have := hsp.out
      rw [h0] at this
      refine ⟨by rw [Bool.eq_iff_iff]; simp; omega, ?_⟩
      rw [this]
      exact hr.drewN n
    clear hr ho c2
    by_cases hlt : i < s.size
    · have hlti : (i : Int) < (s.size : Int) := by omega
      have hfi := fun w => hf s[i] w
      have hsi : Hid (spanN tInn ((byt s).drop i) = if tInn s[i] then spanN tInn ((byt s).drop (i + 1)) + 1 else 0) := spanN_in tInn s i hlt
      cases hq : tInn s[i]
      · have he : Hid (∀ n, decide (p < i) = decide (0 < spanN tInn ((byt s).drop p)) ∧ RdT (wr.drewN n) R s (p + spanN tInn ((byt s).drop p)) k) := hend (by rw [hsi.out, hq]; rfl)
        rw [hq] at hfi
        clear hq hsi hend hf hsp
        go_wp2_with fail
        go_quiet (first | (go_at_call 16; exact Calls.quiet_of_same (hfi _)))
        go_wp2
        go_ret
        exact ⟨ret_b (he.out 0).1, (he.out _).2, hoh.out.drewN _⟩
      · obtain ⟨m, rfl⟩ : ∃ m, gk = m + 1 := ⟨gk - 1, by omega⟩
        have hs2 : Hid (p + spanN tInn ((byt s).drop p) = (i + 1) + spanN tInn ((byt s).drop (i + 1))) := by
          show _ = _
          rw [hsp.out, hsi.out, hq, if_pos rfl]; omega
        obtain ⟨j, hj⟩ : ∃ j, Hid (j = i + 1) := ⟨_, rfl⟩
        have hji : (i : Int) + 1 = (j : Int) := by have := hj.out; omega
        rw [hq] at hfi
        clear hq hsi hend hf hsp
        go_wp2_with fail
        go_quiet (first | (go_at_call 16; exact Calls.quiet_of_same (hfi _)))
        go_wp2
        go_roundg m
        case measure => omega
        case rel =>
          have hj2 := hj.out
          refine ⟨j, by omega, by omega, by omega, (hrh.out.drewN _).set1 j, (hoh.out.drewN _).then (setOnly _ R 1 _), ?_⟩
          rw [hj2]
          exact hs2
    · have hlti : decide (i < s.size) = false := by simp; omega
      have he : Hid (∀ n, decide (p < i) = decide (0 < spanN tInn ((byt s).drop p)) ∧ RdT (wr.drewN n) R s (p + spanN tInn ((byt s).drop p)) k) := hend (spanN_out _ s i hlt)
      clear hend hf hsp
      go_wp2_with fail
      go_quiet (fail)
      go_wp2
      go_ret
      exact ⟨ret_b (he.out 0).1, (he.out _).2, hoh.out.drewN _⟩

set_option maxRecDepth 100000 in
set_option maxHeartbeats 4000000 in
theorem takeAll_dig (w : World) (R : Nat) (s : ByteArray) (p k : Nat) (hr : RdT w R s p k) (hs : s.size ≤ 140737488355328) (hp : p ≤ s.size) :
    Calls Tryz.prog 15 #[.pointer (some ⟨R, 0, none⟩), .func (.func 32) #[] #[]] w fun e w' => e = .returned (.bool (decide (0 < spanN tDig ((byt s).drop p)))) ∧ RdT w' R s (p + spanN tDig ((byt s).drop p)) k ∧ Only (fun g => g = R) w w' := by
  have hf := fun b w => tDig_any b w
  obtain ⟨c0, c1, c2, fz⟩ := hr.cells
  have hrh : Hid (RdT w R s p k) := hr
  clear c0 c2 hr
  go_enter Tryz.func15, Tryz.ntmps15
  go_wp2
  clear c1 fz
  go_loopg [] s.size (fun n wr => ∃ i : Nat, p ≤ i ∧ i ≤ s.size ∧ s.size - i ≤ n ∧ RdT wr R s i k ∧ Only (fun g => g = R) w wr ∧ Hid (p + spanN tDig ((byt s).drop p) = i + spanN tDig ((byt s).drop i)))
  case atStart => exact ⟨p, Nat.le_refl _, hp, by omega, hrh.out, Only.refl _ _, rfl⟩
  case round =>
    obtain ⟨i, hpi, his, hn, hr, ho, hsp⟩ := hrel
    obtain ⟨c0, c1, c2, fz⟩ := hr.cells
    have hrh : Hid (RdT wr R s i k) := hr
    have hoh : Hid (Only (fun g => g = R) w wr) := ho
    have hend : spanN tDig ((byt s).drop i) = 0 → ∀ n, decide (p < i) = decide (0 < spanN tDig ((byt s).drop p)) ∧ RdT (wr.drewN n) R s (p + spanN tDig ((byt s).drop p)) k := by
      intro h0 n
      have := hsp.out
      rw [h0] at this
      refine ⟨by rw [Bool.eq_iff_iff]; simp; omega, ?_⟩
      rw [this]
      exact hr.drewN n
    clear hr ho c2
    by_cases hlt : i < s.size
    · have hlti : (i : Int) < (s.size : Int) := by omega
      have hfi := fun w => hf s[i] w
      have hsi : Hid (spanN tDig ((byt s).drop i) = if tDig s[i] then spanN tDig ((byt s).drop (i + 1)) + 1 else 0) := spanN_in tDig s i hlt
      cases hq : tDig s[i]
      · have he : Hid (∀ n, decide (p < i) = decide (0 < spanN tDig ((byt s).drop p)) ∧ RdT (wr.drewN n) R s (p + spanN tDig ((byt s).drop p)) k) := hend (by rw [hsi.out, hq]; rfl)
        rw [hq] at hfi
        clear hq hsi hend hf hsp
        go_wp2_with fail
        go_quiet (first | (go_at_call 32; exact Calls.quiet_of_same (hfi _)))
        go_wp2
        go_ret
        exact ⟨ret_b (he.out 0).1, (he.out _).2, hoh.out.drewN _⟩
      · obtain ⟨m, rfl⟩ : ∃ m, gk = m + 1 := ⟨gk - 1, by omega⟩
        have hs2 : Hid (p + spanN tDig ((byt s).drop p) = (i + 1) + spanN tDig ((byt s).drop (i + 1))) := by
          show _ = _
          rw [hsp.out, hsi.out, hq, if_pos rfl]; omega
        obtain ⟨j, hj⟩ : ∃ j, Hid (j = i + 1) := ⟨_, rfl⟩
        have hji : (i : Int) + 1 = (j : Int) := by have := hj.out; omega
        rw [hq] at hfi
        clear hq hsi hend hf hsp
        go_wp2_with fail
        go_quiet (first | (go_at_call 32; exact Calls.quiet_of_same (hfi _)))
        go_wp2
        go_roundg m
        case measure => omega
        case rel =>
          have hj2 := hj.out
          refine ⟨j, by omega, by omega, by omega, (hrh.out.drewN _).set1 j, (hoh.out.drewN _).then (setOnly _ R 1 _), ?_⟩
          rw [hj2]
          exact hs2
    · have hlti : decide (i < s.size) = false := by simp; omega
      have he : Hid (∀ n, decide (p < i) = decide (0 < spanN tDig ((byt s).drop p)) ∧ RdT (wr.drewN n) R s (p + spanN tDig ((byt s).drop p)) k) := hend (spanN_out _ s i hlt)
      clear hend hf hsp
      go_wp2_with fail
      go_quiet (fail)
      go_wp2
      go_ret
      exact ⟨ret_b (he.out 0).1, (he.out _).2, hoh.out.drewN _⟩
end Go.Proofs.YtkbbkhdbigjngaaGreatDoor
