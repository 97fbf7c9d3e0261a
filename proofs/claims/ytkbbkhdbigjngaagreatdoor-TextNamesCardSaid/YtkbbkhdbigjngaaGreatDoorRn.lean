/-
  The document's reader: a number.
-/
import Derived.Test.YtkbbkhdbigjngaaGreatDoorRt
namespace Go.Proofs.YtkbbkhdbigjngaaGreatDoor
open Go.RowKit

/-- what is left of a number that began at p, at i -/
def numL (s : ByteArray) (p i : Nat) : Nat := if i = p then numN ((byt s).drop p) else if hdIs 48 ((byt s).drop p) then 0 else spanN tDig ((byt s).drop i)
structure NumI (s : ByteArray) (p i : Nat) : Prop where
  sum : p + numN ((byt s).drop p) = i + numL s p i
  one : hdIs 48 ((byt s).drop p) = true → i ≤ p + 1
theorem dig48 (b : UInt8) (h : (b == 48) = true) : tDig b = true := by
  have : b = 48 := by simpa using h
  subst this; rfl
theorem NumI.start (s : ByteArray) (p : Nat) : NumI s p p := ⟨by unfold numL; rw [if_pos rfl], fun _ => by omega⟩
theorem NumI.end_ {s : ByteArray} {p i : Nat} (h : NumI s p i) (hi : ¬ i < s.size) : p + numN ((byt s).drop p) = i := by
  rw [h.sum]
  unfold numL
  split
  · rename_i e; subst e
    unfold numN
    rw [hdIs_out s i hi, spanN_out _ s i hi]; rfl
  · split
    · rfl
    · rw [spanN_out _ s i hi]; rfl
theorem NumI.stop {s : ByteArray} {p i : Nat} (h : NumI s p i) (hi : i < s.size) (hd : tDig s[i] = false) : p + numN ((byt s).drop p) = i := by
  rw [h.sum]
  unfold numL
  split
  · rename_i e; subst e
    unfold numN
    rw [hdIs_in s i hi, spanN_in _ s i hi, hd]
    cases h4 : (s[i] == 48)
    · rfl
    · rw [dig48 _ h4] at hd; cases hd
  · split
    · rfl
    · rw [spanN_in _ s i hi, hd]; rfl
theorem NumI.nought {s : ByteArray} {p i : Nat} (h : NumI s p i) (hi : i = p + 1) (h0 : hdIs 48 ((byt s).drop p) = true) : p + numN ((byt s).drop p) = i := by
  rw [h.sum]
  unfold numL
  rw [if_neg (by omega), if_pos h0]
  rfl
theorem NumI.go {s : ByteArray} {p i : Nat} (h : NumI s p i) (hpi : p ≤ i) (hi : i < s.size) (hd : tDig s[i] = true) (hn : ¬ (i = p + 1 ∧ hdIs 48 ((byt s).drop p) = true)) : NumI s p (i + 1) := by
  have hsum := h.sum
  refine ⟨?_, fun h4 => ?_⟩
  · rw [hsum]
    unfold numL
    rw [if_neg (show ¬ i + 1 = p by omega)]
    split
    · rename_i e; subst e
      unfold numN
      split
      · rfl
      · rw [spanN_in _ s i hi, hd, if_pos rfl]; omega
    · rename_i e
      split
      · rename_i h4
        have := h.one h4
        exact absurd ⟨by omega, h4⟩ hn
      · rw [spanN_in _ s i hi, hd, if_pos rfl]; omega
  · have := h.one h4
    rcases Nat.lt_or_ge i (p + 1) with q | q
    · omega
    · exact absurd ⟨by omega, h4⟩ hn

/-- the fault behind a number -/
def numF (s : ByteArray) (p : Nat) : FT := if 0 < numN ((byt s).drop p) then okF else stF s p
theorem numF_yes {s : ByteArray} {p : Nat} (h : 0 < numN ((byt s).drop p)) : numF s p = okF := if_pos h
theorem numF_no {s : ByteArray} {p : Nat} (h : numN ((byt s).drop p) = 0) : numF s p = stF s p := if_neg (by omega)
set_option maxRecDepth 100000 in
set_option maxHeartbeats 4000000 in
theorem rnumber_any (w : World) (R : Nat) (s : ByteArray) (p k : Nat) (hr : RfT w R s p k okF) (hs : s.size ≤ 140737488355328) (hp : p ≤ s.size) :
    Calls Tryz.prog 35 #[.pointer (some ⟨R, 0, none⟩)] w fun e w' => e = .returned (.bool (decide (0 < numN ((byt s).drop p)))) ∧ RfT w' R s (p + numN ((byt s).drop p)) k (numF s p) ∧ Only (fun g => g = R) w w' := by
  have hf := fun b w => rDig_any b w
  obtain ⟨c0, c1, c2, c3, c4, c5, fz⟩ := hr.cells
  have hrh : Hid (RfT w R s p k okF) := hr
  clear c0 c2 c3 c4 c5 hr
  go_enter Tryz.func35, Tryz.ntmps35
  go_wp2
  clear c1 fz
  go_loopg [] s.size (fun n wr => ∃ i : Nat, p ≤ i ∧ i ≤ s.size ∧ s.size - i ≤ n ∧ RfT wr R s i k okF ∧ Only (fun g => g = R) w wr ∧ Hid (NumI s p i))
  case atStart => exact ⟨p, Nat.le_refl _, hp, by omega, hrh.out, Only.refl _ _, NumI.start s p⟩
  case round =>
    obtain ⟨i, hpi, his, hn, hr, ho, hsp⟩ := hrel
    obtain ⟨c0, c1, c2, c3, c4, c5, fz⟩ := hr.cells
    have hrh : Hid (RfT wr R s i k okF) := hr
    have hoh : Hid (Only (fun g => g = R) w wr) := ho
    have hS := fun w1 (r1 : RfT w1 R s i k okF) => stuck_any w1 R s i k r1 hs his
    clear hr ho c2 c3 c4 c5
    by_cases hlt : i < s.size
    · have hlti : (i : Int) < (s.size : Int) := by omega
      have hfi := fun w => hf s[i] w
      cases hd : tDig s[i]
      · have he : Hid (p + numN ((byt s).drop p) = i) := hsp.out.stop hlt hd
        rw [hd] at hfi
        clear hd hf hsp
        by_cases hip : i = p
        · have hiph : Hid (i = p) := hip
          have heq : ((i : Int) == (p : Int)) = true := by simp; omega
          have hz : Hid (numN ((byt s).drop p) = 0) := by have := he.out; show _ = _; omega
          clear he hip
          go_wp2_with fail
          go_quiet (fail)
          have r1 := hrh.out.drewN nq
          have o1 := hoh.out.drewN nq
          clear c0 c1 fz hrh hoh
          generalize wr.drewN nq = w1 at *
          have hrh : Hid (RfT w1 R s i k okF) := r1
          have hoh : Hid (Only (fun g => g = R) w w1) := o1
          obtain ⟨c0, c1, c2, c3, c4, c5, fz⟩ := r1.cells
          clear r1 o1 c2 c3 c4 c5
          go_wp2_with fail
          go_quiet (first | (go_at_call 37; exact Calls.quiet_of_same (hfi _)))
          go_wp2_with fail
          go_at_call 22
          refine (hS _ (hrh.out.drewN _)).mono ?_
          rintro _ w2 ⟨rfl, r2, o2⟩
          go_wp2
          go_ret
          rw [numF_no hz.out, hz.out, ← hiph.out]
          exact ⟨rfl, r2, (hoh.out.drewN _).then o2⟩
        · have hne : ((i : Int) == (p : Int)) = false := by simp; omega
          have hz : Hid (0 < numN ((byt s).drop p)) := by have := he.out; show _ < _; omega
          clear hip
          go_wp2_with fail
          go_quiet (fail)
          have r1 := hrh.out.drewN nq
          have o1 := hoh.out.drewN nq
          clear c0 c1 fz hrh hoh
          generalize wr.drewN nq = w1 at *
          have hrh : Hid (RfT w1 R s i k okF) := r1
          have hoh : Hid (Only (fun g => g = R) w w1) := o1
          obtain ⟨c0, c1, c2, c3, c4, c5, fz⟩ := r1.cells
          clear r1 o1 c2 c3 c4 c5
          go_wp2_with fail
          go_quiet (first | (go_at_call 37; exact Calls.quiet_of_same (hfi _)))
          go_wp2
          go_ret
          rw [decide_eq_true hz.out, numF_yes hz.out, he.out]
          exact ⟨rfl, hrh.out.drewN _, hoh.out.drewN _⟩
      · rw [hd] at hfi
        by_cases hip : i = p + 1
        · have hp0 : p < s.size := by omega
          have hpi2 : (p : Int) < (s.size : Int) := by omega
          have hii : ((i : Int) == (p : Int) + 1) = true := by simp; omega
          cases h4 : (s[p] == 48)
          · have h4i : ((s[p].toNat : Int) == 48) = false := by rw [← h4, ← beq_int]; rfl
            have hg : Hid (NumI s p (i + 1)) := hsp.out.go hpi hlt hd (fun h => by rw [hdIs_in s p hp0, h4] at h; cases h.2)
            obtain ⟨m, rfl⟩ : ∃ m, gk = m + 1 := ⟨gk - 1, by omega⟩
            obtain ⟨j, hj⟩ : ∃ j, Hid (j = i + 1) := ⟨_, rfl⟩
            have hji : (i : Int) + 1 = (j : Int) := by have := hj.out; omega
            clear hd hf hsp hip h4
            go_wp2_with fail
            go_quiet (fail)
            have r1 := hrh.out.drewN nq
            have o1 := hoh.out.drewN nq
            clear c0 c1 fz hrh hoh
            generalize wr.drewN nq = w1 at *
            have hrh : Hid (RfT w1 R s i k okF) := r1
            have hoh : Hid (Only (fun g => g = R) w w1) := o1
            obtain ⟨c0, c1, c2, c3, c4, c5, fz⟩ := r1.cells
            clear r1 o1 c2 c3 c4 c5
            go_wp2_with fail
            go_quiet (first | (go_at_call 37; exact Calls.quiet_of_same (hfi _)))
            go_wp2
            go_roundg m
            case measure => omega
            case rel =>
              have hj2 := hj.out
              refine ⟨j, by omega, by omega, by omega, (hrh.out.drewN _).set1 j, (hoh.out.drewN _).then (setOnly _ R 1 _), ?_⟩
              rw [hj2]
              exact hg
          · have h4i : ((s[p].toNat : Int) == 48) = true := by rw [← h4, ← beq_int]; rfl
            have he : Hid (p + numN ((byt s).drop p) = i) := hsp.out.nought hip (by rw [hdIs_in s p hp0, h4])
            have hne : ((i : Int) == (p : Int)) = false := by simp; omega
            have hz : Hid (0 < numN ((byt s).drop p)) := by have := he.out; show _ < _; omega
            clear hd hf hsp hip h4
            go_wp2_with fail
            go_quiet (fail)
            have r1 := hrh.out.drewN nq
            have o1 := hoh.out.drewN nq
            clear c0 c1 fz hrh hoh
            generalize wr.drewN nq = w1 at *
            have hrh : Hid (RfT w1 R s i k okF) := r1
            have hoh : Hid (Only (fun g => g = R) w w1) := o1
            obtain ⟨c0, c1, c2, c3, c4, c5, fz⟩ := r1.cells
            clear r1 o1 c2 c3 c4 c5
            go_wp2_with fail
            go_quiet (first | (go_at_call 37; exact Calls.quiet_of_same (hfi _)))
            go_wp2
            go_ret
            rw [decide_eq_true hz.out, numF_yes hz.out, he.out]
            exact ⟨rfl, hrh.out.drewN _, hoh.out.drewN _⟩
        · have hii : ((i : Int) == (p : Int) + 1) = false := by simp; omega
          have hg : Hid (NumI s p (i + 1)) := hsp.out.go hpi hlt hd (fun h => hip h.1)
          obtain ⟨m, rfl⟩ : ∃ m, gk = m + 1 := ⟨gk - 1, by omega⟩
          obtain ⟨j, hj⟩ : ∃ j, Hid (j = i + 1) := ⟨_, rfl⟩
          have hji : (i : Int) + 1 = (j : Int) := by have := hj.out; omega
          clear hd hf hsp hip
          go_wp2_with fail
          go_quiet (fail)
          have r1 := hrh.out.drewN nq
          have o1 := hoh.out.drewN nq
          clear c0 c1 fz hrh hoh
          generalize wr.drewN nq = w1 at *
          have hrh : Hid (RfT w1 R s i k okF) := r1
          have hoh : Hid (Only (fun g => g = R) w w1) := o1
          obtain ⟨c0, c1, c2, c3, c4, c5, fz⟩ := r1.cells
          clear r1 o1 c2 c3 c4 c5
          go_wp2_with fail
          go_quiet (first | (go_at_call 37; exact Calls.quiet_of_same (hfi _)))
          go_wp2
          go_roundg m
          case measure => omega
          case rel =>
            have hj2 := hj.out
            refine ⟨j, by omega, by omega, by omega, (hrh.out.drewN _).set1 j, (hoh.out.drewN _).then (setOnly _ R 1 _), ?_⟩
            rw [hj2]
            exact hg
    · have hlti : decide (i < s.size) = false := by simp; omega
      have he : Hid (p + numN ((byt s).drop p) = i) := hsp.out.end_ hlt
      clear hf hsp
      by_cases hip : i = p
      · have hiph : Hid (i = p) := hip
        have heq : ((i : Int) == (p : Int)) = true := by simp; omega
        have hz : Hid (numN ((byt s).drop p) = 0) := by have := he.out; show _ = _; omega
        clear he hip
        go_wp2_with fail
        go_quiet (fail)
        go_wp2_with fail
        go_at_call 22
        refine (hS _ (hrh.out.drewN _)).mono ?_
        rintro _ w2 ⟨rfl, r2, o2⟩
        go_wp2
        go_ret
        rw [numF_no hz.out, hz.out, ← hiph.out]
        exact ⟨rfl, r2, (hoh.out.drewN _).then o2⟩
      · have hne : ((i : Int) == (p : Int)) = false := by simp; omega
        have hz : Hid (0 < numN ((byt s).drop p)) := by have := he.out; show _ < _; omega
        clear hip
        go_wp2_with fail
        go_quiet (fail)
        go_wp2
        go_ret
        rw [decide_eq_true hz.out, numF_yes hz.out, he.out]
        exact ⟨rfl, hrh.out.drewN _, hoh.out.drewN _⟩
end Go.Proofs.YtkbbkhdbigjngaaGreatDoor
